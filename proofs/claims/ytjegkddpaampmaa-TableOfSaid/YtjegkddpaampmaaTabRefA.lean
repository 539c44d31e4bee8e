/-
  The walks of the document's answers for layer 11: In, put.
-/
import Derived.Test.YtjegkddpaampmaaTabPlain
import Derived.Test.YtjegkddpaampmaaOrdRefD
namespace Go.Proofs.Ytjegkddpaampmaa.TabRef
open Go.RowKit Go.Proofs.Ytjegkddpaampmaa.JobPlain Go.Proofs.Ytjegkddpaampmaa.OrdPlain Go.Proofs.Ytjegkddpaampmaa.TabPlain Go.Proofs.Ytjegkddpaampmaa.Mem Go.Proofs.Ytjegkddpaampmaa.JobMem Go.Proofs.Ytjegkddpaampmaa.OrdMem Go.Proofs.Ytjegkddpaampmaa.OrdRef
/-- A slice whose memory, if there is any, is new from block B on. -/
def FreshJ (B : Nat) (v : Value) : Prop := ∀ a n c, v = .slice (some a) n c → B ≤ a.block
theorem FreshJ.own {e : TypeId} {k base n B : Nat} {w : World} {v : Value} {xs : List Value} (h : OwnR e k base w v n xs) (hb : B ≤ base) : FreshJ B v := fun a m c e => by
  obtain ⟨g, c', h1, h2, _⟩ := h.form
  rw [h1] at e
  injection e with e
  injection e with e
  subst e
  exact Nat.le_trans hb h2
def JobsNew (l : List Jb) (w : World) (e : Ending) (w' : World) : Prop := ∃ v, e = .returned v ∧ JobsIs l w' v ∧ FreshJ w.heap.size v ∧ Below w.heap.size w w'
structure RowJ (W wr : World) (v : Value) (m : List Jb) : Prop where
  own : OwnR 28 9 W.heap.size wr v m.length (jvals m)
  below : Below W.heap.size W wr
theorem RowJ.is {W wr : World} {v : Value} {m : List Jb} (h : RowJ W wr v m) : JobsIs m wr v := jobs_own h.own rfl
theorem RowJ.drewN {W w1 : World} {v : Value} {m : List Jb} (h : RowJ W w1 v m) (q : Nat) : RowJ W (w1.drewN q) v m := ⟨h.own.drewN q, below_drewN h.below q⟩
theorem RowJ.more {W w1 w2 : World} {v v2 : Value} {m : List Jb} {n : Nat} {x : Jb} (h : RowJ W w1 v m) (o : Obj) (ho : OwnR 28 9 W.heap.size w2 v2 n (jvals m ++ jobC x)) (hn : n = m.length + 1) (hb : Below W.heap.size (w1.alloc o) w2) : RowJ W w2 v2 (m ++ [x]) :=
  ⟨ho.cast (by simp [hn]) (OrdRef.jvals_one _ _).symm, (h.below.alloc h.below.size o).trans hb⟩
theorem jobs_nth {js : List Jb} {w w' : World} {A : Option Addr} (h : ∀ i (hi : i < js.length), ∃ a, A = some a ∧ JobAt w (a.add (i * 9)) js[i]) (hb : Below w.heap.size w w') {k : Nat} (hk : k < js.length) : ∃ a, A = some a ∧ JobAt w' (a.add (k * 9)) js[k] := by
  obtain ⟨a, ea, h1⟩ := h k hk
  exact ⟨a, ea, h1.below hb⟩
set_option maxRecDepth 100000 in
set_option maxHeartbeats 3200000 in
theorem in11 (l : List Jb) (s : Int) (v : Value) (w : World) (hv : JobsIs l w v) (hl : l.length ≤ 100000) : Calls Try.prog 22 #[v, .int .i64 s] w (JobsNew (inT l s) w) := by
  obtain ⟨A, c, rfl, hn, hA⟩ := hv.open_
  have HA := Lib.hid hA
  have HO0 := Lib.hid (OwnR.new w 28 9)
  clear hA hv
  unfold inT
  go_enter Try.func22, Try.ntmps22
  go_wp2_with fail
  go_loopw [5, 6] (fun o i wr => ∃ (k : Nat) (v : Value), v = o ∧ i = .int .i64 k ∧ k ≤ l.length ∧ Hid (RowJ w wr v (inL (l.take k) s))) (fun _ i _ => l.length - (intOf i).toNat)
  case atStart => exact ⟨0, _, rfl, rfl, Nat.zero_le _, HO0.out, (Below.refl _ _).alloc (Nat.le_refl _) _⟩
  case round =>
    obtain ⟨k, o, hov, rfl, hk, HR⟩ := hrel
    subst hov
    obtain ⟨g, cg, rfl, _⟩ := HR.out.own.form
    by_cases hlt : k < l.length
    · obtain ⟨ad, rfl, hat⟩ := jobs_nth HA.out HR.out.below hlt
      have HN := Lib.hid (in_take l s hlt)
      have hml := in_len (l.take k) s
      rw [List.length_take] at hml
      have i0 : (0 : Int) ≤ (k : Int) := Int.natCast_nonneg _
      have i1 : (k : Int) < (l.length : Int) := by omega
      generalize hM2 : inL (l.take (k + 1)) s = M2 at *
      have HM2 := Lib.hid hM2
      clear hM2
      generalize inL (l.take k) s = M at *
      generalize l[k] = e at *
      obtain ⟨p, p0, p1, p2, p3, p4, p5, p6, p7, p8⟩ := hat
      cases hb : (e.state == s) with
      | false =>
        have HX : Hid (M2 = M) := by have h := HN.out; rw [hb] at h; simpa [Hid] using h
        clear HN
        go_wp2_with fail
        exact ⟨⟨k + 1, _, rfl, by go_num, by omega, by rw [HM2.out, HX.out]; exact HR.out⟩, by simp [intOf] <;> omega⟩
      | true =>
        have HX : Hid (M2 = M ++ [e]) := by have h := HN.out; rw [hb] at h; exact h
        clear HN
        have HO := Lib.hid (HR.out.own.alloc (.cells #[.int .i64 e.id, .string e.user, .int .i64 e.width, .int .i64 e.est, .int .i64 e.prio, .int .i64 e.sub, .int .i64 e.state, .int .i64 e.start, .int .i64 e.fin] 28))
        go_wp2_with (at_builtin; refine push_raw jobs_t rfl (.tmp 21) (.tmp 26) rfl w.heap.size _ _ _ rfl HO.out ⟨wr.heap.size, 0, none⟩ 1 1 (jobC e) rfl rfl ?ha1 (jobC_cell e) ?ha2 ?_)
        case ha1 => exact Raw.alloc wr (jobA e) 28
        case ha2 => omega
        intro v7 w7 ho7 hb7
        have HW7 : Hid (RowJ w w7 v7 (M ++ [e])) := RowJ.more HR.out _ ho7 rfl hb7
        clear ho7 hb7
        go_wp2_with fail
        exact ⟨⟨k + 1, _, rfl, by go_num, by omega, by rw [HM2.out, HX.out]; exact HW7.out⟩, by simp [intOf] <;> omega⟩
    · have he : l.take k = l := List.take_of_length_le (by omega)
      rw [he] at HR
      rw [he]
      have hil := in_len l s
      have CS := Lib.hid (sort8 (inL l s) _ wr HR.out.is (by omega))
      have HB := Lib.hid HR.out.below
      clear he
      generalize inL l s = M at *
      go_wp2_with fail
      refine CS.out.mono ?_
      rintro e w2 ⟨v2, rfl, hnew, hb2⟩
      have HNW := Lib.hid hnew
      have HB2 := Lib.hid (HB.out.trans (hb2.mono HB.out.size))
      have hsz := HB.out.size
      clear hnew hb2
      go_wp2_with fail
      go_ret
      exact ⟨v2, rfl, jobs_own HNW.out rfl, FreshJ.own HNW.out hsz, HB2.out⟩
end Go.Proofs.Ytjegkddpaampmaa.TabRef
