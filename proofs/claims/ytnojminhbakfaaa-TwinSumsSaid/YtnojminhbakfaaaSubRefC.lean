/-
  The walks of the document's answers for layer 12: Places; layer 1's Same.
-/
import Derived.Test.YtnojminhbakfaaaSubRefB
import Derived.BigQuiet
import Derived.Deep.QuietTactic
namespace Go.Proofs.Ytnojminhbakfaaa.SubRef
open Go.RowKit Go.Proofs.Ytnojminhbakfaaa.SubPlain Go.Proofs.Ytnojminhbakfaaa.Mem
theorem ints_t : ElemT Try.prog 24 3 1 8 := ElemT.mk_ (.int .i64 0) Try.underlying24 (by kernel_rfl) rfl (by decide) (by decide)
/-- A slice whose memory, if there is any, is new from block B on. -/
def FreshV (B : Nat) (v : Value) : Prop := ∀ a n c, v = .slice (some a) n c → B ≤ a.block
def IntsNew (l : List Int) (w : World) (e : Ending) (w' : World) : Prop := ∃ v, e = .returned v ∧ IntsAt l w' v ∧ FreshV w.heap.size v ∧ Below w.heap.size w w'
structure RowI (W wr : World) (v : Value) (m : List Int) : Prop where
  own : OwnR 3 1 W.heap.size wr v m.length (ivals m)
  below : Below W.heap.size W wr
theorem RowI.is {W wr : World} {v : Value} {m : List Int} (h : RowI W wr v m) : IntsAt m wr v := IntsAt.own h.own.toN rfl
theorem RowI.fresh {W wr : World} {v : Value} {m : List Int} (h : RowI W wr v m) : FreshV W.heap.size v := fun a k c e => by
  obtain ⟨g, c', h1, h2, _⟩ := h.own.form
  rw [h1] at e
  injection e with e
  injection e with e
  subst e
  exact h2
theorem RowI.more {W w1 w2 : World} {v v2 : Value} {m : List Int} {n : Nat} {x : Int} (h : RowI W w1 v m) (o : Obj) (ho : OwnR 3 1 W.heap.size w2 v2 n (ivals m ++ [.int .i64 x])) (hn : n = m.length + 1) (hb : Below W.heap.size (w1.alloc o) w2) : RowI W w2 v2 (m ++ [x]) :=
  ⟨ho.cast (by simp [hn]) (by simp [ivals]), (h.below.alloc h.below.size o).trans hb⟩
set_option maxHeartbeats 1600000 in
theorem places12 (n b : Nat) (w : World) (hl : n ≤ 62) : Calls Try.prog 11 #[.int .i64 n, .int .i64 b] w (IntsNew (placesB n b) w) := by
  have HO0 := Lib.hid (OwnR.new w 3 1)
  go_enter Try.func11, Try.ntmps11
  go_wp2_with fail
  go_loopw [5, 6] (fun o i wr => ∃ (k : Nat) (v : Value), v = o ∧ i = .int .i64 k ∧ k ≤ n ∧ Hid (RowI w wr v (placesTo n b k))) (fun _ i _ => n - (intOf i).toNat)
  case atStart => exact ⟨0, _, rfl, rfl, Nat.zero_le _, HO0.out, (Below.refl _ _).alloc (Nat.le_refl _) _⟩
  case round =>
    obtain ⟨k, o, hov, rfl, hk, HR⟩ := hrel
    subst hov
    obtain ⟨g, cg, rfl, _⟩ := HR.out.own.form
    by_cases hlt : k < n
    · have HN := Lib.hid (placesTo_succ n b k)
      have hml := placesTo_len n b k
      have i0 : (0 : Int) ≤ (k : Int) := Int.natCast_nonneg _
      have i1 : (k : Int) < (n : Int) := by omega
      have hbit := bit_is b (n - 1 - k)
      generalize hM2 : placesTo n b (k + 1) = M2 at *
      have HM2 := Lib.hid hM2
      clear hM2
      generalize placesTo n b k = M at *
      cases hd : b.testBit (n - 1 - k)
      · rw [hd] at hbit
        have HX : Hid (M2 = M) := by have h := HN.out; rw [hd] at h; simpa [Hid] using h
        clear HN hd
        go_wp2_with fail
        exact ⟨⟨k + 1, _, rfl, by go_num, by omega, by rw [HM2.out, HX.out]; exact HR.out⟩, by simp [intOf] <;> omega⟩
      · rw [hd] at hbit
        have HX : Hid (M2 = M ++ [(k : Int)]) := by have h := HN.out; rw [hd] at h; exact h
        clear HN hd
        have HO := Lib.hid (HR.out.own.alloc (.cells #[.int .i64 k] 3))
        go_wp2_with (at_builtin; refine push_raw ints_t rfl (.tmp 22) (.tmp 24) rfl w.heap.size _ _ _ rfl HO.out ⟨wr.heap.size, 0, none⟩ 1 1 [.int .i64 k] rfl rfl ?ha1 one_cell ?ha2 ?_)
        case ha1 => exact Raw.alloc wr #[.int .i64 k] 3
        case ha2 => omega
        intro v7 w7 ho7 hb7
        have HW7 : Hid (RowI w w7 v7 (M ++ [(k : Int)])) := RowI.more HR.out _ ho7 rfl hb7
        clear ho7 hb7
        go_wp2_with fail
        exact ⟨⟨k + 1, _, rfl, by go_num, by omega, by rw [HM2.out, HX.out]; exact HW7.out⟩, by simp [intOf] <;> omega⟩
    · have he : k = n := by omega
      have HE : Hid (RowI w wr (.slice (some ⟨g, 0, none⟩) (placesTo n b k).length cg) (placesB n b)) := by subst he; exact HR.out
      clear he
      go_wp2_with fail
      go_ret
      exact ⟨_, rfl, HE.out.is, HE.out.fresh, HE.out.below⟩
def SameQ (x : Bool) (w : World) (e : Ending) (w' : World) : Prop := e = .returned (.bool x) ∧ ∃ n, w' = w.drewN n
set_option maxHeartbeats 1600000 in
theorem same1 (l : List Int) (u v : Value) (w : World) (hu : IntsAt l w u) (hv : IntsAt l w v) (hl : l.length ≤ 100000) : Calls Try.prog 10 #[u, v] w (SameQ true w) := by
  obtain ⟨A, c, rfl, hc, hA⟩ := hu
  obtain ⟨B, d, rfl, hd, hB⟩ := hv
  have HA := Lib.hid hA
  have HB := Lib.hid hB
  clear hA hB
  have hne : ((l.length : Int) != (l.length : Int)) = false := by simp
  go_enter Try.func10, Try.ntmps10
  go_wp2_with fail
  go_loopw [5] (fun i wr => ∃ k q : Nat, i = .int .i64 k ∧ k ≤ l.length ∧ Hid (wr = w.drewN q)) (fun i _ => l.length - (intOf i).toNat)
  case atStart => exact ⟨0, 0, rfl, Nat.zero_le _, rfl⟩
  case round =>
    obtain ⟨k, q, rfl, hk, HQ⟩ := hrel
    by_cases hlt : k < l.length
    · obtain ⟨a, rfl, ha, h1⟩ := HA.out.at hlt
      obtain ⟨b, rfl, hb, h2⟩ := HB.out.at hlt
      have p1 : wr.cell? (a.add k) = some (.int .i64 l[k]) := by rw [HQ.out, ← getD_at hlt]; exact h1
      have p2 : wr.cell? (b.add k) = some (.int .i64 l[k]) := by rw [HQ.out, ← getD_at hlt]; exact h2
      clear h1 h2
      generalize l[k] = x at *
      have hx : (x != x) = false := by simp
      have i0 : (0 : Int) ≤ (k : Int) := Int.natCast_nonneg _
      have i1 : (k : Int) < (l.length : Int) := by omega
      go_wp2_with fail
      go_quiet (fail)
      have HQ2 : Hid (wr.drewN nq = w.drewN (q + nq)) := Lib.hid (by rw [HQ.out, World.drewN_drewN])
      clear p1 p2
      generalize wr.drewN nq = w2 at *
      go_wp2_with fail
      exact ⟨⟨k + 1, q + nq, by go_num, by omega, HQ2.out⟩, by simp [intOf] <;> omega⟩
    · go_wp2_with fail
      go_ret
      exact ⟨rfl, q, HQ.out⟩
end Go.Proofs.Ytnojminhbakfaaa.SubRef
