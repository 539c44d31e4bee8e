/-
  The walks of the document's answers for layer 12: May, Total. The walks of the document's answers for layer 12: Best, Places; layer 1's Same. The walks of the document's answers for layer 12: Places; layer 1's Same. What layer 12's functions answer: the posts that the law texts name.
-/
import Derived.Test.YtkaepadkdohmpaaRows
import Derived.Test.YtkaepadkdohmpaaInts
import Derived.Test.YtkaepadkdohmpaaSubPlain
import Derived.WalkKit
import Derived.WalkSpells
import Derived.WalkLawsBesides
import Derived.LoopTactic
import Derived.Deep.CutBlock
import Derived.Deep.DeepCutAuto
import Derived.BigQuiet
import Derived.Deep.QuietTactic
namespace Go.Proofs.Ytkaepadkdohmpaa.SubRef
open Go.RowKit Go.Proofs.Ytkaepadkdohmpaa.SubPlain Go.Proofs.Ytkaepadkdohmpaa.Mem
def BoolQ (b : Bool) (w : World) (e : Ending) (w' : World) : Prop := e = .returned (.bool b) ∧ w = w'
def IntQ (n : Int) (w : World) (e : Ending) (w' : World) : Prop := e = .returned (.int .i64 n) ∧ w = w'
theorem wide_ways (x : Int) : (decide (x < 1) = true ∧ wideB x = false) ∨ (decide (x < 1) = false ∧ decide (256 < x) = true ∧ wideB x = false) ∨ (decide (x < 1) = false ∧ decide (256 < x) = false ∧ wideB x = true) := by
  unfold wideB
  by_cases h1 : x < 1
  · exact .inl ⟨decide_eq_true h1, by rw [decide_eq_false (by omega)]; rfl⟩
  · by_cases h2 : 256 < x
    · exact .inr (.inl ⟨decide_eq_false h1, decide_eq_true h2, by rw [decide_eq_false (p := x ≤ 256) (by omega), Bool.and_false]⟩)
    · exact .inr (.inr ⟨decide_eq_false h1, decide_eq_false h2, by rw [decide_eq_true (by omega), decide_eq_true (by omega)]; rfl⟩)
theorem getD_at {l : List Int} {k : Nat} (h : k < l.length) : l.getD k 0 = l[k] := by simp [List.getD, h]
theorem wAt_at {ws : List Int} {m : Nat} (h : m < ws.length) : wAt ws (m : Int) = ws[m] := by unfold wAt; rw [Int.toNat_natCast, getD_at h]
/-- The first k are widths. -/
def WideTo (ws : List Int) (k : Nat) : Prop := (ws.take k).all wideB = true
theorem WideTo.zero (ws : List Int) : WideTo ws 0 := by unfold WideTo; simp
theorem WideTo.succ {ws : List Int} {k : Nat} (h : WideTo ws k) (hk : k < ws.length) (hx : wideB (ws.getD k 0) = true) : WideTo ws (k + 1) := by
  unfold WideTo at *
  rw [List.take_succ_eq_append_getElem hk, List.all_append, h, ← getD_at hk]
  simpa using hx
theorem WideTo.all {ws : List Int} {k : Nat} (h : WideTo ws k) (hk : ws.length ≤ k) : ws.all wideB = true := by
  unfold WideTo at h
  rwa [List.take_of_length_le hk] at h
theorem may_no {ws : List Int} {k : Nat} (hk : k < ws.length) (hx : wideB (ws.getD k 0) = false) : mayW ws = false := by
  unfold mayW
  have : ws.all wideB = false := by
    rw [List.all_eq_false]
    exact ⟨ws[k], List.getElem_mem _, by rw [← getD_at hk, hx]; decide⟩
  rw [this]; rfl
theorem may_end {ws : List Int} (h : ws.all wideB = true) : mayW ws = decide (ws.length ≤ 64) := by unfold mayW; rw [h]; rfl
theorem bit_is (b m : Nat) : (((b : Int) / 2 ^ m).tmod 2 == 1) = b.testBit m := by
  have h1 : (b : Int) / 2 ^ m = ((b / 2 ^ m : Nat) : Int) := by simp
  have h2 : ((b / 2 ^ m : Nat) : Int).tmod 2 = ((b / 2 ^ m % 2 : Nat) : Int) := by
    rw [Int.tmod_eq_emod_of_nonneg (Int.natCast_nonneg _)]; simp
  rw [h1, h2, Nat.testBit_eq_decide_div_mod_eq, Bool.eq_iff_iff, beq_iff_eq, decide_eq_true_eq]
  omega
end Go.Proofs.Ytkaepadkdohmpaa.SubRef
namespace Go.Proofs.Ytkaepadkdohmpaa.SubRef
open Go.RowKit Go.Proofs.Ytkaepadkdohmpaa.SubPlain Go.Proofs.Ytkaepadkdohmpaa.Mem
theorem bestTo_le (ws : List Int) (room : Int) : ∀ B, bestTo ws room B ≤ B
  | 0 => Nat.le_refl _
  | B + 1 => by
    have h := bestTo_le ws room B
    show (if takesB ws room B (bestTo ws room B) = true then B else bestTo ws room B) ≤ B + 1
    split <;> omega
theorem takes_ways (ws : List Int) (room : Int) (b best : Nat) : (decide (tot ws b ≤ room) = false ∧ takesB ws room b best = false) ∨ (decide (tot ws b ≤ room) = true ∧ decide (tot ws best ≤ tot ws b) = false ∧ takesB ws room b best = false) ∨
    (decide (tot ws b ≤ room) = true ∧ decide (tot ws best ≤ tot ws b) = true ∧ takesB ws room b best = true) := by
  unfold takesB
  cases decide (tot ws b ≤ room) <;> cases decide (tot ws best ≤ tot ws b) <;> simp
theorem bestTo_step (ws : List Int) (room : Int) (B : Nat) : bestTo ws room (B + 1) = if takesB ws room B (bestTo ws room B) = true then B else bestTo ws room B := rfl
end Go.Proofs.Ytkaepadkdohmpaa.SubRef
namespace Go.Proofs.Ytkaepadkdohmpaa.SubRef
open Go.RowKit Go.Proofs.Ytkaepadkdohmpaa.SubPlain Go.Proofs.Ytkaepadkdohmpaa.Mem
theorem ints_t : ElemT Try.prog 29 3 1 8 := ElemT.mk_ (.int .i64 0) Try.underlying29 (by kernel_rfl) rfl (by decide) (by decide)
/-- A slice whose memory, if there is any, is new from block B on. -/
def FreshV (B : Nat) (v : Value) : Prop := ∀ a n c, v = .slice (some a) n c → B ≤ a.block
def IntsNew (l : List Int) (w : World) (e : Ending) (w' : World) : Prop := ∃ v, e = .returned v ∧ IntsAt l w' v ∧ FreshV w.heap.size v ∧ Below w.heap.size w w'
structure RowI (W wr : World) (v : Value) (m : List Int) : Prop where
  own : OwnR 3 1 W.heap.size wr v m.length (ivals m)
  below : Below W.heap.size W wr
theorem RowI.is {W wr : World} {v : Value} {m : List Int} (h : RowI W wr v m) : IntsAt m wr v := IntsAt.own h.own.toN rfl
theorem RowI.fresh {W wr : World} {v : Value} {m : List Int} (h : RowI W wr v m) : FreshV W.heap.size v := fun a k c e => by
  obtain ⟨g, c', h1, h2, _⟩ := h.own.form
  rw [h1] at e
  injection e with e
  injection e with e
  subst e
  exact h2
theorem RowI.more {W w1 w2 : World} {v v2 : Value} {m : List Int} {n : Nat} {x : Int} (h : RowI W w1 v m) (o : Obj) (ho : OwnR 3 1 W.heap.size w2 v2 n (ivals m ++ [.int .i64 x])) (hn : n = m.length + 1) (hb : Below W.heap.size (w1.alloc o) w2) : RowI W w2 v2 (m ++ [x]) :=
  ⟨ho.cast (by simp [hn]) (by simp [ivals]), (h.below.alloc h.below.size o).trans hb⟩
set_option maxHeartbeats 1600000 in
theorem places12 (n b : Nat) (w : World) (hl : n ≤ 62) : Calls Try.prog 10 #[.int .i64 n, .int .i64 b] w (IntsNew (placesB n b) w) := by
  have HO0 := Lib.hid (OwnR.new w 3 1)
  go_enter Try.func10, Try.ntmps10
  go_wp2_with fail
  go_loopw [5, 6] (fun o i wr => ∃ (k : Nat) (v : Value), v = o ∧ i = .int .i64 k ∧ k ≤ n ∧ Hid (RowI w wr v (placesTo n b k))) (fun _ i _ => n - (intOf i).toNat)
  case atStart => exact ⟨0, _, rfl, rfl, Nat.zero_le _, HO0.out, (Below.refl _ _).alloc (Nat.le_refl _) _⟩
  case round =>
    obtain ⟨k, o, hov, rfl, hk, HR⟩ := hrel
    subst hov
    obtain ⟨g, cg, rfl, _⟩ := HR.out.own.form
    by_cases hlt : k < n
    · have HN := Lib.hid (placesTo_succ n b k)
      have hml := placesTo_len n b k
      have i0 : (0 : Int) ≤ (k : Int) := Int.natCast_nonneg _
      have i1 : (k : Int) < (n : Int) := by omega
      have hbit := bit_is b (n - 1 - k)
      generalize hM2 : placesTo n b (k + 1) = M2 at *
      have HM2 := Lib.hid hM2
      clear hM2
      generalize placesTo n b k = M at *
      cases hd : b.testBit (n - 1 - k)
      · rw [hd] at hbit
        have HX : Hid (M2 = M) := by have h := HN.out; rw [hd] at h; simpa [Hid] using h
        clear HN hd
        go_wp2_with fail
        exact ⟨⟨k + 1, _, rfl, by go_num, by omega, by rw [HM2.out, HX.out]; exact HR.out⟩, by simp [intOf] <;> omega⟩
      · rw [hd] at hbit
        have HX : Hid (M2 = M ++ [(k : Int)]) := by have h := HN.out; rw [hd] at h; exact h
        clear HN hd
        have HO := Lib.hid (HR.out.own.alloc (.cells #[.int .i64 k] 3))
        go_wp2_with (at_builtin; refine push_raw ints_t rfl (.tmp 22) (.tmp 24) rfl w.heap.size _ _ _ rfl HO.out ⟨wr.heap.size, 0, none⟩ 1 1 [.int .i64 k] rfl rfl ?ha1 one_cell ?ha2 ?_)
        case ha1 => exact Raw.alloc wr #[.int .i64 k] 3
        case ha2 => omega
        intro v7 w7 ho7 hb7
        have HW7 : Hid (RowI w w7 v7 (M ++ [(k : Int)])) := RowI.more HR.out _ ho7 rfl hb7
        clear ho7 hb7
        go_wp2_with fail
        exact ⟨⟨k + 1, _, rfl, by go_num, by omega, by rw [HM2.out, HX.out]; exact HW7.out⟩, by simp [intOf] <;> omega⟩
    · have he : k = n := by omega
      have HE : Hid (RowI w wr (.slice (some ⟨g, 0, none⟩) (placesTo n b k).length cg) (placesB n b)) := by subst he; exact HR.out
      clear he
      go_wp2_with fail
      go_ret
      exact ⟨_, rfl, HE.out.is, HE.out.fresh, HE.out.below⟩
def SameQ (x : Bool) (w : World) (e : Ending) (w' : World) : Prop := e = .returned (.bool x) ∧ ∃ n, w' = w.drewN n
set_option maxHeartbeats 1600000 in
theorem same1 (l : List Int) (u v : Value) (w : World) (hu : IntsAt l w u) (hv : IntsAt l w v) (hl : l.length ≤ 100000) : Calls Try.prog 13 #[u, v] w (SameQ true w) := by
  obtain ⟨A, c, rfl, hc, hA⟩ := hu
  obtain ⟨B, d, rfl, hd, hB⟩ := hv
  have HA := Lib.hid hA
  have HB := Lib.hid hB
  clear hA hB
  have hne : ((l.length : Int) != (l.length : Int)) = false := by simp
  go_enter Try.func13, Try.ntmps13
  go_wp2_with fail
  go_loopw [5] (fun i wr => ∃ k q : Nat, i = .int .i64 k ∧ k ≤ l.length ∧ Hid (wr = w.drewN q)) (fun i _ => l.length - (intOf i).toNat)
  case atStart => exact ⟨0, 0, rfl, Nat.zero_le _, rfl⟩
  case round =>
    obtain ⟨k, q, rfl, hk, HQ⟩ := hrel
    by_cases hlt : k < l.length
    · obtain ⟨a, rfl, ha, h1⟩ := HA.out.at hlt
      obtain ⟨b, rfl, hb, h2⟩ := HB.out.at hlt
      have p1 : wr.cell? (a.add k) = some (.int .i64 l[k]) := by rw [HQ.out, ← getD_at hlt]; exact h1
      have p2 : wr.cell? (b.add k) = some (.int .i64 l[k]) := by rw [HQ.out, ← getD_at hlt]; exact h2
      clear h1 h2
      generalize l[k] = x at *
      have hx : (x != x) = false := by simp
      have i0 : (0 : Int) ≤ (k : Int) := Int.natCast_nonneg _
      have i1 : (k : Int) < (l.length : Int) := by omega
      go_wp2_with fail
      go_quiet (fail)
      have HQ2 : Hid (wr.drewN nq = w.drewN (q + nq)) := Lib.hid (by rw [HQ.out, World.drewN_drewN])
      clear p1 p2
      generalize wr.drewN nq = w2 at *
      go_wp2_with fail
      exact ⟨⟨k + 1, q + nq, by go_num, by omega, HQ2.out⟩, by simp [intOf] <;> omega⟩
    · go_wp2_with fail
      go_ret
      exact ⟨rfl, q, HQ.out⟩
end Go.Proofs.Ytkaepadkdohmpaa.SubRef
namespace Go.Proofs.Ytkaepadkdohmpaa.SubWalk
open Go.RowKit Go.Proofs.Ytkaepadkdohmpaa.SubPlain Go.Proofs.Ytkaepadkdohmpaa.Mem Go.Proofs.Ytkaepadkdohmpaa.SubRef
def TrueIs (w : World) (e : Ending) (w' : World) : Prop := e = .returned (.bool true) ∧ Below w.heap.size w w'
def IntsFit (l : List Int) : Prop := ∀ x ∈ l, -9223372036854775808 ≤ x ∧ x ≤ 9223372036854775807
/-- Bools in memory. -/
def BoolsAt (n : Nat) (f : Nat → Bool) (w : World) (v : Value) : Prop := ∃ A c, v = .slice A n c ∧ n ≤ c ∧ Cells w A n (fun i => .bool (f i))
theorem BoolsAt.below {n : Nat} {f : Nat → Bool} {w w' : World} {v : Value} (h : BoolsAt n f w v) (hb : Below w.heap.size w w') : BoolsAt n f w' v := by
  obtain ⟨A, c, e, hc, hA⟩ := h
  exact ⟨A, c, e, hc, hA.below hb⟩
def bad (ws : List Int) (room : Int) : Bool := !mayW ws || decide (room < 0) || decide (256 < room)
def bestL (ws : List Int) (room : Int) : List Int := if bad ws room = true then [] else placesB ws.length (bestB ws room)
def bestN (ws : List Int) (room : Int) : Int := if bad ws room = true then 0 else tot ws (bestB ws room)
def badE (ws : List Int) (room : Int) : Int := if bad ws room = true then 1 else 0
def reachN (ws : List Int) (room : Int) : Nat := if bad ws room = true then 0 else (room + 1).toNat
def BestSays (ws : List Int) (room : Int) (w : World) (e : Ending) (w' : World) : Prop := ∃ u, e = .returned (.tuple #[u, .int .i64 (bestN ws room), .int .i64 (badE ws room)]) ∧ IntsAt (bestL ws room) w' u ∧ FreshV w.heap.size u ∧ Below w.heap.size w w'
def ReachSays (ws : List Int) (room : Int) (w : World) (e : Ending) (w' : World) : Prop := ∃ u, e = .returned (.tuple #[u, .int .i64 (badE ws room)]) ∧ BoolsAt (reachN ws room) (fun i => reachB ws (i : Int)) w' u ∧ FreshV w.heap.size u ∧ Below w.heap.size w w'
def totalN (ws ps : List Int) : Int := if okP ws ps = true then sumP ws ps else 0
def TotalSays (ws ps : List Int) (w : World) (e : Ending) (w' : World) : Prop := e = .returned (.tuple #[.int .i64 (totalN ws ps), .bool (okP ws ps)]) ∧ Below w.heap.size w w'
theorem bad_ways (ws : List Int) (room : Int) : (mayW ws = false ∧ bad ws room = true) ∨ (mayW ws = true ∧ decide (room < 0) = true ∧ bad ws room = true) ∨ (mayW ws = true ∧ decide (room < 0) = false ∧ decide (256 < room) = true ∧ bad ws room = true) ∨ (mayW ws = true ∧ decide (room < 0) = false ∧ decide (256 < room) = false ∧ bad ws room = false) := by
  unfold bad
  cases mayW ws <;> cases decide (room < 0) <;> cases decide (256 < room) <;> simp
theorem ex_bad : bad [3, 5, 2] 7 = false := by decide +kernel
theorem ex_l : bestL [3, 5, 2] 7 = [1, 2] := by unfold bestL; rw [ex_bad, if_neg (by decide), ex_best]; exact ex_places
theorem ex_n : bestN [3, 5, 2] 7 = 7 := by unfold bestN; rw [ex_bad, if_neg (by decide), ex_best]; exact ex_tot
theorem ex_e : badE [3, 5, 2] 7 = 0 := by unfold badE; rw [ex_bad, if_neg (by decide)]
end Go.Proofs.Ytkaepadkdohmpaa.SubWalk
