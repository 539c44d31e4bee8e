/-
  The walks of the document's answers for layer 12: May, Total.
-/
import Derived.Test.YtnojminhbakfaaaRows
import Derived.Test.YtnojminhbakfaaaInts
import Derived.Test.YtnojminhbakfaaaSubPlain
import Derived.WalkKit
import Derived.WalkSpells
import Derived.WalkLawsBesides
import Derived.LoopTactic
import Derived.Deep.CutBlock
import Derived.Deep.DeepCutAuto
namespace Go.Proofs.Ytnojminhbakfaaa.SubRef
open Go.RowKit Go.Proofs.Ytnojminhbakfaaa.SubPlain Go.Proofs.Ytnojminhbakfaaa.Mem
def BoolQ (b : Bool) (w : World) (e : Ending) (w' : World) : Prop := e = .returned (.bool b) ∧ w = w'
def IntQ (n : Int) (w : World) (e : Ending) (w' : World) : Prop := e = .returned (.int .i64 n) ∧ w = w'
theorem wide_ways (x : Int) : (decide (x < 1) = true ∧ wideB x = false) ∨ (decide (x < 1) = false ∧ decide (256 < x) = true ∧ wideB x = false) ∨ (decide (x < 1) = false ∧ decide (256 < x) = false ∧ wideB x = true) := by
  unfold wideB
  by_cases h1 : x < 1
  · exact .inl ⟨decide_eq_true h1, by rw [decide_eq_false (by omega)]; rfl⟩
  · by_cases h2 : 256 < x
    · exact .inr (.inl ⟨decide_eq_false h1, decide_eq_true h2, by rw [decide_eq_false (p := x ≤ 256) (by omega), Bool.and_false]⟩)
    · exact .inr (.inr ⟨decide_eq_false h1, decide_eq_false h2, by rw [decide_eq_true (by omega), decide_eq_true (by omega)]; rfl⟩)
theorem getD_at {l : List Int} {k : Nat} (h : k < l.length) : l.getD k 0 = l[k] := by simp [List.getD, h]
theorem wAt_at {ws : List Int} {m : Nat} (h : m < ws.length) : wAt ws (m : Int) = ws[m] := by unfold wAt; rw [Int.toNat_natCast, getD_at h]
/-- The first k are widths. -/
def WideTo (ws : List Int) (k : Nat) : Prop := (ws.take k).all wideB = true
theorem WideTo.zero (ws : List Int) : WideTo ws 0 := by unfold WideTo; simp
theorem WideTo.succ {ws : List Int} {k : Nat} (h : WideTo ws k) (hk : k < ws.length) (hx : wideB (ws.getD k 0) = true) : WideTo ws (k + 1) := by
  unfold WideTo at *
  rw [List.take_succ_eq_append_getElem hk, List.all_append, h, ← getD_at hk]
  simpa using hx
theorem WideTo.all {ws : List Int} {k : Nat} (h : WideTo ws k) (hk : ws.length ≤ k) : ws.all wideB = true := by
  unfold WideTo at h
  rwa [List.take_of_length_le hk] at h
theorem may_no {ws : List Int} {k : Nat} (hk : k < ws.length) (hx : wideB (ws.getD k 0) = false) : mayW ws = false := by
  unfold mayW
  have : ws.all wideB = false := by
    rw [List.all_eq_false]
    exact ⟨ws[k], List.getElem_mem _, by rw [← getD_at hk, hx]; decide⟩
  rw [this]; rfl
theorem may_end {ws : List Int} (h : ws.all wideB = true) : mayW ws = decide (ws.length ≤ 64) := by unfold mayW; rw [h]; rfl
theorem bit_is (b m : Nat) : (((b : Int) / 2 ^ m).tmod 2 == 1) = b.testBit m := by
  have h1 : (b : Int) / 2 ^ m = ((b / 2 ^ m : Nat) : Int) := by simp
  have h2 : ((b / 2 ^ m : Nat) : Int).tmod 2 = ((b / 2 ^ m % 2 : Nat) : Int) := by
    rw [Int.tmod_eq_emod_of_nonneg (Int.natCast_nonneg _)]; simp
  rw [h1, h2, Nat.testBit_eq_decide_div_mod_eq, Bool.eq_iff_iff, beq_iff_eq, decide_eq_true_eq]
  omega
end Go.Proofs.Ytnojminhbakfaaa.SubRef
