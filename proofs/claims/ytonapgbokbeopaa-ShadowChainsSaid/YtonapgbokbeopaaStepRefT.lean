/-
  The walk of the document's answer for layer 4: Trim.
-/
import Derived.Test.YtonapgbokbeopaaStepRef0
namespace Go.Proofs.Ytonapgbokbeopaa.StepRef
open Go.RowKit Go.Proofs.Ytonapgbokbeopaa.SpanPlain Go.Proofs.Ytonapgbokbeopaa.StepPlain Go.Proofs.Ytonapgbokbeopaa.Mem Go.Proofs.Ytonapgbokbeopaa.SpanMem Go.Proofs.Ytonapgbokbeopaa.StepMem Go.Proofs.Ytonapgbokbeopaa.SpanRef
/-- What Trim answers. -/
def TrimTells (r : List Sp) (w : World) (e : Ending) (w' : World) : Prop := ∃ v, e = .returned v ∧ SpansIs r w' v ∧ Below w.heap.size w w'
def TrimLoop (s : List Sp) (t n : Int) (w wr : World) (v : Value) (k : Nat) : Prop :=
  OwnN 42 2 w.heap.size wr v ((t, n) :: (s.take k).filter fun y => decide (t < y.1)).length (svals ((t, n) :: (s.take k).filter fun y => decide (t < y.1))) ∧ Below w.heap.size w wr
theorem own_one (w : World) (e : TypeId) (a b : Int) : OwnN e 2 w.heap.size (w.alloc (.cells #[.int .i64 a, .int .i64 b] e)) (.slice (some ⟨w.heap.size, 0, none⟩) 1 1) 1 [.int .i64 a, .int .i64 b] :=
  ⟨World.ownsRow_lit w #[.int .i64 a, .int .i64 b] 1 (Nat.le_refl _) (by decide) rfl, by simp⟩
theorem later_take {s : List Sp} {k : Nat} (hk : k < s.length) (t : Int) : ((s.take (k + 1)).filter fun y => decide (t < y.1)) = ((s.take k).filter fun y => decide (t < y.1)) ++ if t < (s.getD k (0, 0)).1 then [s.getD k (0, 0)] else [] := by
  rw [List.take_succ_eq_append_getElem hk, List.filter_append, getSp hk, List.filter_cons, List.filter_nil]
  by_cases h : t < s[k].1 <;> simp [h]
theorem later_len (s : List Sp) (k : Nat) (t : Int) : ((s.take k).filter fun y => decide (t < y.1)).length ≤ s.length := by
  have h1 := List.length_filter_le (fun y : Sp => decide (t < y.1)) (s.take k)
  rw [List.length_take] at h1
  omega
end Go.Proofs.Ytonapgbokbeopaa.StepRef
