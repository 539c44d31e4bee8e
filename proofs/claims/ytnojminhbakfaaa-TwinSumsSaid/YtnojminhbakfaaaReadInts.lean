/-
  What an argument reads as, down in memory: a row of integers, an integer with its bounds.
-/
import Derived.Test.YtnojminhbakfaaaInts
import Derived.Test.YtnojminhbakfaaaReadInt
import Derived.Test.YtnojminhbakfaaaLayRead
namespace Go.Proofs.Ytnojminhbakfaaa.Read
open Go.RowKit Go.Proofs.Ytnojminhbakfaaa.Mem
open Go.ChangeShapes Go.WideShapes Go.Deep
def intL : Lay Int := ⟨1, fun x => [.int .i64 x], fun _ => rfl, fun _ u hu => by simp at hu; subst hu; rfl, by decide⟩
theorem intL_vals (l : List Int) : intL.vals l = ivals l := by
  induction l with
  | nil => rfl
  | cons x l ih => rw [Lay.cons, ih]; rfl
theorem IntsAt.lay {l : List Int} {w : World} {v : Value} (h : intL.Is l w v) : IntsAt l w v := by
  rcases h with ⟨rfl, rfl⟩ | ⟨a, c, rfl, hr, hc⟩
  · exact IntsAt.nil w
  · rw [intL_vals] at hr
    exact ⟨some a, c, rfl, hc, fun i hi => ⟨a, rfl, hr.intlt hi, hr.int hi⟩⟩
theorem ints_read {H : Type} {enc : TypeId × Value → H} {W : World} {base : Nat} {v : Value} {d : DataW H} {p : List MemPlace} (hv : Value.okWide Try.prog W .any base 24 v)
    (h : DataW.Trod enc Try.prog W 0 (fun _ => true) true 24 v d p) : ∃ l, IntsAt l W v ∧ ∀ x ∈ l, -9223372036854775808 ≤ x ∧ x ≤ 9223372036854775807 := by
  obtain ⟨l, hl, hp⟩ := lay_read intL Try.underlying24 cells_i (fun h => by
    obtain ⟨x, f, _, wf⟩ := DataW.trod_int Try.underlying3 h
    exact ⟨x, f, wf_lim wf⟩) hv h
  exact ⟨l, IntsAt.lay hl, hp⟩
theorem int_lims {H : Type} {enc : TypeId × Value → H} {W : World} {base : Nat} {v : Value} {d : DataW H} {p : List MemPlace} (hv : Value.okWide Try.prog W .any base 3 v)
    (h : DataW.Trod enc Try.prog W 0 (fun _ => true) true 3 v d p) : ∃ n, v = .int .i64 n ∧ -9223372036854775808 ≤ n ∧ n ≤ 9223372036854775807 := by
  obtain ⟨n, rfl, _, _, hw⟩ := open_int Try.underlying3 hv h
  exact ⟨n, rfl, wf_lim hw⟩
end Go.Proofs.Ytnojminhbakfaaa.Read
