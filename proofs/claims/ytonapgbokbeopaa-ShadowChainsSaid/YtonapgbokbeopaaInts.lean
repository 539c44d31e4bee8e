/-
  Rows of integers in memory, nil let in.
-/
import Derived.Test.YtonapgbokbeopaaBase
namespace Go.Proofs.Ytonapgbokbeopaa.Mem
open Go.RowKit
def IntsAt (l : List Int) (w : World) (v : Value) : Prop := ∃ A c, v = .slice A l.length c ∧ l.length ≤ c ∧ Cells w A l.length (icell l)
section
variable {l : List Int} {w w' : World} {v : Value}
theorem IntsAt.below (h : IntsAt l w v) (hb : Below w.heap.size w w') : IntsAt l w' v := by
  obtain ⟨A, c, e, hc, hA⟩ := h
  exact ⟨A, c, e, hc, hA.below hb⟩
theorem IntsAt.drewN (h : IntsAt l w v) (q : Nat) : IntsAt l (w.drewN q) v := h
theorem IntsAt.nil (w : World) : IntsAt [] w (.slice none 0 0) := ⟨none, 0, rfl, Nat.le_refl _, Cells.none_⟩
theorem IntsAt.of_is (h : IntsIs l w v) : IntsAt l w v := by
  obtain ⟨ad, c, e, hr, hc, _⟩ := h
  exact ⟨some ad, c, e, hc, fun i hi => ⟨ad, rfl, hr.intlt hi, hr.int hi⟩⟩
theorem IntsAt.own {e : TypeId} {base n : Nat} (h : OwnN e 1 base w v n (ivals l)) (hn : n = l.length) : IntsAt l w v := by
  subst hn
  have hs := h.src
  rcases hs with ⟨e0, h0, _⟩ | ⟨a, c, e0, hr⟩
  · have hl : l = [] := List.length_eq_zero_iff.1 h0
    subst hl
    subst e0
    exact IntsAt.nil w
  · obtain ⟨A, c2, e2⟩ := h.shape
    have hcap : l.length ≤ c := by
      have h3 := h.form
      subst e0
      rcases h3 with h3 | h3
      · exact absurd h3.1 (by simp)
      · obtain ⟨g, c3, e3, h4⟩ := h3
        injection e3 with _ _ e3
        omega
    exact ⟨some a, c, e0, hcap, fun i hi => ⟨a, rfl, hr.intlt hi, hr.int hi⟩⟩
end
end Go.Proofs.Ytonapgbokbeopaa.Mem
