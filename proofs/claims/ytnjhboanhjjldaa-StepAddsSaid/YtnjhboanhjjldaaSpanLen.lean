/-
  The plain mathematics of layer 3: a cover is no longer than the spans that it is of.
-/
import Derived.Test.YtnjhboanhjjldaaSpanParts
namespace Go.Proofs.Ytnjhboanhjjldaa.SpanPlain

theorem sub_len : ∀ (a b : List Int), a.Nodup → (∀ x ∈ a, x ∈ b) → a.length ≤ b.length := by
  intro a
  induction a with
  | nil => intro b _ _; simp
  | cons x a ih =>
    intro b hn hs
    have hx : x ∈ b := hs x (by simp)
    obtain ⟨h1, h2⟩ := List.nodup_cons.1 hn
    have := ih (b.erase x) h2 (fun y hy => by
      have hne : y ≠ x := fun e => h1 (e ▸ hy)
      exact (List.mem_erase_of_ne hne).2 (hs y (by simp [hy])))
    rw [List.length_erase_of_mem hx] at this
    have := List.length_pos_of_mem hx
    simp only [List.length_cons]
    omega
theorem cov_starts {c : List Sp} (h : Cov c) : (c.map (·.1)).Nodup := by
  refine List.Pairwise.map _ (fun a b (hab : a.2 < b.1 ∧ a.1 < a.2) => ?_) (List.Pairwise.imp_of_mem (fun {a b} ha _ hab => ⟨hab, (h.1 a ha).2.1⟩) h.2)
  intro e
  omega
theorem cov_before {c : List Sp} (h : Cov c) {s : Sp} (hs : s ∈ c) : anyB c (s.1 - 1) = false := by
  cases hx : anyB c (s.1 - 1) with
  | false => rfl
  | true =>
    obtain ⟨r, hr, h1, h2, h3⟩ := any_iff.1 hx
    exfalso
    obtain ⟨i, hi, rfl⟩ := List.mem_iff_getElem.1 hs
    obtain ⟨j, hj, rfl⟩ := List.mem_iff_getElem.1 hr
    have hm := h.1 _ hs
    rcases Nat.lt_trichotomy i j with hij | hij | hij
    · have := List.pairwise_iff_getElem.1 h.2 i j hi hj hij
      have := hm.2.1
      omega
    · subst hij; omega
    · have := List.pairwise_iff_getElem.1 h.2 j i hj hi hij
      omega
theorem cov_len {l m c : List Sp} (h : LessOf l m c) : c.length ≤ l.length + m.length := by
  have := sub_len (c.map (·.1)) (l.map (·.1) ++ m.map (·.2)) (cov_starts h.1) (fun x hx => by
    obtain ⟨s, hs, rfl⟩ := List.mem_map.1 hx
    have hm := h.1.1 s hs
    have h1 : anyB c s.1 = true := any_iff.2 ⟨s, hs, hm, Int.le_refl _, hm.2.1⟩
    have h2 := cov_before h.1 hs
    rw [h.2, Bool.and_eq_true] at h1
    rw [h.2] at h2
    obtain ⟨r, hr, r1, r2, r3⟩ := any_iff.1 h1.1
    rw [List.mem_append]
    by_cases hl : anyB l (s.1 - 1) = true
    · right
      rw [hl, Bool.true_and] at h2
      have h3 : anyB m (s.1 - 1) = true := by cases hx : anyB m (s.1 - 1) <;> simp_all
      obtain ⟨q, hq, q1, q2, q3⟩ := any_iff.1 h3
      have h4 : ¬ s.1 < q.2 := fun h5 => by
        have : anyB m s.1 = true := any_iff.2 ⟨q, hq, q1, by omega, h5⟩
        rw [this] at h1
        simp at h1
      exact List.mem_map.2 ⟨q, hq, by omega⟩
    · left
      have h4 : ¬ r.1 ≤ s.1 - 1 := fun h5 => hl (any_iff.2 ⟨r, hr, r1, h5, by omega⟩)
      exact List.mem_map.2 ⟨r, hr, by omega⟩)
  simpa using this
end Go.Proofs.Ytnjhboanhjjldaa.SpanPlain
