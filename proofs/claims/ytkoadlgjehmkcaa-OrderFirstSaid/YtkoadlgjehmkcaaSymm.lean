/-
  The plain mathematics of the library's symmetric merge: where two sorted rows are cut, and that the parts' merges are the merge.
-/
import Derived.Test.YtkoadlgjehmkcaaIns
namespace Go.Proofs.Ytkoadlgjehmkcaa.Symm
open Go.Proofs.Ytkoadlgjehmkcaa.Stab Go.Proofs.Ytkoadlgjehmkcaa.Swap Go.Proofs.Ytkoadlgjehmkcaa.Ins
variable {α : Type} {lt : α → α → Bool}
theorem mg_app (hs : Swo lt) : ∀ (B A : List α), Srt lt (A ++ B) → mg lt A B = A ++ B := by
  intro B
  induction B with
  | nil => intro A _; simp [mg]
  | cons y B ih =>
    intro A h
    have hy : ∀ x ∈ A, lt y x = false := fun x hx => (List.pairwise_append.1 h).2.2 x hx y (by simp)
    have e : put lt A y = A ++ [y] := by have := put_split (lt := lt) (L1 := A) (L2 := []) (y := y) hy (fun x hx => by cases hx); simpa using this
    show mg lt (put lt A y) B = _
    rw [e, ih (A ++ [y]) (by simpa using h)]
    simp
theorem mg_nil (hs : Swo lt) {R : List α} (h : Srt lt R) : mg lt [] R = R := mg_app hs R [] h
theorem srt_id (hs : Swo lt) {l : List α} (h : Srt lt l) : sortBy lt l = l := mg_nil hs h
theorem srt_get [Inhabited α] (hs : Swo lt) {l : List α} (h : Srt lt l) {i j : Nat} (hij : i ≤ j) (hj : j < l.length) : lt l[j]! l[i]! = false := by
  rw [getElem!_pos l j hj, getElem!_pos l i (by omega)]
  by_cases e : i = j
  · subst e; exact hs.irr _
  · exact List.pairwise_iff_getElem.1 h i j (by omega) hj (by omega)
theorem mem_take_get [Inhabited α] {l : List α} {u : Nat} {x : α} (h : x ∈ l.take u) : ∃ i, i < u ∧ i < l.length ∧ x = l[i]! := by
  obtain ⟨i, hi, rfl⟩ := List.mem_iff_getElem.1 h
  rw [List.length_take] at hi
  exact ⟨i, by omega, by omega, by rw [List.getElem_take, getElem!_pos l i (by omega)]⟩
theorem mem_drop_get [Inhabited α] {l : List α} {u : Nat} {x : α} (h : x ∈ l.drop u) : ∃ i, u ≤ i ∧ i < l.length ∧ x = l[i]! := by
  obtain ⟨i, hi, rfl⟩ := List.mem_iff_getElem.1 h
  rw [List.length_drop] at hi
  exact ⟨u + i, by omega, by omega, by rw [List.getElem_drop, getElem!_pos l (u + i) (by omega)]⟩
/-- The cut. -/
theorem cut_mg [Inhabited α] (hs : Swo lt) {L R : List α} (hL : Srt lt L) (hR : Srt lt R) {u v : Nat} (hu : u ≤ L.length) (hv : v ≤ R.length)
    (h2 : u = 0 ∨ v = R.length ∨ lt R[v]! L[u - 1]! = false) (h1 : u = L.length ∨ v = 0 ∨ lt R[v - 1]! L[u]! = true) :
    mg lt L R = mg lt (L.take u) (R.take v) ++ mg lt (L.drop u) (R.drop v) := by
  have e : mg lt L R = mg lt (L.take u ++ L.drop u) (R.take v ++ R.drop v) := by rw [List.take_append_drop, List.take_append_drop]
  rw [e]
  refine mg_split (fun y hy x hx => ?_) (fun y hy x hx => ?_) (fun y hy x hx => ?_)
  · obtain ⟨i, hi, hi2, rfl⟩ := mem_take_get hy
    obtain ⟨j, hj, hj2, rfl⟩ := mem_drop_get hx
    rcases h1 with h1 | h1 | h1
    · omega
    · omega
    · have a1 := srt_get hs hR (i := i) (j := v - 1) (by omega) (by omega)
      have a2 := srt_get hs hL (i := u) (j := j) (by omega) (by omega)
      exact hs.lt_of (hs.lt_of2 a1 h1) a2
  · obtain ⟨i, hi, hi2, rfl⟩ := mem_drop_get hy
    obtain ⟨j, hj, hj2, rfl⟩ := mem_take_get hx
    rcases h2 with h2 | h2 | h2
    · omega
    · omega
    · have a1 := srt_get hs hR (i := v) (j := i) (by omega) (by omega)
      have a2 := srt_get hs hL (i := j) (j := u - 1) (by omega) (by omega)
      exact hs.ng (hs.ng a1 h2) a2
  · obtain ⟨i, hi, hi2, rfl⟩ := mem_drop_get hy
    obtain ⟨j, hj, hj2, rfl⟩ := mem_take_get hx
    exact srt_get hs hR (by omega) hi2
theorem srt_take {l : List α} (h : Srt lt l) (u : Nat) : Srt lt (l.take u) := List.Pairwise.sublist (List.take_sublist _ _) h
theorem srt_drop {l : List α} (h : Srt lt l) (u : Nat) : Srt lt (l.drop u) := List.Pairwise.sublist (List.drop_sublist _ _) h
/-- One in front of a row, merged: it stands behind those that are less. -/
theorem one_mg [Inhabited α] (hs : Swo lt) {x : α} {R : List α} (hR : Srt lt R) {v : Nat} (hv : v ≤ R.length) (h1 : v = 0 ∨ lt R[v - 1]! x = true) (h2 : v = R.length ∨ lt R[v]! x = false) :
    mg lt [x] R = R.take v ++ x :: R.drop v := by
  have hx : Srt lt [x] := List.pairwise_singleton _ _
  rw [cut_mg hs hx hR (u := 0) (v := v) (by simp) hv (.inl rfl) (h1.elim (fun h => .inr (.inl h)) (fun h => .inr (.inr h)))]
  have e1 : mg lt ([x].take 0) (R.take v) = R.take v := mg_nil hs (srt_take hR v)
  have e2 : mg lt ([x].drop 0) (R.drop v) = x :: R.drop v := by
    rw [List.drop_zero, cut_mg hs hx (srt_drop hR v) (u := 1) (v := 0) (by simp) (by simp) (by
      rcases h2 with h2 | h2
      · exact .inr (.inl (by simp; omega))
      · by_cases hl : v = R.length
        · exact .inr (.inl (by simp; omega))
        · refine .inr (.inr ?_)
          rw [getElem!_pos (R.drop v) 0 (by rw [List.length_drop]; omega), List.getElem_drop, ← getElem!_pos R (v + 0) (by omega)]
          exact h2) (.inl rfl)]
    show mg lt [x] [] ++ mg lt [] (R.drop v) = _
    rw [mg_nil hs (srt_drop hR v)]
    rfl
  rw [e1, e2]
/-- One behind a row, merged. -/
theorem two_mg [Inhabited α] (hs : Swo lt) {y : α} {L : List α} (hL : Srt lt L) {u : Nat} (hu : u ≤ L.length) (h1 : u = 0 ∨ lt y L[u - 1]! = false) (h2 : u = L.length ∨ lt y L[u]! = true) :
    mg lt L [y] = L.take u ++ y :: L.drop u := by
  show put lt L y = _
  have e := put_at (lt := lt) (A := L.take u) (B := L.drop u) (x := y) (fun z hz => by
    obtain ⟨i, hi, hi2, rfl⟩ := mem_take_get hz
    rcases h1 with h1 | h1
    · omega
    · exact hs.ng h1 (srt_get hs hL (i := i) (j := u - 1) (by omega) (by omega))) (fun z hz => by
    obtain ⟨i, hi, hi2, rfl⟩ := mem_drop_get hz
    rcases h2 with h2 | h2
    · omega
    · exact hs.lt_of h2 (srt_get hs hL (i := u) (j := i) (by omega) (by omega)))
  rwa [List.take_append_drop] at e
/-- Two sorted rows L and R, side by side in d from a on, m between them, b behind. -/
structure Pair (lt : α → α → Bool) (P L R Q d : List α) (a m b : Nat) : Prop where
  ed : d = P ++ (L ++ (R ++ Q))
  ea : P.length = a
  em : a + L.length = m
  eb : m + R.length = b
  sl : Srt lt L
  sr : Srt lt R
theorem get_first [Inhabited α] (P S : List α) {i k : Nat} (h : P.length + i = k) : (P ++ S)[k]! = S[i]! := by
  subst h
  by_cases hi : i < S.length
  · rw [getElem!_pos _ _ (by simp; omega), getElem!_pos S i hi, List.getElem_append_right (by omega)]
    simp
  · rw [getElem!_neg _ _ (by simp; omega), getElem!_neg S i hi]
theorem get_in [Inhabited α] (L S : List α) {i : Nat} (h : i < L.length) : (L ++ S)[i]! = L[i]! := by
  rw [getElem!_pos _ _ (by simp; omega), getElem!_pos L i h, List.getElem_append_left h]
theorem Pair.getL [Inhabited α] {P L R Q d : List α} {a m b : Nat} (h : Pair lt P L R Q d a m b) {k i : Nat} (hk : a + i = k) (hi : i < L.length) : d[k]! = L[i]! := by
  rw [h.ed, get_first P _ (by have := h.ea; omega : P.length + i = k), get_in _ _ hi]
theorem Pair.getR [Inhabited α] {P L R Q d : List α} {a m b : Nat} (h : Pair lt P L R Q d a m b) {k i : Nat} (hk : m + i = k) (hi : i < R.length) : d[k]! = R[i]! := by
  rw [h.ed, show P ++ (L ++ (R ++ Q)) = (P ++ L) ++ (R ++ Q) by simp, get_first (P ++ L) _ (by have := h.ea; have := h.em; simp; omega : (P ++ L).length + i = k), get_in _ _ hi]
theorem Pair.len {P L R Q d : List α} {a m b : Nat} (h : Pair lt P L R Q d a m b) : b + Q.length = d.length := by
  have := h.ea; have := h.em; have := h.eb; rw [h.ed]; simp; omega
/-- Where the search in the second row ended: the one goes up through those that are less. -/
theorem Pair.one [Inhabited α] (hs : Swo lt) {P L R Q d : List α} {a m b i : Nat} (h : Pair lt P L R Q d a m b) (hm : m = a + 1) (hi : m ≤ i) (hib : i ≤ b) (h1 : i = m ∨ lt d[i - 1]! d[a]! = true) (h2 : i = b ∨ lt d[i]! d[a]! = false) :
    ∃ x M T, d = UpAt P M T x 0 ∧ P ++ (mg lt L R ++ Q) = UpAt P M T x M.length ∧ M.length = i - m ∧ d.length = P.length + 1 + M.length + T.length := by
  have hl : L.length = 1 := by have := h.em; omega
  obtain ⟨x, rfl⟩ : ∃ x, L = [x] := by
    match L, hl with
    | [x], _ => exact ⟨x, rfl⟩
  have ea : d[a]! = x := h.getL (i := 0) (by omega) (by simp)
  have hb := h.eb
  have hRl := h.eb
  have e := one_mg hs (x := x) h.sr (v := i - m) (by omega) (by
    rcases h1 with h1 | h1
    · exact .inl (by omega)
    · by_cases hz : i = m
      · exact .inl (by omega)
      · refine .inr ?_
        rw [ea, h.getR (i := i - m - 1) (by omega) (by omega)] at h1
        exact h1) (by
    rcases h2 with h2 | h2
    · exact .inl (by omega)
    · by_cases hz : i = b
      · exact .inl (by omega)
      · refine .inr ?_
        rw [ea, h.getR (i := i - m) (by omega) (by omega)] at h2
        exact h2)
  have eL : (R.take (i - m)).length = i - m := by rw [List.length_take]; omega
  refine ⟨x, R.take (i - m), R.drop (i - m) ++ Q, ?_, ?_, eL, ?_⟩
  · rw [UpAt.start, h.ed]
    have : R.take (i - m) ++ (R.drop (i - m) ++ Q) = R ++ Q := by rw [← List.append_assoc, List.take_append_drop]
    rw [this]; rfl
  · rw [UpAt.end_, e]; simp
  · rw [h.ed, eL]; simp; omega
/-- Where the search in the first row ended: the one goes down through those that are greater. -/
theorem Pair.two [Inhabited α] (hs : Swo lt) {P L R Q d : List α} {a m b i : Nat} (h : Pair lt P L R Q d a m b) (hm : b = m + 1) (hi : a ≤ i) (hib : i ≤ m) (h1 : i = a ∨ lt d[m]! d[i - 1]! = false) (h2 : i = m ∨ lt d[m]! d[i]! = true) :
    ∃ y U M T, d = UpAt U M T y M.length ∧ P ++ (mg lt L R ++ Q) = UpAt U M T y 0 ∧ U.length = i ∧ M.length = m - i ∧ d.length = U.length + 1 + M.length + T.length := by
  have hl : R.length = 1 := by have := h.eb; omega
  obtain ⟨y, rfl⟩ : ∃ x, R = [x] := by
    match R, hl with
    | [x], _ => exact ⟨x, rfl⟩
  have ea : d[m]! = y := h.getR (i := 0) (by omega) (by simp)
  have hM := h.em
  have hA := h.ea
  have e := two_mg hs (y := y) h.sl (u := i - a) (by omega) (by
    rcases h1 with h1 | h1
    · exact .inl (by omega)
    · by_cases hz : i = a
      · exact .inl (by omega)
      · refine .inr ?_
        rw [ea, h.getL (i := i - a - 1) (by omega) (by omega)] at h1
        exact h1) (by
    rcases h2 with h2 | h2
    · exact .inl (by omega)
    · by_cases hz : i = m
      · exact .inl (by omega)
      · refine .inr ?_
        rw [ea, h.getL (i := i - a) (by omega) (by omega)] at h2
        exact h2)
  have eL : (L.drop (i - a)).length = m - i := by rw [List.length_drop]; omega
  have eU : (P ++ L.take (i - a)).length = i := by rw [List.length_append, List.length_take]; omega
  refine ⟨y, P ++ L.take (i - a), L.drop (i - a), Q, ?_, ?_, eU, eL, ?_⟩
  · rw [UpAt.end_, h.ed, ← List.append_assoc (P ++ L.take (i - a)), List.append_assoc P, List.take_append_drop]
    simp
  · rw [UpAt.start, e]; simp
  · rw [h.ed, eU, eL]; simp; omega
/-- Where the search of the cut ended. -/
theorem Pair.cut [Inhabited α] (hs : Swo lt) {P L R Q d : List α} {a m b s mid e : Nat} (h : Pair lt P L R Q d a m b) (hmid : mid = (a + b) / 2) (hse : s + e = mid + m) (ha : a ≤ s) (hm : s ≤ m) (hsm : s ≤ mid) (heb : e ≤ b)
    (h1 : s = a ∨ e = b ∨ lt d[e]! d[s - 1]! = false) (h2 : s = m ∨ e = m ∨ lt d[e - 1]! d[s]! = true) :
    ∃ L1 L2 R1 R2, d = (P ++ L1) ++ (L2 ++ (R1 ++ (R2 ++ Q))) ∧ (P ++ L1).length = s ∧ s + L2.length = m ∧ m + R1.length = e ∧ mg lt L R = mg lt L1 R1 ++ mg lt L2 R2 ∧ (mg lt L1 R1).length + a = mid ∧ e + R2.length = b ∧
      Srt lt L1 ∧ Srt lt L2 ∧ Srt lt R1 ∧ Srt lt R2 ∧ a + L1.length = s ∧ s + R1.length = mid ∧ mid + L2.length = e := by
  have hA := h.ea
  have hM := h.em
  have hB := h.eb
  have lu : (L.take (s - a)).length = s - a := by rw [List.length_take]; omega
  have ld : (L.drop (s - a)).length = m - s := by rw [List.length_drop]; omega
  have ru : (R.take (e - m)).length = e - m := by rw [List.length_take]; omega
  have rd : (R.drop (e - m)).length = b - e := by rw [List.length_drop]; omega
  refine ⟨L.take (s - a), L.drop (s - a), R.take (e - m), R.drop (e - m), ?_, by rw [List.length_append, lu]; omega, by rw [ld]; omega, by rw [ru]; omega, ?_, by rw [mg_len, lu, ru]; omega, by rw [rd]; omega, srt_take h.sl _, srt_drop h.sl _, srt_take h.sr _, srt_drop h.sr _, by rw [lu]; omega, by rw [ru]; omega, by rw [ld]; omega⟩
  · have x1 : L.drop (s - a) ++ (R.take (e - m) ++ (R.drop (e - m) ++ Q)) = L.drop (s - a) ++ (R ++ Q) := by rw [← List.append_assoc (R.take _), List.take_append_drop]
    rw [x1, List.append_assoc P, ← List.append_assoc (L.take _), List.take_append_drop]
    exact h.ed
  · refine cut_mg hs h.sl h.sr (by omega) (by omega) ?_ ?_
    · rcases h1 with h1 | h1 | h1
      · exact .inl (by omega)
      · exact .inr (.inl (by omega))
      · by_cases z1 : s = a
        · exact .inl (by omega)
        by_cases z2 : e = b
        · exact .inr (.inl (by omega))
        refine .inr (.inr ?_)
        rw [h.getR (i := e - m) (by omega) (by omega), h.getL (i := s - a - 1) (by omega) (by omega)] at h1
        exact h1
    · rcases h2 with h2 | h2 | h2
      · exact .inl (by omega)
      · exact .inr (.inl (by omega))
      · by_cases z1 : s = m
        · exact .inl (by omega)
        by_cases z2 : e = m
        · exact .inr (.inl (by omega))
        refine .inr (.inr ?_)
        rw [h.getR (i := e - m - 1) (by omega) (by omega), h.getL (i := s - a) (by omega) (by omega)] at h2
        exact h2
end Go.Proofs.Ytkoadlgjehmkcaa.Symm
