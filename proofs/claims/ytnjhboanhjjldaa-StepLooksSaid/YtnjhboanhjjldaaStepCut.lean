/-
  The plain mathematics of layer 4's landed code: where the last step stands that is not behind a time; steps cut at a time; more free from one place to another; neighbours that are alike, joined.
-/
import Derived.Test.YtnjhboanhjjldaaStepMore
namespace Go.Proofs.Ytnjhboanhjjldaa.StepPlain
open Go.Proofs.Ytnjhboanhjjldaa.SpanPlain

/-- Rising times. -/
def Up (s : List Sp) : Prop := s.Pairwise fun a b => a.1 < b.1
theorem Alt.up {s : List Sp} (h : Alt s) : Up s := by
  have := alt_rise h
  exact List.pairwise_map.1 this
theorem Chk.up {s : List Sp} (h : Chk s) : Up s := h.alt.up
abbrev nth (s : List Sp) (k : Nat) : Sp := s.getD k (0, 0)
theorem nth_mem {s : List Sp} {k : Nat} (h : k < s.length) : nth s k ∈ s := by unfold nth; rw [getSp h]; exact List.getElem_mem h
theorem Up.lt {s : List Sp} (h : Up s) {i j : Nat} (hij : i < j) (hj : j < s.length) : (nth s i).1 < (nth s j).1 := by
  unfold nth
  rw [getSp (by omega), getSp hj]
  exact List.pairwise_iff_getElem.1 h i j (by omega) hj hij
theorem Up.le {s : List Sp} (h : Up s) {i j : Nat} (hij : i ≤ j) (hj : j < s.length) : (nth s i).1 ≤ (nth s j).1 := by
  rcases Nat.lt_or_ge i j with h1 | h1
  · have := h.lt h1 hj; omega
  · obtain rfl : i = j := by omega
    exact Int.le_refl _
theorem valFrom_append (n : Int) (a b : List Sp) (t : Int) : valFrom n (a ++ b) t = valFrom (valFrom n a t) b t := by unfold valFrom; rw [List.foldl_append]
theorem parts_at {s : List Sp} {k : Nat} (h : k < s.length) : s = s.take k ++ nth s k :: s.drop (k + 1) := by
  unfold nth
  rw [getSp h, ← List.drop_eq_getElem_cons h, List.take_append_drop]

/-- Where the last step stands that is not behind a time. -/
structure LastIs (s : List Sp) (t : Int) (k : Nat) : Prop where
  lt : k < s.length
  le : (nth s k).1 ≤ t
  late : ∀ j, k < j → j < s.length → t < (nth s j).1
theorem LastIs.behind {s : List Sp} {t : Int} {k : Nat} (h : LastIs s t k) : ∀ z ∈ s.drop (k + 1), t < z.1 := by
  intro z hz
  obtain ⟨i, hi, rfl⟩ := List.mem_iff_getElem.1 hz
  rw [List.length_drop] at hi
  have := h.late (k + 1 + i) (by omega) (by omega)
  unfold nth at this
  rw [getSp (by omega)] at this
  rw [List.getElem_drop]
  exact this
theorem LastIs.val {s : List Sp} {t : Int} {k : Nat} (h : LastIs s t k) : val s t = (nth s k).2 := by
  have e := parts_at h.lt
  have h2 := h.behind
  have h1 := h.le
  generalize nth s k = y at *
  unfold StepPlain.val
  rw [e, valFrom_append, valFrom_le h1, valFrom_late h2]
/-- The last one has the time itself, if a step has it. -/
theorem LastIs.here {s : List Sp} (hu : Up s) {t : Int} {k : Nat} (h : LastIs s t k) (hm : ∃ y ∈ s, y.1 = t) : (nth s k).1 = t := by
  obtain ⟨y, hy, he⟩ := hm
  obtain ⟨j, hj, rfl⟩ := List.mem_iff_getElem.1 hy
  rw [← getSp hj] at he
  rcases Nat.lt_or_ge k j with h1 | h1
  · have := h.late j h1 hj
    unfold nth at this
    omega
  · have := hu.le h1 h.lt
    have := h.le
    unfold nth at *
    omega

/-- Steps with one at a time. -/
def cutL (s : List Sp) (t : Int) (k : Nat) : List Sp := s.take (k + 1) ++ (if (nth s k).1 < t then [(t, (nth s k).2)] else []) ++ s.drop (k + 1)
section
variable {s : List Sp} {t : Int} {k : Nat}
theorem take_nth (h : k < s.length) : s.take (k + 1) = s.take k ++ [nth s k] := by unfold nth; rw [getSp h, List.take_succ_eq_append_getElem h]
theorem cut_val (h : LastIs s t k) (u : Int) : val (cutL s t k) u = val s u := by
  have e := parts_at h.lt
  have h1 := h.le
  unfold cutL
  rw [take_nth h.lt]
  have e2 : val s u = valFrom (valFrom (-1) (s.take k ++ [nth s k]) u) (s.drop (k + 1)) u := by
    conv => lhs; rw [e]
    unfold StepPlain.val
    rw [← valFrom_append, List.append_assoc]
    rfl
  rw [e2]
  unfold StepPlain.val
  rw [valFrom_append, valFrom_append _ (_ ++ _)]
  congr 1
  generalize nth s k = y at *
  split
  · rw [valFrom_cons]
    show (if t ≤ u then y.2 else _) = _
    split
    · rw [valFrom_snoc, if_pos (by omega)]
    · rfl
  · rfl
theorem cut_mem {y : Sp} (hy : y ∈ cutL s t k) : y ∈ s ∨ y = (t, (nth s k).2) := by
  unfold cutL at hy
  rcases List.mem_append.1 hy with hy | hy
  · rcases List.mem_append.1 hy with hy | hy
    · exact .inl (List.mem_of_mem_take hy)
    · split at hy
      · simp at hy; exact .inr hy
      · simp at hy
  · exact .inl (List.mem_of_mem_drop hy)
theorem mem_cut {y : Sp} (hy : y ∈ s) : y ∈ cutL s t k := by
  unfold cutL
  rw [← List.take_append_drop (k + 1) s] at hy
  rcases List.mem_append.1 hy with hy | hy
  · exact List.mem_append.2 (.inl (List.mem_append.2 (.inl hy)))
  · exact List.mem_append.2 (.inr hy)
theorem cut_at (h : LastIs s t k) : ∃ y ∈ cutL s t k, y.1 = t := by
  by_cases h1 : (nth s k).1 < t
  · exact ⟨(t, (nth s k).2), by unfold cutL; rw [if_pos h1]; simp, rfl⟩
  · exact ⟨nth s k, mem_cut (nth_mem h.lt), by have := h.le; omega⟩
theorem cut_head (h : LastIs s t k) : head (cutL s t k) = head s := by
  unfold head cutL
  have : 0 < (s.take (k + 1)).length := by rw [List.length_take]; have := h.lt; omega
  rw [List.append_assoc, List.getD_eq_getElem?_getD, List.getElem?_append_left this, List.getElem?_take_of_lt (by omega), ← List.getD_eq_getElem?_getD]
theorem cut_len (h : k < s.length) : (cutL s t k).length ≤ s.length + 1 ∧ s.length ≤ (cutL s t k).length := by
  unfold cutL
  split <;> simp <;> omega
theorem cut_up (hu : Up s) (h : LastIs s t k) : Up (cutL s t k) := by
  have h2 := h.behind
  have hd : Up (s.drop (k + 1)) := hu.sublist (List.drop_sublist _ _)
  have ht : Up (s.take (k + 1)) := hu.sublist (List.take_sublist _ _)
  have hle : ∀ z ∈ s.take (k + 1), z.1 ≤ (nth s k).1 := by
    intro z hz
    obtain ⟨i, hi, rfl⟩ := List.mem_iff_getElem.1 hz
    rw [List.length_take] at hi
    have := hu.le (i := i) (j := k) (by omega) h.lt
    rw [List.getElem_take, ← getSp (by omega)]
    exact this
  have hx := h.le
  unfold cutL
  refine List.pairwise_append.2 ⟨?_, hd, fun a ha b hb => ?_⟩
  · refine List.pairwise_append.2 ⟨ht, ?_, fun a ha b hb => ?_⟩
    · split
      · exact List.pairwise_singleton _ _
      · exact List.Pairwise.nil
    · split at hb
      · simp at hb; subst hb
        have := hle a ha
        dsimp only
        omega
      · simp at hb
  · have hb2 := h2 b hb
    rcases List.mem_append.1 ha with ha | ha
    · have := hle a ha; omega
    · split at ha
      · simp at ha; subst ha; exact hb2
      · simp at ha
end

/-- More free from one place on. -/
def bump (n : Int) (l : List Sp) (a : Nat) : Nat → List Sp
  | 0 => l
  | m + 1 => (bump n l a m).set (a + m) ((nth l (a + m)).1, (nth l (a + m)).2 + n)
theorem bump_len (n : Int) (l : List Sp) (a : Nat) : ∀ m, (bump n l a m).length = l.length
  | 0 => rfl
  | m + 1 => by unfold bump; rw [List.length_set, bump_len]
theorem nth_set {l : List Sp} {i j : Nat} {y : Sp} (hi : i < l.length) : nth (l.set i y) j = if i = j then y else nth l j := by
  unfold nth
  simp only [List.getD_eq_getElem?_getD, List.getElem?_set]
  by_cases h : i = j
  · subst h; simp [hi]
  · simp [h]
theorem bump_at {n : Int} {l : List Sp} {a : Nat} {m : Nat} (hm : a + m ≤ l.length) (i : Nat) : nth (bump n l a m) i = if a ≤ i ∧ i < a + m then ((nth l i).1, (nth l i).2 + n) else nth l i := by
  induction m with
  | zero => rw [if_neg (by omega)]; rfl
  | succ m ih =>
    unfold bump
    rw [nth_set (by rw [bump_len]; omega), ih (by omega)]
    by_cases h1 : a + m = i
    · subst h1; rw [if_pos rfl, if_pos (by omega)]
    · rw [if_neg h1]
      by_cases h2 : a ≤ i ∧ i < a + m
      · rw [if_pos h2, if_pos (by omega)]
      · rw [if_neg h2, if_neg (by omega)]
theorem list_ext_nth {a b : List Sp} (hl : a.length = b.length) (h : ∀ i, i < a.length → nth a i = nth b i) : a = b := by
  refine List.ext_getElem hl fun i h1 h2 => ?_
  have := h i h1
  unfold nth at this
  rwa [getSp h1, getSp h2] at this
theorem bump_first {n : Int} {l : List Sp} {a m i : Nat} (hm : a + m ≤ l.length) : (nth (bump n l a m) i).1 = (nth l i).1 := by
  rw [bump_at hm]; split <;> rfl
theorem up_of {s : List Sp} (h : ∀ i j, i < j → j < s.length → (nth s i).1 < (nth s j).1) : Up s := by
  refine List.pairwise_iff_getElem.2 fun i j hi hj hij => ?_
  have := h i j hij hj
  unfold nth at this
  rwa [getSp hi, getSp hj] at this
theorem bump_up {n : Int} {l : List Sp} {a m : Nat} (hm : a + m ≤ l.length) (hu : Up l) : Up (bump n l a m) := up_of fun i j hij hj => by
  rw [bump_len] at hj
  rw [bump_first hm, bump_first hm]
  exact hu.lt hij hj
theorem last_up {s r : List Sp} (hl : s.length = r.length) (h : ∀ i, (nth s i).1 = (nth r i).1) {t : Int} {k : Nat} (hk : LastIs s t k) : LastIs r t k :=
  ⟨by rw [← hl]; exact hk.lt, by rw [← h]; exact hk.le, fun j h1 h2 => by rw [← h]; exact hk.late j h1 (by rw [hl]; exact h2)⟩
theorem Up.last {s : List Sp} (hu : Up s) {t : Int} (hp : 0 < s.length) (hh : head s ≤ t) : ∃ k, LastIs s t k := by
  have : ∀ m, m ≤ s.length → 0 < m → ∃ k, k < m ∧ (nth s k).1 ≤ t ∧ ∀ j, k < j → j < m → t < (nth s j).1 := by
    intro m
    induction m with
    | zero => intro _ h; omega
    | succ m ih =>
      intro hm _
      by_cases h0 : m = 0
      · subst h0
        exact ⟨0, by omega, hh, fun j h1 h2 => by omega⟩
      · by_cases h1 : (nth s m).1 ≤ t
        · exact ⟨m, by omega, h1, fun j h2 h3 => by omega⟩
        · obtain ⟨k, h2, h3, h4⟩ := ih (by omega) (by omega)
          refine ⟨k, by omega, h3, fun j h5 h6 => ?_⟩
          by_cases h7 : j = m
          · subst h7; omega
          · exact h4 j h5 (by omega)
  obtain ⟨k, h1, h2, h3⟩ := this s.length (Nat.le_refl _) hp
  exact ⟨k, h1, h2, h3⟩
/-- What more is free, by the times at the two places. -/
theorem bump_val {n : Int} {l : List Sp} {a m : Nat} (hm : a + m < l.length) (hu : Up l) {t : Int} (hh : head l ≤ t) :
    val (bump n l a m) t = if (nth l a).1 ≤ t ∧ t < (nth l (a + m)).1 then val l t + n else val l t := by
  obtain ⟨k, hk⟩ := hu.last (by omega) hh
  have hk2 : LastIs (bump n l a m) t k := last_up (bump_len n l a m).symm (fun i => (bump_first (by omega)).symm) hk
  rw [hk.val, hk2.val, bump_at (by omega)]
  have h1 : a ≤ k ↔ (nth l a).1 ≤ t := by
    constructor
    · intro h; have := hu.le h hk.lt; have := hk.le; omega
    · intro h
      rcases Nat.lt_or_ge k a with h2 | h2
      · have := hk.late a h2 (by omega); omega
      · exact h2
  have h2 : k < a + m ↔ t < (nth l (a + m)).1 := by
    constructor
    · intro h; exact hk.late _ h hm
    · intro h
      rcases Nat.lt_or_ge k (a + m) with h3 | h3
      · exact h3
      · have := hu.le h3 hk.lt; have := hk.le; omega
  by_cases h3 : a ≤ k ∧ k < a + m
  · rw [if_pos h3, if_pos ⟨h1.1 h3.1, h2.1 h3.2⟩]
  · rw [if_neg h3, if_neg (fun h4 => h3 ⟨h1.2 h4.1, h2.2 h4.2⟩)]

/-- Neighbours that are alike, joined. -/
def joinStep (out : List Sp) (y : Sp) : List Sp := if out.length = 0 ∨ (out.getD (out.length - 1) (0, 0)).2 ≠ y.2 then out ++ [y] else out
def joinL (l : List Sp) : List Sp := l.foldl joinStep []
theorem join_snoc (l : List Sp) (y : Sp) : joinL (l ++ [y]) = joinStep (joinL l) y := by unfold joinL; rw [List.foldl_append]; rfl
theorem join_first (y : Sp) : joinStep [] y = [y] := by unfold joinStep; rw [if_pos (.inl rfl)]; rfl
theorem join_same {d : List Sp} {q y : Sp} (h : q.2 = y.2) : joinStep (d ++ [q]) y = d ++ [q] := by
  unfold joinStep
  rw [if_neg]
  simp [List.getD, h]
theorem join_new {d : List Sp} {q y : Sp} (h : q.2 ≠ y.2) : joinStep (d ++ [q]) y = d ++ [q] ++ [y] := by
  unfold joinStep
  rw [if_pos]
  right
  simpa [List.getD] using h
theorem join_build (P : Int → Int) (e : List Int) : joinL (e.map fun x => (x, P x)) = buildL P e := by
  unfold joinL buildL
  rw [List.foldl_map]
  rfl
theorem join_spec : ∀ l : List Sp, Up l → (l = [] ∧ joinL l = []) ∨ ∃ d q y, joinL l = d ++ [q] ∧ l.getLast? = some y ∧ q.1 ≤ y.1 ∧ q.2 = y.2 ∧ Alt (joinL l) ∧ head (joinL l) = head l ∧ (∀ z ∈ joinL l, z ∈ l) ∧ ∀ u, val (joinL l) u = val l u := by
  refine Util.snoc_ind (fun _ => .inl ⟨rfl, rfl⟩) fun l y ih hr => ?_
  rw [join_snoc]
  have hrl : Up l := (List.pairwise_append.1 hr).1
  have hlt : ∀ z ∈ l, z.1 < y.1 := fun z hz => (List.pairwise_append.1 hr).2.2 z hz y (by simp)
  right
  rcases ih hrl with ⟨rfl, he⟩ | ⟨d, q, z, he, hz, h1, h2, h3, h4, h5, h6⟩
  · rw [he, join_first]
    exact ⟨[], y, y, rfl, rfl, Int.le_refl _, rfl, trivial, rfl, fun z hz => hz, fun u => rfl⟩
  · have hne : l ≠ [] := fun h => by rw [h] at hz; cases hz
    have hlen : 0 < l.length := List.length_pos_iff.2 hne
    have hzy : z.1 < y.1 := hlt z (List.mem_of_getLast? hz)
    have hh : head (l ++ [y]) = head l := by unfold head; rw [List.getD_eq_getElem?_getD, List.getD_eq_getElem?_getD, List.getElem?_append_left hlen]
    rw [he] at h3 h4 h5 h6 ⊢
    by_cases hq : q.2 = y.2
    · rw [join_same hq]
      refine ⟨d, q, y, rfl, by simp, by omega, hq, h3, by rw [hh, h4], fun w hw => by simp [h5 w hw], fun u => ?_⟩
      rw [val_snoc, val_snoc]
      by_cases hu : y.1 ≤ u
      · rw [if_pos hu, if_pos (by omega), hq]
      · rw [if_neg hu, ← h6 u, val_snoc]
    · rw [join_new hq]
      refine ⟨d ++ [q], y, y, rfl, by simp, Int.le_refl _, rfl, h3.snoc (by omega) hq, ?_, fun w hw => ?_, fun u => ?_⟩
      · rw [hh, ← h4]
        unfold head
        rw [List.getD_eq_getElem?_getD, List.getD_eq_getElem?_getD, List.getElem?_append_left (by simp)]
      · rcases List.mem_append.1 hw with hw | hw
        · simp [h5 w hw]
        · simp at hw; simp [hw]
      · rw [val_snoc (d ++ [q]) y, val_snoc l y, h6 u]
theorem rep_join {l : List Sp} {P : Int → Int} {h : Int} (hu : Up l) (hne : 0 < l.length) (hh : head l = h) (h0 : 0 ≤ h) (h1 : h ≤ 1125899906842624) (hf : ∀ y ∈ l, 0 ≤ y.2 ∧ y.2 ≤ 256) (ht : ∀ y ∈ l, y.1 ≤ 4503599627370496) (hv : ∀ t, h ≤ t → val l t = P t) :
    Rep (joinL l) h P := by
  rcases join_spec l hu with ⟨rfl, _⟩ | ⟨d, q, y, he, _, _, _, h3, h4, h5, h6⟩
  · simp at hne
  · exact ⟨⟨by rw [he]; simp, by rw [h4, hh]; exact h0, by rw [h4, hh]; exact h1, h3, fun z hz => hf z (h5 z hz), fun z hz => ht z (h5 z hz)⟩, by rw [h4, hh], fun t htt => by rw [h6, hv t htt]⟩
theorem join_len : ∀ l : List Sp, (joinL l).length ≤ l.length := by
  refine Util.snoc_ind (Nat.le_refl _) fun l y ih => ?_
  rw [join_snoc, List.length_append]
  unfold joinStep
  split
  · rw [List.length_append]; simp; omega
  · simp; omega
theorem join_last : ∀ l : List Sp, l ≠ [] → (joinL l).length ≠ 0 ∧ (nth (joinL l) ((joinL l).length - 1)).2 = (nth l (l.length - 1)).2 := by
  refine Util.snoc_ind (fun h => absurd rfl h) fun l y ih _ => ?_
  have e : nth (l ++ [y]) ((l ++ [y]).length - 1) = y := by unfold nth; simp [List.getD]
  rw [join_snoc, e]
  unfold joinStep
  split
  · have e2 : nth (joinL l ++ [y]) ((joinL l ++ [y]).length - 1) = y := by unfold nth; simp [List.getD]
    rw [e2]
    exact ⟨by simp, rfl⟩
  · rename_i h
    simp only [not_or, Decidable.not_not, ne_eq] at h
    exact ⟨h.1, h.2⟩
/-- A step that is like the one ahead of it is left out. -/
theorem join_take_same {l : List Sp} {k : Nat} (h0 : 0 < k) (hk : k < l.length) (h : (nth l k).2 = (nth l (k - 1)).2) : joinL (l.take (k + 1)) = joinL (l.take k) := by
  rw [take_nth hk, join_snoc]
  have hl := join_last (l.take k) (fun e => by have e2 := congrArg List.length e; rw [List.length_take, List.length_nil] at e2; omega)
  have e : nth (l.take k) ((l.take k).length - 1) = nth l (k - 1) := by
    unfold nth
    rw [List.length_take, List.getD_eq_getElem?_getD, List.getElem?_take_of_lt (by omega), List.getD_eq_getElem?_getD, show min k l.length - 1 = k - 1 by omega]
  rw [e] at hl
  unfold joinStep
  rw [if_neg]
  simp only [not_or, Decidable.not_not, ne_eq]
  exact ⟨hl.1, by rw [h]; exact hl.2⟩
theorem join_take_new {l : List Sp} {k : Nat} (h0 : 0 < k) (hk : k < l.length) (h : (nth l k).2 ≠ (nth l (k - 1)).2) : joinL (l.take (k + 1)) = joinL (l.take k) ++ [nth l k] := by
  rw [take_nth hk, join_snoc]
  have hl := join_last (l.take k) (fun e => by have e2 := congrArg List.length e; rw [List.length_take, List.length_nil] at e2; omega)
  have e : nth (l.take k) ((l.take k).length - 1) = nth l (k - 1) := by
    unfold nth
    rw [List.length_take, List.getD_eq_getElem?_getD, List.getElem?_take_of_lt (by omega), List.getD_eq_getElem?_getD, show min k l.length - 1 = k - 1 by omega]
  rw [e] at hl
  unfold joinStep
  rw [if_pos]
  right
  intro h2
  exact h (h2.symm.trans hl.2)
theorem join_take_one {l : List Sp} (h : 0 < l.length) : joinL (l.take 1) = l.take 1 := by
  rw [show (1 : Nat) = 0 + 1 from rfl, take_nth h]
  exact join_first _
/-- As long as no neighbours are alike, nothing is left out. -/
theorem join_none {l : List Sp} {k : Nat} (hk : k ≤ l.length) (h : ∀ j, 0 < j → j < k → (nth l j).2 ≠ (nth l (j - 1)).2) : joinL (l.take k) = l.take k := by
  induction k with
  | zero => rfl
  | succ k ih =>
    by_cases h0 : k = 0
    · subst h0; exact join_take_one (by omega)
    · rw [join_take_new (by omega) (by omega) (h k (by omega) (by omega)), ih (by omega) (fun j h1 h2 => h j h1 (by omega)), take_nth (by omega)]
end Go.Proofs.Ytnjhboanhjjldaa.StepPlain
