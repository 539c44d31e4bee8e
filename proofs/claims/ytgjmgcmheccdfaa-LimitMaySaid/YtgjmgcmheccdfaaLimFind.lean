/-
  The plain mathematics of layer 10's code: where a user's limit stands in limits that rise, found by halving; what is set and dropped there; what a use leaves.
-/
import Derived.Test.YtgjmgcmheccdfaaLimPlain
import Derived.Lib.Bytealg
import Derived.Laws.Strings
namespace Go.Proofs.Ytgjmgcmheccdfaa.LimPlain
open Go.RowKit Go.Proofs.Ytgjmgcmheccdfaa.ApiPlain Go.Proofs.Ytgjmgcmheccdfaa.JobPlain
/-- How texts compare. -/
def cmpU (a b : ByteArray) : Int := Lib.compareBytes a.data.toList b.data.toList
theorem cmpL_lt : ∀ a b : List UInt8, decide (Lib.compareBytes a b < 0) = Go.Op.bytesLess a b := by
  intro a
  induction a with
  | nil => intro b; cases b <;> rfl
  | cons x a ih =>
    intro b
    cases b with
    | nil => rfl
    | cons y b =>
      unfold Lib.compareBytes Go.Op.bytesLess
      by_cases h1 : x < y
      · simp [h1]
      · by_cases h2 : y < x
        · have h3 : ¬ x = y := fun h => by subst h; exact h1 h2
          simp [h1, h2, h3]
        · have h3 : x = y := UInt8.le_antisymm (UInt8.not_lt.1 h2) (UInt8.not_lt.1 h1)
          simp [h1, h2, h3, ih b]
theorem cmpL_zero : ∀ a b : List UInt8, decide (Lib.compareBytes a b = 0) = (a == b) := by
  intro a
  induction a with
  | nil => intro b; cases b <;> rfl
  | cons x a ih =>
    intro b
    cases b with
    | nil => rfl
    | cons y b =>
      unfold Lib.compareBytes
      by_cases h1 : x < y
      · have h3 : ¬ x = y := fun h => by subst h; exact UInt8.lt_irrefl _ h1
        simp [h1, h3]
      · by_cases h2 : y < x
        · have h3 : ¬ x = y := fun h => by subst h; exact h1 h2
          simp [h1, h2, h3]
        · have h3 : x = y := UInt8.le_antisymm (UInt8.not_lt.1 h2) (UInt8.not_lt.1 h1)
          have := ih b
          simp [h1, h2, h3] at this ⊢
          exact this
theorem cmpU_lt (a b : ByteArray) : decide (cmpU a b < 0) = lessU a b := by unfold cmpU lessU; rw [cmpL_lt, ByteArray.toList_eq, ByteArray.toList_eq]
theorem cmpU_zero (a b : ByteArray) : (cmpU a b == 0) = sameU a b := by
  have h := cmpL_zero a.data.toList b.data.toList
  unfold cmpU sameU
  rw [ByteArray.toList_eq, ByteArray.toList_eq, ← h]
  by_cases h2 : Lib.compareBytes a.data.toList b.data.toList = 0 <;> simp [h2]
theorem less_else : ∀ a b : List UInt8, Go.Op.bytesLess a b = false → a ≠ b → Go.Op.bytesLess b a = true := by
  intro a
  induction a with
  | nil => intro b h hne; cases b with
    | nil => exact absurd rfl hne
    | cons y b => simp [Go.Op.bytesLess] at h
  | cons x a ih =>
    intro b h hne
    cases b with
    | nil => rfl
    | cons y b =>
      unfold Go.Op.bytesLess at h ⊢
      simp only [Bool.or_eq_false_iff, Bool.or_eq_true, Bool.and_eq_true, decide_eq_true_eq, decide_eq_false_iff_not, beq_iff_eq] at h ⊢
      by_cases h3 : x = y
      · subst h3
        refine .inr ⟨rfl, ih b ?_ (fun e => hne (by rw [e]))⟩
        have := h.2
        simpa using this
      · exact .inl (UInt8.lt_of_le_of_ne (UInt8.not_lt.1 h.1) (fun e => h3 e.symm))
theorem lessU_else {a b : ByteArray} (h : lessU a b = false) (h2 : sameU a b = false) : lessU b a = true := by
  unfold lessU at *
  refine less_else _ _ h (fun e => ?_)
  unfold sameU at h2
  rw [e] at h2
  simp at h2
theorem lessU_trans {a b c : ByteArray} (h : lessU a b = true) (h2 : lessU b c = true) : lessU a c = true := less_trans _ _ _ h h2
theorem lessU_same {a b : ByteArray} (h : lessU a b = true) : sameU a b = false := by
  cases hs : sameU a b with
  | false => rfl
  | true => rw [less_same hs] at h; cases h
/-- Where a user's limit stands lies from i to j. -/
structure FindAt (l : List Lim) (s : ByteArray) (i j : Nat) : Prop where
  low : ∀ m, m < i → lessU (nthL l m).user s = true
  high : ∀ m, j ≤ m → m < l.length → lessU (nthL l m).user s = false
theorem FindAt.start (l : List Lim) (s : ByteArray) : FindAt l s 0 l.length := ⟨fun m hm => absurd hm (Nat.not_lt_zero _), fun m h1 h2 => by omega⟩
section
variable {l : List Lim} {s : ByteArray} {i j k : Nat}
theorem good_rise (h : goodTo l l.length = true) {m n : Nat} (hm : m < n) (hn : n < l.length) : lessU (nthL l m).user (nthL l n).user = true := by
  have := good_less h (n - m - 1) m (by omega)
  rwa [show m + (n - m - 1) + 1 = n by omega] at this
theorem FindAt.up (h : goodTo l l.length = true) (hf : FindAt l s i j) {m : Nat} (hm : m < l.length) (hl : lessU (nthL l m).user s = true) : FindAt l s (m + 1) j := by
  refine ⟨fun q hq => ?_, hf.high⟩
  by_cases h1 : q = m
  · rw [h1]; exact hl
  · exact lessU_trans (good_rise h (show q < m by omega) hm) hl
theorem FindAt.down (h : goodTo l l.length = true) (hf : FindAt l s i j) {m : Nat} (hl : lessU (nthL l m).user s = false) : FindAt l s i m := by
  refine ⟨hf.low, fun q hq hql => ?_⟩
  by_cases h1 : q = m
  · rw [h1]; exact hl
  · cases hc : lessU (nthL l q).user s with
    | false => rfl
    | true =>
      have := lessU_trans (good_rise h (show m < q by omega) hql) hc
      rw [hl] at this
      cases this
def thereL (l : List Lim) (s : ByteArray) (k : Nat) : Bool := decide (k < l.length) && sameU (nthL l k).user s
theorem there_at (hk : k < l.length) : thereL l s k = sameU (nthL l k).user s := by unfold thereL; rw [decide_eq_true hk, Bool.true_and]
theorem there_end (hk : ¬ k < l.length) : thereL l s k = false := by unfold thereL; rw [decide_eq_false hk, Bool.false_and]
theorem there_yes (h : thereL l s k = true) : k < l.length ∧ sameU (nthL l k).user s = true := by
  unfold thereL at h
  rw [Bool.and_eq_true, decide_eq_true_eq] at h
  exact h
theorem there_no (hg : goodTo l l.length = true) (hf : FindAt l s k k) (h : thereL l s k = false) {i : Nat} (hi : i < l.length) : sameU (nthL l i).user s = false := by
  rcases Nat.lt_trichotomy i k with h1 | h1 | h1
  · exact lessU_same (hf.low i h1)
  · subst h1
    rwa [there_at hi] at h
  · cases hs : sameU (nthL l i).user s with
    | false => rfl
    | true =>
      have h2 := good_rise hg h1 hi
      have h3 := hf.high k (Nat.le_refl _) (by omega)
      unfold lessU at h2 h3
      rw [same_list hs, h3] at h2
      cases h2
theorem mem_nth {y : Lim} (hy : y ∈ l) : ∃ i, i < l.length ∧ y = nthL l i := by
  obtain ⟨i, hi, rfl⟩ := List.mem_iff_getElem.1 hy
  exact ⟨i, hi, (nthL_at hi).symm⟩
theorem mem_take {y : Lim} (hy : y ∈ l.take k) : ∃ i, i < k ∧ i < l.length ∧ y = nthL l i := by
  obtain ⟨i, hi, rfl⟩ := List.mem_iff_getElem.1 hy
  rw [List.length_take] at hi
  refine ⟨i, by omega, by omega, ?_⟩
  rw [List.getElem_take, nthL_at (by omega)]
theorem mem_drop {y : Lim} (hy : y ∈ l.drop k) : ∃ i, k ≤ i ∧ i < l.length ∧ y = nthL l i := by
  obtain ⟨i, hi, rfl⟩ := List.mem_iff_getElem.1 hy
  rw [List.length_drop] at hi
  refine ⟨k + i, by omega, by omega, ?_⟩
  rw [List.getElem_drop, nthL_at (by omega)]
theorem drop_gone (hg : goodTo l l.length = true) (hf : FindAt l s k k) (h : thereL l s k = false) : dropOut l s = l := by
  unfold dropOut
  rw [List.filter_eq_self]
  intro y hy
  obtain ⟨i, hi, rfl⟩ := mem_nth hy
  rw [there_no hg hf h hi]
  rfl
theorem nth_split (hk : k < l.length) : l = l.take k ++ nthL l k :: l.drop (k + 1) := by
  rw [nthL_at hk, List.getElem_cons_drop, List.take_append_drop]
theorem drop_there (hg : goodTo l l.length = true) (hf : FindAt l s k k) (h : thereL l s k = true) : dropOut l s = l.take k ++ l.drop (k + 1) := by
  obtain ⟨hk, hs⟩ := there_yes h
  have h1 : (l.take k).filter (fun y => !sameU y.user s) = l.take k := by
    rw [List.filter_eq_self]
    intro y hy
    obtain ⟨i, hi, _, rfl⟩ := mem_take hy
    rw [lessU_same (hf.low i hi)]
    rfl
  have h2 : (l.drop (k + 1)).filter (fun y => !sameU y.user s) = l.drop (k + 1) := by
    rw [List.filter_eq_self]
    intro y hy
    obtain ⟨i, hi, hl, rfl⟩ := mem_drop hy
    cases hc : sameU (nthL l i).user s with
    | false => rfl
    | true => exact absurd (good_one hg hk hl hs hc) (by omega)
  unfold dropOut
  conv => lhs; rw [nth_split hk]
  rw [List.filter_append, h1, List.filter_cons_of_neg (by rw [hs]; decide), h2]
theorem drop_less (hk : k < l.length) : (l.take k ++ l.drop (k + 1)).length ≠ l.length := by
  rw [List.length_append, List.length_take, List.length_drop]
  omega
theorem fold_low (x : Lim) : ∀ (L acc : List Lim), (∀ y ∈ L, lessU y.user x.user = true) → L.foldl (setStep x) (acc, false) = (acc ++ L, false)
  | [], acc, _ => by simp
  | y :: L, acc, h => by
    have h1 := h y (by simp)
    have h2 : setStep x (acc, false) y = (acc ++ [y], false) := by
      unfold setStep
      rw [h1, lessU_same h1]
      rfl
    rw [List.foldl_cons, h2, fold_low x L _ (fun z hz => h z (by simp [hz]))]
    simp
theorem fold_high (x : Lim) : ∀ (L acc : List Lim), (∀ y ∈ L, sameU y.user x.user = false) → L.foldl (setStep x) (acc, true) = (acc ++ L, true)
  | [], acc, _ => by simp
  | y :: L, acc, h => by
    have h1 := h y (by simp)
    have h2 : setStep x (acc, true) y = (acc ++ [y], true) := by
      unfold setStep
      rw [h1]
      rfl
    rw [List.foldl_cons, h2, fold_high x L _ (fun z hz => h z (by simp [hz]))]
    simp
theorem set_whole (x : Lim) : setTo l x l.length = l.foldl (setStep x) ([], false) := by unfold setTo; rw [List.take_of_length_le (Nat.le_refl _)]
theorem set_take {x : Lim} (hf : FindAt l x.user k k) : (l.take k).foldl (setStep x) ([], false) = (l.take k, false) := by
  have := fold_low x (l.take k) [] (fun y hy => by
    obtain ⟨i, hi, _, rfl⟩ := mem_take hy
    exact hf.low i hi)
  simpa using this
theorem set_end {x : Lim} (hf : FindAt l x.user k k) (hk : k = l.length) : setOut l x = l ++ [x] := by
  have h := set_take hf
  rw [hk, List.take_of_length_le (Nat.le_refl _)] at h
  unfold setOut
  rw [set_whole, h]
  rfl
theorem set_mid {x : Lim} (hg : goodTo l l.length = true) (hf : FindAt l x.user k k) (hk : k < l.length) : setOut l x = l.take k ++ x :: ((if sameU (nthL l k).user x.user = true then [] else [nthL l k]) ++ l.drop (k + 1)) := by
  have h1 := hf.high k (Nat.le_refl _) hk
  have h2 : setStep x (l.take k, false) (nthL l k) = (l.take k ++ [x] ++ (if sameU (nthL l k).user x.user = true then [] else [nthL l k]), true) := by
    unfold setStep
    rw [h1]
    cases sameU (nthL l k).user x.user <;> rfl
  have h3 : (l.drop (k + 1)).foldl (setStep x) (l.take k ++ [x] ++ (if sameU (nthL l k).user x.user = true then [] else [nthL l k]), true) = (l.take k ++ [x] ++ (if sameU (nthL l k).user x.user = true then [] else [nthL l k]) ++ l.drop (k + 1), true) := by
    refine fold_high x _ _ (fun y hy => ?_)
    obtain ⟨i, hi, hl, rfl⟩ := mem_drop hy
    cases hc : sameU (nthL l i).user x.user with
    | false => rfl
    | true =>
      have h4 := good_rise hg (show k < i by omega) hl
      unfold lessU at h1 h4
      rw [same_list hc, h1] at h4
      cases h4
  have h4 : setTo l x l.length = (l.take k ++ [x] ++ (if sameU (nthL l k).user x.user = true then [] else [nthL l k]) ++ l.drop (k + 1), true) := by
    rw [set_whole]
    conv => lhs; rw [nth_split hk]
    rw [List.foldl_append, set_take hf, List.foldl_cons, h2, h3]
  unfold setOut
  rw [h4]
  simp
theorem set_there {x : Lim} (hg : goodTo l l.length = true) (hf : FindAt l x.user k k) (h : thereL l x.user k = true) : setOut l x = l.set k x := by
  obtain ⟨hk, hs⟩ := there_yes h
  rw [set_mid hg hf hk, if_pos hs, List.set_eq_take_append_cons_drop, if_pos hk]
  rfl
theorem set_new {x : Lim} (hg : goodTo l l.length = true) (hf : FindAt l x.user k k) (hk : k ≤ l.length) (h : thereL l x.user k = false) : setOut l x = l.take k ++ x :: l.drop k := by
  by_cases hk2 : k < l.length
  · rw [set_mid hg hf hk2, if_neg (by rw [there_no hg hf h hk2]; decide)]
    have e : l.drop k = nthL l k :: l.drop (k + 1) := by rw [nthL_at hk2, List.getElem_cons_drop]
    rw [e]
    rfl
  · have e : k = l.length := by omega
    rw [set_end hf e, e, List.take_of_length_le (Nat.le_refl _), List.drop_of_length_le (Nat.le_refl _)]
theorem new_len {x : Lim} (hk : k ≤ l.length) : (l.take k ++ x :: l.drop k).length = l.length + 1 := by
  rw [List.length_append, List.length_cons, List.length_take, List.length_drop]
  omega
end
/-- What a use leaves. -/
def restN (n u : Int) : Int := max (n - max u 0) 0
theorem rest_less {n u : Int} (h : 0 ≤ n) : restN n u = lessN n u := by unfold restN lessN; split <;> (try split) <;> omega
def firstU (u : List Use) (s : ByteArray) : Use := (useOf u s).getD noUse
theorem left_none {l : List Lim} {u : List Use} {s : ByteArray} (h : limOf l s = none) : leftL l u s = (100, 256) := by unfold leftL; rw [h]
theorem left_some {l : List Lim} {u : List Use} {s : ByteArray} {y : Lim} (h : limOf l s = some y) (h1 : 0 ≤ y.jobs) (h2 : 0 ≤ y.procs) : leftL l u s = (restN y.jobs (firstU u s).jobs, restN y.procs (firstU u s).procs) := by
  unfold leftL firstU
  rw [h]
  cases hu : useOf u s with
  | none =>
    dsimp only
    unfold restN
    have e1 : (noUse).jobs = 0 := rfl
    have e2 : (noUse).procs = 0 := rfl
    rw [Option.getD_none, e1, e2]
    congr 1 <;> omega
  | some z => rw [Option.getD_some, rest_less h1, rest_less h2]
end Go.Proofs.Ytgjmgcmheccdfaa.LimPlain
