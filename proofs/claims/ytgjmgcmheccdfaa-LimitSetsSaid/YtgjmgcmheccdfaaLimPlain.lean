/-
  The plain mathematics of layer 10: which limits may be, one set and dropped; how much is left; which jobs may run; the order of texts.
-/
import Derived.Test.YtgjmgcmheccdfaaApiPlain
import Derived.Test.YtgjmgcmheccdfaaJobPlain
import Derived.Lib.Hide
namespace Go.Proofs.Ytgjmgcmheccdfaa.LimPlain
open Go.RowKit Go.Proofs.Ytgjmgcmheccdfaa.ApiPlain Go.Proofs.Ytgjmgcmheccdfaa.JobPlain
/-- Texts' order. -/
def lessU (a b : ByteArray) : Bool := Go.Op.bytesLess a.toList b.toList
def sameU (a b : ByteArray) : Bool := a.toList == b.toList
theorem less_not : ∀ a : List UInt8, Go.Op.bytesLess a a = false := by
  intro a
  induction a with
  | nil => rfl
  | cons x a ih => unfold Go.Op.bytesLess; rw [ih]; simp
theorem less_trans : ∀ a b c : List UInt8, Go.Op.bytesLess a b = true → Go.Op.bytesLess b c = true → Go.Op.bytesLess a c = true := by
  intro a
  induction a with
  | nil =>
    intro b c h1 h2
    cases c with
    | nil => cases b <;> simp [Go.Op.bytesLess] at h2
    | cons z c => rfl
  | cons x a ih =>
    intro b c h1 h2
    cases b with
    | nil => simp [Go.Op.bytesLess] at h1
    | cons y b =>
      cases c with
      | nil => simp [Go.Op.bytesLess] at h2
      | cons z c =>
        unfold Go.Op.bytesLess at h1 h2 ⊢
        simp only [Bool.or_eq_true, Bool.and_eq_true, decide_eq_true_eq, beq_iff_eq] at h1 h2 ⊢
        rcases h1 with h1 | ⟨rfl, h1⟩ <;> rcases h2 with h2 | ⟨rfl, h2⟩
        · exact .inl (UInt8.lt_trans h1 h2)
        · exact .inl h1
        · exact .inl h2
        · exact .inr ⟨rfl, ih _ _ h1 h2⟩
theorem same_refl (a : ByteArray) : sameU a a = true := by unfold sameU; simp
theorem same_list {a b : ByteArray} (h : sameU a b = true) : a.toList = b.toList := by unfold sameU at h; simpa using h
theorem same_trans {a b c : ByteArray} (h1 : sameU a b = true) (h2 : sameU b c = true) : sameU a c = true := by unfold sameU; rw [same_list h1, same_list h2]; simp
theorem less_same {a b : ByteArray} (h : sameU a b = true) : lessU a b = false := by unfold lessU; rw [same_list h]; exact less_not _
def oneL (x : Lim) : Bool := nameB x.user && (decide (0 ≤ x.jobs) && (decide (x.jobs ≤ 100) && (decide (0 ≤ x.procs) && decide (x.procs ≤ 256))))
theorem oneL_iff (x : Lim) : oneL x = true ↔ nameB x.user = true ∧ 0 ≤ x.jobs ∧ x.jobs ≤ 100 ∧ 0 ≤ x.procs ∧ x.procs ≤ 256 := by
  unfold oneL
  simp only [Bool.and_eq_true, decide_eq_true_eq]
theorem oneL_ways (x : Lim) : (nameB x.user = false ∧ oneL x = false) ∨ (nameB x.user = true ∧ decide (0 ≤ x.jobs) = false ∧ oneL x = false) ∨ (nameB x.user = true ∧ decide (0 ≤ x.jobs) = true ∧ decide (x.jobs ≤ 100) = false ∧ oneL x = false) ∨
    (nameB x.user = true ∧ decide (0 ≤ x.jobs) = true ∧ decide (x.jobs ≤ 100) = true ∧ decide (0 ≤ x.procs) = false ∧ oneL x = false) ∨ (nameB x.user = true ∧ decide (0 ≤ x.jobs) = true ∧ decide (x.jobs ≤ 100) = true ∧ decide (0 ≤ x.procs) = true ∧ decide (x.procs ≤ 256) = false ∧ oneL x = false) ∨
    (nameB x.user = true ∧ decide (0 ≤ x.jobs) = true ∧ decide (x.jobs ≤ 100) = true ∧ decide (0 ≤ x.procs) = true ∧ decide (x.procs ≤ 256) = true ∧ oneL x = true) := by
  unfold oneL
  cases nameB x.user <;> cases decide (0 ≤ x.jobs) <;> cases decide (x.jobs ≤ 100) <;> cases decide (0 ≤ x.procs) <;> cases decide (x.procs ≤ 256) <;> simp
def nthL (l : List Lim) (k : Nat) : Lim := l.getD k noLim
theorem nthL_at {l : List Lim} {k : Nat} (h : k < l.length) : nthL l k = l[k] := by unfold nthL; simp [List.getD, h]
def goodAt (l : List Lim) (k : Nat) : Bool := oneL (nthL l k) && (decide (k = 0) || lessU (nthL l (k - 1)).user (nthL l k).user)
def goodTo (l : List Lim) (n : Nat) : Bool := (List.range n).all (goodAt l)
theorem good_next (l : List Lim) (n : Nat) : goodTo l (n + 1) = (goodTo l n && goodAt l n) := by unfold goodTo; rw [List.range_succ, List.all_append]; simp
theorem good_no {l : List Lim} {k n : Nat} (hk : k < n) (h : goodAt l k = false) : goodTo l n = false := by
  unfold goodTo
  rw [List.all_eq_false]
  exact ⟨k, List.mem_range.2 hk, by rw [h]; decide⟩
theorem good_at {l : List Lim} {k n : Nat} (h : goodTo l n = true) (hk : k < n) : goodAt l k = true := by
  unfold goodTo at h
  rw [List.all_eq_true] at h
  exact h k (List.mem_range.2 hk)
/-- Why limits may not be; 0: they may. -/
def checkL (l : List Lim) : Int := if 50 < l.length then 4 else if goodTo l l.length = true then 0 else 1
theorem checkL_full {l : List Lim} (h : 50 < l.length) : checkL l = 4 := by unfold checkL; rw [if_pos h]
theorem checkL_arg {l : List Lim} (h : ¬ 50 < l.length) (h2 : goodTo l l.length = false) : checkL l = 1 := by unfold checkL; rw [if_neg h, if_neg (by rw [h2]; decide)]
theorem checkL_ok {l : List Lim} (h : ¬ 50 < l.length) (h2 : goodTo l l.length = true) : checkL l = 0 := by unfold checkL; rw [if_neg h, if_pos h2]
theorem checkL_zero {l : List Lim} (h : checkL l = 0) : l.length ≤ 50 ∧ goodTo l l.length = true := by
  unfold checkL at h
  split at h
  · omega
  · split at h
    · exact ⟨by omega, by assumption⟩
    · omega
/-- The way of one round of Check. -/
theorem good_ways (l : List Lim) (k : Nat) : (oneL (nthL l k) = false ∧ Hid (goodAt l k = false)) ∨ (oneL (nthL l k) = true ∧ k = 0 ∧ Hid (goodAt l k = true)) ∨ (oneL (nthL l k) = true ∧ 0 < k ∧ Go.Op.bytesLess (nthL l (k - 1)).user.toList (nthL l k).user.toList = true ∧ Hid (goodAt l k = true)) ∨
    (oneL (nthL l k) = true ∧ 0 < k ∧ Go.Op.bytesLess (nthL l (k - 1)).user.toList (nthL l k).user.toList = false ∧ Hid (goodAt l k = false)) := by
  unfold goodAt lessU
  cases oneL (nthL l k) with
  | false => exact .inl ⟨rfl, rfl⟩
  | true =>
    by_cases h : k = 0
    · exact .inr (.inl ⟨rfl, h, by subst h; rfl⟩)
    · cases hb : Go.Op.bytesLess (nthL l (k - 1)).user.toList (nthL l k).user.toList with
      | true => exact .inr (.inr (.inl ⟨rfl, by omega, rfl, by show _ = _; simp⟩))
      | false => exact .inr (.inr (.inr ⟨rfl, by omega, rfl, by show _ = _; simp [h]⟩))
/-- Of limits that may be, users are unlike. -/
theorem good_less {l : List Lim} (h : goodTo l l.length = true) : ∀ d i, i + d + 1 < l.length → lessU (nthL l i).user (nthL l (i + d + 1)).user = true := by
  have hs : ∀ k, 0 < k → k < l.length → lessU (nthL l (k - 1)).user (nthL l k).user = true := fun k h0 hk => by
    have := good_at h hk
    unfold goodAt at this
    rw [Bool.and_eq_true, Bool.or_eq_true, decide_eq_true_eq] at this
    rcases this.2 with h1 | h1
    · omega
    · exact h1
  intro d
  induction d with
  | zero => intro i hi; exact hs (i + 1) (by omega) (by omega)
  | succ d ih =>
    intro i hi
    exact less_trans _ _ _ (ih i (by omega)) (hs (i + (d + 1) + 1) (by omega) hi)
theorem good_one {l : List Lim} (h : goodTo l l.length = true) {i k : Nat} (hi : i < l.length) (hk : k < l.length) {s : ByteArray} (h1 : sameU (nthL l i).user s = true) (h2 : sameU (nthL l k).user s = true) : i = k := by
  have h3 : (nthL l i).user.toList = (nthL l k).user.toList := (same_list h1).trans (same_list h2).symm
  rcases Nat.lt_trichotomy i k with h4 | h4 | h4
  · have := good_less h (k - i - 1) i (by omega)
    rw [show i + (k - i - 1) + 1 = k by omega] at this
    unfold lessU at this
    rw [h3, less_not] at this
    cases this
  · exact h4
  · have := good_less h (i - k - 1) k (by omega)
    rw [show k + (i - k - 1) + 1 = i by omega] at this
    unfold lessU at this
    rw [h3, less_not] at this
    cases this
theorem good_is {l : List Lim} (h : goodTo l l.length = true) {k : Nat} (hk : k < l.length) : oneL (nthL l k) = true := by
  have := good_at h hk
  unfold goodAt at this
  rw [Bool.and_eq_true] at this
  exact this.1
/-- One set: the document's way. -/
def setStep (x : Lim) (p : List Lim × Bool) (y : Lim) : List Lim × Bool :=
  ((if (!p.2 && !lessU y.user x.user) = true then p.1 ++ [x] else p.1) ++ (if (!sameU y.user x.user) = true then [y] else []), p.2 || !lessU y.user x.user)
def setTo (l : List Lim) (x : Lim) (k : Nat) : List Lim × Bool := (l.take k).foldl (setStep x) ([], false)
theorem set_next {l : List Lim} {x : Lim} {k : Nat} (hk : k < l.length) : setTo l x (k + 1) = setStep x (setTo l x k) (nthL l k) := by
  unfold setTo
  rw [List.take_succ_eq_append_getElem hk, List.foldl_append, nthL_at hk]
  rfl
theorem set_len (l : List Lim) (x : Lim) : ∀ k, (setTo l x k).1.length ≤ 2 * k := by
  intro k
  induction k with
  | zero => simp [setTo]
  | succ k ih =>
    by_cases hk : k < l.length
    · rw [set_next hk]
      unfold setStep
      rw [List.length_append]
      have a1 : (if (!(setTo l x k).2 && !lessU (nthL l k).user x.user) = true then (setTo l x k).1 ++ [x] else (setTo l x k).1).length ≤ (setTo l x k).1.length + 1 := by split <;> simp
      have a2 : (if (!sameU (nthL l k).user x.user) = true then [nthL l k] else []).length ≤ 1 := by split <;> simp
      omega
    · have e : setTo l x (k + 1) = setTo l x k := by unfold setTo; rw [List.take_of_length_le (by omega), List.take_of_length_le (by omega)]
      rw [e]; omega
def setOut (l : List Lim) (x : Lim) : List Lim := if (setTo l x l.length).2 = true then (setTo l x l.length).1 else (setTo l x l.length).1 ++ [x]
def setE (l : List Lim) (x : Lim) : Int := if checkL l ≠ 0 then checkL l else if oneL x = false then 1 else if 50 < (setOut l x).length then 4 else 0
def setR (l : List Lim) (x : Lim) : List Lim := if setE l x = 0 then setOut l x else []
/-- One dropped. -/
def dropOut (l : List Lim) (s : ByteArray) : List Lim := l.filter fun y => !sameU y.user s
def dropE (l : List Lim) (s : ByteArray) : Int := if checkL l ≠ 0 then checkL l else if (dropOut l s).length = l.length then 3 else 0
def dropR (l : List Lim) (s : ByteArray) : List Lim := if dropE l s = 0 then dropOut l s else []
theorem drop_take (l : List Lim) (s : ByteArray) {k : Nat} (hk : k < l.length) : dropOut (l.take (k + 1)) s = dropOut (l.take k) s ++ if sameU (nthL l k).user s = true then [] else [nthL l k] := by
  unfold dropOut
  rw [List.take_succ_eq_append_getElem hk, List.filter_append, nthL_at hk]
  congr 1
  cases h : sameU l[k].user s <;> simp [h]
theorem drop_len (l : List Lim) (s : ByteArray) : (dropOut l s).length ≤ l.length := List.length_filter_le _ _
/-- How much is left. -/
def lessN (n u : Int) : Int := if u < 0 then n else if n < u then 0 else n - u
def useOf (u : List Use) (s : ByteArray) : Option Use := u.find? fun z => sameU z.user s
def limOf (l : List Lim) (s : ByteArray) : Option Lim := l.find? fun y => sameU y.user s
def leftL (l : List Lim) (u : List Use) (s : ByteArray) : Int × Int := match limOf l s with
  | none => (100, 256)
  | some y => match useOf u s with
    | none => (y.jobs, y.procs)
    | some z => (lessN y.jobs z.jobs, lessN y.procs z.procs)
theorem lessN_le {n u : Int} (h : 0 ≤ n) : 0 ≤ lessN n u ∧ lessN n u ≤ n := by unfold lessN; split <;> (try split) <;> omega
def mayM (l : List Lim) (u : List Use) (j : Jb) : Bool := decide (checkL l = 0) && (mayJ j && (decide (0 < (leftL l u j.user).1) && decide (j.width ≤ (leftL l u j.user).2)))
theorem limOf_good {l : List Lim} (h : goodTo l l.length = true) {s : ByteArray} {y : Lim} (hy : limOf l s = some y) : oneL y = true := by
  have hm := List.mem_of_find?_eq_some hy
  obtain ⟨i, hi, rfl⟩ := List.mem_iff_getElem.1 hm
  rw [← nthL_at hi]
  exact good_is h hi
theorem may_more {l : List Lim} {u : List Use} {j : Jb} (h : mayM l u j = true) : mayM l [] j = true := by
  unfold mayM at *
  simp only [Bool.and_eq_true, decide_eq_true_eq] at *
  obtain ⟨h1, h2, h3, h4⟩ := h
  have hg := (checkL_zero h1).2
  refine ⟨h1, h2, ?_⟩
  unfold leftL at *
  cases hy : limOf l j.user with
  | none => rw [hy] at h3 h4; exact ⟨h3, h4⟩
  | some y =>
    rw [hy] at h3 h4
    have hn : useOf [] j.user = none := rfl
    rw [hn]
    obtain ⟨_, a1, a2, a3, a4⟩ := (oneL_iff y).1 (limOf_good hg hy)
    cases hz : useOf u j.user with
    | none => rw [hz] at h3 h4; exact ⟨h3, h4⟩
    | some z =>
      rw [hz] at h3 h4
      dsimp only at h3 h4 ⊢
      have := (lessN_le (u := z.jobs) a1).2
      have := (lessN_le (u := z.procs) a3).2
      omega
theorem left_range {l : List Lim} (h : goodTo l l.length = true) (u : List Use) (s : ByteArray) : 0 ≤ (leftL l u s).1 ∧ (leftL l u s).1 ≤ 100 ∧ 0 ≤ (leftL l u s).2 ∧ (leftL l u s).2 ≤ 256 := by
  unfold leftL
  cases hy : limOf l s with
  | none => dsimp only; omega
  | some y =>
    obtain ⟨_, a1, a2, a3, a4⟩ := (oneL_iff y).1 (limOf_good h hy)
    cases hz : useOf u s with
    | none => exact ⟨a1, a2, a3, a4⟩
    | some z =>
      have b1 := lessN_le (u := z.jobs) a1
      have b2 := lessN_le (u := z.procs) a3
      dsimp only
      omega
end Go.Proofs.Ytgjmgcmheccdfaa.LimPlain
