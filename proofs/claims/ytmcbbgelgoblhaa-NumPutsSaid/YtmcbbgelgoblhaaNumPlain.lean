/-
  The plain mathematics of numbers as digits: what a list of bytes is worth, which lists are a number's digits, and that a number's digits are just one such list. No program is spoken of here.
-/
import Derived.Below
namespace Go.Proofs.Ytmcbbgelgoblhaa.NumPlain

def isDig (c : UInt8) : Bool := decide (48 ≤ c.toNat) && decide (c.toNat ≤ 57)
def val (l : List UInt8) : Nat := l.foldl (fun n c => 10 * n + (c.toNat - 48)) 0
def form (l : List UInt8) : Prop := l ≠ [] ∧ (∀ c ∈ l, isDig c = true) ∧ (1 < l.length → l.head? ≠ some 48)
def lim : Nat := 1125899906842624
def ok (l : List UInt8) : Prop := form l ∧ val l ≤ lim
def dByte (n : Nat) : UInt8 := UInt8.ofNat (48 + n % 10)
def txt (n : Nat) : List UInt8 := if n < 10 then [dByte n] else txt (n / 10) ++ [dByte n]
  termination_by n
  decreasing_by omega

theorem val_nil : val [] = 0 := rfl
theorem val_snoc (l : List UInt8) (c : UInt8) : val (l ++ [c]) = 10 * val l + (c.toNat - 48) := by simp [val]
theorem val_one (c : UInt8) : val [c] = c.toNat - 48 := by simp [val]

theorem dig_bounds {c : UInt8} (h : isDig c = true) : 48 ≤ c.toNat ∧ c.toNat ≤ 57 := by simpa [isDig] using h
theorem dig_of {c : UInt8} (h1 : 48 ≤ c.toNat) (h2 : c.toNat ≤ 57) : isDig c = true := by simp [isDig, h1, h2]

theorem dByte_nat (n : Nat) : (dByte n).toNat = 48 + n % 10 := by unfold dByte; rw [UInt8.toNat_ofNat']; omega
theorem dByte_dig (n : Nat) : isDig (dByte n) = true := dig_of (by rw [dByte_nat]; omega) (by rw [dByte_nat]; omega)

theorem eq_of_toNat {a b : UInt8} (h : a.toNat = b.toNat) : a = b := UInt8.toNat_inj.1 h

theorem txt_small {n : Nat} (h : n < 10) : txt n = [dByte n] := by rw [txt, if_pos h]
theorem txt_big {n : Nat} (h : ¬ n < 10) : txt n = txt (n / 10) ++ [dByte n] := by rw [txt, if_neg h]

theorem txt_ne (n : Nat) : txt n ≠ [] := by
  by_cases h : n < 10
  · rw [txt_small h]; simp
  · rw [txt_big h]; simp

theorem txt_dig (n : Nat) : ∀ c ∈ txt n, isDig c = true := by
  induction n using Nat.strongRecOn with
  | ind n ih =>
    by_cases h : n < 10
    · rw [txt_small h]; intro c hc; simp at hc; subst hc; exact dByte_dig n
    · rw [txt_big h]; intro c hc
      rcases List.mem_append.1 hc with hc | hc
      · exact ih (n / 10) (by omega) c hc
      · simp at hc; subst hc; exact dByte_dig n

theorem txt_val (n : Nat) : val (txt n) = n := by
  induction n using Nat.strongRecOn with
  | ind n ih =>
    by_cases h : n < 10
    · rw [txt_small h, val_one, dByte_nat]; omega
    · rw [txt_big h, val_snoc, ih (n / 10) (by omega), dByte_nat]; omega

theorem head_snoc {l : List UInt8} (h : l ≠ []) (c : UInt8) : (l ++ [c]).head? = l.head? := by
  cases l with
  | nil => exact absurd rfl h
  | cons a r => rfl

theorem txt_head (n : Nat) (h : 0 < n) : (txt n).head? ≠ some 48 := by
  induction n using Nat.strongRecOn with
  | ind n ih =>
    by_cases h1 : n < 10
    · rw [txt_small h1]; intro e; simp at e
      have := dByte_nat n; rw [e] at this; simp at this; omega
    · rw [txt_big h1, head_snoc (txt_ne _)]; exact ih (n / 10) (by omega) (by omega)

theorem txt_form (n : Nat) : form (txt n) := by
  refine ⟨txt_ne n, txt_dig n, fun hl => ?_⟩
  by_cases h : n < 10
  · rw [txt_small h] at hl; simp at hl
  · exact txt_head n (by omega)

theorem txt_ok {n : Nat} (h : n ≤ lim) : ok (txt n) := ⟨txt_form n, by rw [txt_val]; exact h⟩

/-- A number's digits are as many as one more than its tenth's. -/
theorem txt_len_lim {n : Nat} : ∀ k : Nat, n < 10 ^ k → 0 < k → (txt n).length ≤ k := by
  induction n using Nat.strongRecOn with
  | ind n ih =>
    intro k hk h0
    by_cases h : n < 10
    · rw [txt_small h]; simp; omega
    · rw [txt_big h]
      cases k with
      | zero => omega
      | succ k =>
        have h2 : n / 10 < 10 ^ k := by rw [Nat.pow_succ] at hk; omega
        have h3 : 0 < k := by
          cases k with
          | zero => simp at hk; omega
          | succ k => omega
        have := ih (n / 10) (by omega) k h2 h3
        simp; omega

theorem txt_len {n : Nat} (h : n ≤ lim) : (txt n).length ≤ 16 := txt_len_lim 16 (by unfold lim at h; omega) (by omega)

theorem form_init {l : List UInt8} {c : UInt8} (h : form (l ++ [c])) (hl : l ≠ []) : form l := by
  obtain ⟨_, h2, h3⟩ := h
  refine ⟨hl, fun x hx => h2 x (List.mem_append_left _ hx), fun hlen => ?_⟩
  have := h3 (by simp; omega)
  rwa [head_snoc hl] at this

theorem head_of_form {l : List UInt8} {c : UInt8} (h : form (l ++ [c])) (hl : l ≠ []) : l.head? ≠ some 48 := by
  obtain ⟨_, _, h3⟩ := h
  have h4 : 1 < (l ++ [c]).length := by
    have := List.length_pos_iff.2 hl
    simp; omega
  have := h3 h4
  rwa [head_snoc hl] at this

theorem val_foldl_mono (l : List UInt8) : ∀ n : Nat, n ≤ l.foldl (fun n c => 10 * n + (c.toNat - 48)) n := by
  induction l with
  | nil => intro n; exact Nat.le_refl _
  | cons a r ih => intro n; exact Nat.le_trans (by omega) (ih (10 * n + (a.toNat - 48)))

theorem val_pos {l : List UInt8} (hd : ∀ c ∈ l, isDig c = true) (hl : l ≠ []) (hh : l.head? ≠ some 48) : 0 < val l := by
  cases l with
  | nil => exact absurd rfl hl
  | cons a r =>
    have h1 := dig_bounds (hd a (by simp))
    have h2 : a.toNat ≠ 48 := fun e => hh (by rw [List.head?_cons]; exact congrArg some (eq_of_toNat e))
    have := val_foldl_mono r (10 * 0 + (a.toNat - 48))
    unfold val
    rw [List.foldl_cons]
    omega

/-- Digits without a 0 ahead of others are the digits of what they are worth. -/
theorem txt_of_form : ∀ (k : Nat) (l : List UInt8), l.length = k → form l → txt (val l) = l := by
  intro k
  induction k with
  | zero => intro l hl hf; exact absurd (List.eq_nil_of_length_eq_zero hl) hf.1
  | succ k ih =>
    intro l hl hf
    have hs : l = l.dropLast ++ [l.getLast hf.1] := (List.dropLast_concat_getLast hf.1).symm
    generalize l.dropLast = q at hs
    generalize l.getLast hf.1 = c at hs
    subst hs
    have hc := dig_bounds (hf.2.1 c (by simp))
    by_cases hq : q = []
    · subst hq
      simp only [List.nil_append]
      rw [val_one, txt_small (by omega)]
      congr 1
      apply eq_of_toNat
      rw [dByte_nat]; omega
    · have hfq := form_init hf hq
      have hp := val_pos hfq.2.1 hq (head_of_form hf hq)
      rw [val_snoc, txt_big (by omega)]
      have e1 : (10 * val q + (c.toNat - 48)) / 10 = val q := by omega
      rw [e1, ih q (by simpa using hl) hfq]
      congr 2
      apply eq_of_toNat
      rw [dByte_nat]; omega

theorem txt_val_of {l : List UInt8} (h : form l) : txt (val l) = l := txt_of_form _ l rfl h

theorem ok_init {l : List UInt8} {c : UInt8} (h : ok (l ++ [c])) (hl : l ≠ []) : ok l :=
  ⟨form_init h.1 hl, by have := h.2; rw [val_snoc] at this; omega⟩

theorem take_snoc (l : List UInt8) (k : Nat) (h : k < l.length) : l.take (k + 1) = l.take k ++ [l[k]] := by
  rw [List.take_succ_eq_append_getElem h]

theorem take_ne {l : List UInt8} {k : Nat} (h0 : 0 < k) (h : k ≤ l.length) : l.take k ≠ [] := by
  intro e
  have := congrArg List.length e
  simp at this
  have : l.length ≠ 0 := by omega
  rcases ‹k = 0 ∨ l = []› with h | h
  · omega
  · exact this (by rw [h]; rfl)

theorem ok_take {l : List UInt8} {k : Nat} : ∀ d : Nat, 0 < k → k + d ≤ l.length → ok (l.take (k + d)) → ok (l.take k) := by
  intro d
  induction d with
  | zero => intro _ _ h; exact h
  | succ d ih =>
    intro h0 hl h
    have e := take_snoc l (k + d) (by omega)
    rw [show k + (d + 1) = k + d + 1 from by omega, e] at h
    exact ih h0 (by omega) (ok_init h (take_ne (by omega) (by omega)))

theorem ok_len {l : List UInt8} (h : ok l) : l.length ≤ 16 := by
  have := txt_len (n := val l) h.2
  rwa [txt_val_of h.1] at this

/-- How many bytes at a list's beginning are a number's digits, as many as may be. -/
def Upto (l : List UInt8) (k : Nat) : Prop := k ≤ l.length ∧ (k = 0 ∨ ok (l.take k)) ∧ (k < l.length → ¬ ok (l.take (k + 1)))
def Best (l : List UInt8) (k : Nat) : Prop := k ≤ l.length ∧ (k = 0 ∨ ok (l.take k)) ∧ ∀ j, k < j → j ≤ l.length → j ≤ 16 → ¬ ok (l.take j)

theorem upto_best {l : List UInt8} {k j : Nat} (h : Upto l k) (g : Best l j) : k = j := by
  obtain ⟨h1, h2, h3⟩ := h
  obtain ⟨g1, g2, g3⟩ := g
  by_cases hlt : k < j
  · exfalso
    rcases g2 with g2 | g2
    · omega
    · obtain ⟨d, rfl⟩ : ∃ d, j = k + 1 + d := ⟨j - (k + 1), by omega⟩
      exact h3 (by omega) (ok_take d (by omega) g1 g2)
  · by_cases hgt : j < k
    · exfalso
      rcases h2 with h2 | h2
      · omega
      · have := ok_len h2
        rw [List.length_take] at this
        exact g3 k hgt h1 (by omega) h2
    · omega

/-- Where all is digits, what is left is nothing just if they are a number's. -/
theorem upto_all {l : List UInt8} {k : Nat} (h : Upto l k) (hf : form l) : (k = l.length ↔ val l ≤ lim) := by
  obtain ⟨h1, h2, h3⟩ := h
  constructor
  · intro e
    rcases h2 with h2 | h2
    · exact absurd (List.eq_nil_of_length_eq_zero (by omega)) hf.1
    · rw [e, List.take_length] at h2; exact h2.2
  · intro hv
    by_cases hlt : k < l.length
    · exfalso
      obtain ⟨d, hd⟩ : ∃ d, l.length = k + 1 + d := ⟨l.length - (k + 1), by omega⟩
      refine h3 hlt (ok_take d (by omega) (by omega) ?_)
      rw [← hd, List.take_length]
      exact ⟨hf, hv⟩
    · omega

/-- Digits without a 0 ahead of others, more than 16: above the greatest number. -/
theorem val_long {l : List UInt8} (hf : form l) (h : 16 < l.length) : lim < val l := by
  by_cases hv : val l ≤ lim
  · have := ok_len ⟨hf, hv⟩; omega
  · omega

theorem val_bound (l : List UInt8) (hd : ∀ c ∈ l, isDig c = true) : val l < 10 ^ l.length := by
  suffices h : ∀ (k : Nat) (l : List UInt8), l.length = k → (∀ c ∈ l, isDig c = true) → val l < 10 ^ k from h _ l rfl hd
  intro k
  induction k with
  | zero => intro l hl _; rw [List.eq_nil_of_length_eq_zero hl]; simp [val]
  | succ k ih =>
    intro l hl hd
    have hne : l ≠ [] := fun e => by rw [e] at hl; simp at hl
    have hs : l = l.dropLast ++ [l.getLast hne] := (List.dropLast_concat_getLast hne).symm
    generalize l.dropLast = q at hs
    generalize l.getLast hne = c at hs
    subst hs
    have hc := dig_bounds (hd c (by simp))
    have := ih q (by simpa using hl) (fun x hx => hd x (List.mem_append_left _ hx))
    rw [val_snoc, Nat.pow_succ]; omega

theorem pow_mono_le {a b : Nat} (h : a ≤ b) : 10 ^ a ≤ 10 ^ b := Nat.pow_le_pow_right (by omega) h

/-- What stands ahead of the last digit that has been laid. -/
def preL (m : Nat) : List UInt8 := if m < 10 then [] else txt (m / 10)
theorem pre_start (m : Nat) : txt m = preL m ++ [dByte m] := by
  unfold preL
  by_cases h : m < 10
  · rw [if_pos h, txt_small h]; rfl
  · rw [if_neg h, txt_big h]
theorem pre_step {m : Nat} (h : 10 ≤ m) (l : List UInt8) : preL m ++ l = preL (m / 10) ++ (dByte (m / 10) :: l) := by
  have e : preL m = txt (m / 10) := by unfold preL; rw [if_neg (by omega)]
  rw [e, pre_start (m / 10)]; simp
theorem pre_end {m : Nat} (h : m < 10) : preL m = [] := by unfold preL; rw [if_pos h]

/-- What stands ahead of the digits that have been laid, where q is what is left of the number. -/
def aheadL (q : Nat) : List UInt8 := if q = 0 then [] else txt q
theorem aheadL_start (n : Nat) : txt n = aheadL (n / 10) ++ [dByte n] := by
  unfold aheadL
  by_cases h : n < 10
  · rw [if_pos (by omega), txt_small h]; rfl
  · rw [if_neg (by omega), txt_big h]
theorem aheadL_step {q : Nat} (h : 0 < q) (l : List UInt8) : aheadL q ++ l = aheadL (q / 10) ++ (dByte q :: l) := by
  have e : aheadL q = txt q := by unfold aheadL; rw [if_neg (by omega)]
  rw [e, aheadL_start q]; simp
theorem aheadL_end : aheadL 0 = [] := by unfold aheadL; rw [if_pos rfl]
theorem aheadL_len {q : Nat} (h : 0 < q) : 1 ≤ (aheadL q).length := by
  unfold aheadL; rw [if_neg (by omega)]
  exact List.length_pos_iff.2 (txt_ne q)

/-- Blanks. -/
def blanks (k : Nat) : List UInt8 := List.replicate k 32
theorem blanks_succ (k : Nat) (l : List UInt8) : 32 :: (blanks k ++ l) = blanks (k + 1) ++ l := rfl

end Go.Proofs.Ytmcbbgelgoblhaa.NumPlain
