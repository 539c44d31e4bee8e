/-
  The plain mathematics of layer 2: numbers as digits of 16 bits, the lowest first; what a column's step leaves; and a quotient's digit by trial. No program is spoken of here.
-/
import Derived.Below
namespace Go.Proofs.Ytedpkphbpkkhbaa.SatPlain

/-- What digits are worth. -/
def dval : List Nat → Nat
  | [] => 0
  | d :: l => d + 65536 * dval l
/-- Each is a digit. -/
def Ds (l : List Nat) : Prop := ∀ d ∈ l, d < 65536
/-- One column's worth. -/
def pw (k : Nat) : Nat := 65536 ^ k

theorem pw_zero : pw 0 = 1 := rfl
theorem pw_succ (k : Nat) : pw (k + 1) = 65536 * pw k := by unfold pw; rw [Nat.pow_succ, Nat.mul_comm]
theorem pw_pos (k : Nat) : 0 < pw k := Nat.pow_pos (by omega)
theorem pw_add (i k : Nat) : pw (i + k) = pw i * pw k := Nat.pow_add 65536 i k

theorem dval_nil : dval [] = 0 := rfl
theorem dval_append (l m : List Nat) : dval (l ++ m) = dval l + pw l.length * dval m := by
  induction l with
  | nil => simp [dval, pw]
  | cons d l ih =>
    simp only [List.cons_append, dval, ih, List.length_cons, pw_succ, Nat.mul_add, Nat.mul_assoc]
    omega
theorem dval_snoc (l : List Nat) (d : Nat) : dval (l ++ [d]) = dval l + pw l.length * d := by
  rw [dval_append]; simp [dval]
theorem dval_lt {l : List Nat} (h : Ds l) : dval l < pw l.length := by
  induction l with
  | nil => simp [dval, pw]
  | cons d l ih =>
    have h1 := h d (by simp)
    have h2 := ih (fun x hx => h x (by simp [hx]))
    simp only [dval, List.length_cons, pw_succ]
    omega
theorem dval_take_succ (l : List Nat) (k : Nat) (h : k < l.length) : dval (l.take (k + 1)) = dval (l.take k) + pw k * l[k] := by
  rw [List.take_succ_eq_append_getElem h, dval_snoc, List.length_take, Nat.min_eq_left (by omega)]
theorem dval_take_getD (l : List Nat) (k : Nat) : dval (l.take (k + 1)) = dval (l.take k) + pw k * l.getD k 0 := by
  by_cases h : k < l.length
  · rw [dval_take_succ l k h]; simp [List.getD, h]
  · rw [List.take_of_length_le (by omega), List.take_of_length_le (by omega)]
    simp [List.getD, h]
theorem dval_drop (l : List Nat) (k : Nat) : dval (l.drop k) = l.getD k 0 + 65536 * dval (l.drop (k + 1)) := by
  by_cases h : k < l.length
  · rw [List.drop_eq_getElem_cons h]
    simp [dval, List.getD, h]
  · rw [List.drop_of_length_le (by omega), List.drop_of_length_le (by omega)]
    simp [dval, List.getD, h]
theorem dval_set {l : List Nat} {i v : Nat} (h : i < l.length) : dval (l.set i v) + pw i * l[i] = dval l + pw i * v := by
  induction l generalizing i with
  | nil => simp at h
  | cons d l ih =>
    cases i with
    | zero => simp [dval, pw]; omega
    | succ i =>
      have := ih (i := i) (by simpa using h)
      simp only [List.set_cons_succ, dval, List.getElem_cons_succ, pw_succ, Nat.mul_assoc]
      omega
theorem Ds.set {l : List Nat} (h : Ds l) {v : Nat} (hv : v < 65536) (i : Nat) : Ds (l.set i v) := fun d hd => by
  rcases List.mem_or_eq_of_mem_set hd with hd | rfl
  · exact h d hd
  · exact hv
theorem Ds.at {l : List Nat} (h : Ds l) {i : Nat} (hi : i < l.length) : l[i] < 65536 := h _ (List.getElem_mem hi)
theorem Ds.getD {l : List Nat} (h : Ds l) (i : Nat) : l.getD i 0 < 65536 := by
  by_cases hi : i < l.length
  · simp only [List.getD, List.getElem?_eq_getElem hi, Option.getD_some]; exact h.at hi
  · simp [List.getD, hi]
theorem Ds.snoc {l : List Nat} (h : Ds l) {d : Nat} (hd : d < 65536) : Ds (l ++ [d]) := fun x hx => by
  rcases List.mem_append.1 hx with hx | hx
  · exact h x hx
  · simp at hx; omega

/-- Comparing from the top: as far as the columns from k on are the same. -/
def Same (a b : List Nat) (k : Nat) : Prop := dval (a.drop k) = dval (b.drop k)
theorem Same.top (a b : List Nat) : Same a b (max a.length b.length) := by
  unfold Same
  rw [List.drop_of_length_le (by omega), List.drop_of_length_le (by omega)]
theorem Same.step {a b : List Nat} {k : Nat} (h : Same a b (k + 1)) (he : a.getD k 0 = b.getD k 0) : Same a b k := by
  unfold Same at h ⊢
  rw [dval_drop a k, dval_drop b k, h, he]
theorem Same.all {a b : List Nat} (h : Same a b 0) : dval a = dval b := by simpa [Same] using h
theorem less_down {a b : List Nat} (ha : Ds a) : ∀ {k : Nat}, dval (a.drop k) < dval (b.drop k) → dval a < dval b := by
  intro k
  induction k with
  | zero => intro h; simpa using h
  | succ k ih =>
    intro h
    refine ih ?_
    rw [dval_drop a k, dval_drop b k]
    have := ha.getD k
    omega
theorem Same.less {a b : List Nat} {k : Nat} (h : Same a b (k + 1)) (ha : Ds a) (hlt : a.getD k 0 < b.getD k 0) : dval a < dval b := by
  refine less_down ha (k := k) ?_
  unfold Same at h
  rw [dval_drop a k, dval_drop b k, h]
  omega
theorem Same.symm {a b : List Nat} {k : Nat} (h : Same a b k) : Same b a k := by unfold Same at *; exact h.symm

/-- How two numbers compare. -/
def cmpI (a b : Nat) : Int := if a < b then -1 else if a = b then 0 else 1
theorem cmpI_lt {a b : Nat} (h : a < b) : cmpI a b = -1 := by unfold cmpI; rw [if_pos h]
theorem cmpI_gt {a b : Nat} (h : b < a) : cmpI a b = 1 := by unfold cmpI; rw [if_neg (by omega), if_neg (by omega)]
theorem cmpI_eq {a b : Nat} (h : a = b) : cmpI a b = 0 := by unfold cmpI; rw [if_neg (by omega), if_pos h]
theorem cmpI_range (a b : Nat) : -1 ≤ cmpI a b ∧ cmpI a b ≤ 1 := by unfold cmpI; split <;> (try split) <;> omega
theorem cmpI_le {a b : Nat} : cmpI a b ≤ 0 ↔ a ≤ b := by unfold cmpI; split <;> (try split) <;> omega
theorem cmpI_neg (a b : Nat) : -cmpI a b = cmpI b a := by
  rcases Nat.lt_trichotomy a b with h | h | h
  · rw [cmpI_lt h, cmpI_gt h]; rfl
  · rw [cmpI_eq h, cmpI_eq h.symm]; rfl
  · rw [cmpI_gt h, cmpI_lt h]

theorem cmp_cases (x y : Nat) : (x < y) ∨ (¬ x < y ∧ y < x) ∨ (¬ x < y ∧ ¬ y < x ∧ x = y) := by omega

/-- A number's five digits. -/
def dg (n : Nat) : List Nat := [n % 65536, n / 65536 % 65536, n / 4294967296 % 65536, n / 281474976710656, 0]
theorem dg_len (n : Nat) : (dg n).length = 5 := rfl
theorem dg_val (n : Nat) : dval (dg n) = n := by simp only [dg, dval]; omega
theorem dg_ds {n : Nat} (h : n < 18446744073709551616) : Ds (dg n) := by
  intro d hd
  simp only [dg, List.mem_cons, List.not_mem_nil, or_false] at hd
  omega

/-- Where the product stands: rows up to i are in, and of row i the columns up to k. -/
def MulRow (a b out : List Nat) (i k carry : Nat) : Prop :=
  out.length = a.length + b.length ∧ Ds out ∧ carry < 65536 ∧ dval out + pw (i + k) * carry = dval (a.take i) * dval b + pw i * (a.getD i 0 * dval (b.take k)) ∧ ∀ j, i + b.length ≤ j → out.getD j 0 = 0
def MulRows (a b out : List Nat) (i : Nat) : Prop :=
  out.length = a.length + b.length ∧ Ds out ∧ dval out = dval (a.take i) * dval b ∧ ∀ j, i + b.length ≤ j → out.getD j 0 = 0
theorem getD_replicate (n j : Nat) : (List.replicate n 0).getD j 0 = 0 := by
  by_cases h : j < n
  · simp [List.getD, h]
  · simp [List.getD, h]
theorem dval_zeros (n : Nat) : dval (List.replicate n 0) = 0 := by
  induction n with
  | zero => rfl
  | succ n ih => rw [List.replicate_succ, dval, ih]
theorem MulRows.start (a b : List Nat) : MulRows a b (List.replicate (a.length + b.length) 0) 0 :=
  ⟨by simp, fun d hd => by have := List.eq_of_mem_replicate hd; omega, by rw [dval_zeros]; simp [dval], fun j _ => getD_replicate _ j⟩
theorem MulRows.row {a b out : List Nat} {i : Nat} (h : MulRows a b out i) : MulRow a b out i 0 0 :=
  ⟨h.1, h.2.1, by omega, by rw [h.2.2.1]; simp [dval], h.2.2.2⟩
theorem col_le {x y : Nat} (hx : x < 65536) (hy : y < 65536) : x * y ≤ 4294836225 := Nat.mul_le_mul (show x ≤ 65535 by omega) (show y ≤ 65535 by omega)
theorem MulRow.bound {a b out : List Nat} {i k c : Nat} (h : MulRow a b out i k c) (ha : Ds a) (hb : Ds b) : out.getD (i + k) 0 + a.getD i 0 * b.getD k 0 + c ≤ 4294967295 := by
  have h1 := h.2.1.getD (i + k)
  have h2 := col_le (ha.getD i) (hb.getD k)
  have h3 := h.2.2.1
  omega
theorem digit_set_ne {l : List Nat} {i j v : Nat} (h : i ≠ j) : (l.set i v).getD j 0 = l.getD j 0 := by
  simp [List.getD, List.getElem?_set_ne h]
theorem MulRow.next {a b out : List Nat} {i k c : Nat} (h : MulRow a b out i k c) (ha : Ds a) (hb : Ds b) (hi : i < a.length) (hk : k < b.length) :
    MulRow a b (out.set (i + k) ((out.getD (i + k) 0 + a.getD i 0 * b.getD k 0 + c) % 65536)) i (k + 1) ((out.getD (i + k) 0 + a.getD i 0 * b.getD k 0 + c) / 65536) := by
  have hbd := h.bound ha hb
  obtain ⟨h1, h2, h3, h4, h5⟩ := h
  have hlt : i + k < out.length := by omega
  refine ⟨by simpa using h1, h2.set (by omega) _, by omega, ?_, fun j hj => by rw [digit_set_ne (by omega)]; exact h5 j hj⟩
  have hs := dval_set (v := (out.getD (i + k) 0 + a.getD i 0 * b.getD k 0 + c) % 65536) hlt
  have hg : out.getD (i + k) 0 = out[i + k] := by simp [List.getD, hlt]
  rw [hg] at hs hbd ⊢
  generalize out[i + k] = o at *
  rw [dval_take_getD b k]
  generalize hx : a.getD i 0 = x at *
  generalize hy : b.getD k 0 = y at *
  generalize hn : o + x * y + c = n at *
  have e1 : pw (i + (k + 1)) = 65536 * pw (i + k) := by rw [← Nat.add_assoc, pw_succ]
  have e2 : pw i * (x * (dval (b.take k) + pw k * y)) = pw i * (x * dval (b.take k)) + pw (i + k) * (x * y) := by
    rw [pw_add, Nat.mul_add, Nat.mul_add, Nat.mul_left_comm x (pw k) y, Nat.mul_assoc (pw i)]
  rw [e1, e2, ← Nat.add_assoc, ← h4]
  have e3 : pw (i + k) * n = pw (i + k) * (n % 65536) + 65536 * pw (i + k) * (n / 65536) := by
    rw [Nat.mul_comm 65536, Nat.mul_assoc, ← Nat.mul_add, Nat.mod_add_div]
  have e4 : pw (i + k) * n = pw (i + k) * o + pw (i + k) * (x * y) + pw (i + k) * c := by rw [← hn, Nat.mul_add, Nat.mul_add]
  omega
theorem MulRow.done {a b out : List Nat} {i c : Nat} (h : MulRow a b out i b.length c) (hi : i < a.length) : MulRows a b (out.set (i + b.length) (out.getD (i + b.length) 0 + c)) (i + 1) := by
  obtain ⟨h1, h2, h3, h4, h5⟩ := h
  have hlt : i + b.length < out.length := by omega
  have h0 := h5 (i + b.length) (Nat.le_refl _)
  rw [h0, Nat.zero_add]
  refine ⟨by simpa using h1, h2.set h3 _, ?_, fun j hj => by rw [digit_set_ne (by omega)]; exact h5 j (by omega)⟩
  have hs := dval_set (v := c) hlt
  have hg : out.getD (i + b.length) 0 = out[i + b.length] := by simp [List.getD, hlt]
  rw [hg] at h0
  rw [h0, Nat.mul_zero, Nat.add_zero] at hs
  rw [hs, h4, dval_take_getD a i, List.take_length, Nat.add_mul, Nat.mul_assoc]
theorem MulRows.all {a b out : List Nat} (h : MulRows a b out a.length) : dval out = dval a * dval b := by
  rw [h.2.2.1, List.take_length]

/-- Where the sum stands: the columns up to k are in. -/
def AddUp (a b out : List Nat) (k carry : Nat) : Prop :=
  out.length = k ∧ Ds out ∧ carry ≤ 1 ∧ dval out + pw k * carry = dval (a.take k) + dval (b.take k)
theorem AddUp.start (a b : List Nat) : AddUp a b [] 0 0 := ⟨rfl, fun _ h => by simp at h, by omega, by simp [dval]⟩
theorem AddUp.next {a b out : List Nat} {k c : Nat} (h : AddUp a b out k c) (ha : Ds a) (hb : Ds b) :
    AddUp a b (out ++ [(c + a.getD k 0 + b.getD k 0) % 65536]) (k + 1) ((c + a.getD k 0 + b.getD k 0) / 65536) := by
  obtain ⟨h1, h2, h3, h4⟩ := h
  have hx := ha.getD k
  have hy := hb.getD k
  refine ⟨by simp [h1], h2.snoc (by omega), by omega, ?_⟩
  rw [dval_snoc, h1, pw_succ, dval_take_getD a k, dval_take_getD b k]
  generalize a.getD k 0 = x at *
  generalize b.getD k 0 = y at *
  generalize hn : c + x + y = n at *
  have e3 : pw k * n = pw k * (n % 65536) + 65536 * pw k * (n / 65536) := by
    rw [Nat.mul_comm 65536, Nat.mul_assoc, ← Nat.mul_add, Nat.mod_add_div]
  have e4 : pw k * n = pw k * c + pw k * x + pw k * y := by rw [← hn, Nat.mul_add, Nat.mul_add]
  omega
theorem AddUp.all {a b out : List Nat} {k : Nat} (h : AddUp a b out k 0) (ha : a.length ≤ k) (hb : b.length ≤ k) : dval out = dval a + dval b := by
  have h4 := h.2.2.2
  rw [List.take_of_length_le ha, List.take_of_length_le hb] at h4
  omega

/-- A trial digit: q times yn1 and r is u; it is not too small. -/
def Try (Y yn1 u u1 q r : Nat) : Prop := q * yn1 + r = u ∧ (u * 4294967296 + u1) / Y ≤ q
theorem Try.start {Y yn1 yn0 u u1 : Nat} (hY : Y = yn1 * 4294967296 + yn0) (h1 : 2147483648 ≤ yn1) (hu1 : u1 < 4294967296) : Try Y yn1 u u1 (u / yn1) (u - u / yn1 * yn1) := by
  have hd : u / yn1 * yn1 + u % yn1 = u := Nat.div_add_mod' u yn1
  have hm : u % yn1 < yn1 := Nat.mod_lt _ (by omega)
  refine ⟨by omega, ?_⟩
  rw [← Nat.lt_succ_iff, Nat.div_lt_iff_lt_mul (by omega)]
  have e : (u / yn1).succ * Y = (u / yn1 * yn1 + yn1) * 4294967296 + (u / yn1).succ * yn0 := by
    rw [hY, Nat.mul_add, ← Nat.mul_assoc, Nat.succ_mul (u / yn1) yn1]
  rw [e]
  have h3 : u + 1 ≤ u / yn1 * yn1 + yn1 := by omega
  have h4 := Nat.mul_le_mul_right 4294967296 h3
  omega
/-- The test: is the trial digit one that fits? -/
theorem trial {Y yn1 yn0 u u1 q r : Nat} (hY : Y = yn1 * 4294967296 + yn0) (h : q * yn1 + r = u) : q * yn0 ≤ 4294967296 * r + u1 ↔ q * Y ≤ u * 4294967296 + u1 := by
  have e : q * Y = q * yn1 * 4294967296 + q * yn0 := by rw [hY, Nat.mul_add, ← Nat.mul_assoc]
  rw [e, ← h, Nat.add_mul]
  omega
theorem Try.stop {Y yn1 yn0 u u1 q r : Nat} (h : Try Y yn1 u u1 q r) (hY : Y = yn1 * 4294967296 + yn0) (h1 : 2147483648 ≤ yn1) (ht : q * yn0 ≤ 4294967296 * r + u1) : q = (u * 4294967296 + u1) / Y := by
  have h2 := (trial hY h.1).1 ht
  have h3 := (Nat.le_div_iff_mul_le (by omega)).2 h2
  have := h.2
  omega
theorem Try.next {Y yn1 yn0 u u1 q r : Nat} (h : Try Y yn1 u u1 q r) (hY : Y = yn1 * 4294967296 + yn0) (h1 : 2147483648 ≤ yn1)
    (ht : 4294967296 * r + u1 < q * yn0) : 1 ≤ q ∧ Try Y yn1 u u1 (q - 1) (r + yn1) := by
  have hq : 1 ≤ q := by
    rcases Nat.eq_zero_or_pos q with h0 | h0
    · rw [h0, Nat.zero_mul] at ht; omega
    · exact h0
  have hlt : u * 4294967296 + u1 < q * Y := by
    rcases Nat.lt_or_ge (u * 4294967296 + u1) (q * Y) with h2 | h2
    · exact h2
    · have := (trial hY h.1).2 h2; omega
  have h3 := (Nat.div_lt_iff_lt_mul (show 0 < Y by omega)).2 hlt
  refine ⟨hq, ?_, by omega⟩
  have h4 := h.1
  obtain ⟨q, rfl⟩ : ∃ p, q = p + 1 := ⟨q - 1, by omega⟩
  rw [Nat.add_sub_cancel]
  rw [Nat.add_mul, Nat.one_mul] at h4
  omega
theorem digit_small {Y u u1 : Nat} (hu : u < Y) (hu1 : u1 < 4294967296) : (u * 4294967296 + u1) / Y < 4294967296 := by
  rw [Nat.div_lt_iff_lt_mul (by omega), Nat.mul_comm 4294967296 Y]
  have := Nat.mul_le_mul_right 4294967296 (show u + 1 ≤ Y by omega)
  omega
theorem Try.down {Y yn1 u u1 q r : Nat} (h : Try Y yn1 u u1 q r) (hu : u < Y) (hu1 : u1 < 4294967296) (hq : 4294967296 ≤ q) : 1 ≤ q ∧ Try Y yn1 u u1 (q - 1) (r + yn1) := by
  have h3 := digit_small hu hu1
  have h4 := h.1
  refine ⟨by omega, ?_, by omega⟩
  obtain ⟨q, rfl⟩ : ∃ p, q = p + 1 := ⟨q - 1, by omega⟩
  rw [Nat.add_sub_cancel]
  rw [Nat.add_mul, Nat.one_mul] at h4
  omega
/-- Where what is left has grown over, the trial digit fits. -/
theorem Try.over {Y yn1 yn0 u u1 q r : Nat} (h : Try Y yn1 u u1 q r) (hY : Y = yn1 * 4294967296 + yn0) (h0 : yn0 < 4294967296) (h1 : 2147483648 ≤ yn1) (hu : u < Y) (hr : 4294967296 ≤ r) :
    q = (u * 4294967296 + u1) / Y := by
  refine h.stop hY h1 ?_
  have h4 := h.1
  have hq : q < 4294967296 := by
    rcases Nat.lt_or_ge q 4294967296 with h5 | h5
    · exact h5
    · have := Nat.mul_le_mul_right yn1 h5
      omega
  have h6 : q * yn0 ≤ 4294967295 * 4294967295 := Nat.mul_le_mul (by omega) (by omega)
  omega
theorem Try.q_le {Y yn1 u u1 q r : Nat} (h : Try Y yn1 u u1 q r) (h1 : 2147483648 ≤ yn1) (hu : u < 18446744073709551616) : q < 8589934592 := by
  have h4 := h.1
  rcases Nat.lt_or_ge q 8589934592 with h5 | h5
  · exact h5
  · have := Nat.mul_le_mul h5 h1
    omega

/-- Both digits together are the quotient, and what is left is the rest. -/
theorem two_digits_at {K Y u a b q1 q0 m : Nat} (hY : 0 < Y) (h1 : q1 = (u * K + a) / Y) (hm : m = (u * K + a) % Y) (h0 : q0 = (m * K + b) / Y) :
    q1 * K + q0 = (u * (K * K) + (a * K + b)) / Y ∧ (m * K + b) % Y = (u * (K * K) + (a * K + b)) % Y := by
  have e1 : u * K + a = q1 * Y + m := by rw [h1, hm]; exact (Nat.div_add_mod' _ _).symm
  have e0 : m * K + b = q0 * Y + (m * K + b) % Y := by rw [h0]; exact (Nat.div_add_mod' _ _).symm
  have hlt : (m * K + b) % Y < Y := Nat.mod_lt _ hY
  generalize (m * K + b) % Y = r at *
  have e : u * (K * K) + (a * K + b) = r + (q1 * K + q0) * Y := by
    rw [← Nat.add_assoc, ← Nat.mul_assoc, ← Nat.add_mul, e1, Nat.add_mul, Nat.add_assoc, e0, Nat.add_mul, Nat.mul_right_comm q1 K Y]
    omega
  rw [e, Nat.add_mul_div_right _ _ hY, Nat.add_mul_mod_self_right, Nat.div_eq_of_lt hlt, Nat.mod_eq_of_lt hlt]
  omega
theorem two_digits {Y u a b q1 q0 m : Nat} (hY : 0 < Y) (h1 : q1 = (u * 4294967296 + a) / Y) (hm : m = (u * 4294967296 + a) % Y) (h0 : q0 = (m * 4294967296 + b) / Y) :
    q1 * 4294967296 + q0 = (u * 18446744073709551616 + (a * 4294967296 + b)) / Y ∧ (m * 4294967296 + b) % Y = (u * 18446744073709551616 + (a * 4294967296 + b)) % Y :=
  two_digits_at hY h1 hm h0

/-- A word and one behind it, shifted up: what the upper one has, and what is left below. -/
theorem shifted {hi lo t d l1 u p W : Nat} (e : d * t = W) (ht : 0 < t) (hd : 0 < d) (hl1 : l1 = lo / d) (hu : u = hi * t + l1) (hp : p = lo * t % W) : u * W + p = (hi * W + lo) * t := by
  have e1 : lo = d * l1 + lo % d := by rw [hl1]; exact (Nat.div_add_mod _ _).symm
  have hm : lo % d < d := Nat.mod_lt _ hd
  generalize lo % d = m at *
  have e2 : lo * t = W * l1 + m * t := by rw [e1, Nat.add_mul, ← e, Nat.mul_right_comm]
  have e3 : m * t < W := by rw [← e]; exact Nat.mul_lt_mul_of_pos_right hm ht
  rw [e2, Nat.mul_add_mod_self_left, Nat.mod_eq_of_lt e3] at hp
  rw [hp, hu, Nat.add_mul, Nat.add_mul (hi * W), e2, Nat.mul_right_comm hi, Nat.mul_comm l1]
  omega
/-- What the two words shifted up are worth. -/
def Shifted (hi lo s u u1 u0 : Nat) : Prop := u * 18446744073709551616 + (u1 * 4294967296 + u0) = (hi * 18446744073709551616 + lo) * 2 ^ s

end Go.Proofs.Ytedpkphbpkkhbaa.SatPlain
