/-
  What the theorem uses of the texts below it.
-/
import Derived.Below
import Derived.Laws.OwnMore
import Derived.Deep.Draws
import Derived.Deep.OwnRows
import Derived.Lib.Hide
import Derived.OwnWalk
import Derived.Deep.QuietTactic
import Derived.BigQuiet
import Derived.Lib.SliceRun
import Derived.Test.YtjjigkomiidipaaRows
import Derived.WalkKit
import Derived.WalkSpells
import Derived.WalkLawsBesides
import Derived.Laws.StructEq
import Derived.LoopTactic
import Derived.Deep.CutBlock
import Derived.Deep.DeepCutAuto
import Derived.Deep.RegionHeld3
import Derived.ArgAppend
import Derived.Deep.RegionLaw
import Derived.Shelf.Small.Bits
import Derived.Shelf.Small.Wraps
import Derived.Shelf.Strconv.Itoa0
import Derived.Shelf.Bits.Mul64
import Derived.Test.YtjjigkomiidipaaProg
import Derived.Lib.ItoaNum
import Derived.Laws.Bits64b
import Derived.Deep.LoopGhost
import Derived.Test.YtjjigkomiidipaaPa3
namespace Go.Proofs.Ytjjigkomiidipaa.SatPlain
/-- What digits are worth. -/
def dval : List Nat → Nat
  | [] => 0
  | d :: l => d + 65536 * dval l
/-- Each is a digit. -/
def Ds (l : List Nat) : Prop := ∀ d ∈ l, d < 65536
/-- One column's worth. -/
def pw (k : Nat) : Nat := 65536 ^ k
theorem pw_succ (k : Nat) : pw (k + 1) = 65536 * pw k := by unfold pw; rw [Nat.pow_succ, Nat.mul_comm]
theorem pw_pos (k : Nat) : 0 < pw k := Nat.pow_pos (by omega)
theorem pw_add (i k : Nat) : pw (i + k) = pw i * pw k := Nat.pow_add 65536 i k
theorem dval_append (l m : List Nat) : dval (l ++ m) = dval l + pw l.length * dval m := by
  induction l with
  | nil => simp [dval, pw]
  | cons d l ih =>
    simp only [List.cons_append, dval, ih, List.length_cons, pw_succ, Nat.mul_add, Nat.mul_assoc]
    omega
theorem dval_snoc (l : List Nat) (d : Nat) : dval (l ++ [d]) = dval l + pw l.length * d := by
  rw [dval_append]; simp [dval]
theorem dval_take_succ (l : List Nat) (k : Nat) (h : k < l.length) : dval (l.take (k + 1)) = dval (l.take k) + pw k * l[k] := by
  rw [List.take_succ_eq_append_getElem h, dval_snoc, List.length_take, Nat.min_eq_left (by omega)]
theorem dval_take_getD (l : List Nat) (k : Nat) : dval (l.take (k + 1)) = dval (l.take k) + pw k * l.getD k 0 := by
  by_cases h : k < l.length
  · rw [dval_take_succ l k h]; simp [List.getD, h]
  · rw [List.take_of_length_le (by omega), List.take_of_length_le (by omega)]
    simp [List.getD, h]
theorem dval_drop (l : List Nat) (k : Nat) : dval (l.drop k) = l.getD k 0 + 65536 * dval (l.drop (k + 1)) := by
  by_cases h : k < l.length
  · rw [List.drop_eq_getElem_cons h]
    simp [dval, List.getD, h]
  · rw [List.drop_of_length_le (by omega), List.drop_of_length_le (by omega)]
    simp [dval, List.getD, h]
theorem dval_set {l : List Nat} {i v : Nat} (h : i < l.length) : dval (l.set i v) + pw i * l[i] = dval l + pw i * v := by
  induction l generalizing i with
  | nil => simp at h
  | cons d l ih =>
    cases i with
    | zero => simp [dval, pw]; omega
    | succ i =>
      have := ih (i := i) (by simpa using h)
      simp only [List.set_cons_succ, dval, List.getElem_cons_succ, pw_succ, Nat.mul_assoc]
      omega
theorem Ds.set {l : List Nat} (h : Ds l) {v : Nat} (hv : v < 65536) (i : Nat) : Ds (l.set i v) := fun d hd => by
  rcases List.mem_or_eq_of_mem_set hd with hd | rfl
  · exact h d hd
  · exact hv
theorem Ds.at {l : List Nat} (h : Ds l) {i : Nat} (hi : i < l.length) : l[i] < 65536 := h _ (List.getElem_mem hi)
theorem Ds.getD {l : List Nat} (h : Ds l) (i : Nat) : l.getD i 0 < 65536 := by
  by_cases hi : i < l.length
  · simp only [List.getD, List.getElem?_eq_getElem hi, Option.getD_some]; exact h.at hi
  · simp [List.getD, hi]
/-- Comparing from the top: as far as the columns from k on are the same. -/
def Same (a b : List Nat) (k : Nat) : Prop := dval (a.drop k) = dval (b.drop k)
theorem Same.top (a b : List Nat) : Same a b (max a.length b.length) := by
  unfold Same
  rw [List.drop_of_length_le (by omega), List.drop_of_length_le (by omega)]
theorem Same.step {a b : List Nat} {k : Nat} (h : Same a b (k + 1)) (he : a.getD k 0 = b.getD k 0) : Same a b k := by
  unfold Same at h ⊢
  rw [dval_drop a k, dval_drop b k, h, he]
theorem Same.all {a b : List Nat} (h : Same a b 0) : dval a = dval b := by simpa [Same] using h
theorem less_down {a b : List Nat} (ha : Ds a) : ∀ {k : Nat}, dval (a.drop k) < dval (b.drop k) → dval a < dval b := by
  intro k
  induction k with
  | zero => intro h; simpa using h
  | succ k ih =>
    intro h
    refine ih ?_
    rw [dval_drop a k, dval_drop b k]
    have := ha.getD k
    omega
theorem Same.less {a b : List Nat} {k : Nat} (h : Same a b (k + 1)) (ha : Ds a) (hlt : a.getD k 0 < b.getD k 0) : dval a < dval b := by
  refine less_down ha (k := k) ?_
  unfold Same at h
  rw [dval_drop a k, dval_drop b k, h]
  omega
theorem Same.symm {a b : List Nat} {k : Nat} (h : Same a b k) : Same b a k := by unfold Same at *; exact h.symm
/-- How two numbers compare. -/
def cmpI (a b : Nat) : Int := if a < b then -1 else if a = b then 0 else 1
theorem cmpI_lt {a b : Nat} (h : a < b) : cmpI a b = -1 := by unfold cmpI; rw [if_pos h]
theorem cmpI_gt {a b : Nat} (h : b < a) : cmpI a b = 1 := by unfold cmpI; rw [if_neg (by omega), if_neg (by omega)]
theorem cmpI_eq {a b : Nat} (h : a = b) : cmpI a b = 0 := by unfold cmpI; rw [if_neg (by omega), if_pos h]
theorem cmpI_le {a b : Nat} : cmpI a b ≤ 0 ↔ a ≤ b := by unfold cmpI; split <;> (try split) <;> omega
theorem cmpI_neg (a b : Nat) : -cmpI a b = cmpI b a := by
  rcases Nat.lt_trichotomy a b with h | h | h
  · rw [cmpI_lt h, cmpI_gt h]; rfl
  · rw [cmpI_eq h, cmpI_eq h.symm]; rfl
  · rw [cmpI_gt h, cmpI_lt h]
theorem cmp_cases (x y : Nat) : (x < y) ∨ (¬ x < y ∧ y < x) ∨ (¬ x < y ∧ ¬ y < x ∧ x = y) := by omega
/-- A number's five digits. -/
def dg (n : Nat) : List Nat := [n % 65536, n / 65536 % 65536, n / 4294967296 % 65536, n / 281474976710656, 0]
theorem dg_val (n : Nat) : dval (dg n) = n := by simp only [dg, dval]; omega
theorem dg_ds {n : Nat} (h : n < 18446744073709551616) : Ds (dg n) := by
  intro d hd
  simp only [dg, List.mem_cons, List.not_mem_nil, or_false] at hd
  omega
/-- Where the product stands: rows up to i are in, and of row i the columns up to k. -/
def MulRow (a b out : List Nat) (i k carry : Nat) : Prop :=
  out.length = a.length + b.length ∧ Ds out ∧ carry < 65536 ∧ dval out + pw (i + k) * carry = dval (a.take i) * dval b + pw i * (a.getD i 0 * dval (b.take k)) ∧ ∀ j, i + b.length ≤ j → out.getD j 0 = 0
def MulRows (a b out : List Nat) (i : Nat) : Prop :=
  out.length = a.length + b.length ∧ Ds out ∧ dval out = dval (a.take i) * dval b ∧ ∀ j, i + b.length ≤ j → out.getD j 0 = 0
theorem getD_replicate (n j : Nat) : (List.replicate n 0).getD j 0 = 0 := by
  by_cases h : j < n
  · simp [List.getD, h]
  · simp [List.getD, h]
theorem dval_zeros (n : Nat) : dval (List.replicate n 0) = 0 := by
  induction n with
  | zero => rfl
  | succ n ih => rw [List.replicate_succ, dval, ih]
theorem MulRows.start (a b : List Nat) : MulRows a b (List.replicate (a.length + b.length) 0) 0 :=
  ⟨by simp, fun d hd => by have := List.eq_of_mem_replicate hd; omega, by rw [dval_zeros]; simp [dval], fun j _ => getD_replicate _ j⟩
theorem MulRows.row {a b out : List Nat} {i : Nat} (h : MulRows a b out i) : MulRow a b out i 0 0 :=
  ⟨h.1, h.2.1, by omega, by rw [h.2.2.1]; simp [dval], h.2.2.2⟩
theorem col_le {x y : Nat} (hx : x < 65536) (hy : y < 65536) : x * y ≤ 4294836225 := Nat.mul_le_mul (show x ≤ 65535 by omega) (show y ≤ 65535 by omega)
theorem MulRow.bound {a b out : List Nat} {i k c : Nat} (h : MulRow a b out i k c) (ha : Ds a) (hb : Ds b) : out.getD (i + k) 0 + a.getD i 0 * b.getD k 0 + c ≤ 4294967295 := by
  have h1 := h.2.1.getD (i + k)
  have h2 := col_le (ha.getD i) (hb.getD k)
  have h3 := h.2.2.1
  omega
theorem digit_set_ne {l : List Nat} {i j v : Nat} (h : i ≠ j) : (l.set i v).getD j 0 = l.getD j 0 := by
  simp [List.getD, List.getElem?_set_ne h]
theorem MulRow.next {a b out : List Nat} {i k c : Nat} (h : MulRow a b out i k c) (ha : Ds a) (hb : Ds b) (hi : i < a.length) (hk : k < b.length) :
    MulRow a b (out.set (i + k) ((out.getD (i + k) 0 + a.getD i 0 * b.getD k 0 + c) % 65536)) i (k + 1) ((out.getD (i + k) 0 + a.getD i 0 * b.getD k 0 + c) / 65536) := by
  have hbd := h.bound ha hb
  obtain ⟨h1, h2, h3, h4, h5⟩ := h
  have hlt : i + k < out.length := by omega
  refine ⟨by simpa using h1, h2.set (by omega) _, by omega, ?_, fun j hj => by rw [digit_set_ne (by omega)]; exact h5 j hj⟩
  have hs := dval_set (v := (out.getD (i + k) 0 + a.getD i 0 * b.getD k 0 + c) % 65536) hlt
  have hg : out.getD (i + k) 0 = out[i + k] := by simp [List.getD, hlt]
  rw [hg] at hs hbd ⊢
  generalize out[i + k] = o at *
  rw [dval_take_getD b k]
  generalize hx : a.getD i 0 = x at *
  generalize hy : b.getD k 0 = y at *
  generalize hn : o + x * y + c = n at *
  have e1 : pw (i + (k + 1)) = 65536 * pw (i + k) := by rw [← Nat.add_assoc, pw_succ]
  have e2 : pw i * (x * (dval (b.take k) + pw k * y)) = pw i * (x * dval (b.take k)) + pw (i + k) * (x * y) := by
    rw [pw_add, Nat.mul_add, Nat.mul_add, Nat.mul_left_comm x (pw k) y, Nat.mul_assoc (pw i)]
  rw [e1, e2, ← Nat.add_assoc, ← h4]
  have e3 : pw (i + k) * n = pw (i + k) * (n % 65536) + 65536 * pw (i + k) * (n / 65536) := by
    rw [Nat.mul_comm 65536, Nat.mul_assoc, ← Nat.mul_add, Nat.mod_add_div]
  have e4 : pw (i + k) * n = pw (i + k) * o + pw (i + k) * (x * y) + pw (i + k) * c := by rw [← hn, Nat.mul_add, Nat.mul_add]
  omega
theorem MulRow.done {a b out : List Nat} {i c : Nat} (h : MulRow a b out i b.length c) (hi : i < a.length) : MulRows a b (out.set (i + b.length) (out.getD (i + b.length) 0 + c)) (i + 1) := by
  obtain ⟨h1, h2, h3, h4, h5⟩ := h
  have hlt : i + b.length < out.length := by omega
  have h0 := h5 (i + b.length) (Nat.le_refl _)
  rw [h0, Nat.zero_add]
  refine ⟨by simpa using h1, h2.set h3 _, ?_, fun j hj => by rw [digit_set_ne (by omega)]; exact h5 j (by omega)⟩
  have hs := dval_set (v := c) hlt
  have hg : out.getD (i + b.length) 0 = out[i + b.length] := by simp [List.getD, hlt]
  rw [hg] at h0
  rw [h0, Nat.mul_zero, Nat.add_zero] at hs
  rw [hs, h4, dval_take_getD a i, List.take_length, Nat.add_mul, Nat.mul_assoc]
theorem MulRows.all {a b out : List Nat} (h : MulRows a b out a.length) : dval out = dval a * dval b := by
  rw [h.2.2.1, List.take_length]
/-- A trial digit: q times yn1 and r is u; it is not too small. -/
def Try (Y yn1 u u1 q r : Nat) : Prop := q * yn1 + r = u ∧ (u * 4294967296 + u1) / Y ≤ q
theorem Try.start {Y yn1 yn0 u u1 : Nat} (hY : Y = yn1 * 4294967296 + yn0) (h1 : 2147483648 ≤ yn1) (hu1 : u1 < 4294967296) : Try Y yn1 u u1 (u / yn1) (u - u / yn1 * yn1) := by
  have hd : u / yn1 * yn1 + u % yn1 = u := Nat.div_add_mod' u yn1
  have hm : u % yn1 < yn1 := Nat.mod_lt _ (by omega)
  refine ⟨by omega, ?_⟩
  rw [← Nat.lt_succ_iff, Nat.div_lt_iff_lt_mul (by omega)]
  have e : (u / yn1).succ * Y = (u / yn1 * yn1 + yn1) * 4294967296 + (u / yn1).succ * yn0 := by
    rw [hY, Nat.mul_add, ← Nat.mul_assoc, Nat.succ_mul (u / yn1) yn1]
  rw [e]
  have h3 : u + 1 ≤ u / yn1 * yn1 + yn1 := by omega
  have h4 := Nat.mul_le_mul_right 4294967296 h3
  omega
/-- The test: is the trial digit one that fits? -/
theorem trial {Y yn1 yn0 u u1 q r : Nat} (hY : Y = yn1 * 4294967296 + yn0) (h : q * yn1 + r = u) : q * yn0 ≤ 4294967296 * r + u1 ↔ q * Y ≤ u * 4294967296 + u1 := by
  have e : q * Y = q * yn1 * 4294967296 + q * yn0 := by rw [hY, Nat.mul_add, ← Nat.mul_assoc]
  rw [e, ← h, Nat.add_mul]
  omega
theorem Try.stop {Y yn1 yn0 u u1 q r : Nat} (h : Try Y yn1 u u1 q r) (hY : Y = yn1 * 4294967296 + yn0) (h1 : 2147483648 ≤ yn1) (ht : q * yn0 ≤ 4294967296 * r + u1) : q = (u * 4294967296 + u1) / Y := by
  have h2 := (trial hY h.1).1 ht
  have h3 := (Nat.le_div_iff_mul_le (by omega)).2 h2
  have := h.2
  omega
theorem Try.next {Y yn1 yn0 u u1 q r : Nat} (h : Try Y yn1 u u1 q r) (hY : Y = yn1 * 4294967296 + yn0) (h1 : 2147483648 ≤ yn1)
    (ht : 4294967296 * r + u1 < q * yn0) : 1 ≤ q ∧ Try Y yn1 u u1 (q - 1) (r + yn1) := by
  have hq : 1 ≤ q := by
    rcases Nat.eq_zero_or_pos q with h0 | h0
    · rw [h0, Nat.zero_mul] at ht; omega
    · exact h0
  have hlt : u * 4294967296 + u1 < q * Y := by
    rcases Nat.lt_or_ge (u * 4294967296 + u1) (q * Y) with h2 | h2
    · exact h2
    · have := (trial hY h.1).2 h2; omega
  have h3 := (Nat.div_lt_iff_lt_mul (show 0 < Y by omega)).2 hlt
  refine ⟨hq, ?_, by omega⟩
  have h4 := h.1
  obtain ⟨q, rfl⟩ : ∃ p, q = p + 1 := ⟨q - 1, by omega⟩
  rw [Nat.add_sub_cancel]
  rw [Nat.add_mul, Nat.one_mul] at h4
  omega
theorem digit_small {Y u u1 : Nat} (hu : u < Y) (hu1 : u1 < 4294967296) : (u * 4294967296 + u1) / Y < 4294967296 := by
  rw [Nat.div_lt_iff_lt_mul (by omega), Nat.mul_comm 4294967296 Y]
  have := Nat.mul_le_mul_right 4294967296 (show u + 1 ≤ Y by omega)
  omega
theorem Try.down {Y yn1 u u1 q r : Nat} (h : Try Y yn1 u u1 q r) (hu : u < Y) (hu1 : u1 < 4294967296) (hq : 4294967296 ≤ q) : 1 ≤ q ∧ Try Y yn1 u u1 (q - 1) (r + yn1) := by
  have h3 := digit_small hu hu1
  have h4 := h.1
  refine ⟨by omega, ?_, by omega⟩
  obtain ⟨q, rfl⟩ : ∃ p, q = p + 1 := ⟨q - 1, by omega⟩
  rw [Nat.add_sub_cancel]
  rw [Nat.add_mul, Nat.one_mul] at h4
  omega
/-- Where what is left has grown over, the trial digit fits. -/
theorem Try.over {Y yn1 yn0 u u1 q r : Nat} (h : Try Y yn1 u u1 q r) (hY : Y = yn1 * 4294967296 + yn0) (h0 : yn0 < 4294967296) (h1 : 2147483648 ≤ yn1) (hu : u < Y) (hr : 4294967296 ≤ r) :
    q = (u * 4294967296 + u1) / Y := by
  refine h.stop hY h1 ?_
  have h4 := h.1
  have hq : q < 4294967296 := by
    rcases Nat.lt_or_ge q 4294967296 with h5 | h5
    · exact h5
    · have := Nat.mul_le_mul_right yn1 h5
      omega
  have h6 : q * yn0 ≤ 4294967295 * 4294967295 := Nat.mul_le_mul (by omega) (by omega)
  omega
theorem Try.q_le {Y yn1 u u1 q r : Nat} (h : Try Y yn1 u u1 q r) (h1 : 2147483648 ≤ yn1) (hu : u < 18446744073709551616) : q < 8589934592 := by
  have h4 := h.1
  rcases Nat.lt_or_ge q 8589934592 with h5 | h5
  · exact h5
  · have := Nat.mul_le_mul h5 h1
    omega
/-- Both digits together are the quotient, and what is left is the rest. -/
theorem two_digits_at {K Y u a b q1 q0 m : Nat} (hY : 0 < Y) (h1 : q1 = (u * K + a) / Y) (hm : m = (u * K + a) % Y) (h0 : q0 = (m * K + b) / Y) :
    q1 * K + q0 = (u * (K * K) + (a * K + b)) / Y ∧ (m * K + b) % Y = (u * (K * K) + (a * K + b)) % Y := by
  have e1 : u * K + a = q1 * Y + m := by rw [h1, hm]; exact (Nat.div_add_mod' _ _).symm
  have e0 : m * K + b = q0 * Y + (m * K + b) % Y := by rw [h0]; exact (Nat.div_add_mod' _ _).symm
  have hlt : (m * K + b) % Y < Y := Nat.mod_lt _ hY
  generalize (m * K + b) % Y = r at *
  have e : u * (K * K) + (a * K + b) = r + (q1 * K + q0) * Y := by
    rw [← Nat.add_assoc, ← Nat.mul_assoc, ← Nat.add_mul, e1, Nat.add_mul, Nat.add_assoc, e0, Nat.add_mul, Nat.mul_right_comm q1 K Y]
    omega
  rw [e, Nat.add_mul_div_right _ _ hY, Nat.add_mul_mod_self_right, Nat.div_eq_of_lt hlt, Nat.mod_eq_of_lt hlt]
  omega
theorem two_digits {Y u a b q1 q0 m : Nat} (hY : 0 < Y) (h1 : q1 = (u * 4294967296 + a) / Y) (hm : m = (u * 4294967296 + a) % Y) (h0 : q0 = (m * 4294967296 + b) / Y) :
    q1 * 4294967296 + q0 = (u * 18446744073709551616 + (a * 4294967296 + b)) / Y ∧ (m * 4294967296 + b) % Y = (u * 18446744073709551616 + (a * 4294967296 + b)) % Y :=
  two_digits_at hY h1 hm h0
/-- A word and one behind it, shifted up: what the upper one has, and what is left below. -/
theorem shifted {hi lo t d l1 u p W : Nat} (e : d * t = W) (ht : 0 < t) (hd : 0 < d) (hl1 : l1 = lo / d) (hu : u = hi * t + l1) (hp : p = lo * t % W) : u * W + p = (hi * W + lo) * t := by
  have e1 : lo = d * l1 + lo % d := by rw [hl1]; exact (Nat.div_add_mod _ _).symm
  have hm : lo % d < d := Nat.mod_lt _ hd
  generalize lo % d = m at *
  have e2 : lo * t = W * l1 + m * t := by rw [e1, Nat.add_mul, ← e, Nat.mul_right_comm]
  have e3 : m * t < W := by rw [← e]; exact Nat.mul_lt_mul_of_pos_right hm ht
  rw [e2, Nat.mul_add_mod_self_left, Nat.mod_eq_of_lt e3] at hp
  rw [hp, hu, Nat.add_mul, Nat.add_mul (hi * W), e2, Nat.mul_right_comm hi, Nat.mul_comm l1]
  omega
/-- What the two words shifted up are worth. -/
def Shifted (hi lo s u u1 u0 : Nat) : Prop := u * 18446744073709551616 + (u1 * 4294967296 + u0) = (hi * 18446744073709551616 + lo) * 2 ^ s
end Go.Proofs.Ytjjigkomiidipaa.SatPlain
namespace Go.Proofs.Ytjjigkomiidipaa.SatWalk
open Go.RowKit Go.Proofs.Ytjjigkomiidipaa.SatPlain Go.Proofs.Ytjjigkomiidipaa.Mem
/-- A digit's cell. -/
def dcell (l : List Nat) (i : Nat) : Value := .int .u64 (l.getD i 0 : Nat)
/-- A slice value that reads as digits. -/
def Reads (w : World) (v : Value) (l : List Nat) : Prop := ∃ A c, v = .slice A l.length c ∧ Cells w A l.length (dcell l) ∧ Ds l
theorem Reads.below {w w' : World} {v : Value} {l : List Nat} (h : Reads w v l) (hb : Below w.heap.size w w') : Reads w' v l := by
  obtain ⟨A, c, e, hc, hd⟩ := h
  exact ⟨A, c, e, hc.below hb, hd⟩
theorem five (a b c d e : Nat) : ∀ i, i < 5 → #[Value.int .u64 a, .int .u64 b, .int .u64 c, .int .u64 d, .int .u64 e][i]? = some (dcell [a, b, c, d, e] i)
  | 0, _ => rfl | 1, _ => rfl | 2, _ => rfl | 3, _ => rfl | 4, _ => rfl
  | k + 5, h => by omega
def DigitsIs (n : Nat) (w : World) (e : Ending) (w' : World) : Prop := ∃ v, e = .returned v ∧ Reads w' v (dg n) ∧ Below w.heap.size w w'
set_option maxHeartbeats 400000 in
theorem digits_pos (n : Nat) (w : World) (h : n < 9223372036854775808) :
    Calls Try.prog 19 #[.int .i64 n] w (DigitsIs n w) := by
  go_enter Try.func19, Try.ntmps19
  go_wp2
  go_ret
  exact ⟨_, rfl, ⟨_, _, rfl, Cells.of_alloc w _ _ _ (five _ _ _ _ 0), dg_ds (by omega)⟩, (Below.refl _ _).alloc (Nat.le_refl _) _⟩
set_option maxHeartbeats 400000 in
theorem digits_neg (n : Nat) (w : World) (h0 : 0 < n) (h : n ≤ 9223372036854775808) :
    Calls Try.prog 19 #[.int .i64 (-(n : Int))] w (DigitsIs n w) := by
  have e1 : IntKind.u64.wrap (-(n : Int)) = 18446744073709551616 - (n : Int) := by rw [IntKind.wrap_u64]; omega
  have e2 : IntKind.u64.wrap (-(18446744073709551616 - (n : Int))) = (n : Int) := by rw [IntKind.wrap_u64]; omega
  have hlt : -(n : Int) < 0 := by omega
  go_enter Try.func19, Try.ntmps19
  go_wp2
  go_ret
  exact ⟨_, rfl, ⟨_, _, rfl, Cells.of_alloc w _ _ _ (five _ _ _ _ 0), dg_ds (by omega)⟩, (Below.refl _ _).alloc (Nat.le_refl _) _⟩
/-- What Cmp tells. -/
def CmpIs (a b : List Nat) (w : World) (e : Ending) (w' : World) : Prop := e = .returned (.int .i64 (cmpI (dval a) (dval b))) ∧ w = w'
theorem CmpIs.of {a b : List Nat} {w : World} {n : Int} (h : n = cmpI (dval a) (dval b)) : CmpIs a b w (.returned (.int .i64 n)) w := ⟨by rw [h], rfl⟩
theorem getD_out {l : List Nat} {k : Nat} (h : ¬ k < l.length) : l.getD k 0 = 0 := by simp [List.getD, h]
set_option maxHeartbeats 3200000 in
theorem cmp_any (v u : Value) (a b : List Nat) (w : World) (ha : Reads w v a) (hb : Reads w u b) (la : a.length ≤ 100) (lb : b.length ≤ 100) :
    Calls Try.prog 17 #[v, u] w (CmpIs a b w) := by
  obtain ⟨A, c, rfl, hA, da⟩ := ha
  obtain ⟨B, c', rfl, hB, db⟩ := hb
  have HA := Lib.hid hA
  have HB := Lib.hid hB
  have DA := Lib.hid da
  have DB := Lib.hid db
  clear hA hB da db
  have hcase : (decide (a.length < b.length) = true ∧ max a.length b.length = b.length) ∨ (decide (a.length < b.length) = false ∧ max a.length b.length = a.length) := by
    by_cases h : a.length < b.length
    · left; exact ⟨by simp [h], by omega⟩
    · right; exact ⟨by simp [h], by omega⟩
  have HT := Lib.hid (Same.top a b)
  rcases hcase with ⟨hcase, hmax⟩ | ⟨hcase, hmax⟩
  all_goals
    rw [hmax] at HT
    clear hmax
    go_enter Try.func17, Try.ntmps17
    go_wp2_with fail
    go_loop [6] (fun i => ∃ k : Nat, i = .int .i64 ((k : Int) - 1) ∧ k ≤ 100 ∧ Hid (Same a b k)) (fun i => (intOf i + 1).toNat)
    case atStart => exact ⟨_, rfl, by omega, HT⟩
    case round =>
      obtain ⟨k, hi, hk, HS⟩ := hrel
      clear HT
      cases k with
      | zero =>
        rw [show ((0 : Nat) : Int) - 1 = -1 from rfl] at hi
        subst hi
        go_wp2_with fail
        go_ret
        exact CmpIs.of (cmpI_eq HS.out.all).symm
      | succ k =>
        rw [show ((k + 1 : Nat) : Int) - 1 = (k : Int) from by omega] at hi
        subst hi
        have hxy := cmp_cases (a.getD k 0) (b.getD k 0)
        have hx : (k < a.length ∧ ∃ ad, A = some ad ∧ w.cell? (ad.add k) = some (.int .u64 ((a.getD k 0 : Nat) : Int))) ∨ (¬ k < a.length ∧ a.getD k 0 = 0) := by
          by_cases h : k < a.length
          · obtain ⟨ad, e, _, hc⟩ := HA.out.at h
            exact .inl ⟨h, ad, e, hc⟩
          · exact .inr ⟨h, getD_out h⟩
        have hy : (k < b.length ∧ ∃ ad, B = some ad ∧ w.cell? (ad.add k) = some (.int .u64 ((b.getD k 0 : Nat) : Int))) ∨ (¬ k < b.length ∧ b.getD k 0 = 0) := by
          by_cases h : k < b.length
          · obtain ⟨ad, e, _, hc⟩ := HB.out.at h
            exact .inl ⟨h, ad, e, hc⟩
          · exact .inr ⟨h, getD_out h⟩
        have h1 := DA.out.getD k
        have h2 := DB.out.getD k
        have HL : Hid (a.getD k 0 < b.getD k 0 → dval a < dval b) := fun h => HS.out.less DA.out h
        have HG : Hid (b.getD k 0 < a.getD k 0 → dval b < dval a) := fun h => HS.out.symm.less DB.out h
        have HE : Hid (a.getD k 0 = b.getD k 0 → Same a b k) := fun h => HS.out.step h
        generalize a.getD k 0 = x at *
        generalize b.getD k 0 = y at *
        rcases hx with ⟨hka, ad, rfl, hca⟩ | ⟨hka, rfl⟩ <;> rcases hy with ⟨hkb, bd, rfl, hcb⟩ | ⟨hkb, rfl⟩ <;> rcases hxy with hxy | ⟨hxy1, hxy⟩ | ⟨hxy1, hxy2, hxy⟩
        all_goals first
          | (exfalso; omega)
          | (have HX := Lib.hid hxy
             clear hxy
             go_wp2_with fail
             first
               | (go_ret; exact CmpIs.of (cmpI_lt (HL.out HX.out)).symm)
               | (go_ret; exact CmpIs.of (cmpI_gt (HG.out HX.out)).symm)
               | exact ⟨⟨k, rfl, by omega, HE.out HX.out⟩, by simp [intOf] <;> omega⟩)
end Go.Proofs.Ytjjigkomiidipaa.SatWalk
namespace Go.Proofs.Ytjjigkomiidipaa.SatWalk
open Go.RowKit Go.Proofs.Ytjjigkomiidipaa.SatPlain Go.Proofs.Ytjjigkomiidipaa.Mem
theorem digits_any (a : Int) (w : World) (h0 : -9223372036854775808 ≤ a) (h1 : a < 9223372036854775808) :
    Calls Try.prog 19 #[.int .i64 a] w (DigitsIs a.natAbs w) := by
  by_cases h : 0 ≤ a
  · have e : a = (a.natAbs : Int) := by omega
    have hn : a.natAbs < 9223372036854775808 := by omega
    generalize a.natAbs = n at *
    subst e
    exact digits_pos n w hn
  · have e : a = -(a.natAbs : Int) := by omega
    have hn : a.natAbs ≤ 9223372036854775808 := by omega
    have hp : 0 < a.natAbs := by omega
    generalize a.natAbs = n at *
    subst e
    exact digits_neg n w hp hn
end Go.Proofs.Ytjjigkomiidipaa.SatWalk
namespace Go.Proofs.Ytjjigkomiidipaa.SatWalk
open Go.RowKit Go.Proofs.Ytjjigkomiidipaa.SatPlain Go.Proofs.Ytjjigkomiidipaa.Mem
/-- What Times answers of two numbers of five digits. -/
def TimesIs (a b : List Nat) (w : World) (e : Ending) (w' : World) : Prop :=
  ∃ v l, e = .returned v ∧ Reads w' v l ∧ l.length = 10 ∧ dval l = dval a * dval b ∧ Below w.heap.size w w'
theorem make_ten (w : World) : (Instr.makeSlice 55 (.int .i64 10) (.int .i64 10)).run Try.prog w = .ok (.slice (some ⟨w.heap.size, 0, none⟩) 10 10) (w.alloc (.cells (madeCells #[Value.int .u64 0] 10) 66)) := by kernel_rfl
theorem row_ten (w : World) : (w.alloc (.cells (madeCells #[Value.int .u64 0] 10) 66)).rowIs w.heap.size 66 10 (dcell (List.replicate 10 0)) :=
  (World.rowIs_made w _ 10 _).congr (fun i _ => by unfold dcell; rw [getD_replicate]; rfl)
theorem wrap_mul {x y p : Nat} (hp : p = x * y) (h : p < 18446744073709551616) : IntKind.u64.wrap ((x : Int) * (y : Int)) = (p : Int) := by
  subst hp
  rw [← Int.natCast_mul, IntKind.wrap_u64]
  omega
theorem row_set {w : World} {b i v : Nat} {t : TypeId} {out : List Nat} (h : w.rowIs b t 10 (dcell out)) (hl : out.length = 10) (hi : i < 10) :
    (w.setCell ⟨b, i, none⟩ (.int .u64 (v : Int))).rowIs b t 10 (dcell (out.set i v)) :=
  (h.set i _).congr fun j hj => by
    unfold dcell
    by_cases e : j = i
    · subst e
      rw [if_pos rfl]
      simp [List.getD, hl, hj]
    · rw [if_neg e, digit_set_ne (fun h => e h.symm)]
theorem reads_ten {w : World} {b : Nat} {t : TypeId} {out : List Nat} (h : w.rowIs b t 10 (dcell out)) (hl : out.length = 10) (hd : Ds out) : Reads w (.slice (some ⟨b, 0, none⟩) 10 10) out :=
  ⟨_, _, by rw [hl], by rw [hl]; exact Cells.of_row h, hd⟩
set_option maxHeartbeats 1600000 in
theorem times_any (v u : Value) (a b : List Nat) (w : World) (ha : Reads w v a) (hb : Reads w u b) (la : a.length = 5) (lb : b.length = 5) :
    Calls Try.prog 18 #[v, u] w (TimesIs a b w) := by
  obtain ⟨A, c, rfl, hA, da⟩ := ha
  obtain ⟨B, c', rfl, hB, db⟩ := hb
  rw [la] at hA
  rw [lb] at hB
  have HA := Lib.hid hA
  have HB := Lib.hid hB
  have DA := Lib.hid da
  have DB := Lib.hid db
  have LA := Lib.hid la
  have LB := Lib.hid lb
  have hmk := make_ten
  have HS : Hid (MulRows a b (List.replicate 10 0) 0) := by have := MulRows.start a b; rw [la, lb] at this; exact this
  rw [la, lb]
  clear hA hB da db la lb
  go_enter Try.func18, Try.ntmps18
  go_wp2_with fail
  go_loopw [6] (fun i wr => ∃ (k : Nat) (out : List Nat), i = .int .i64 k ∧ k ≤ 5 ∧ Hid (wr.rowIs w.heap.size 66 10 (dcell out)) ∧ Hid (MulRows a b out k) ∧ Below w.heap.size w wr) (fun i _ => (5 - intOf i).toNat)
  case atStart => exact ⟨0, _, rfl, by omega, row_ten w, HS, (Below.refl _ _).alloc (Nat.le_refl _) _⟩
  case round =>
    obtain ⟨i, out, rfl, hi, HR, HT, hbl⟩ := hrel
    by_cases hlt : i < 5
    · have hlt2 : (i : Int) < 5 := by omega
      obtain ⟨wo, rfl⟩ : ∃ wo : World, wo = wr := ⟨_, rfl⟩
      go_wp2_with fail
      go_loopw [7, 8] (fun q j wr => ∃ (k c : Nat) (out : List Nat), q = .int .u64 c ∧ j = .int .i64 k ∧ k ≤ 5 ∧ Hid (wr.rowIs w.heap.size 66 10 (dcell out)) ∧ Hid (MulRow a b out i k c) ∧ Below w.heap.size w wr) (fun _ j _ => (5 - intOf j).toNat)
      case atStart => exact ⟨0, 0, _, rfl, rfl, by omega, HR, HT.out.row, hbl⟩
      case round =>
        clear HR HT hbl
        obtain ⟨k, q, out, rfl, rfl, hk, HR, HT, hbl⟩ := hrel
        by_cases hkt : k < 5
        · have hkt2 : (k : Int) < 5 := by omega
          obtain ⟨ad, rfl, hla, hca⟩ := HA.out.at hlt
          obtain ⟨bd, rfl, hlb, hcb⟩ := HB.out.at hkt
          have ca : wr.cell? (ad.add i) = some (.int .u64 ((a.getD i 0 : Nat) : Int)) := (hbl.cell (by rw [add_block]; exact hla)).trans hca
          have cb : wr.cell? (bd.add k) = some (.int .u64 ((b.getD k 0 : Nat) : Int)) := (hbl.cell (by rw [add_block]; exact hlb)).trans hcb
          have co : wr.cell? ⟨w.heap.size, i + k, none⟩ = some (.int .u64 ((out.getD (i + k) 0 : Nat) : Int)) := HR.out.cell (by omega)
          have cf : wr.frozen? ⟨w.heap.size, i + k, none⟩ = false := HR.out.frozen _
          clear hca hcb hla hlb
          have hlen : out.length = 10 := by have := HT.out.1; rw [LA.out, LB.out] at this; exact this
          have HLEN := Lib.hid hlen
          clear hlen
          have HN := Lib.hid (HT.out.next DA.out DB.out (by rw [LA.out]; exact hlt) (by rw [LB.out]; exact hkt))
          have hbd := HT.out.bound DA.out DB.out
          have hxy := col_le (DA.out.getD i) (DB.out.getD k)
          have hsz : w.heap.size < wr.heap.size := HR.out.lt
          generalize a.getD i 0 = x at *
          generalize b.getD k 0 = y at *
          generalize out.getD (i + k) 0 = o at *
          obtain ⟨p, hp⟩ : ∃ p, p = x * y := ⟨_, rfl⟩
          obtain ⟨r, hr⟩ : ∃ r, r = o + p := ⟨_, rfl⟩
          obtain ⟨n, hn⟩ : ∃ n, n = r + q := ⟨_, rfl⟩
          rw [← hp] at HN hbd hxy
          have w1 : IntKind.u64.wrap ((x : Int) * (y : Int)) = (p : Int) := wrap_mul hp (by omega)
          rw [← hr] at HN hbd
          have w2 : IntKind.u64.wrap ((o : Int) + (p : Int)) = (r : Int) := by rw [hr, IntKind.wrap_u64]; omega
          rw [← hn] at HN hbd
          have w3 : IntKind.u64.wrap ((r : Int) + (q : Int)) = (n : Int) := by rw [hn, IntKind.wrap_u64]; omega
          clear hp hr hn
          go_wp2_with fail
          go_quiet (fail)
          go_wp2_with fail
          exact ⟨⟨k + 1, n / 65536, _, by go_num, by go_num, by omega, row_set (row_drewN HR.out _) HLEN.out (by omega), HN.out, (below_drewN hbl _).setCell (Nat.le_refl _) _⟩, by simp [intOf] <;> omega⟩
        · obtain rfl : k = 5 := by omega
          have co : wr.cell? ⟨w.heap.size, i + 5, none⟩ = some (.int .u64 ((out.getD (i + 5) 0 : Nat) : Int)) := HR.out.cell (by omega)
          have cf : wr.frozen? ⟨w.heap.size, i + 5, none⟩ = false := HR.out.frozen _
          have HN : Hid (MulRows a b (out.set (i + 5) q) (i + 1)) := by
            have h0 := HT.out.2.2.2.2 (i + 5) (by rw [LB.out]; exact Nat.le_refl _)
            have h1 := HT.out
            rw [← LB.out] at h1
            have h2 := h1.done (by rw [LA.out]; exact hlt)
            rw [LB.out, h0, Nat.zero_add] at h2
            exact h2
          have h0 : out.getD (i + 5) 0 = 0 := HT.out.2.2.2.2 (i + 5) (by rw [LB.out]; exact Nat.le_refl _)
          have hq : q < 65536 := HT.out.2.2.1
          rw [h0] at co
          clear h0
          go_wp2_with fail
          have hlen : out.length = 10 := by have := HT.out.1; rw [LA.out, LB.out] at this; exact this
          exact ⟨⟨i + 1, _, by go_num, by omega, row_set HR.out hlen (by omega), HN.out, hbl.setCell (Nat.le_refl _) _⟩, by simp [intOf] <;> omega⟩
    · obtain rfl : i = 5 := by omega
      go_wp2_with fail
      go_ret
      have hl := HT.out.1
      rw [LA.out, LB.out] at hl
      exact ⟨_, out, rfl, reads_ten HR.out hl HT.out.2.1, hl, (by rw [← LA.out] at HT; exact HT.out.all), hbl⟩
end Go.Proofs.Ytjjigkomiidipaa.SatWalk
namespace Go.Proofs.Ytjjigkomiidipaa.SelPlain
open Go.Proofs.Ytjjigkomiidipaa.SpanPlain Go.Proofs.Ytjjigkomiidipaa.StepPlain Go.Proofs.Ytjjigkomiidipaa.GapPlain Go.Proofs.Ytjjigkomiidipaa.JobPlain Go.Proofs.Ytjjigkomiidipaa.OrdPlain Go.Proofs.Ytjjigkomiidipaa.ApiPlain Go.Proofs.Ytjjigkomiidipaa.ShaPlain Go.Proofs.Ytjjigkomiidipaa.SlaPlain
def waitJ (j : Jb) (now : Int) : Int := if j.sub < now then now - j.sub else 0
def overJ (j : Jb) (now num den : Int) : Bool :=
  decide (1 ≤ j.est) && (decide (j.est ≤ 1099511627776) && (decide (0 ≤ j.sub) && (decide (j.sub ≤ 1125899906842624) && decide (num * j.est ≤ (waitJ j now + j.est) * den))))
structure Sel where
  s : List Sp
  st : List Int
  P : List Prm
/-- One job's turn in a round (who: is it of this round? promise: may it be promised?). -/
def selOne (now : Int) (who promise : Bool) (x : Sel) (j : Jb) : Sel :=
  if who = false then x else if fitF x.s now j = now then ⟨layL x.s now j, x.st ++ [j.id], x.P⟩
  else if now < fitF x.s now j ∧ promise = true then ⟨layL x.s (fitF x.s now j) j, x.st, x.P ++ [⟨j.id, fitF x.s now j, 0⟩]⟩ else x
def selFirst (now num den : Int) : Sel → List Jb → Sel
  | x, [] => x
  | x, j :: l => selFirst now num den (selOne now (overJ j now num den) true x j) l
def selThen (now num den : Int) : Sel → List Jb → Sel
  | x, [] => x
  | x, j :: l => selThen now num den (selOne now (!overJ j now num den) false x j) l
def selP (s : List Sp) (now num den : Int) (js : List Jb) : Sel := selThen now num den (selFirst now num den ⟨s, [], []⟩ js) js
def pids (P : List Prm) : List Int := P.map (·.id)
theorem then_keeps (now num den : Int) : ∀ (l : List Jb) (x : Sel), (selThen now num den x l).P = x.P ∧ ∀ i, i ∈ (selThen now num den x l).st ↔ i ∈ x.st ∨ (i ∈ (selThen now num den x l).st ∧ ∃ j ∈ l, overJ j now num den = false ∧ j.id = i)
  | [], x => ⟨rfl, fun i => ⟨.inl, fun h => h.elim id fun h => h.1⟩⟩
  | j :: l, x => by
    unfold selThen
    obtain ⟨h1, h2⟩ := then_keeps now num den l (selOne now (!overJ j now num den) false x j)
    have h3 : (selOne now (!overJ j now num den) false x j).P = x.P := by
      unfold selOne
      split
      · rfl
      · split
        · rfl
        · rw [if_neg (by simp)]
    have h4 : ∀ i, i ∈ (selOne now (!overJ j now num den) false x j).st → i ∈ x.st ∨ (overJ j now num den = false ∧ j.id = i) := by
      intro i hi
      unfold selOne at hi
      split at hi
      · exact .inl hi
      · rename_i hw
        split at hi
        · rcases List.mem_append.1 hi with hi | hi
          · exact .inl hi
          · rw [List.mem_singleton] at hi
            exact .inr ⟨by simpa using hw, hi.symm⟩
        · rw [if_neg (by simp)] at hi; exact .inl hi
    have h5 : ∀ i, i ∈ x.st → i ∈ (selOne now (!overJ j now num den) false x j).st := by
      intro i hi
      unfold selOne
      split
      · exact hi
      · split
        · exact List.mem_append.2 (.inl hi)
        · rw [if_neg (by simp)]; exact hi
    refine ⟨h1.trans h3, fun i => ⟨fun hi => ?_, fun hi => ?_⟩⟩
    · rcases (h2 i).1 hi with h | ⟨h, k, hk, h6⟩
      · rcases h4 i h with h | ⟨h7, h8⟩
        · exact .inl h
        · exact .inr ⟨hi, j, List.mem_cons_self .., h7, h8⟩
      · exact .inr ⟨h, k, List.mem_cons_of_mem _ hk, h6⟩
    · rcases hi with h | ⟨h, _⟩
      · exact (h2 i).2 (.inl (h5 i h))
      · exact h
/-- What the first round brings about, where every job that may be has room by the steps (Room). -/
theorem first_tells {M : Nat} {now num den : Int} {Room : Nat → List Sp → Prop} {mayJ : Jb → Prop} {js : List Jb}
    (r1 : ∀ n s j, n < M → Room n s → j ∈ js → mayJ j → now ≤ fitF s now j) (r2 : ∀ n s j, n < M → Room n s → j ∈ js → now ≤ fitF s now j → Room (n + 1) (layL s (fitF s now j) j)) (r3 : ∀ n s j, n < M → Room n s → j ∈ js → ¬ mayJ j → fitF s now j < now) (r4 : ∀ n s, Room n s → Room (n + 1) s) :
    ∀ (l : List Jb) (n : Nat) (x : Sel), n + l.length ≤ M → Room n x.s → (∀ j ∈ l, j ∈ js) → (l.map (·.id)).Nodup → (∀ j ∈ l, j.id ∉ x.st ∧ j.id ∉ pids x.P) →
      Room (n + l.length) (selFirst now num den x l).s ∧ (∀ i, i ∉ l.map (·.id) → (i ∈ (selFirst now num den x l).st ↔ i ∈ x.st) ∧ (i ∈ pids (selFirst now num den x l).P ↔ i ∈ pids x.P)) ∧
      ∀ j ∈ l, (j.id ∈ pids (selFirst now num den x l).P ↔ (overJ j now num den = true ∧ mayJ j ∧ j.id ∉ (selFirst now num den x l).st))
  | [], n, x, _, h, _, _, _ => ⟨h, fun _ _ => ⟨Iff.rfl, Iff.rfl⟩, fun _ hj => by cases hj⟩
  | j :: l, n, x, hM, h, hm, hd, hf => by
    rw [List.length_cons] at hM
    have hlt : n < M := by omega
    unfold selFirst
    rw [List.map_cons, List.nodup_cons] at hd
    obtain ⟨f1, f2⟩ := hf j (List.mem_cons_self ..)
    have hj := hm j (List.mem_cons_self ..)
    have step : ∃ y : Sel, selOne now (overJ j now num den) true x j = y ∧ Room (n + 1) y.s ∧ (∀ i, i ≠ j.id → (i ∈ y.st ↔ i ∈ x.st) ∧ (i ∈ pids y.P ↔ i ∈ pids x.P)) ∧ (j.id ∈ pids y.P ↔ (overJ j now num den = true ∧ mayJ j ∧ j.id ∉ y.st)) := by
      refine ⟨_, rfl, ?_⟩
      unfold selOne
      cases ho : overJ j now num den with
      | false => exact ⟨r4 _ _ h, fun _ _ => ⟨Iff.rfl, Iff.rfl⟩, ⟨fun h => absurd h f2, fun h => by cases h.1⟩⟩
      | true =>
        rw [if_neg (by simp)]
        by_cases h1 : fitF x.s now j = now
        · rw [if_pos h1]
          have h2 := r2 n x.s j hlt h hj (by omega)
          rw [h1] at h2
          exact ⟨h2, fun i hi => ⟨by simp [hi], Iff.rfl⟩, ⟨fun h => absurd h f2, fun h => absurd (List.mem_append.2 (.inr (List.mem_singleton.2 rfl))) h.2.2⟩⟩
        · rw [if_neg h1]
          by_cases h2 : now < fitF x.s now j
          · rw [if_pos ⟨h2, rfl⟩]
            refine ⟨r2 n x.s j hlt h hj (by omega), fun i hi => ⟨Iff.rfl, by simp [pids, hi]⟩, ⟨fun _ => ⟨rfl, ?_, f1⟩, fun _ => by simp [pids]⟩⟩
            by_cases hmj : mayJ j
            · exact hmj
            · have := r3 n x.s j hlt h hj hmj; omega
          · rw [if_neg (by simp [h2])]
            exact ⟨r4 _ _ h, fun _ _ => ⟨Iff.rfl, Iff.rfl⟩, ⟨fun h => absurd h f2, fun hh => by have := r1 n x.s j hlt h hj hh.2.1; omega⟩⟩
    obtain ⟨y, hy, s1, s2, s3⟩ := step
    rw [hy]
    obtain ⟨t1, t2, t3⟩ := first_tells r1 r2 r3 r4 l (n + 1) y (by omega) s1 (fun k hk => hm k (List.mem_cons_of_mem _ hk)) hd.2 fun k hk => by
      have hne : k.id ≠ j.id := fun e => hd.1 (by rw [← e]; exact List.mem_map.2 ⟨k, hk, rfl⟩)
      obtain ⟨g1, g2⟩ := hf k (List.mem_cons_of_mem _ hk)
      obtain ⟨e1, e2⟩ := s2 k.id hne
      exact ⟨fun h => g1 (e1.1 h), fun h => g2 (e2.1 h)⟩
    refine ⟨by rw [List.length_cons, show n + (l.length + 1) = n + 1 + l.length by omega]; exact t1, fun i hi => ?_, fun k hk => ?_⟩
    · rw [List.map_cons, List.mem_cons, not_or] at hi
      obtain ⟨e1, e2⟩ := t2 i hi.2
      obtain ⟨e3, e4⟩ := s2 i hi.1
      exact ⟨e1.trans e3, e2.trans e4⟩
    · rcases List.mem_cons.1 hk with rfl | hk
      · obtain ⟨e1, e2⟩ := t2 k.id hd.1
        rw [e2, e1]; exact s3
      · exact t3 k hk
theorem sel_tells {M : Nat} {now num den : Int} {Room : Nat → List Sp → Prop} {mayJ : Jb → Prop} {js : List Jb} {s : List Sp}
    (r1 : ∀ n s j, n < M → Room n s → j ∈ js → mayJ j → now ≤ fitF s now j) (r2 : ∀ n s j, n < M → Room n s → j ∈ js → now ≤ fitF s now j → Room (n + 1) (layL s (fitF s now j) j)) (r3 : ∀ n s j, n < M → Room n s → j ∈ js → ¬ mayJ j → fitF s now j < now) (r4 : ∀ n s, Room n s → Room (n + 1) s)
    (hM : js.length ≤ M) (h : Room 0 s) (hd : (js.map (·.id)).Nodup) : ∀ j ∈ js, (j.id ∈ pids (selP s now num den js).P ↔ (overJ j now num den = true ∧ mayJ j ∧ j.id ∉ (selP s now num den js).st)) := by
  intro j hj
  obtain ⟨_, _, h3⟩ := first_tells (num := num) (den := den) r1 r2 r3 r4 js 0 ⟨s, [], []⟩ (by omega) h (fun _ h => h) hd (fun _ _ => ⟨by simp, by simp [pids]⟩)
  obtain ⟨k1, k2⟩ := then_keeps now num den js (selFirst now num den ⟨s, [], []⟩ js)
  unfold selP
  rw [k1, h3 j hj]
  constructor
  · rintro ⟨a, b, c⟩
    refine ⟨a, b, fun hc => ?_⟩
    rcases (k2 j.id).1 hc with h | ⟨_, q, hq, h5, h6⟩
    · exact c h
    · have : q = j := by
        have hp := List.pairwise_iff_getElem.1 (List.nodup_iff_pairwise_ne.1 hd)
        obtain ⟨a1, ha1, rfl⟩ := List.mem_iff_getElem.1 hq
        obtain ⟨a2, ha2, rfl⟩ := List.mem_iff_getElem.1 hj
        rcases Nat.lt_trichotomy a1 a2 with g | g | g
        · exact absurd (by rw [List.getElem_map, List.getElem_map]; exact h6) (hp a1 a2 (by simpa using ha1) (by simpa using ha2) g)
        · subst g; rfl
        · exact absurd (by rw [List.getElem_map, List.getElem_map]; exact h6.symm) (hp a2 a1 (by simpa using ha2) (by simpa using ha1) g)
      subst this
      rw [a] at h5; cases h5
  · rintro ⟨a, b, c⟩
    exact ⟨a, b, fun hc => c ((k2 j.id).2 (.inl hc))⟩
/-- Steps that are F from a time on, n jobs laid. -/
def RoomF (H F L : Int) (n : Nat) (s : List Sp) : Prop := Chk s ∧ head s = H ∧ ∀ t, L + 1099511627776 * n ≤ t → val s t = F
def mayJ (j : Jb) : Prop := (1 ≤ j.width ∧ j.width ≤ 256) ∧ 1 ≤ j.est ∧ j.est ≤ 1099511627776
theorem room_late {H F L : Int} {n : Nat} {s : List Sp} {j : Jb} (h : RoomF H F L n s) (h1 : H ≤ L) (h2 : L ≤ 562949953421312) (hn : n < 100) (hw : j.width ≤ F) : GapPlain.Room s (L + 1099511627776 * n) j.width j.est := by
  obtain ⟨_, hh, hv⟩ := h
  refine ⟨by omega, by omega, fun t ht _ => ?_⟩
  rw [hv t ht]; exact hw
theorem fit_now {H F L now : Int} {n : Nat} {s : List Sp} {j : Jb} (h : RoomF H F L n s) (h0 : now ≤ L) (h1 : H ≤ L) (h2 : L ≤ 562949953421312) (hn : n < 100) (hw : j.width ≤ F) (hj : mayJ j) : now ≤ fitF s now j := by
  have hr := room_late h h1 h2 hn hw
  have hm : mayG s j.width j.est = true := mayG_iff.2 ⟨h.1, hj.1, hj.2⟩
  rcases fitF_cases s now j with ⟨_, h4⟩ | ⟨h3, _⟩
  · rcases h4 with ⟨h5, _⟩ | ⟨_, _, h5⟩
    · cases h5
    · rcases h5 with h5 | h5
      · rw [hm] at h5; cases h5
      · exact absurd hr (h5 _ (by omega))
  · exact (fitF_ok h3).2.1
theorem fit_never {s : List Sp} {now : Int} {j : Jb} (hj : ¬ mayJ j) : fitF s now j = -1 := by
  unfold fitF
  rw [if_neg]
  intro h
  exact hj (mayG_iff.1 h).2
theorem room_laid {H F L now : Int} {n : Nat} {s : List Sp} {j : Jb} (h : RoomF H F L n s) (hnow : 0 ≤ now) (h0 : now ≤ L) (h1 : H ≤ L) (h2 : L ≤ 562949953421312) (hn : n < 100) (hw : j.width ≤ F) (hf : now ≤ fitF s now j) : RoomF H F L (n + 1) (layL s (fitF s now j) j) := by
  have hr := room_late h h1 h2 hn hw
  have hok := (fitF_ok (s := s) (now := now) (j := j) (by omega)).1
  obtain ⟨_, _, ⟨he1, he2⟩, _, _, _, hx, _, _⟩ := room_may hok
  have hle : fitF s now j ≤ L + 1099511627776 * n := by
    rcases fitF_cases s now j with ⟨h3, _⟩ | ⟨_, h4⟩
    · omega
    · rcases h4 with ⟨_, _, _, _, h5⟩ | ⟨h5, _⟩
      · exact h5 _ (by omega) hr
      · cases h5
  obtain ⟨g1, g2, g3⟩ := lay_rep hok (layL_is hok)
  refine ⟨g1, g2.trans h.2.1, fun t ht => ?_⟩
  have hh := h.2.1
  have ht2 : L + 1099511627776 * (n : Int) + 1099511627776 ≤ t := by push_cast at ht; omega
  have hn0 : (0 : Int) ≤ 1099511627776 * (n : Int) := by omega
  rw [g3 t (by omega)]
  unfold addF
  rw [if_neg]
  · exact h.2.2 t (by omega)
  · intro hb
    rw [hasB_iff] at hb
    have : t < fitF s now j + j.est := hb.2.2
    omega
theorem room_start {s : List Sp} {now : Int} (h : Chk s) (hh : head s ≤ now) : RoomF (head s) (nth s (s.length - 1)).2 (max now (nth s (s.length - 1)).1) 0 s := by
  refine ⟨h, rfl, fun t ht => ?_⟩
  have hp := h.pos
  have hs : s = s.take (s.length - 1) ++ [s[s.length - 1]] := by
    rw [← List.take_succ_eq_append_getElem (by omega), show s.length - 1 + 1 = s.length by omega, List.take_length]
  have hk : s.length - 1 < s.length := by omega
  have hn : nth s (s.length - 1) = s[s.length - 1] := by unfold nth; simp [List.getD, hk]
  generalize s[s.length - 1] = y at *
  rw [hn] at ht ⊢
  rw [hs, val_snoc, if_pos (by omega)]
/-- What the statement asks: who is promised. -/
theorem sel_promised {s : List Sp} {now num den : Int} {js : List Jb} (h : Chk s) (hh : head s ≤ now) (hn : now ≤ 562949953421312) (hl : (nth s (s.length - 1)).1 ≤ 562949953421312) (hw : ∀ j ∈ js, j.width ≤ (nth s (s.length - 1)).2) (hd : (js.map (·.id)).Nodup) (hj : js.length ≤ 20) :
    ∀ j ∈ js, (j.id ∈ pids (selP s now num den js).P ↔ (overJ j now num den = true ∧ 0 ≤ fitF s now j ∧ j.id ∉ (selP s now num den js).st)) := by
  have h0 := h.lo
  have hx : max now (nth s (s.length - 1)).1 ≤ 562949953421312 := by omega
  have ha : head s ≤ max now (nth s (s.length - 1)).1 := by omega
  have hs := room_start h hh
  have k := sel_tells (M := 20) (now := now) (num := num) (den := den) (Room := RoomF (head s) (nth s (s.length - 1)).2 (max now (nth s (s.length - 1)).1)) (mayJ := mayJ) (js := js)
    (fun n s j hn hr hj hm => fit_now hr (by omega) ha hx (by omega) (hw j hj) hm)
    (fun n s j hn hr hj hm => room_laid hr (by omega) (by omega) ha hx (by omega) (hw j hj) hm)
    (fun n s j hn hr hj hm => by rw [fit_never hm]; omega)
    (fun n s hr => ⟨hr.1, hr.2.1, fun t ht => hr.2.2 t (by push_cast at ht; omega)⟩) hj hs hd
  intro j hjm
  rw [k j hjm]
  have hiff : mayJ j ↔ 0 ≤ fitF s now j := by
    constructor
    · intro hm
      have := fit_now (now := now) hs (by omega) ha hx (by omega) (hw j hjm) hm
      omega
    · intro hf
      by_cases hm : mayJ j
      · exact hm
      · rw [fit_never hm] at hf; omega
  rw [hiff]
theorem over_iff {j : Jb} {now num den : Int} : overJ j now num den = true ↔ (1 ≤ j.est ∧ j.est ≤ 1099511627776) ∧ (0 ≤ j.sub ∧ j.sub ≤ 1125899906842624) ∧ num * j.est ≤ (waitJ j now + j.est) * den := by
  unfold overJ
  simp only [Bool.and_eq_true, decide_eq_true_eq]
  constructor
  · rintro ⟨a, b, c, d, e⟩; exact ⟨⟨a, b⟩, ⟨c, d⟩, e⟩
  · rintro ⟨⟨a, b⟩, ⟨c, d⟩, e⟩; exact ⟨a, b, c, d, e⟩
theorem wait_mono {j : Jb} {a b : Int} (h : a ≤ b) : waitJ j a ≤ waitJ j b := by unfold waitJ; split <;> split <;> omega
theorem over_mono {j : Jb} {a b num den : Int} (hd : 1 ≤ den) (h : a ≤ b) (ho : overJ j a num den = true) : overJ j b num den = true := by
  obtain ⟨h1, h2, h3⟩ := over_iff.1 ho
  refine over_iff.2 ⟨h1, h2, Int.le_trans h3 ?_⟩
  refine Int.mul_le_mul_of_nonneg_right ?_ (by omega)
  have := wait_mono (j := j) h
  omega
/-- Since when is a job over a threshold that may be? -/
def SinceIs (j : Jb) (num den t : Int) (ok : Bool) : Prop :=
  (ok = true ∧ 0 ≤ t ∧ t ≤ 1125899906842624 ∧ overJ j t num den = true ∧ (0 < t → overJ j (t - 1) num den = false)) ∨ (ok = false ∧ t = 0 ∧ overJ j 1125899906842624 num den = false)
theorem since_at {j : Jb} {num den t now : Int} (hd : 1 ≤ den) (h : SinceIs j num den t true) (h0 : 0 ≤ now) : overJ j now num den = decide (t ≤ now) := by
  rcases h with ⟨_, h1, h2, h3, h4⟩ | ⟨h, _⟩
  · by_cases hn : t ≤ now
    · rw [over_mono hd hn h3, decide_eq_true hn]
    · rw [decide_eq_false hn]
      cases ho : overJ j now num den with
      | false => rfl
      | true =>
        have := over_mono hd (show now ≤ t - 1 by omega) ho
        rw [h4 (by omega)] at this; cases this
  · cases h
theorem SinceIs.unique {j : Jb} {num den a b : Int} {p q : Bool} (hd : 1 ≤ den) (x : SinceIs j num den a p) (y : SinceIs j num den b q) : a = b ∧ p = q := by
  have key : ∀ {t : Int}, SinceIs j num den t true → overJ j 1125899906842624 num den = true := fun h => by
    rcases h with ⟨_, _, h2, h3, _⟩ | ⟨h, _⟩
    · exact over_mono hd h2 h3
    · cases h
  cases p <;> cases q
  · rcases x with ⟨h, _⟩ | ⟨_, rfl, _⟩
    · cases h
    · rcases y with ⟨h, _⟩ | ⟨_, rfl, _⟩
      · cases h
      · exact ⟨rfl, rfl⟩
  · rcases x with ⟨h, _⟩ | ⟨_, _, h⟩
    · cases h
    · rw [key y] at h; cases h
  · rcases y with ⟨h, _⟩ | ⟨_, _, h⟩
    · cases h
    · rw [key x] at h; cases h
  · have hx : ∀ now, 0 ≤ now → (a ≤ now ↔ b ≤ now) := fun now h => by
      have e := (since_at hd x h).symm.trans (since_at hd y h)
      rw [decide_eq_decide] at e; exact e
    rcases x with ⟨_, a0, _⟩ | ⟨h, _⟩
    · rcases y with ⟨_, b0, _⟩ | ⟨h, _⟩
      · have h1 := (hx a a0).1 (Int.le_refl _)
        have h2 := (hx b b0).2 (Int.le_refl _)
        exact ⟨by omega, rfl⟩
      · cases h
    · cases h
end Go.Proofs.Ytjjigkomiidipaa.SelPlain
namespace Go.Proofs.Ytjjigkomiidipaa.SelRef
open Go.RowKit Go.Proofs.Ytjjigkomiidipaa.JobPlain Go.Proofs.Ytjjigkomiidipaa.SelPlain Go.Proofs.Ytjjigkomiidipaa.SatPlain Go.Proofs.Ytjjigkomiidipaa.SatWalk Go.Proofs.Ytjjigkomiidipaa.Mem Go.Proofs.Ytjjigkomiidipaa.JobMem Go.Proofs.Ytjjigkomiidipaa.ShaRef
/-- May a threshold be? -/
def mayT (num den : Int) : Bool := decide (0 ≤ num) && (decide (num ≤ 1048576) && (decide (1 ≤ den) && decide (den ≤ 1048576)))
theorem mayT_iff {num den : Int} : mayT num den = true ↔ (0 ≤ num ∧ num ≤ 1048576) ∧ 1 ≤ den ∧ den ≤ 1048576 := by
  unfold mayT
  simp only [Bool.and_eq_true, decide_eq_true_eq]
  constructor
  · rintro ⟨a, b, c, d⟩; exact ⟨⟨a, b⟩, c, d⟩
  · rintro ⟨⟨a, b⟩, c, d⟩; exact ⟨a, b, c, d⟩
theorem mayT_ways (num den : Int) : (decide (0 ≤ num) = false ∧ mayT num den = false) ∨ (decide (0 ≤ num) = true ∧ decide (num ≤ 1048576) = false ∧ mayT num den = false) ∨ (decide (0 ≤ num) = true ∧ decide (num ≤ 1048576) = true ∧ decide (1 ≤ den) = false ∧ mayT num den = false) ∨
    (decide (0 ≤ num) = true ∧ decide (num ≤ 1048576) = true ∧ decide (1 ≤ den) = true ∧ decide (den ≤ 1048576) = false ∧ mayT num den = false) ∨ (decide (0 ≤ num) = true ∧ decide (num ≤ 1048576) = true ∧ decide (1 ≤ den) = true ∧ decide (den ≤ 1048576) = true ∧ mayT num den = true) := by
  unfold mayT
  cases decide (0 ≤ num) <;> cases decide (num ≤ 1048576) <;> cases decide (1 ≤ den) <;> cases decide (den ≤ 1048576) <;> simp
def BoolQ (b : Bool) (w : World) (e : Ending) (w' : World) : Prop := e = .returned (.bool b) ∧ w = w'
theorem may20 (num den : Int) (w : World) : Calls Try.prog 7 #[.int .i64 num, .int .i64 den] w (BoolQ (mayT num den) w) := by
  rcases mayT_ways num den with ⟨d1, h⟩ | ⟨d1, d2, h⟩ | ⟨d1, d2, d3, h⟩ | ⟨d1, d2, d3, d4, h⟩ | ⟨d1, d2, d3, d4, h⟩
  all_goals
    rw [h]
    clear h
    go_enter Try.func7, Try.ntmps7
    go_wp2_with fail
    go_ret
    exact ⟨rfl, rfl⟩
theorem over_ways (j : Jb) (now num den : Int) : (decide (j.est < 1) = true ∧ overJ j now num den = false) ∨ (decide (j.est < 1) = false ∧ decide (1099511627776 < j.est) = true ∧ overJ j now num den = false) ∨ (decide (j.est < 1) = false ∧ decide (1099511627776 < j.est) = false ∧ decide (j.sub < 0) = true ∧ overJ j now num den = false) ∨
    (decide (j.est < 1) = false ∧ decide (1099511627776 < j.est) = false ∧ decide (j.sub < 0) = false ∧ decide (1125899906842624 < j.sub) = true ∧ overJ j now num den = false) ∨
    (decide (j.est < 1) = false ∧ decide (1099511627776 < j.est) = false ∧ decide (j.sub < 0) = false ∧ decide (1125899906842624 < j.sub) = false ∧ (1 ≤ j.est ∧ j.est ≤ 1099511627776 ∧ 0 ≤ j.sub ∧ j.sub ≤ 1125899906842624) ∧ overJ j now num den = decide (num * j.est ≤ (waitJ j now + j.est) * den)) := by
  unfold overJ
  by_cases h1 : 1 ≤ j.est
  · by_cases h2 : j.est ≤ 1099511627776
    · by_cases h3 : 0 ≤ j.sub
      · by_cases h4 : j.sub ≤ 1125899906842624
        · exact .inr (.inr (.inr (.inr ⟨decide_eq_false (by omega), decide_eq_false (by omega), decide_eq_false (by omega), decide_eq_false (by omega), ⟨h1, h2, h3, h4⟩, by simp [h1, h2, h3, h4]⟩)))
        · exact .inr (.inr (.inr (.inl ⟨decide_eq_false (by omega), decide_eq_false (by omega), decide_eq_false (by omega), decide_eq_true (by omega), by simp [h4]⟩)))
      · exact .inr (.inr (.inl ⟨decide_eq_false (by omega), decide_eq_false (by omega), decide_eq_true (by omega), by simp [h3]⟩))
    · exact .inr (.inl ⟨decide_eq_false (by omega), decide_eq_true (by omega), by simp [h2]⟩)
  · exact .inl ⟨decide_eq_true (by omega), by simp [h1]⟩
theorem held_cell {w w' : World} {n k : Nat} {v : Value} (hb : Below w.heap.size w w') (hl : n < w.heap.size) (h : w.cell? ⟨n, k, none⟩ = some v) : w'.cell? ⟨n, k, none⟩ = some v ∧ n < w'.heap.size :=
  ⟨(hb.cell (p := ⟨n, k, none⟩) hl).trans h, Nat.lt_of_lt_of_le hl hb.size⟩
/-- The comparison of the two products. -/
theorem over_cmp {V den num est : Int} (h0 : 0 ≤ V) (h1 : 0 ≤ den) (h2 : 0 ≤ num) (h3 : 0 ≤ est) {a b : Nat} (ha : a = dval (dg V.natAbs) * dval (dg den.natAbs)) (hb : b = dval (dg num.natAbs) * dval (dg est.natAbs)) : decide (0 ≤ cmpI a b) = decide (num * est ≤ V * den) := by
  rw [dg_val, dg_val] at ha hb
  have e1 : (a : Int) = V * den := by
    rw [ha, Int.natCast_mul, Int.natAbs_of_nonneg h0, Int.natAbs_of_nonneg h1]
  have e2 : (b : Int) = num * est := by
    rw [hb, Int.natCast_mul, Int.natAbs_of_nonneg h2, Int.natAbs_of_nonneg h3]
  rw [← e1, ← e2, decide_eq_decide]
  have := cmpI_neg a b
  have h := cmpI_le (a := b) (b := a)
  omega
set_option maxRecDepth 100000 in
set_option maxHeartbeats 3200000 in
theorem over20 (j : Jb) (now num den : Int) (w : World) (h0 : 0 ≤ now) (h1 : now ≤ 1125899906842624) (ht : mayT num den = true) : Calls Try.prog 8 #[jobV j, .int .i64 now, .int .i64 num, .int .i64 den] w (BoolS (overJ j now num den) w) := by
  obtain ⟨⟨t1, t2⟩, t3, t4⟩ := mayT_iff.1 ht
  obtain ⟨id, user, width, est, prio, sub, state, start, fin⟩ := j
  have HX := Lib.hid (JobBox.new w ⟨id, user, width, est, prio, sub, state, start, fin⟩ 23)
  have HB := Lib.hid (box_s w (.cells #[.int .i64 id, .string user, .int .i64 width, .int .i64 est, .int .i64 prio, .int .i64 sub, .int .i64 state, .int .i64 start, .int .i64 fin] 23))
  clear ht
  unfold jobV jobA
  dsimp only
  rcases over_ways ⟨id, user, width, est, prio, sub, state, start, fin⟩ now num den with ⟨d1, h⟩ | ⟨d1, d2, h⟩ | ⟨d1, d2, d3, h⟩ | ⟨d1, d2, d3, d4, h⟩ | ⟨d1, d2, d3, d4, ⟨e1, e2, e3, e4⟩, h⟩
  iterate 4
    · rw [h]
      clear h
      go_enter Try.func8, Try.ntmps8
      go_upto_region 1 with fail
      generalize w.alloc (.cells #[.int .i64 id, .string user, .int .i64 width, .int .i64 est, .int .i64 prio, .int .i64 sub, .int .i64 state, .int .i64 start, .int .i64 fin] 23) = W0 at *
      obtain ⟨y, y0, y1, y2, y3, y4, y5, y6, y7, y8, _, _, _, _, _, _, _, _, _⟩ := HX.out
      go_wp2_with fail
      go_ret
      exact ⟨rfl, HB.out⟩
  dsimp only at d1 d2 d3 d4 e1 e2 e3 e4 h
  obtain ⟨V, hV⟩ : ∃ V, waitJ ⟨id, user, width, est, prio, sub, state, start, fin⟩ now = V := ⟨_, rfl⟩
  have hW : Hid ((sub < now ∧ now - sub = V) ∨ (¬ sub < now ∧ (0 : Int) = V)) := by
    show _ ∨ _
    rw [← hV]
    unfold waitJ
    by_cases g : sub < now
    · exact .inl ⟨g, (if_pos g).symm⟩
    · exact .inr ⟨g, (if_neg g).symm⟩
  rw [h, hV]
  have v0 : 0 ≤ V ∧ V ≤ 1125899906842624 := by
    rcases hW.out with ⟨g, rfl⟩ | ⟨_, rfl⟩
    · omega
    · omega
  obtain ⟨v0, v1⟩ := v0
  have HX3 := Lib.hid HX.out.c3
  have HX5 := Lib.hid HX.out.c5
  have HL := Lib.hid HX.out.lt
  clear h hV
  have HCMP := Lib.hid (fun a b ha hb => over_cmp (V := V + est) (den := den) (num := num) (est := est) (by omega) (by omega) t1 (by omega) (a := a) (b := b) ha hb)
  generalize decide (num * est ≤ (V + est) * den) = R at *
  go_enter Try.func8, Try.ntmps8
  go_upto_region 1 with fail
  generalize w.alloc (.cells #[.int .i64 id, .string user, .int .i64 width, .int .i64 est, .int .i64 prio, .int .i64 sub, .int .i64 state, .int .i64 start, .int .i64 fin] 23) = W0 at *
  clear HX
  have y3 := HX3.out
  have y5 := HX5.out
  have hl := HL.out
  go_upto_if 31 with fail
  go_cut [9] (fun c wc => c = .int .i64 V ∧ W0 = wc)
  case first =>
    rcases hW.out with ⟨d5, hv⟩ | ⟨d5, hv⟩
    · have HV := Lib.hid hv
      clear hv
      go_wp2_with fail
      go_meet
      exact ⟨by rw [HV.out], rfl⟩
    · have HV := Lib.hid hv
      clear hv
      go_wp2_with fail
      go_meet
      exact ⟨by rw [HV.out], rfl⟩
  case rest =>
    obtain ⟨rfl, rfl⟩ := hcut
    have wr1 : IntKind.i64.wrap (V + est) = V + est := by rw [IntKind.wrap_i64]; omega
    have C1 := Lib.hid (fun W => digits_any (V + est) W (by omega) (by omega))
    have C2 := Lib.hid (fun W => digits_any den W (by omega) (by omega))
    have C3 := Lib.hid (fun W => digits_any num W (by omega) (by omega))
    have C4 := Lib.hid (fun W => digits_any est W (by omega) (by omega))
    go_upto_region 6 with fail
    go_region_held3 (fun w' => w'.cell? ⟨w.heap.size, 3, none⟩ = some (.int .i64 est) ∧ w.heap.size < w'.heap.size)
      (first | go_keep | (go_split_ands; exact held_cell (by assumption) (by assumption) (by assumption)))
      (first
        | (go_at_call_of 19 (Value.int IntKind.i64 (V + est)); refine (C1.out _).mono ?_; rintro e w1 ⟨u1, rfl, hr1, hb1⟩)
        | (go_at_call_of 19 (Value.int IntKind.i64 den); refine (C2.out _).mono ?_; rintro e w2 ⟨u2, rfl, hr2, hb2⟩)
        | (go_at_call_of 18 u1; refine (times_any u1 u2 _ _ _ (hr1.below (by assumption)) hr2 rfl rfl).mono ?_; rintro e w3 ⟨u3, l3, rfl, hr3, hl3, hv3, hb3⟩)
        | (go_at_call_of 19 (Value.int IntKind.i64 num); refine (C3.out _).mono ?_; rintro e w4 ⟨u4, rfl, hr4, hb4⟩)
        | (go_at_call_of 19 (Value.int IntKind.i64 est); refine (C4.out _).mono ?_; rintro e w5 ⟨u5, rfl, hr5, hb5⟩)
        | (go_at_call_of 18 u4; refine (times_any u4 u5 _ _ _ (hr4.below (by assumption)) hr5 rfl rfl).mono ?_; rintro e w6 ⟨u6, l6, rfl, hr6, hl6, hv6, hb6⟩)
        | (go_at_call 17; refine (cmp_any u3 u6 _ _ _ (((hr3.below hb4).below hb5).below hb6) hr6 (by omega) (by omega)).mono ?_; rintro e w7 ⟨rfl, rfl⟩))
    have HB6 := Lib.hid (thenS HB.out (below_then (below_of_drew hb1) (below_then hb2 (below_then hb3 (below_then hb4 (below_then hb5 hb6))))))
    have HR := Lib.hid (HCMP.out _ _ rfl rfl)
    clear hr1 hr2 hr3 hr4 hr5 hr6 hb1 hb2 hb3 hb4 hb5 hb6 hv3 hv6 hl3 hl6
    go_split_ands
    go_wp2_with fail
    go_ret
    exact ⟨by rw [← HR.out]; rfl, HB6.out⟩
end Go.Proofs.Ytjjigkomiidipaa.SelRef
namespace Go.Proofs.Ytjjigkomiidipaa.SelWalk
open Go.RowKit Go.Proofs.Ytjjigkomiidipaa.SpanPlain Go.Proofs.Ytjjigkomiidipaa.StepPlain Go.Proofs.Ytjjigkomiidipaa.GapPlain Go.Proofs.Ytjjigkomiidipaa.JobPlain Go.Proofs.Ytjjigkomiidipaa.OrdPlain Go.Proofs.Ytjjigkomiidipaa.ApiPlain Go.Proofs.Ytjjigkomiidipaa.ShaPlain Go.Proofs.Ytjjigkomiidipaa.SlaPlain Go.Proofs.Ytjjigkomiidipaa.SelPlain Go.Proofs.Ytjjigkomiidipaa.Mem Go.Proofs.Ytjjigkomiidipaa.SpanMem Go.Proofs.Ytjjigkomiidipaa.StepMem Go.Proofs.Ytjjigkomiidipaa.JobMem Go.Proofs.Ytjjigkomiidipaa.OrdMem Go.Proofs.Ytjjigkomiidipaa.ApiMem Go.Proofs.Ytjjigkomiidipaa.SpanRef Go.Proofs.Ytjjigkomiidipaa.StepRef Go.Proofs.Ytjjigkomiidipaa.GapRef Go.Proofs.Ytjjigkomiidipaa.ShaRef Go.Proofs.Ytjjigkomiidipaa.SlaRef Go.Proofs.Ytjjigkomiidipaa.SelRef
def TrueIs (w : World) (e : Ending) (w' : World) : Prop := e = .returned (.bool true) ∧ Below w.heap.size w w'
/-- Over the threshold, as the code is asked. -/
def overF (j : Jb) (now num den : Int) : Bool := mayT num den && (decide (0 ≤ now) && (decide (now ≤ 1125899906842624) && overJ j now num den))
def SinceSays (j : Jb) (num den : Int) (w : World) (e : Ending) (w' : World) : Prop :=
  ∃ t ok, e = .returned (.tuple #[.int .i64 t, .bool ok]) ∧ ((mayT num den = true ∧ SinceIs j num den t ok) ∨ (mayT num den = false ∧ t = 0 ∧ ok = false)) ∧ Below w.heap.size w w'
/-- Why there is no pass. -/
def codeS (s : List Sp) (now num den : Int) (js : List Jb) : Int := if c16 s now js.length ≠ 0 then c16 s now js.length else if mayT num den = true then 0 else 1
def PassSays (s : List Sp) (now num den : Int) (js : List Jb) (w : World) (e : Ending) (w' : World) : Prop :=
  ∃ a b c st P t, e = .returned (.tuple #[.agg #[a, b], c, .int .i64 (codeS s now num den js)]) ∧ IntsAt st w' a ∧ prmL.Is P w' b ∧ SpansIs t w' c ∧ ((codeS s now num den js = 0 ∧ selP s now num den js = ⟨t, st, P⟩) ∨ (codeS s now num den js ≠ 0 ∧ st = [] ∧ P = [] ∧ t = [])) ∧ Below w.heap.size w w'
def exJ : Jb := ⟨1, ⟨#[]⟩, 5, 5, 0, 0, 0, 0, 0⟩
theorem ex_may : mayT 2 1 = true := by decide
theorem ex_over5 : overF exJ 5 2 1 = true := by decide
theorem ex_over4 : overF exJ 4 2 1 = false := by decide
theorem ex_since {t : Int} {ok : Bool} (h : (mayT 2 1 = true ∧ SinceIs exJ 2 1 t ok) ∨ (mayT 2 1 = false ∧ t = 0 ∧ ok = false)) : t = 5 ∧ ok = true := by
  rcases h with ⟨_, h⟩ | ⟨h, _⟩
  · exact SinceIs.unique (by decide) h (.inl ⟨rfl, by decide, by decide, by decide, fun _ => by decide⟩)
  · rw [ex_may] at h; cases h
end Go.Proofs.Ytjjigkomiidipaa.SelWalk
namespace Go.Proofs
open Go.Shelf
def Try.lays134_ren : Go.Shelf.Ren := ⟨fun | 134 => 37 | 129 => 49 | n => n, fun | 53 => 66 | 3 => 3 | 4 => 4 | 46 => 78 | 5 => 5 | 9 => 9 | n => n, fun | n => n⟩
theorem Try.lays134 : Go.Proofs.Lays.n134 Try.prog Try.lays134_ren := {
  mixed := by kernel_rfl
  f129 := Try.func49.trans (congrArg some (by kernel_rfl))
  f134 := Try.func37.trans (congrArg some (by kernel_rfl))
  t3 := Try.underlying3
  a3 := Try.isAgg3
  z3 := Try.sizeOf3
  v3 := Try.zeroValue3
  t4 := Try.underlying4
  a4 := Try.isAgg4
  z4 := Try.sizeOf4
  v4 := Try.zeroValue4
  t5 := Try.underlying5
  a5 := Try.isAgg5
  z5 := Try.sizeOf5
  v5 := Try.zeroValue5
  t9 := Try.underlying9
  a9 := Try.isAgg9
  z9 := Try.sizeOf9
  v9 := Try.zeroValue9
  t46 := Try.underlying78
  a46 := Try.isAgg78
  z46 := Try.sizeOf78
  v46 := Try.zeroValue78
  t53 := Try.underlying66
  a53 := Try.isAgg66
  z53 := Try.sizeOf66
  v53 := Try.zeroValue66 }
theorem Try.bits_LeadingZeros64 (x : Int) (w : World) (h0 : 0 ≤ x) (h1 : x ≤ 18446744073709551615) :
    Calls Try.prog 37 #[.int .u64 x] w fun e w' => e = .returned (.int .i64 (64 - (Lib.bitLen x.toNat : Int))) ∧ w' = w := Any.bits_LeadingZeros64 Try.lays134 x w h0 h1
def Try.lays122_ren : Go.Shelf.Ren := ⟨fun | 122 => 53 | 215 => 59 | n => n, fun | 3 => 3 | 4 => 4 | n => n, fun | n => n⟩
theorem Try.lays122 : Go.Proofs.Lays.n122 Try.prog Try.lays122_ren := {
  mixed := by kernel_rfl
  f122 := Try.func53.trans (congrArg some (by kernel_rfl))
  f215 := Try.func59.trans (congrArg some (by kernel_rfl))
  t3 := Try.underlying3
  a3 := Try.isAgg3
  z3 := Try.sizeOf3
  v3 := Try.zeroValue3
  t4 := Try.underlying4
  a4 := Try.isAgg4
  z4 := Try.sizeOf4
  v4 := Try.zeroValue4 }
open Go.RowKit in
theorem Try.cmp_Compare_int (x y : Int) (w : World) :
    Calls Try.prog 53 #[.int .i64 x, .int .i64 y] w fun e w' => e = .returned (.int .i64 (Lib.compareInt x y)) ∧ w' = w := Any.cmp_Compare_int Try.lays122 x y w
def Try.lays264_ren : Go.Shelf.Ren := ⟨fun | 264 => 27 | n => n, fun | 53 => 66 | 46 => 78 | n => n, fun | n => n⟩
theorem Try.lays264 : Go.Proofs.Lays.n264 Try.prog Try.lays264_ren := {
  mixed := by kernel_rfl
  f264 := Try.func27.trans (congrArg some (by kernel_rfl))
  t46 := Try.underlying78
  a46 := Try.isAgg78
  z46 := Try.sizeOf78
  v46 := Try.zeroValue78
  t53 := Try.underlying66
  a53 := Try.isAgg66
  z53 := Try.sizeOf66
  v53 := Try.zeroValue66 }
open Go.RowKit Go.Lib in
theorem Try.bits_Mul64 (x y : Nat) (hx : x < 18446744073709551616) (hy : y < 18446744073709551616) (w : World) :
    Calls Try.prog 27 #[.int .u64 x, .int .u64 y] w fun e w' => e = .returned (.tuple #[.int .u64 ((x * y / 18446744073709551616 : Nat) : Int), .int .u64 ((x * y % 18446744073709551616 : Nat) : Int)]) ∧ w' = w := Any.bits_Mul64 Try.lays264 x y hx hy w
end Go.Proofs
namespace Go.Proofs.Ytjjigkomiidipaa.SatWalk
open Go.RowKit Go.Proofs.Ytjjigkomiidipaa.SatPlain Go.Proofs.Ytjjigkomiidipaa.Mem
/-- The shift that brings a word's highest bit to the top. -/
def up (y : Nat) : Nat := 64 - Lib.bitLen y
theorem up_spec {y : Nat} (h0 : 0 < y) (h : y < 9223372036854775808) : 1 ≤ up y ∧ up y ≤ 63 ∧ Lib.bitLen y = 64 - up y ∧ 9223372036854775808 ≤ y * 2 ^ up y ∧ y * 2 ^ up y < 18446744073709551616 := by
  obtain ⟨h1, h2, h3⟩ := Lib.bitLenAux_bounds 64 y (by omega) (by omega)
  have h4 : Lib.bitLen y ≤ 63 := Lib.bitLen_le y 63 (by omega) h
  unfold up
  change 1 ≤ Lib.bitLen y at h1
  change 2 ^ (Lib.bitLen y - 1) ≤ y at h2
  change y < 2 ^ Lib.bitLen y at h3
  generalize Lib.bitLen y = l at *
  have e1 : 2 ^ (l - 1) * 2 ^ (64 - l) = 9223372036854775808 := by rw [← Nat.pow_add, show l - 1 + (64 - l) = 63 from by omega]
  have e2 : 2 ^ l * 2 ^ (64 - l) = 18446744073709551616 := by rw [← Nat.pow_add, show l + (64 - l) = 64 from by omega]
  have hp : 0 < 2 ^ (64 - l) := Nat.two_pow_pos _
  refine ⟨by omega, by omega, by omega, ?_, ?_⟩
  · rw [← e1]; exact Nat.mul_le_mul_right _ h2
  · rw [← e2]; exact Nat.mul_lt_mul_of_pos_right h3 hp
theorem leading (y : Nat) (w : World) (h0 : 0 < y) (h : y < 9223372036854775808) :
    Calls Try.prog 37 #[.int .u64 y] w fun e w' => e = .returned (.int .i64 (up y)) ∧ w = w' :=
  (Try.bits_LeadingZeros64 y w (by omega) (by omega)).mono fun _ _ ⟨he, hw⟩ => by
    obtain ⟨h1, h2, h3, _⟩ := up_spec h0 h
    rw [Int.toNat_natCast, h3] at he
    exact ⟨by rw [he]; congr 2; omega, hw.symm⟩
def DivIs (hi lo y : Nat) (w : World) (e : Ending) (w' : World) : Prop :=
  e = .returned (.tuple #[.int .u64 ((hi * 18446744073709551616 + lo) / y : Nat), .int .u64 ((hi * 18446744073709551616 + lo) % y : Nat)]) ∧ ∃ n, w' = w.drewN n
theorem wrap_small {n : Nat} (h : n < 18446744073709551616) : IntKind.u64.wrap (n : Int) = (n : Int) := by rw [IntKind.wrap_u64]; omega
theorem ret_uu {a b c d : Int} (h : a = b) (g : c = d) : Ending.returned (.tuple #[.int .u64 a, .int .u64 c]) = Ending.returned (.tuple #[.int .u64 b, .int .u64 d]) := by rw [h, g]
set_option maxHeartbeats 800000 in
theorem div_low (lo y : Nat) (w : World) (h0 : 0 < y) (hy : y < 9223372036854775808) (hl : lo < 18446744073709551616) :
    Calls Try.prog 28 #[.int .u64 0, .int .u64 lo, .int .u64 y] w (DivIs 0 lo y w) := by
  have hy1 : ((y : Int) == 0) = false := by rw [beq_eq_false_iff_ne]; omega
  go_enter Try.func28, Try.ntmps28
  go_wp2_with fail
  go_quiet (fail)
  go_wp2_with fail
  go_ret2
  refine ⟨?_, _, rfl⟩
  have e : IntKind.u64.wrap ((lo : Int) / (y : Int)) = ((lo / y : Nat) : Int) := by
    rw [← Int.natCast_ediv]
    exact wrap_small (by have := Nat.div_le_self lo y; omega)
  rw [Nat.zero_mul, Nat.zero_add]
  exact ret_uu e (by rw [Int.natCast_emod])
theorem wrap_mod (n : Nat) : IntKind.u64.wrap (n : Int) = ((n % 18446744073709551616 : Nat) : Int) := by rw [IntKind.wrap_u64]; omega
theorem wrap_shl {x s p : Nat} (hp : p = x * 2 ^ s) (h : p < 18446744073709551616) : IntKind.u64.wrap ((x : Int) * 2 ^ s) = (p : Int) := by
  have e : (x : Int) * 2 ^ s = (p : Int) := by rw [hp, Int.natCast_mul]; congr 1
  rw [e]
  exact wrap_small h
theorem wrap_shl_mod {x s p : Nat} (hp : p = x * 2 ^ s % 18446744073709551616) : IntKind.u64.wrap ((x : Int) * 2 ^ s) = (p : Int) := by
  have e : (x : Int) * 2 ^ s = ((x * 2 ^ s : Nat) : Int) := by rw [Int.natCast_mul]; congr 1
  rw [e, hp]
  exact wrap_mod _
theorem shr_nat {x s p : Nat} (hp : p = x / 2 ^ s) : (x : Int) / 2 ^ s = (p : Int) := by
  rw [hp, Int.natCast_ediv]
  congr 1
theorem and_low {x p : Nat} (hp : p = x % 4294967296) (h : x < 18446744073709551616) : bits .and .u64 (x : Int) 4294967295 = (p : Int) := by
  have h1 := bits_and_u64_nat x 4294967295 h (by omega)
  have e : x &&& 4294967295 = x % 4294967296 := Nat.and_two_pow_sub_one_eq_mod x 32
  rw [e, ← hp] at h1
  exact h1
theorem or_add {x s l p : Nat} (hp : p = x * 2 ^ s + l) (hl : l < 2 ^ s) (h : p < 18446744073709551616) : bits .or .u64 ((x * 2 ^ s : Nat) : Int) (l : Int) = (p : Int) := by
  rw [bits_or_u64_nat _ _ (by omega) (by omega)]
  rw [show x * 2 ^ s ||| l = x * 2 ^ s + l from by rw [← Nat.shiftLeft_eq]; exact (Nat.shiftLeft_add_eq_or_of_lt hl x).symm, hp]
theorem wrap_k {u c : Nat} (h : c = u * 4294967296 % 18446744073709551616) : IntKind.u64.wrap ((u : Int) * 4294967296) = (c : Int) := by rw [h, IntKind.wrap_u64]; omega
theorem wrap_add {c d e : Nat} (h : e = (c + d) % 18446744073709551616) : IntKind.u64.wrap ((c : Int) + (d : Int)) = (e : Int) := by rw [h, IntKind.wrap_u64]; omega
theorem wrap_mul_mod {q y e : Nat} (h : e = q * y % 18446744073709551616) : IntKind.u64.wrap ((q : Int) * (y : Int)) = (e : Int) := by rw [h, ← Int.natCast_mul]; exact wrap_mod _
theorem wrap_rest {u u1 p m c1 c2 c3 : Nat} (h1 : c1 = u * 4294967296 % 18446744073709551616) (h2 : c2 = (c1 + u1) % 18446744073709551616) (h3 : c3 = p % 18446744073709551616) (h : u * 4294967296 + u1 = p + m) (hm : m < 18446744073709551616) :
    IntKind.u64.wrap ((c2 : Int) - (c3 : Int)) = (m : Int) := by
  rw [IntKind.wrap_u64]; omega
theorem div_end {hi lo s y Y u u1 u0 q1 q0 m : Nat} (hy : 0 < y) (hY : Y = y * 2 ^ s) (hU : Shifted hi lo s u u1 u0) (h1 : q1 = (u * 4294967296 + u1) / Y) (hm : m = (u * 4294967296 + u1) % Y) (h0 : q0 = (m * 4294967296 + u0) / Y) :
    q1 * 4294967296 + q0 = (hi * 18446744073709551616 + lo) / y ∧ (m * 4294967296 + u0) % Y / 2 ^ s = (hi * 18446744073709551616 + lo) % y := by
  have hp : 0 < 2 ^ s := Nat.two_pow_pos s
  have h := two_digits (Nat.lt_of_lt_of_le (Nat.mul_pos hy hp) (Nat.le_of_eq hY.symm)) h1 hm h0
  unfold Shifted at hU
  rw [hU] at h
  rw [h.1, h.2, hY, Nat.mul_div_mul_right _ _ hp, Nat.mul_mod_mul_right, Nat.mul_div_cancel _ hp]
  exact ⟨rfl, rfl⟩
set_option maxRecDepth 100000 in
set_option maxHeartbeats 1600000 in
theorem div_high (hi lo y : Nat) (w : World) (h1 : 0 < hi) (h0 : hi < y) (hy : y < 9223372036854775808) (hl : lo < 18446744073709551616) :
    Calls Try.prog 28 #[.int .u64 hi, .int .u64 lo, .int .u64 y] w (DivIs hi lo y w) := by
  have hy1 : ((y : Int) == 0) = false := by rw [beq_eq_false_iff_ne]; omega
  have hy2 : decide (y ≤ hi) = false := by simp; omega
  have hy3 : ((hi : Int) == 0) = false := by rw [beq_eq_false_iff_ne]; omega
  have hyp : 0 < y := by omega
  obtain ⟨s1, s2, s3, s4, s5⟩ := up_spec hyp hy
  clear s3
  have C1 := Lib.hid (fun w => leading y w hyp hy)
  generalize up y = s at *
  obtain ⟨Y, hY⟩ : ∃ Y, Y = y * 2 ^ s := ⟨_, rfl⟩
  rw [← hY] at s4 s5
  have f1 := wrap_shl hY s5
  obtain ⟨a, ha⟩ : ∃ a, a = Y / 4294967296 := ⟨_, rfl⟩
  have f2 : (Y : Int) / 4294967296 = (a : Int) := by omega
  obtain ⟨b, hb⟩ : ∃ b, b = Y % 4294967296 := ⟨_, rfl⟩
  have f3 := and_low hb s5
  have hp2 : 0 < 2 ^ s := Nat.two_pow_pos s
  have hg : hi * 2 ^ s + 2 ^ s ≤ Y := by rw [hY, ← Nat.succ_mul]; exact Nat.mul_le_mul_right _ h0
  have f4 := wrap_shl (x := hi) (s := s) rfl (by omega)
  obtain ⟨l1, hl1⟩ : ∃ l1, l1 = lo / 2 ^ (64 - s) := ⟨_, rfl⟩
  have f5 := shr_nat hl1
  have e64 : 2 ^ (64 - s) * 2 ^ s = 18446744073709551616 := by rw [← Nat.pow_add, show 64 - s + s = 64 from by omega]
  have hl2 : l1 < 2 ^ s := by rw [hl1, Nat.div_lt_iff_lt_mul (Nat.two_pow_pos _), Nat.mul_comm, e64]; exact hl
  obtain ⟨u, hu⟩ : ∃ u, u = hi * 2 ^ s + l1 := ⟨_, rfl⟩
  have f6 := or_add hu hl2 (by omega)
  obtain ⟨p, hp⟩ : ∃ p, p = lo * 2 ^ s % 18446744073709551616 := ⟨_, rfl⟩
  have f7 := wrap_shl_mod hp
  obtain ⟨u1, hu1⟩ : ∃ u1, u1 = p / 4294967296 := ⟨_, rfl⟩
  have f8 : (p : Int) / 4294967296 = (u1 : Int) := by omega
  obtain ⟨u0, hu0⟩ : ∃ u0, u0 = p % 4294967296 := ⟨_, rfl⟩
  have f9 := and_low hu0 (by omega)
  have huY : u < Y := by omega
  have ha1 : 2147483648 ≤ a := by omega
  have ha2 : a < 4294967296 := by omega
  have hb1 : b < 4294967296 := by omega
  have hu11 : u1 < 4294967296 := by omega
  have hu01 : u0 < 4294967296 := by omega
  have HY : Hid (Y = a * 4294967296 + b) := by
    show Y = a * 4294967296 + b
    omega
  have HY2 := Lib.hid hY
  have HU : Hid (Shifted hi lo s u u1 u0) := by
    have e4 := shifted (W := 18446744073709551616) (t := 2 ^ s) (d := 2 ^ (64 - s)) e64 hp2 (Nat.two_pow_pos (64 - s)) hl1 hu hp
    have e5 : u1 * 4294967296 + u0 = p := by rw [hu1, hu0]; exact Nat.div_add_mod' p 4294967296
    show u * 18446744073709551616 + (u1 * 4294967296 + u0) = _
    rw [e5]
    exact e4
  clear hY hb hg hl1 hl2 e64 hu hp hu1 hu0 hp2
  generalize hi * 2 ^ s = g at *
  obtain ⟨q, hq⟩ : ∃ q, q = u / a := ⟨_, rfl⟩
  have hqa : q * a ≤ u := by rw [hq]; exact Nat.div_mul_le_self u a
  have hq2 : q ≤ u := by rw [hq]; exact Nat.div_le_self u a
  have g1 : IntKind.u64.wrap ((u : Int) / (a : Int)) = (q : Int) := by rw [← Int.natCast_ediv, ← hq]; exact wrap_small (by omega)
  obtain ⟨qa, hqa2⟩ : ∃ qa, qa = q * a := ⟨_, rfl⟩
  have g2 : IntKind.u64.wrap ((q : Int) * (a : Int)) = (qa : Int) := by rw [← Int.natCast_mul, ← hqa2]; exact wrap_small (by omega)
  obtain ⟨r, hr⟩ : ∃ r, r = u - qa := ⟨_, rfl⟩
  have g3 : (u : Int) - (qa : Int) = (r : Int) := by omega
  have HT : Hid (Try Y a u u1 q r) := by
    have := Try.start HY.out ha1 hu11 (u := u)
    rw [← hq, ← hqa2, ← hr] at this
    exact this
  have hr1 : r < 4294967296 := by
    have h1 : u % a < a := Nat.mod_lt _ (by omega)
    have h2 : u / a * a + u % a = u := Nat.div_add_mod' u a
    rw [hr, hqa2, hq]
    omega
  clear hq hqa hqa2 hr ha
  go_enter Try.func28, Try.ntmps28
  go_wp2_with fail
  refine (C1.out _).mono ?_
  rintro e w1 ⟨rfl, rfl⟩
  go_upto_block 0 with fail
  clear f1 f2 f3 f4 f5 f6 f7 f8 f9 g1 g2 g3 hy1 hy2 hy3
  go_cut [15] (fun c wc => ∃ q1 : Nat, c = .int .u64 q1 ∧ q1 < 4294967296 ∧ Hid (q1 = (u * 4294967296 + u1) / Y) ∧ w = wc)
  case first =>
    go_wp2_with fail
    go_loop [15, 16] (fun c d => ∃ q r : Nat, c = .int .u64 q ∧ d = .int .u64 r ∧ r < 4294967296 ∧ q < 8589934592 ∧ Hid (Try Y a u u1 q r)) (fun c _ => (intOf c).toNat)
    case atStart => exact ⟨q, r, rfl, rfl, hr1, HT.out.q_le ha1 (by omega), HT⟩
    case round =>
      clear HT hr1
      obtain ⟨q, r, rfl, rfl, hr, hq, HT⟩ := hrel
      have ho : (4294967296 ≤ r + a ∧ decide (4294967296 ≤ (r : Int) + (a : Int)) = true) ∨ (r + a < 4294967296 ∧ decide (4294967296 ≤ (r : Int) + (a : Int)) = false) := by
        rw [decide_eq_true_eq, decide_eq_false_iff_not]; omega
      by_cases hk : 4294967296 ≤ q
      · have hk2 : 4294967296 ≤ (q : Int) := by omega
        have HN := Lib.hid (HT.out.down huY hu11 hk)
        rcases ho with ⟨ho, ho2⟩ | ⟨ho, ho2⟩
        · go_wp2_with fail
          go_meet
          exact ⟨q - 1, by go_num, (HN.out.2.over HY.out hb1 ha1 huY ho).symm ▸ digit_small huY hu11, HN.out.2.over HY.out hb1 ha1 huY ho, rfl⟩
        · go_wp2_with fail
          exact ⟨⟨q - 1, r + a, by go_num, by go_num, ho, by omega, HN.out.2⟩, by simp [intOf] <;> omega⟩
      · have hk2 : (q : Int) < 4294967296 := by omega
        have hqb : q * b ≤ 4294967295 * 4294967295 := Nat.mul_le_mul (by omega) (by omega)
        obtain ⟨qb, hqb2⟩ : ∃ qb, qb = q * b := ⟨_, rfl⟩
        have g2 : IntKind.u64.wrap ((q : Int) * (b : Int)) = (qb : Int) := by rw [← Int.natCast_mul, ← hqb2]; exact wrap_small (by omega)
        rw [← hqb2] at hqb
        by_cases ht : 4294967296 * r + u1 < qb
        · have HN := Lib.hid (HT.out.next HY.out ha1 (by rw [← hqb2]; exact ht))
          have ht2 : decide (4294967296 * (r : Int) + (u1 : Int) < (qb : Int)) = true := by rw [decide_eq_true_eq]; omega
          have hq0 : 1 ≤ q := HN.out.1
          clear hqb2 ht
          rcases ho with ⟨ho, ho2⟩ | ⟨ho, ho2⟩
          · go_wp2_with fail
            go_meet
            exact ⟨q - 1, by go_num, (HN.out.2.over HY.out hb1 ha1 huY ho).symm ▸ digit_small huY hu11, HN.out.2.over HY.out hb1 ha1 huY ho, rfl⟩
          · go_wp2_with fail
            exact ⟨⟨q - 1, r + a, by go_num, by go_num, ho, by omega, HN.out.2⟩, by simp [intOf] <;> omega⟩
        · have HN := Lib.hid (HT.out.stop HY.out ha1 (by rw [← hqb2]; omega))
          have ht2 : decide (4294967296 * (r : Int) + (u1 : Int) < (qb : Int)) = false := by rw [decide_eq_false_iff_not]; omega
          have hk3 : decide (4294967296 ≤ (q : Int)) = false := by rw [decide_eq_false_iff_not]; omega
          clear hqb2 ht ho
          go_wp2_with fail
          go_meet
          exact ⟨q, rfl, by omega, HN.out, rfl⟩
  case rest =>
    obtain ⟨q1, rfl, hq1, HQ, rfl⟩ := hcut
    obtain ⟨m, hm⟩ : ∃ m, m = (u * 4294967296 + u1) % Y := ⟨_, rfl⟩
    have hmY : m < Y := by rw [hm]; exact Nat.mod_lt _ (by omega)
    obtain ⟨c1, hc1⟩ : ∃ c1, c1 = u * 4294967296 % 18446744073709551616 := ⟨_, rfl⟩
    have k1 := wrap_k hc1
    obtain ⟨c2, hc2⟩ : ∃ c2, c2 = (c1 + u1) % 18446744073709551616 := ⟨_, rfl⟩
    have k2 := wrap_add hc2
    obtain ⟨c3, hc3⟩ : ∃ c3, c3 = q1 * Y % 18446744073709551616 := ⟨_, rfl⟩
    have k3 := wrap_mul_mod hc3
    have k4 : IntKind.u64.wrap ((c2 : Int) - (c3 : Int)) = (m : Int) := wrap_rest hc1 hc2 hc3 (by rw [hm, HQ.out]; exact (Nat.div_add_mod' _ _).symm) (by omega)
    have HM := Lib.hid hm
    clear hc1 hc2 hc3 hm
    obtain ⟨q, hq⟩ : ∃ q, q = m / a := ⟨_, rfl⟩
    have hqa : q * a ≤ m := by rw [hq]; exact Nat.div_mul_le_self m a
    have hq2 : q ≤ m := by rw [hq]; exact Nat.div_le_self m a
    have g1 : IntKind.u64.wrap ((m : Int) / (a : Int)) = (q : Int) := by rw [← Int.natCast_ediv, ← hq]; exact wrap_small (by omega)
    obtain ⟨qa, hqa2⟩ : ∃ qa, qa = q * a := ⟨_, rfl⟩
    have g2 : IntKind.u64.wrap ((q : Int) * (a : Int)) = (qa : Int) := by rw [← Int.natCast_mul, ← hqa2]; exact wrap_small (by omega)
    obtain ⟨r, hr⟩ : ∃ r, r = m - qa := ⟨_, rfl⟩
    have g3 : (m : Int) - (qa : Int) = (r : Int) := by omega
    have HT : Hid (Try Y a m u0 q r) := by
      have := Try.start HY.out ha1 hu01 (u := m)
      rw [← hq, ← hqa2, ← hr] at this
      exact this
    have hr1 : r < 4294967296 := by
      have h1 : m % a < a := Nat.mod_lt _ (by omega)
      have h2 : m / a * a + m % a = m := Nat.div_add_mod' m a
      rw [hr, hqa2, hq]
      omega
    clear hq hqa hqa2 hr
    go_upto_block 2 with fail

    clear k1 k2 k3 k4 g1 g2 g3
    go_cut [18] (fun c wc => ∃ q0 : Nat, c = .int .u64 q0 ∧ q0 < 4294967296 ∧ Hid (q0 = (m * 4294967296 + u0) / Y) ∧ w = wc)
    case first =>
      go_wp2_with fail
      go_loop [18, 16] (fun c d => ∃ q r : Nat, c = .int .u64 q ∧ d = .int .u64 r ∧ r < 4294967296 ∧ q < 8589934592 ∧ Hid (Try Y a m u0 q r)) (fun c _ => (intOf c).toNat)
      case atStart => exact ⟨q, r, rfl, rfl, hr1, HT.out.q_le ha1 (by omega), HT⟩
      case round =>
        clear HT hr1
        obtain ⟨q, r, rfl, rfl, hr, hq, HT⟩ := hrel
        have ho : (4294967296 ≤ r + a ∧ decide (4294967296 ≤ (r : Int) + (a : Int)) = true) ∨ (r + a < 4294967296 ∧ decide (4294967296 ≤ (r : Int) + (a : Int)) = false) := by
          rw [decide_eq_true_eq, decide_eq_false_iff_not]; omega
        by_cases hk : 4294967296 ≤ q
        · have hk2 : 4294967296 ≤ (q : Int) := by omega
          have HN := Lib.hid (HT.out.down hmY hu01 hk)
          rcases ho with ⟨ho, ho2⟩ | ⟨ho, ho2⟩
          · go_wp2_with fail
            go_meet
            exact ⟨q - 1, by go_num, (HN.out.2.over HY.out hb1 ha1 hmY ho).symm ▸ digit_small hmY hu01, HN.out.2.over HY.out hb1 ha1 hmY ho, rfl⟩
          · go_wp2_with fail
            exact ⟨⟨q - 1, r + a, by go_num, by go_num, ho, by omega, HN.out.2⟩, by simp [intOf] <;> omega⟩
        · have hk2 : (q : Int) < 4294967296 := by omega
          have hqb : q * b ≤ 4294967295 * 4294967295 := Nat.mul_le_mul (by omega) (by omega)
          obtain ⟨qb, hqb2⟩ : ∃ qb, qb = q * b := ⟨_, rfl⟩
          have g2 : IntKind.u64.wrap ((q : Int) * (b : Int)) = (qb : Int) := by rw [← Int.natCast_mul, ← hqb2]; exact wrap_small (by omega)
          rw [← hqb2] at hqb
          by_cases ht : 4294967296 * r + u0 < qb
          · have HN := Lib.hid (HT.out.next HY.out ha1 (by rw [← hqb2]; exact ht))
            have ht2 : decide (4294967296 * (r : Int) + (u0 : Int) < (qb : Int)) = true := by rw [decide_eq_true_eq]; omega
            have hq0 : 1 ≤ q := HN.out.1
            clear hqb2 ht
            rcases ho with ⟨ho, ho2⟩ | ⟨ho, ho2⟩
            · go_wp2_with fail
              go_meet
              exact ⟨q - 1, by go_num, (HN.out.2.over HY.out hb1 ha1 hmY ho).symm ▸ digit_small hmY hu01, HN.out.2.over HY.out hb1 ha1 hmY ho, rfl⟩
            · go_wp2_with fail
              exact ⟨⟨q - 1, r + a, by go_num, by go_num, ho, by omega, HN.out.2⟩, by simp [intOf] <;> omega⟩
          · have HN := Lib.hid (HT.out.stop HY.out ha1 (by rw [← hqb2]; omega))
            have ht2 : decide (4294967296 * (r : Int) + (u0 : Int) < (qb : Int)) = false := by rw [decide_eq_false_iff_not]; omega
            have hk3 : decide (4294967296 ≤ (q : Int)) = false := by rw [decide_eq_false_iff_not]; omega
            clear hqb2 ht ho
            go_wp2_with fail
            go_meet
            exact ⟨q, rfl, by omega, HN.out, rfl⟩
    case rest =>
      obtain ⟨q0, rfl, hq0, HQ0, rfl⟩ := hcut
      obtain ⟨n, hn⟩ : ∃ n, n = (m * 4294967296 + u0) % Y := ⟨_, rfl⟩
      have hnY : n < Y := by rw [hn]; exact Nat.mod_lt _ (by omega)
      obtain ⟨c1, hc1⟩ : ∃ c1, c1 = m * 4294967296 % 18446744073709551616 := ⟨_, rfl⟩
      have k1 := wrap_k hc1
      obtain ⟨c2, hc2⟩ : ∃ c2, c2 = (c1 + u0) % 18446744073709551616 := ⟨_, rfl⟩
      have k2 := wrap_add hc2
      obtain ⟨c3, hc3⟩ : ∃ c3, c3 = q0 * Y % 18446744073709551616 := ⟨_, rfl⟩
      have k3 := wrap_mul_mod hc3
      have k4 : IntKind.u64.wrap ((c2 : Int) - (c3 : Int)) = (n : Int) := wrap_rest hc1 hc2 hc3 (by rw [hn, HQ0.out]; exact (Nat.div_add_mod' _ _).symm) (by omega)
      have k5 : (n : Int) / 2 ^ s = ((n / 2 ^ s : Nat) : Int) := shr_nat rfl
      have HN := Lib.hid hn
      clear hc1 hc2 hc3 hn
      generalize hz : n / 2 ^ s = z at *
      have HZ := Lib.hid hz
      clear hz
      go_wp2_with fail
      go_ret2
      have h := div_end hyp HY2.out HU.out HQ.out HM.out HQ0.out
      rw [← HN.out, HZ.out] at h
      exact ⟨ret_uu (by rw [← h.1]; go_num) (by rw [← h.2]), 0, rfl⟩
end Go.Proofs.Ytjjigkomiidipaa.SatWalk
namespace Go.Proofs.Ytjjigkomiidipaa.SatWalk
open Go.RowKit Go.Proofs.Ytjjigkomiidipaa.SatPlain Go.Proofs.Ytjjigkomiidipaa.Mem
theorem mul64_at (x y h l : Nat) (w : World) (hx : x < 18446744073709551616) (hy : y < 18446744073709551616) (e : x * y = h * 18446744073709551616 + l) (hl : l < 18446744073709551616) :
    Calls Try.prog 27 #[.int .u64 x, .int .u64 y] w fun e w' => e = .returned (.tuple #[.int .u64 h, .int .u64 l]) ∧ w = w' :=
  (Try.bits_Mul64 x y hx hy w).mono fun _ _ ⟨he, hw⟩ => by
    have e1 : x * y / 18446744073709551616 = h := by rw [e]; omega
    have e2 : x * y % 18446744073709551616 = l := by rw [e]; omega
    rw [e1, e2] at he
    exact ⟨he, hw.symm⟩
end Go.Proofs.Ytjjigkomiidipaa.SatWalk
namespace Go.Proofs.Ytjjigkomiidipaa.SatWalk
open Go.RowKit Go.Proofs.Ytjjigkomiidipaa.SatPlain Go.Proofs.Ytjjigkomiidipaa.Mem
theorem div_any (hi lo y : Nat) (w : World) (h0 : hi < y) (hy : y < 9223372036854775808) (hl : lo < 18446744073709551616) :
    Calls Try.prog 28 #[.int .u64 hi, .int .u64 lo, .int .u64 y] w (DivIs hi lo y w) := by
  by_cases h : 0 < hi
  · exact div_high hi lo y w h h0 hy hl
  · obtain rfl : hi = 0 := by omega
    exact div_low lo y w h0 hy hl
/-- What Least tells of numbers. -/
def LeastIs (a b c : Nat) (w : World) (e : Ending) (w' : World) : Prop :=
  (∃ n, w' = w.drewN n) ∧ ((c * 9223372036854775807 < a * b ∧ e = .returned (.tuple #[.int .i64 0, .int .i64 11])) ∨
    (a * b ≤ c * 9223372036854775807 ∧ ∃ k : Nat, k ≤ 9223372036854775807 ∧ e = .returned (.tuple #[.int .i64 k, .int .i64 0]) ∧ a * b ≤ c * k ∧ (k = 0 ∨ c * (k - 1) < a * b)))
theorem over_of_high {p c h l : Nat} (hp : p = h * 18446744073709551616 + l) (hc : 1 ≤ c) (h0 : c ≤ h) : c * 9223372036854775807 < p := by omega
theorem quo_cases {p c q r : Nat} (hq : q = p / c) (hr : r = p % c) (hc : 1 ≤ c) :
    (9223372036854775807 < q ∧ c * 9223372036854775807 < p) ∨ (q = 9223372036854775807 ∧ 0 < r ∧ c * 9223372036854775807 < p) ∨
    (q ≤ 9223372036854775807 ∧ r = 0 ∧ p ≤ c * 9223372036854775807 ∧ p ≤ c * q ∧ (q = 0 ∨ c * (q - 1) < p)) ∨
    (q < 9223372036854775807 ∧ 0 < r ∧ p ≤ c * 9223372036854775807 ∧ p ≤ c * (q + 1) ∧ (q + 1 = 0 ∨ c * (q + 1 - 1) < p)) := by
  have e : c * q + r = p := by rw [hq, hr]; exact Nat.div_add_mod p c
  have hl : r < c := by rw [hr]; exact Nat.mod_lt _ (by omega)
  clear hq hr
  subst e
  rcases Nat.lt_trichotomy q 9223372036854775807 with h | h | h
  · have h1 := Nat.mul_le_mul_left c (show q + 1 ≤ 9223372036854775807 by omega)
    rw [Nat.mul_add, Nat.mul_one] at h1
    by_cases h0 : r = 0
    · right; right; left
      refine ⟨by omega, h0, by omega, by omega, ?_⟩
      by_cases hq : q = 0
      · exact .inl hq
      · right
        obtain ⟨q, rfl⟩ : ∃ k, q = k + 1 := ⟨q - 1, by omega⟩
        rw [Nat.add_sub_cancel, Nat.mul_add]
        omega
    · right; right; right
      refine ⟨h, by omega, by omega, by rw [Nat.mul_add]; omega, .inr ?_⟩
      rw [Nat.add_sub_cancel]
      omega
  · subst h
    by_cases h0 : r = 0
    · right; right; left
      refine ⟨by omega, h0, by omega, by omega, .inr ?_⟩
      have : c * (9223372036854775807 - 1) + c = c * 9223372036854775807 := by omega
      omega
    · right; left
      exact ⟨rfl, by omega, by omega⟩
  · left
    have h1 := Nat.mul_le_mul_left c (show 9223372036854775807 + 1 ≤ q by omega)
    exact ⟨h, by omega⟩
set_option maxHeartbeats 1600000 in
theorem least_good (a b c : Nat) (w : World) (ha : a < 9223372036854775808) (hb : b < 9223372036854775808) (hc : c < 9223372036854775808) (c1 : 1 ≤ c) :
    Calls Try.prog 16 #[.int .i64 a, .int .i64 b, .int .i64 c] w (LeastIs a b c w) := by
  obtain ⟨h, l, e1, g1⟩ : ∃ q l, a * b = q * 18446744073709551616 + l ∧ l < 18446744073709551616 := ⟨_, _, (Nat.div_add_mod' _ _).symm, Nat.mod_lt _ (by omega)⟩
  have C1 := Lib.hid (fun w => mul64_at a b h l w (by omega) (by omega) e1 g1)
  by_cases hh : c ≤ h
  · have h1 : decide (c ≤ h) = true := by rw [decide_eq_true_eq]; exact hh
    have HO := Lib.hid (over_of_high e1 c1 hh)
    clear e1 hh
    go_enter Try.func16, Try.ntmps16
    go_wp2_with fail
    refine (C1.out _).mono ?_
    rintro e w1 ⟨rfl, rfl⟩
    go_wp2_with fail
    go_ret2
    exact ⟨⟨0, rfl⟩, .inl ⟨HO.out, rfl⟩⟩
  · have h1 : decide (c ≤ h) = false := by rw [decide_eq_false_iff_not]; exact hh
    have C2 := Lib.hid (fun w => div_any h l c w (by omega) hc g1)
    unfold DivIs at C2
    rw [← e1] at C2
    have hq := quo_cases (p := a * b) (c := c) rfl rfl c1
    have HP : Hid (LeastIs a b c w = LeastIs a b c w) := rfl
    generalize hpq : a * b / c = q at *
    generalize hpr : a * b % c = r at *
    clear e1 hh hpq hpr HP
    rcases hq with ⟨q1, q2⟩ | ⟨rfl, q2, q3⟩ | ⟨q1, rfl, q3, q4⟩ | ⟨q1, q2, q3, q4⟩
    · have t1 : decide ((9223372036854775807 : Int) < (q : Int)) = true := by rw [decide_eq_true_eq]; omega
      have HO := Lib.hid q2
      clear q1 q2
      go_enter Try.func16, Try.ntmps16
      go_wp2_with fail
      refine (C1.out _).mono ?_
      rintro e w1 ⟨rfl, rfl⟩
      go_wp2_with fail
      refine (C2.out _).mono ?_
      rintro e w1 ⟨rfl, n, rfl⟩
      go_wp2_with fail
      go_ret2
      exact ⟨⟨_, rfl⟩, .inl ⟨HO.out, rfl⟩⟩
    · have t1 : decide (0 < (r : Int)) = true := by rw [decide_eq_true_eq]; omega
      have HO := Lib.hid q3
      clear q3
      go_enter Try.func16, Try.ntmps16
      go_wp2_with fail
      refine (C1.out _).mono ?_
      rintro e w1 ⟨rfl, rfl⟩
      go_wp2_with fail
      refine (C2.out _).mono ?_
      rintro e w1 ⟨rfl, n, rfl⟩
      go_wp2_with fail
      go_ret2
      exact ⟨⟨_, rfl⟩, .inl ⟨HO.out, rfl⟩⟩
    · have t1 : decide ((9223372036854775807 : Int) < (q : Int)) = false := by rw [decide_eq_false_iff_not]; omega
      have HO := Lib.hid q3
      have HQ := Lib.hid q4
      clear q3 q4
      have t2 : ((q : Int) == 9223372036854775807) = true ∨ ((q : Int) == 9223372036854775807) = false := by cases ((q : Int) == 9223372036854775807) <;> simp
      rcases t2 with t2 | t2
      all_goals
        go_enter Try.func16, Try.ntmps16
        go_wp2_with fail
        refine (C1.out _).mono ?_
        rintro e w1 ⟨rfl, rfl⟩
        go_wp2_with fail
        refine (C2.out _).mono ?_
        rintro e w1 ⟨rfl, n, rfl⟩
        go_wp2_with fail
        go_ret2
        exact ⟨⟨_, rfl⟩, .inr ⟨HO.out, q, q1, rfl, HQ.out⟩⟩
    · have t1 : decide ((9223372036854775807 : Int) < (q : Int)) = false := by rw [decide_eq_false_iff_not]; omega
      have t2 : ((q : Int) == 9223372036854775807) = false := by rw [beq_eq_false_iff_ne]; omega
      have t3 : decide (0 < (r : Int)) = true := by rw [decide_eq_true_eq]; omega
      have HO := Lib.hid q3
      have HQ := Lib.hid q4
      clear q3 q4
      go_enter Try.func16, Try.ntmps16
      go_wp2_with fail
      refine (C1.out _).mono ?_
      rintro e w1 ⟨rfl, rfl⟩
      go_wp2_with fail
      refine (C2.out _).mono ?_
      rintro e w1 ⟨rfl, n, rfl⟩
      go_wp2_with fail
      go_ret2
      exact ⟨⟨_, rfl⟩, .inr ⟨HO.out, q + 1, by omega, by congr 1, HQ.out⟩⟩
end Go.Proofs.Ytjjigkomiidipaa.SatWalk
