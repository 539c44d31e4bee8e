/-
  The walks of package sat.
-/
import Derived.Test.YtedpkphbpkkhbaaSatWalkE
namespace Go.Proofs.Ytedpkphbpkkhbaa.SatWalk
open Go.RowKit Go.Proofs.Ytedpkphbpkkhbaa.SatPlain Go.Proofs.Ytedpkphbpkkhbaa.Mem

def Fit (n : Int) : Prop := -9223372036854775808 ≤ n ∧ n < 9223372036854775808
def PairIs (n : Int) (b : Bool) (w : World) (e : Ending) (w' : World) : Prop := e = .returned (.tuple #[.int .i64 n, .bool b]) ∧ w = w'

set_option maxHeartbeats 400000 in
theorem add_fits (a b : Int) (w : World) (ha : Fit a) (hb : Fit b) (h : Fit (a + b)) :
    Calls Try.prog 6 #[.int .i64 a, .int .i64 b] w (PairIs (a + b) true w) := by
  obtain ⟨a0, a1⟩ := ha
  obtain ⟨b0, b1⟩ := hb
  obtain ⟨h0, h1⟩ := h
  have hc : (decide (a + b < a) = true ∧ decide (b < 0) = true) ∨ (decide (a + b < a) = false ∧ decide (b < 0) = false) := by
    by_cases hb : b < 0
    · left; exact ⟨by simp; omega, by simp; omega⟩
    · right; exact ⟨by simp; omega, by simp; omega⟩
  rcases hc with ⟨c1, c2⟩ | ⟨c1, c2⟩
  all_goals
    go_enter Try.func6, Try.ntmps6
    go_wp2_with fail
    go_ret2
    exact ⟨rfl, rfl⟩

set_option maxHeartbeats 400000 in
theorem add_over (a b : Int) (w : World) (ha : Fit a) (hb : Fit b) (h : ¬ Fit (a + b)) :
    Calls Try.prog 6 #[.int .i64 a, .int .i64 b] w (PairIs 0 false w) := by
  obtain ⟨a0, a1⟩ := ha
  obtain ⟨b0, b1⟩ := hb
  unfold Fit at h
  have hc : ∃ c : Int, wrap64 (a + b) = c ∧ ((decide (c < a) = true ∧ decide (b < 0) = false) ∨ (decide (c < a) = false ∧ decide (b < 0) = true)) := by
    refine ⟨_, rfl, ?_⟩
    unfold wrap64
    by_cases hb : b < 0
    · right; exact ⟨by simp; omega, by simp; omega⟩
    · left; exact ⟨by simp; omega, by simp; omega⟩
  obtain ⟨c, hw, hc⟩ := hc
  rcases hc with ⟨c1, c2⟩ | ⟨c1, c2⟩
  all_goals
    go_enter Try.func6, Try.ntmps6
    go_wp2_with fail
    go_ret2
    exact ⟨rfl, rfl⟩

def SizeIs (n : Nat) (w : World) (e : Ending) (w' : World) : Prop := e = .returned (.int .u64 n) ∧ w = w'
set_option maxHeartbeats 400000 in
theorem size_pos (n : Nat) (w : World) (h : n < 9223372036854775808) : Calls Try.prog 19 #[.int .i64 n] w (SizeIs n w) := by
  go_enter Try.func19, Try.ntmps19
  go_wp2_with fail
  go_ret
  exact ⟨rfl, rfl⟩
set_option maxHeartbeats 400000 in
theorem size_neg (n : Nat) (w : World) (h0 : 0 < n) (h : n < 9223372036854775808) : Calls Try.prog 19 #[.int .i64 (-(n : Int))] w (SizeIs n w) := by
  have hlt : -(n : Int) < 0 := by omega
  go_enter Try.func19, Try.ntmps19
  go_wp2_with fail
  go_ret
  exact ⟨by simp, rfl⟩
set_option maxHeartbeats 400000 in
theorem size_min (w : World) : Calls Try.prog 19 #[.int .i64 (-9223372036854775808)] w (SizeIs 9223372036854775808 w) := by
  have e1 : wrap64 9223372036854775808 = -9223372036854775808 := by unfold wrap64; decide
  have e2 : IntKind.u64.wrap (-9223372036854775808) = 9223372036854775808 := by decide
  go_enter Try.func19, Try.ntmps19
  go_wp2_with fail
  go_ret
  exact ⟨rfl, rfl⟩
theorem size_any (a : Int) (w : World) (ha : Fit a) : Calls Try.prog 19 #[.int .i64 a] w (SizeIs a.natAbs w) := by
  obtain ⟨a0, a1⟩ := ha
  by_cases hn : 0 ≤ a
  · have e : a = (a.natAbs : Int) := by omega
    have h : a.natAbs < 9223372036854775808 := by omega
    generalize a.natAbs = n at *
    subst e
    exact size_pos n w h
  · by_cases hm : a = -9223372036854775808
    · subst hm
      exact size_min w
    · have e : a = -(a.natAbs : Int) := by omega
      have h : a.natAbs < 9223372036854775808 := by omega
      have h0 : 0 < a.natAbs := by omega
      generalize a.natAbs = n at *
      subst e
      exact size_neg n w h0 h

/-- May a size stand, on that side of 0? -/
def topS (neg : Bool) : Nat := if neg then 9223372036854775808 else 9223372036854775807
theorem fit_size {n : Int} {neg : Bool} (h : n.natAbs ≤ topS neg) (hs : if neg then n ≤ 0 else 0 ≤ n) : Fit n := by
  unfold Fit
  cases neg <;> simp [topS] at h hs <;> omega
def negs (a b : Int) : Bool := decide (a < 0) != decide (b < 0)
theorem negs_prod (a b : Int) : if negs a b then a * b ≤ 0 else 0 ≤ a * b := by
  unfold negs
  by_cases ha : a < 0 <;> by_cases hb : b < 0 <;> simp only [ha, hb, decide_true, decide_false, bne_self_eq_false, Bool.false_eq_true, if_false]
  · exact Int.mul_nonneg_of_nonpos_of_nonpos (by omega) (by omega)
  · exact Int.mul_nonpos_of_nonpos_of_nonneg (by omega) (by omega)
  · exact Int.mul_nonpos_of_nonneg_of_nonpos (by omega) (by omega)
  · exact Int.mul_nonneg (by omega) (by omega)
theorem fit_prod {a b : Int} (h : a.natAbs * b.natAbs ≤ topS (negs a b)) : Fit (a * b) :=
  fit_size (by rw [Int.natAbs_mul]; exact h) (negs_prod a b)

theorem mul64_at (x y h l : Nat) (w : World) (hx : x < 18446744073709551616) (hy : y < 18446744073709551616) (e : x * y = h * 18446744073709551616 + l) (hl : l < 18446744073709551616) :
    Calls Try.prog 18 #[.int .u64 x, .int .u64 y] w fun e w' => e = .returned (.tuple #[.int .u64 h, .int .u64 l]) ∧ w = w' :=
  (Try.bits_Mul64 x y hx hy w).mono fun _ _ ⟨he, hw⟩ => by
    have e1 : x * y / 18446744073709551616 = h := by rw [e]; omega
    have e2 : x * y % 18446744073709551616 = l := by rw [e]; omega
    rw [e1, e2] at he
    exact ⟨he, hw.symm⟩
theorem natAbs_lt {a : Int} (h : Fit a) : a.natAbs < 18446744073709551616 := by have := h.1; have := h.2; omega
theorem ret_ib {a c : Int} {b : Bool} (h : a = c) : Ending.returned (.tuple #[.int .i64 a, .bool b]) = Ending.returned (.tuple #[.int .i64 c, .bool b]) := by rw [h]
theorem sign_cases (a b : Int) : (decide (a < 0) = false ∧ decide (b < 0) = false ∧ topS (negs a b) = 9223372036854775807) ∨ (decide (a < 0) = true ∧ decide (b < 0) = true ∧ topS (negs a b) = 9223372036854775807) ∨
    (decide (a < 0) = false ∧ decide (b < 0) = true ∧ topS (negs a b) = 9223372036854775808) ∨ (decide (a < 0) = true ∧ decide (b < 0) = false ∧ topS (negs a b) = 9223372036854775808) := by
  unfold negs topS
  cases decide (a < 0) <;> cases decide (b < 0) <;> simp

set_option maxHeartbeats 1600000 in
theorem mul_fits (a b : Int) (w : World) (ha : Fit a) (hb : Fit b) (h : a.natAbs * b.natAbs ≤ topS (negs a b)) :
    Calls Try.prog 7 #[.int .i64 a, .int .i64 b] w (PairIs (a * b) true w) := by
  have hf := fit_prod h
  have C1 := Lib.hid (fun w => size_any a w ha)
  have C2 := Lib.hid (fun w => size_any b w hb)
  have hs := sign_cases a b
  have hp : a.natAbs * b.natAbs < 9223372036854775809 := by
    rcases hs with ⟨_, _, e⟩ | ⟨_, _, e⟩ | ⟨_, _, e⟩ | ⟨_, _, e⟩ <;> rw [e] at h <;> omega
  have C3 := Lib.hid (fun w => mul64_at a.natAbs b.natAbs 0 (a.natAbs * b.natAbs) w (natAbs_lt ha) (natAbs_lt hb) (by omega) (by omega))
  have hw : wrap64 (a * b) = a * b := IntWalk.wrap64_in _ ⟨hf.1, by have := hf.2; omega⟩
  generalize a.natAbs * b.natAbs = p at *
  have HW := Lib.hid hw
  clear hw
  generalize topS (negs a b) = T at *
  clear hf ha hb
  rcases hs with ⟨s1, s2, rfl⟩ | ⟨s1, s2, rfl⟩ | ⟨s1, s2, rfl⟩ | ⟨s1, s2, rfl⟩
  all_goals
    go_enter Try.func7, Try.ntmps7
    go_wp2_with fail
    refine (C1.out _).mono ?_
    rintro e w1 ⟨rfl, rfl⟩
    go_wp2_with fail
    refine (C2.out _).mono ?_
    rintro e w1 ⟨rfl, rfl⟩
    go_wp2_with fail
    refine (C3.out _).mono ?_
    rintro e w1 ⟨rfl, rfl⟩
    go_wp2_with fail
    go_ret2
    exact ⟨ret_ib HW.out, rfl⟩

set_option maxHeartbeats 1600000 in
theorem mul_over (a b : Int) (w : World) (ha : Fit a) (hb : Fit b) (h : topS (negs a b) < a.natAbs * b.natAbs) :
    Calls Try.prog 7 #[.int .i64 a, .int .i64 b] w (PairIs 0 false w) := by
  have C1 := Lib.hid (fun w => size_any a w ha)
  have C2 := Lib.hid (fun w => size_any b w hb)
  have hs := sign_cases a b
  obtain ⟨q, l, hp, hl⟩ : ∃ q l, a.natAbs * b.natAbs = q * 18446744073709551616 + l ∧ l < 18446744073709551616 := ⟨_, _, (Nat.div_add_mod' _ _).symm, Nat.mod_lt _ (by omega)⟩
  have C3 := Lib.hid (fun w => mul64_at a.natAbs b.natAbs q l w (natAbs_lt ha) (natAbs_lt hb) hp hl)
  rw [hp] at h
  generalize topS (negs a b) = T at *
  have hq : ((q : Int) != 0) = true ∨ (q = 0 ∧ T < l) := by
    by_cases h0 : q = 0
    · right; subst h0; exact ⟨rfl, by omega⟩
    · left; rw [bne_iff_ne]; omega
  clear hp ha hb h
  rcases hq with hq | ⟨rfl, hq⟩ <;> rcases hs with ⟨s1, s2, rfl⟩ | ⟨s1, s2, rfl⟩ | ⟨s1, s2, rfl⟩ | ⟨s1, s2, rfl⟩
  all_goals first
    | (have hq2 : decide ((9223372036854775808 : Int) < (l : Int)) = true := by rw [decide_eq_true_eq]; omega)
    | (have hq2 : decide ((9223372036854775807 : Int) < (l : Int)) = true := by rw [decide_eq_true_eq]; omega)
    | skip
  all_goals
    go_enter Try.func7, Try.ntmps7
    go_wp2_with fail
    refine (C1.out _).mono ?_
    rintro e w1 ⟨rfl, rfl⟩
    go_wp2_with fail
    refine (C2.out _).mono ?_
    rintro e w1 ⟨rfl, rfl⟩
    go_wp2_with fail
    refine (C3.out _).mono ?_
    rintro e w1 ⟨rfl, rfl⟩
    go_wp2_with fail
    go_ret2
    exact ⟨rfl, rfl⟩
end Go.Proofs.Ytedpkphbpkkhbaa.SatWalk
