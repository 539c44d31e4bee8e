/-
  The walks of package sat: Plus, Sum, Cmp, Least.
-/
import Derived.Test.YtedpkphbpkkhbaaSatWalkF
namespace Go.Proofs.Ytedpkphbpkkhbaa.SatWalk
open Go.RowKit Go.Proofs.Ytedpkphbpkkhbaa.SatPlain Go.Proofs.Ytedpkphbpkkhbaa.Mem

/-- The sum, or the end of all ints on whose side it is. -/
def PlusVIs (n : Int) (w : World) (e : Ending) (w' : World) : Prop := e = .returned (.int .i64 n) ∧ w = w'

set_option maxHeartbeats 400000 in
theorem satplus_fits (a b : Int) (w : World) (ha : Fit a) (hb : Fit b) (h : Fit (a + b)) :
    Calls Try.prog 9 #[.int .i64 a, .int .i64 b] w (PlusVIs (a + b) w) := by
  have C1 := Lib.hid (fun w => add_fits a b w ha hb h)
  clear ha hb h
  generalize a + b = c at *
  go_enter Try.func9, Try.ntmps9
  go_wp2_with fail
  refine (C1.out _).mono ?_
  rintro e w1 ⟨rfl, rfl⟩
  go_wp2_with fail
  go_ret
  exact ⟨rfl, rfl⟩

set_option maxHeartbeats 400000 in
theorem satplus_neg (a b : Int) (w : World) (ha : Fit a) (hb : Fit b) (h : ¬ Fit (a + b)) (h0 : a < 0) :
    Calls Try.prog 9 #[.int .i64 a, .int .i64 b] w (PlusVIs (-9223372036854775808) w) := by
  have C1 := Lib.hid (fun w => add_over a b w ha hb h)
  have h1 : decide (a < 0) = true := by rw [decide_eq_true_eq]; exact h0
  clear ha hb h h0
  go_enter Try.func9, Try.ntmps9
  go_wp2_with fail
  refine (C1.out _).mono ?_
  rintro e w1 ⟨rfl, rfl⟩
  go_wp2_with fail
  go_ret
  exact ⟨rfl, rfl⟩

set_option maxHeartbeats 400000 in
theorem satplus_pos (a b : Int) (w : World) (ha : Fit a) (hb : Fit b) (h : ¬ Fit (a + b)) (h0 : 0 ≤ a) :
    Calls Try.prog 9 #[.int .i64 a, .int .i64 b] w (PlusVIs 9223372036854775807 w) := by
  have C1 := Lib.hid (fun w => add_over a b w ha hb h)
  have h1 : decide (a < 0) = false := by rw [decide_eq_false_iff_not]; omega
  clear ha hb h h0
  go_enter Try.func9, Try.ntmps9
  go_wp2_with fail
  refine (C1.out _).mono ?_
  rintro e w1 ⟨rfl, rfl⟩
  go_wp2_with fail
  go_ret
  exact ⟨rfl, rfl⟩

set_option maxHeartbeats 400000 in
theorem compare_any (x y : Nat) (w : World) (hx : x < 18446744073709551616) (hy : y < 18446744073709551616) :
    Calls Try.prog 20 #[.int .u64 x, .int .u64 y] w fun e w' => e = .returned (.int .i64 (cmpI x y)) ∧ w = w' := by
  rcases cmp_cases x y with h | ⟨h1, h⟩ | ⟨h1, h2, h⟩
  · rw [cmpI_lt h]
    go_enter Try.func20, Try.ntmps20
    go_wp2
    go_ret
    exact ⟨rfl, rfl⟩
  · rw [cmpI_gt h]
    go_enter Try.func20, Try.ntmps20
    go_wp2
    go_ret
    exact ⟨rfl, rfl⟩
  · rw [cmpI_eq h]
    subst h
    clear h1 h2
    go_enter Try.func20, Try.ntmps20
    go_wp2
    go_ret
    exact ⟨rfl, rfl⟩

def CmpsIs (n : Int) (e' : Int) (w : World) (e : Ending) (w' : World) : Prop := e = .returned (.tuple #[.int .i64 n, .int .i64 e']) ∧ w = w'
theorem cmp_words {h1 l1 h2 l2 : Nat} (a : l1 < 18446744073709551616) (b : l2 < 18446744073709551616) :
    cmpI (h1 * 18446744073709551616 + l1) (h2 * 18446744073709551616 + l2) = if h1 = h2 then cmpI l1 l2 else cmpI h1 h2 := by
  split
  · rename_i h
    subst h
    rcases Nat.lt_trichotomy l1 l2 with h | h | h
    · rw [cmpI_lt h, cmpI_lt (by omega)]
    · rw [cmpI_eq h, cmpI_eq (by omega)]
    · rw [cmpI_gt h, cmpI_gt (by omega)]
  · rcases Nat.lt_trichotomy h1 h2 with h | h | h
    · rw [cmpI_lt h, cmpI_lt (by omega)]
    · exact absurd h ‹_›
    · rw [cmpI_gt h, cmpI_gt (by omega)]

set_option maxHeartbeats 800000 in
theorem satcmp_good (a b c d : Nat) (w : World) (ha : a < 9223372036854775808) (hb : b < 9223372036854775808) (hc : c < 9223372036854775808) (hd : d < 9223372036854775808) (b1 : 1 ≤ b) (d1 : 1 ≤ d) :
    Calls Try.prog 16 #[.int .i64 a, .int .i64 b, .int .i64 c, .int .i64 d] w (CmpsIs (cmpI (a * d) (c * b)) 0 w) := by
  obtain ⟨h1, l1, e1, g1⟩ : ∃ q l, a * d = q * 18446744073709551616 + l ∧ l < 18446744073709551616 := ⟨_, _, (Nat.div_add_mod' _ _).symm, Nat.mod_lt _ (by omega)⟩
  obtain ⟨h2, l2, e2, g2⟩ : ∃ q l, c * b = q * 18446744073709551616 + l ∧ l < 18446744073709551616 := ⟨_, _, (Nat.div_add_mod' _ _).symm, Nat.mod_lt _ (by omega)⟩
  have q1 : h1 < 18446744073709551616 := by
    have := Nat.mul_le_mul (show a ≤ 9223372036854775808 by omega) (show d ≤ 9223372036854775808 by omega)
    omega
  have q2 : h2 < 18446744073709551616 := by
    have := Nat.mul_le_mul (show c ≤ 9223372036854775808 by omega) (show b ≤ 9223372036854775808 by omega)
    omega
  have C1 := Lib.hid (fun w => mul64_at a d h1 l1 w (by omega) (by omega) e1 g1)
  have C2 := Lib.hid (fun w => mul64_at c b h2 l2 w (by omega) (by omega) e2 g2)
  have C3 := Lib.hid (fun w => compare_any h1 h2 w q1 q2)
  have C4 := Lib.hid (fun w => compare_any l1 l2 w g1 g2)
  rw [e1, e2, cmp_words g1 g2]
  clear e1 e2 g1 g2 q1 q2
  by_cases h : h1 = h2
  · rw [if_pos h]
    subst h
    go_enter Try.func16, Try.ntmps16
    go_wp2_with fail
    refine (C1.out _).mono ?_
    rintro e w1 ⟨rfl, rfl⟩
    go_wp2_with fail
    refine (C2.out _).mono ?_
    rintro e w1 ⟨rfl, rfl⟩
    go_wp2_with fail
    refine (C4.out _).mono ?_
    rintro e w1 ⟨rfl, rfl⟩
    go_wp2_with fail
    go_ret2
    exact ⟨rfl, rfl⟩
  · rw [if_neg h]
    have hne : ((h1 : Int) != (h2 : Int)) = true := by rw [bne_iff_ne]; omega
    clear h
    go_enter Try.func16, Try.ntmps16
    go_wp2_with fail
    refine (C1.out _).mono ?_
    rintro e w1 ⟨rfl, rfl⟩
    go_wp2_with fail
    refine (C2.out _).mono ?_
    rintro e w1 ⟨rfl, rfl⟩
    go_wp2_with fail
    refine (C3.out _).mono ?_
    rintro e w1 ⟨rfl, rfl⟩
    go_wp2_with fail
    go_ret2
    exact ⟨rfl, rfl⟩

set_option maxHeartbeats 800000 in
theorem satcmp_bad (a b c d : Int) (w : World) (h : a < 0 ∨ c < 0 ∨ b < 1 ∨ d < 1) :
    Calls Try.prog 16 #[.int .i64 a, .int .i64 b, .int .i64 c, .int .i64 d] w (CmpsIs 0 1 w) := by
  have hc : decide (a < 0) = true ∨ (decide (a < 0) = false ∧ decide (c < 0) = true) ∨ (decide (a < 0) = false ∧ decide (c < 0) = false ∧ decide (b < 1) = true) ∨ (decide (a < 0) = false ∧ decide (c < 0) = false ∧ decide (b < 1) = false ∧ decide (d < 1) = true) := by
    simp only [decide_eq_true_eq, decide_eq_false_iff_not]; omega
  clear h
  rcases hc with h1 | ⟨h1, h2⟩ | ⟨h1, h2, h3⟩ | ⟨h1, h2, h3, h4⟩
  all_goals
    go_enter Try.func16, Try.ntmps16
    go_wp2_with fail
    go_ret2
    exact ⟨rfl, rfl⟩
end Go.Proofs.Ytedpkphbpkkhbaa.SatWalk
