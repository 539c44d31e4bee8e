/-
  The walks of package sat: Add and Plus, without the rest of sat.
-/
import Derived.Test.YtkaepadkdohmpaaSpanMem
namespace Go.Proofs.Ytkaepadkdohmpaa.SatPlus
open Go.RowKit Go.Proofs.Ytkaepadkdohmpaa.Mem
def FitP (n : Int) : Prop := -9223372036854775808 ≤ n ∧ n < 9223372036854775808
def AddP (n : Int) (b : Bool) (w : World) (e : Ending) (w' : World) : Prop := e = .returned (.tuple #[.int .i64 n, .bool b]) ∧ w = w'
def PlusP (n : Int) (w : World) (e : Ending) (w' : World) : Prop := e = .returned (.int .i64 n) ∧ w = w'
set_option maxHeartbeats 400000 in
theorem addp_fits (a b : Int) (w : World) (ha : FitP a) (hb : FitP b) (h : FitP (a + b)) :
    Calls Try.prog 61 #[.int .i64 a, .int .i64 b] w (AddP (a + b) true w) := by
  obtain ⟨a0, a1⟩ := ha
  obtain ⟨b0, b1⟩ := hb
  obtain ⟨h0, h1⟩ := h
  have hc : (decide (a + b < a) = true ∧ decide (b < 0) = true) ∨ (decide (a + b < a) = false ∧ decide (b < 0) = false) := by
    by_cases hb : b < 0
    · left; exact ⟨by simp; omega, by simp; omega⟩
    · right; exact ⟨by simp; omega, by simp; omega⟩
  rcases hc with ⟨c1, c2⟩ | ⟨c1, c2⟩
  all_goals
    go_enter Try.func61, Try.ntmps61
    go_wp2_with fail
    go_ret2
    exact ⟨rfl, rfl⟩
set_option maxHeartbeats 400000 in
theorem addp_over (a b : Int) (w : World) (ha : FitP a) (hb : FitP b) (h : ¬ FitP (a + b)) :
    Calls Try.prog 61 #[.int .i64 a, .int .i64 b] w (AddP 0 false w) := by
  obtain ⟨a0, a1⟩ := ha
  obtain ⟨b0, b1⟩ := hb
  unfold FitP at h
  have hc : ∃ c : Int, wrap64 (a + b) = c ∧ ((decide (c < a) = true ∧ decide (b < 0) = false) ∨ (decide (c < a) = false ∧ decide (b < 0) = true)) := by
    refine ⟨_, rfl, ?_⟩
    unfold wrap64
    by_cases hb : b < 0
    · right; exact ⟨by simp; omega, by simp; omega⟩
    · left; exact ⟨by simp; omega, by simp; omega⟩
  obtain ⟨c, hw, hc⟩ := hc
  rcases hc with ⟨c1, c2⟩ | ⟨c1, c2⟩
  all_goals
    go_enter Try.func61, Try.ntmps61
    go_wp2_with fail
    go_ret2
    exact ⟨rfl, rfl⟩
set_option maxHeartbeats 400000 in
theorem plusp_fits (a b : Int) (w : World) (ha : FitP a) (hb : FitP b) (h : FitP (a + b)) :
    Calls Try.prog 37 #[.int .i64 a, .int .i64 b] w (PlusP (a + b) w) := by
  have C1 := Lib.hid (fun w => addp_fits a b w ha hb h)
  clear ha hb h
  generalize a + b = c at *
  go_enter Try.func37, Try.ntmps37
  go_wp2_with fail
  refine (C1.out _).mono ?_
  rintro e w1 ⟨rfl, rfl⟩
  go_wp2_with fail
  go_ret
  exact ⟨rfl, rfl⟩
set_option maxHeartbeats 400000 in
theorem plusp_neg (a b : Int) (w : World) (ha : FitP a) (hb : FitP b) (h : ¬ FitP (a + b)) (h0 : a < 0) :
    Calls Try.prog 37 #[.int .i64 a, .int .i64 b] w (PlusP (-9223372036854775808) w) := by
  have C1 := Lib.hid (fun w => addp_over a b w ha hb h)
  have h1 : decide (a < 0) = true := by rw [decide_eq_true_eq]; exact h0
  clear ha hb h h0
  go_enter Try.func37, Try.ntmps37
  go_wp2_with fail
  refine (C1.out _).mono ?_
  rintro e w1 ⟨rfl, rfl⟩
  go_wp2_with fail
  go_ret
  exact ⟨rfl, rfl⟩
set_option maxHeartbeats 400000 in
theorem plusp_pos (a b : Int) (w : World) (ha : FitP a) (hb : FitP b) (h : ¬ FitP (a + b)) (h0 : 0 ≤ a) :
    Calls Try.prog 37 #[.int .i64 a, .int .i64 b] w (PlusP 9223372036854775807 w) := by
  have C1 := Lib.hid (fun w => addp_over a b w ha hb h)
  have h1 : decide (a < 0) = false := by rw [decide_eq_false_iff_not]; omega
  clear ha hb h h0
  go_enter Try.func37, Try.ntmps37
  go_wp2_with fail
  refine (C1.out _).mono ?_
  rintro e w1 ⟨rfl, rfl⟩
  go_wp2_with fail
  go_ret
  exact ⟨rfl, rfl⟩
end Go.Proofs.Ytkaepadkdohmpaa.SatPlus
