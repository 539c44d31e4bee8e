/-
  The walks of the document's answers for layer 12: Best, Places; layer 1's Same.
-/
import Derived.Test.YtlbgncjikfdkoaaSubRefA
namespace Go.Proofs.Ytlbgncjikfdkoaa.SubRef
open Go.RowKit Go.Proofs.Ytlbgncjikfdkoaa.SubPlain Go.Proofs.Ytlbgncjikfdkoaa.Mem
theorem bestTo_le (ws : List Int) (room : Int) : ∀ B, bestTo ws room B ≤ B
  | 0 => Nat.le_refl _
  | B + 1 => by
    have h := bestTo_le ws room B
    show (if takesB ws room B (bestTo ws room B) = true then B else bestTo ws room B) ≤ B + 1
    split <;> omega
theorem takes_ways (ws : List Int) (room : Int) (b best : Nat) : (decide (tot ws b ≤ room) = false ∧ takesB ws room b best = false) ∨ (decide (tot ws b ≤ room) = true ∧ decide (tot ws best ≤ tot ws b) = false ∧ takesB ws room b best = false) ∨
    (decide (tot ws b ≤ room) = true ∧ decide (tot ws best ≤ tot ws b) = true ∧ takesB ws room b best = true) := by
  unfold takesB
  cases decide (tot ws b ≤ room) <;> cases decide (tot ws best ≤ tot ws b) <;> simp
theorem bestTo_step (ws : List Int) (room : Int) (B : Nat) : bestTo ws room (B + 1) = if takesB ws room B (bestTo ws room B) = true then B else bestTo ws room B := rfl
set_option maxHeartbeats 800000 in
theorem best12 (ws : List Int) (room : Int) (v : Value) (w : World) (hv : IntsAt ws w v) (hw : ws.all wideB = true) (hl : ws.length ≤ 60) : Calls Try.prog 8 #[v, .int .i64 room] w (IntQ (bestB ws room) w) := by
  have CT := Lib.hid (fun (b : Nat) (h : b < 4611686018427387904) => total12 ws b v w hv hw (by omega) h)
  obtain ⟨A, c, rfl, hc, hA⟩ := hv
  have hwr : ∃ P : Nat, P = 2 ^ ws.length ∧ wrap64 ((2 : Int) ^ ws.length) = (P : Int) ∧ P ≤ 1152921504606846976 := by
    have h2 : 2 ^ ws.length ≤ 2 ^ 60 := Nat.pow_le_pow_right (by decide) hl
    have h3 : ((2 ^ ws.length : Nat) : Int) = (2 : Int) ^ ws.length := by simp
    have key : ∀ (p : Nat) (q : Int), (p : Int) = q → p ≤ 1152921504606846976 → wrap64 q = (p : Int) := fun p q h h2 => by subst h; exact IntWalk.wrap64_in _ (by omega)
    exact ⟨_, rfl, key _ _ h3 h2, h2⟩
  obtain ⟨P, hP, hwr, hP2⟩ := hwr
  have HP := Lib.hid hP
  clear hA hw hP
  go_enter Try.func8, Try.ntmps8
  go_wp2_with fail
  go_loop [5, 6] (fun n i => ∃ B : Nat, B ≤ P ∧ i = .int .i64 B ∧ n = .int .i64 (bestTo ws room B)) (fun _ i => P - (intOf i).toNat)
  case atStart => exact ⟨0, Nat.zero_le _, rfl, rfl⟩
  case round =>
    obtain ⟨B, hB, rfl, rfl⟩ := hrel
    have hle := bestTo_le ws room B
    by_cases hlt : B < P
    · have hst := bestTo_step ws room B
      have C1 := Lib.hid (CT.out B (by omega))
      have C2 := Lib.hid (CT.out (bestTo ws room B) (by omega))
      have HS := Lib.hid hst
      have b0 : (0 : Int) ≤ (B : Int) := Int.natCast_nonneg _
      have b1 : (B : Int) < (P : Int) := by omega
      have htw := takes_ways ws room B (bestTo ws room B)
      clear hst
      generalize bestTo ws room B = M at *
      rcases htw with ⟨a1, a2⟩ | ⟨a1, a3, a2⟩ | ⟨a1, a3, a2⟩
      all_goals
        have HR := Lib.hid a2
        clear a2
        generalize tot ws B = TB at *
        generalize tot ws M = TM at *
        go_wp2_with (go_at_call 9; (first | ((with_reducible refine C1.out.mono ?_); rintro e w1 ⟨rfl, rfl⟩) | ((with_reducible refine C2.out.mono ?_); rintro e w1 ⟨rfl, rfl⟩)))
        exact ⟨⟨B + 1, by omega, by go_num, by rw [HS.out, HR.out]; rfl⟩, by simp [intOf] <;> omega⟩
    · have hBP : Hid (bestTo ws room B = bestB ws room) := Lib.hid (by
        have e : B = 2 ^ ws.length := by have := HP.out; omega
        rw [e]; rfl)
      have d1 : decide ((B : Int) < (P : Int)) = false := decide_eq_false (by omega)
      go_wp2_with fail
      go_ret
      exact ⟨by rw [← hBP.out]; rfl, rfl⟩
end Go.Proofs.Ytlbgncjikfdkoaa.SubRef
