/-
  The walks of the document's answers for layer 13: Best.
-/
import Derived.Test.YtnojminhbakfaaaTwnRefA
namespace Go.Proofs.Ytnojminhbakfaaa.TwnRef
open Go.RowKit Go.Proofs.Ytnojminhbakfaaa.SubPlain Go.Proofs.Ytnojminhbakfaaa.ApiPlain Go.Proofs.Ytnojminhbakfaaa.TwnPlain Go.Proofs.Ytnojminhbakfaaa.Mem Go.Proofs.Ytnojminhbakfaaa.ApiMem Go.Proofs.Ytnojminhbakfaaa.SubRef
theorem takesT_ways (l : List Itm) (room long : Int) (b best : Nat) : (decide (tot (wsOf l) b ≤ room) = false ∧ takesT l room long b best = false) ∨ (decide (tot (wsOf l) b ≤ room) = true ∧ decide (tot (lsOf l) b ≤ long) = false ∧ takesT l room long b best = false) ∨
    (decide (tot (wsOf l) b ≤ room) = true ∧ decide (tot (lsOf l) b ≤ long) = true ∧ decide (tot (wsOf l) best ≤ tot (wsOf l) b) = false ∧ takesT l room long b best = false) ∨
    (decide (tot (wsOf l) b ≤ room) = true ∧ decide (tot (lsOf l) b ≤ long) = true ∧ decide (tot (wsOf l) best ≤ tot (wsOf l) b) = true ∧ takesT l room long b best = true) := by
  unfold takesT
  cases decide (tot (wsOf l) b ≤ room) <;> cases decide (tot (lsOf l) b ≤ long) <;> cases decide (tot (wsOf l) best ≤ tot (wsOf l) b) <;> simp
set_option maxHeartbeats 1600000 in
theorem best13 (l : List Itm) (room long : Int) (v : Value) (w : World) (hv : ItmsAt l w v) (hw : (wsOf l).all wideB = true) (hl : l.length ≤ 60) : Calls Try.prog 8 #[v, .int .i64 room, .int .i64 long] w (IntQ (bestI l room long) w) := by
  have CT := Lib.hid (fun (b : Nat) (h : b < 4611686018427387904) => sums13 l b v w hv hw (by omega) h)
  obtain ⟨A, c, rfl, hc, hA⟩ := hv
  have hwr : ∃ P : Nat, P = 2 ^ l.length ∧ wrap64 ((2 : Int) ^ l.length) = (P : Int) ∧ P ≤ 1152921504606846976 := by
    have h2 : 2 ^ l.length ≤ 2 ^ 60 := Nat.pow_le_pow_right (by decide) hl
    have h3 : ((2 ^ l.length : Nat) : Int) = (2 : Int) ^ l.length := by simp
    have key : ∀ (p : Nat) (q : Int), (p : Int) = q → p ≤ 1152921504606846976 → wrap64 q = (p : Int) := fun p q h h2 => by subst h; exact IntWalk.wrap64_in _ (by omega)
    exact ⟨_, rfl, key _ _ h3 h2, h2⟩
  obtain ⟨P, hP, hwr, hP2⟩ := hwr
  have HP := Lib.hid hP
  have HZ : Hid (tot (wsOf l) 0 = 0) := Lib.hid (tot_zero _)
  clear hA hw hP
  go_enter Try.func8, Try.ntmps8
  go_wp2_with fail
  go_loop [7, 8, 9] (fun n m i => ∃ B : Nat, B ≤ P ∧ i = .int .i64 B ∧ n = .int .i64 (bestT l room long B) ∧ m = .int .i64 (tot (wsOf l) (bestT l room long B))) (fun _ _ i => P - (intOf i).toNat)
  case atStart => exact ⟨0, Nat.zero_le _, rfl, rfl, by show _ = Value.int _ (tot (wsOf l) 0); rw [HZ.out]⟩
  case round =>
    obtain ⟨B, hB, rfl, rfl, rfl⟩ := hrel
    have hle := bestT_le l room long B
    by_cases hlt : B < P
    · have HS := Lib.hid (bestT_step l room long B)
      have C1 := Lib.hid (CT.out B (by omega))
      have b0 : (0 : Int) ≤ (B : Int) := Int.natCast_nonneg _
      have b1 : (B : Int) < (P : Int) := by omega
      have htw := takesT_ways l room long B (bestT l room long B)
      generalize bestT l room long B = M at *
      have HTM := Lib.hid (fun (x : Nat) (h : x = M) => congrArg (tot (wsOf l)) h)
      have HTB := Lib.hid (fun (x : Nat) (h : x = B) => congrArg (tot (wsOf l)) h)
      generalize tot (wsOf l) B = TB at *
      generalize tot (lsOf l) B = LB at *
      generalize tot (wsOf l) M = TM at *
      rcases htw with ⟨a1, a2⟩ | ⟨a1, a3, a2⟩ | ⟨a1, a3, a4, a2⟩ | ⟨a1, a3, a4, a2⟩
      all_goals
        have HR := Lib.hid a2
        clear a2
        go_wp2_with fail
        refine C1.out.mono ?_
        rintro e w1 ⟨rfl, rfl⟩
        go_wp2_with fail
        exact ⟨⟨B + 1, by omega, by go_num, by rw [HS.out, HR.out]; rfl, by first | rw [HTM.out _ (show bestT l room long (B + 1) = M by rw [HS.out, HR.out]; rfl)] | rw [HTB.out _ (show bestT l room long (B + 1) = B by rw [HS.out, HR.out]; rfl)]⟩, by simp [intOf] <;> omega⟩
    · have hBP : Hid (bestT l room long B = bestI l room long) := Lib.hid (by
        have e : B = 2 ^ l.length := by have := HP.out; omega
        rw [e]; rfl)
      have d1 : decide ((B : Int) < (P : Int)) = false := decide_eq_false (by omega)
      go_wp2_with fail
      go_ret
      exact ⟨by rw [← hBP.out]; rfl, rfl⟩
end Go.Proofs.Ytnojminhbakfaaa.TwnRef
