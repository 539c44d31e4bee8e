/-
  The walk of the document's answer for layer 4: Min.
-/
import Derived.Test.YtalopnkdnlkdoaaStepRefD
namespace Go.Proofs.Ytalopnkdnlkdoaa.StepRef
open Go.RowKit Go.Proofs.Ytalopnkdnlkdoaa.SpanPlain Go.Proofs.Ytalopnkdnlkdoaa.StepPlain Go.Proofs.Ytalopnkdnlkdoaa.Mem Go.Proofs.Ytalopnkdnlkdoaa.SpanMem Go.Proofs.Ytalopnkdnlkdoaa.StepMem Go.Proofs.Ytalopnkdnlkdoaa.SpanRef
theorem min_ways (x y : Sp) (n : Int) : (decide (x.1 < y.1) = false ∧ Hid (minStep x n y = n)) ∨ (decide (x.1 < y.1) = true ∧ decide (y.1 < x.2) = false ∧ Hid (minStep x n y = n)) ∨
    (decide (x.1 < y.1) = true ∧ decide (y.1 < x.2) = true ∧ decide (y.2 < n) = false ∧ Hid (minStep x n y = n)) ∨ (decide (x.1 < y.1) = true ∧ decide (y.1 < x.2) = true ∧ decide (y.2 < n) = true ∧ Hid (minStep x n y = y.2)) := by
  unfold minStep
  by_cases h1 : x.1 < y.1
  · by_cases h2 : y.1 < x.2
    · by_cases h3 : y.2 < n
      · exact .inr (.inr (.inr ⟨decide_eq_true h1, decide_eq_true h2, decide_eq_true h3, if_pos ⟨h1, h2, h3⟩⟩))
      · exact .inr (.inr (.inl ⟨decide_eq_true h1, decide_eq_true h2, decide_eq_false h3, if_neg (fun h => h3 h.2.2)⟩))
    · exact .inr (.inl ⟨decide_eq_true h1, decide_eq_false h2, if_neg (fun h => h2 h.2.1)⟩)
  · exact .inl ⟨decide_eq_false h1, if_neg (fun h => h1 h.1)⟩
set_option maxHeartbeats 3200000 in
theorem min4 (s : List Sp) (x : Sp) (v : Value) (w : World) (hv : SpansIs s w v) (hl : s.length ≤ 9000) : Calls Try.prog 14 #[v, spV x] w (IntB (minTo s x s.length) w) := by
  obtain ⟨A, c, rfl, hA⟩ := hv.open_
  obtain ⟨x1, x2⟩ := x
  have HW := Lib.hid (within4 s (.slice A s.length c) x1 (w.alloc (.cells #[.int .i64 x1, .int .i64 x2] 36)) (hv.below (below_alloc _ _)) hl)
  have HB := Lib.hid (Box2.new w (.int .i64 x1) (.int .i64 x2) 36)
  have HA := Lib.hid (hA.below (below_alloc w (.cells #[.int .i64 x1, .int .i64 x2] 36)))
  have HL := Lib.hid (below_alloc w (.cells #[.int .i64 x1, .int .i64 x2] 36))
  have hm0 : Hid (minTo s (x1, x2) 0 = val s x1) := rfl
  unfold spV
  dsimp only
  clear hA hv
  go_enter Try.func14, Try.ntmps14
  go_wp2_with fail
  refine HW.out.mono ?_
  rintro e w1 ⟨rfl, rfl⟩
  go_wp2_with fail
  generalize w.alloc (.cells #[.int .i64 x1, .int .i64 x2] 36) = W at *
  go_loopw [5, 6] (fun n i wr => ∃ k : Nat, n = .int .i64 (minTo s (x1, x2) k) ∧ i = .int .i64 k ∧ k ≤ s.length ∧ Hid (∃ q, wr = W.drewN q)) (fun _ i _ => s.length - (intOf i).toNat)
  case atStart => exact ⟨0, by rw [hm0.out], rfl, Nat.zero_le _, ⟨0, rfl⟩⟩
  case round =>
    obtain ⟨k, rfl, rfl, hk, HQ⟩ := hrel
    obtain ⟨q, rfl⟩ := HQ.out
    by_cases hlt : k < s.length
    · obtain ⟨ad, rfl, had, c1, c2⟩ := HA.out k hlt
      obtain ⟨b0, b1, b2, b3, b4⟩ := HB.out
      have hways := min_ways (x1, x2) (s.getD k (0, 0)) (minTo s (x1, x2) k)
      have HN := Lib.hid (min_next (x := (x1, x2)) hlt)
      have hlt2 : (k : Int) < (s.length : Int) := by omega
      have i0 : (0 : Int) ≤ (k : Int) := Int.natCast_nonneg _
      unfold spCell at c1 c2
      dsimp only at c1 c2 hways
      generalize s.getD k (0, 0) = y at *
      generalize minTo s (x1, x2) k = n at *
      clear had HQ b0 b3 b4 HW
      rcases hways with ⟨h1, HM⟩ | ⟨h1, h2, HM⟩ | ⟨h1, h2, h3, HM⟩ | ⟨h1, h2, h3, HM⟩
      all_goals
        go_wp2_with fail
        go_quiet (fail)
        go_wp2_with fail
        exact ⟨⟨k + 1, by rw [HN.out, HM.out], by go_num, by omega, ⟨_, rfl⟩⟩, by simp [intOf] <;> omega⟩
    · obtain rfl : k = s.length := by omega
      go_wp2_with fail
      go_ret
      exact ⟨rfl, below_drewN HL.out q⟩
end Go.Proofs.Ytalopnkdnlkdoaa.StepRef
