/-
  The walk of the document's answer for layer 4: Check.
-/
import Derived.Test.YtalopnkdnlkdoaaStepRef0
namespace Go.Proofs.Ytalopnkdnlkdoaa.StepRef
open Go.RowKit Go.Proofs.Ytalopnkdnlkdoaa.SpanPlain Go.Proofs.Ytalopnkdnlkdoaa.StepPlain Go.Proofs.Ytalopnkdnlkdoaa.Mem Go.Proofs.Ytalopnkdnlkdoaa.SpanMem Go.Proofs.Ytalopnkdnlkdoaa.StepMem Go.Proofs.Ytalopnkdnlkdoaa.SpanRef
theorem ok_ways (s : List Sp) (k : Nat) : (decide ((s.getD k (0, 0)).2 < 0) = true ∧ Hid (okB s k = false)) ∨ (decide ((s.getD k (0, 0)).2 < 0) = false ∧ decide (256 < (s.getD k (0, 0)).2) = true ∧ Hid (okB s k = false)) ∨
    (decide ((s.getD k (0, 0)).2 < 0) = false ∧ decide (256 < (s.getD k (0, 0)).2) = false ∧ decide ((4503599627370496 : Int) < (s.getD k (0, 0)).1) = true ∧ Hid (okB s k = false)) ∨
    (decide ((s.getD k (0, 0)).2 < 0) = false ∧ decide (256 < (s.getD k (0, 0)).2) = false ∧ decide ((4503599627370496 : Int) < (s.getD k (0, 0)).1) = false ∧ ((k = 0 ∧ Hid (okB s k = true)) ∨
      (0 < k ∧ decide ((s.getD k (0, 0)).1 ≤ (s.getD (k - 1) (0, 0)).1) = true ∧ Hid (okB s k = false)) ∨ (0 < k ∧ decide ((s.getD k (0, 0)).1 ≤ (s.getD (k - 1) (0, 0)).1) = false ∧ ((s.getD k (0, 0)).2 == (s.getD (k - 1) (0, 0)).2) = true ∧ Hid (okB s k = false)) ∨
      (0 < k ∧ decide ((s.getD k (0, 0)).1 ≤ (s.getD (k - 1) (0, 0)).1) = false ∧ ((s.getD k (0, 0)).2 == (s.getD (k - 1) (0, 0)).2) = false ∧ Hid (okB s k = true)))) := by
  unfold okB
  generalize s.getD k (0, 0) = x
  generalize s.getD (k - 1) (0, 0) = y
  by_cases h1 : x.2 < 0
  · exact .inl ⟨decide_eq_true h1, by rw [decide_eq_false (by omega : ¬ 0 ≤ x.2)]; rfl⟩
  · by_cases h2 : 256 < x.2
    · exact .inr (.inl ⟨decide_eq_false h1, decide_eq_true h2, by rw [decide_eq_false (by omega : ¬ x.2 ≤ 256), Bool.and_false]; rfl⟩)
    · by_cases h3 : 4503599627370496 < x.1
      · exact .inr (.inr (.inl ⟨decide_eq_false h1, decide_eq_false h2, decide_eq_true h3, by rw [decide_eq_false (by omega : ¬ x.1 ≤ 4503599627370496), Bool.and_false]; rfl⟩))
      · refine .inr (.inr (.inr ⟨decide_eq_false h1, decide_eq_false h2, decide_eq_false h3, ?_⟩))
        rw [decide_eq_true (by omega : 0 ≤ x.2), decide_eq_true (by omega : x.2 ≤ 256), decide_eq_true (by omega : x.1 ≤ 4503599627370496)]
        by_cases h4 : k = 0
        · exact .inl ⟨h4, by rw [decide_eq_true h4]; rfl⟩
        · rw [decide_eq_false h4]
          by_cases h5 : x.1 ≤ y.1
          · exact .inr (.inl ⟨by omega, decide_eq_true h5, by rw [decide_eq_false (by omega : ¬ y.1 < x.1)]; rfl⟩)
          · rw [decide_eq_true (by omega : y.1 < x.1)]
            cases h6 : (x.2 == y.2) with
            | true => exact .inr (.inr (.inl ⟨by omega, decide_eq_false h5, rfl, rfl⟩))
            | false => exact .inr (.inr (.inr ⟨by omega, decide_eq_false h5, rfl, rfl⟩))
theorem chk_no {s : List Sp} {k : Nat} (hk : k < s.length) (h : okB s k = false) : chkB s = false := by
  cases hc : chkB s with
  | false => rfl
  | true =>
    unfold chkB at hc
    rw [Bool.and_eq_true] at hc
    rw [allTo_lt hc.1 hk] at h; cases h
theorem chk_end {s : List Sp} (h : allTo s s.length = true) : (s.length = 0 ∧ Hid (chkB s = false)) ∨ (0 < s.length ∧ decide (0 ≤ (s.getD 0 (0, 0)).1) = false ∧ Hid (chkB s = false)) ∨
    (0 < s.length ∧ decide (0 ≤ (s.getD 0 (0, 0)).1) = true ∧ decide ((s.getD 0 (0, 0)).1 ≤ 1125899906842624) = false ∧ Hid (chkB s = false)) ∨ (0 < s.length ∧ decide (0 ≤ (s.getD 0 (0, 0)).1) = true ∧ decide ((s.getD 0 (0, 0)).1 ≤ 1125899906842624) = true ∧ Hid (chkB s = true)) := by
  unfold chkB
  rw [h, Bool.true_and]
  by_cases h1 : 0 < s.length
  · rw [decide_eq_true h1, Bool.true_and]
    cases h2 : decide (0 ≤ (s.getD 0 (0, 0)).1) with
    | false => exact .inr (.inl ⟨h1, rfl, rfl⟩)
    | true =>
      cases h3 : decide ((s.getD 0 (0, 0)).1 ≤ 1125899906842624) with
      | false => exact .inr (.inr (.inl ⟨h1, rfl, rfl, rfl⟩))
      | true => exact .inr (.inr (.inr ⟨h1, rfl, rfl, rfl⟩))
  · exact .inl ⟨by omega, by rw [decide_eq_false h1]; rfl⟩
set_option maxHeartbeats 3200000 in
theorem check4 (s : List Sp) (v : Value) (w : World) (hv : SpansIs s w v) (hl : s.length ≤ 9000) : Calls Try.prog 21 #[v] w (BoolD (chkB s) w) := by
  obtain ⟨A, c, rfl, hA⟩ := hv.open_
  have HA := Lib.hid hA
  clear hA hv
  go_enter Try.func21, Try.ntmps21
  go_wp2_with fail
  go_loopw [3] (fun i wr => ∃ k : Nat, i = .int .i64 k ∧ k ≤ s.length ∧ Hid (allTo s k = true) ∧ Hid (∃ q, wr = w.drewN q)) (fun i _ => s.length - (intOf i).toNat)
  case atStart => exact ⟨0, rfl, Nat.zero_le _, rfl, ⟨0, rfl⟩⟩
  case round =>
    obtain ⟨k, rfl, hk, HS, HW⟩ := hrel
    obtain ⟨q, rfl⟩ := HW.out
    by_cases hlt : k < s.length
    · obtain ⟨ad, rfl, had, c1, c2⟩ := HA.out k hlt
      have hways := ok_ways s k
      have HNO := Lib.hid (fun h => chk_no hlt h)
      have HNX : Hid (okB s k = true → allTo s (k + 1) = true) := fun h => by rw [allTo_succ, HS.out, h]; rfl
      have hlt2 : (k : Int) < (s.length : Int) := by omega
      have i0 : (0 : Int) ≤ (k : Int) := Int.natCast_nonneg _
      by_cases hk0 : k = 0
      · subst hk0
        unfold spCell at c1 c2
        dsimp only at c1 c2
        generalize s.getD 0 (0, 0) = x at *
        clear had HW
        have e : ad.add (0 * 2) = ad := by unfold Addr.add; simp
        rw [e] at c1 c2
        clear e
        rcases hways with ⟨h1, HO⟩ | ⟨h1, h2, HO⟩ | ⟨h1, h2, h3, HO⟩ | ⟨h1, h2, h3, ⟨_, HO⟩ | ⟨h, _⟩ | ⟨h, _⟩ | ⟨h, _⟩⟩
        · go_wp2_with fail
          go_quiet (fail)
          go_wp2_with fail
          go_ret
          exact ⟨by rw [HNO.out HO.out]; rfl, _, World.drewN_drewN _ _ _⟩
        · go_wp2_with fail
          go_quiet (fail)
          go_wp2_with fail
          go_ret
          exact ⟨by rw [HNO.out HO.out]; rfl, _, World.drewN_drewN _ _ _⟩
        · go_wp2_with fail
          go_quiet (fail)
          go_wp2_with fail
          go_ret
          exact ⟨by rw [HNO.out HO.out]; rfl, _, World.drewN_drewN _ _ _⟩
        · go_wp2_with fail
          go_quiet (fail)
          go_wp2_with fail
          exact ⟨⟨1, by go_num, by omega, HNX.out HO.out, ⟨_, rfl⟩⟩, by simp [intOf] <;> omega⟩
        all_goals omega
      · obtain ⟨ad2, e2, _, d1, d2⟩ := HA.out (k - 1) (by omega)
        injection e2 with e2
        subst e2
        unfold spCell at c1 c2 d1 d2
        dsimp only at c1 c2 d1 d2
        generalize s.getD k (0, 0) = x at *
        generalize s.getD (k - 1) (0, 0) = y at *
        have j0 : (0 : Int) < (k : Int) := by omega
        have j1 : IntKind.i64.wrap ((k : Int) - 1) = (k : Int) - 1 := by rw [IntKind.wrap_i64]; omega
        have j2 : (0 : Int) ≤ (k : Int) - 1 := by omega
        have j3 : (k : Int) - 1 < (s.length : Int) := by omega
        have j4 : ((k : Int) - 1).toNat = k - 1 := by omega
        have j5 : 0 < k := by omega
        have j6 : (1 : Int) ≤ (k : Int) := by omega
        clear had HW hk0
        rcases hways with ⟨h1, HO⟩ | ⟨h1, h2, HO⟩ | ⟨h1, h2, h3, HO⟩ | ⟨h1, h2, h3, ⟨h, _⟩ | ⟨_, h4, HO⟩ | ⟨_, h4, h5, HO⟩ | ⟨_, h4, h5, HO⟩⟩
        · go_wp2_with fail
          go_quiet (fail)
          go_wp2_with fail
          go_ret
          exact ⟨by rw [HNO.out HO.out]; rfl, _, World.drewN_drewN _ _ _⟩
        · go_wp2_with fail
          go_quiet (fail)
          go_wp2_with fail
          go_ret
          exact ⟨by rw [HNO.out HO.out]; rfl, _, World.drewN_drewN _ _ _⟩
        · go_wp2_with fail
          go_quiet (fail)
          go_wp2_with fail
          go_ret
          exact ⟨by rw [HNO.out HO.out]; rfl, _, World.drewN_drewN _ _ _⟩
        · omega
        · go_wp2_with fail
          go_quiet (fail)
          go_wp2_with fail
          go_ret
          exact ⟨by rw [HNO.out HO.out]; rfl, _, World.drewN_drewN _ _ _⟩
        · go_wp2_with fail
          go_quiet (fail)
          go_wp2_with fail
          go_ret
          exact ⟨by rw [HNO.out HO.out]; rfl, _, World.drewN_drewN _ _ _⟩
        · go_wp2_with fail
          go_quiet (fail)
          go_wp2_with fail
          exact ⟨⟨k + 1, by go_num, by omega, HNX.out HO.out, ⟨_, rfl⟩⟩, by simp [intOf] <;> omega⟩
    · have hend := chk_end (s := s) (by have h := HS.out; rwa [show k = s.length by omega] at h)
      rcases hend with ⟨h0, HO⟩ | ⟨h0, h1, HO⟩ | ⟨h0, h1, h2, HO⟩ | ⟨h0, h1, h2, HO⟩
      · go_wp2_with fail
        go_ret
        exact ⟨by rw [HO.out]; rfl, q, rfl⟩
      all_goals
        obtain ⟨ad, rfl, had, c1, c2⟩ := pair_zero HA.out h0
        unfold spCell at c1 c2
        dsimp only at c1 c2
        have i0 : (0 : Int) < (s.length : Int) := by omega
        generalize s.getD 0 (0, 0) = x at *
        clear had HW
        go_wp2_with fail
        go_ret
        exact ⟨by rw [HO.out]; rfl, q, rfl⟩
end Go.Proofs.Ytalopnkdnlkdoaa.StepRef
