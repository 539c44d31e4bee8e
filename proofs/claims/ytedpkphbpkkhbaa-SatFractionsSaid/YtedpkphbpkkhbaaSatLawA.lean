/-
  The walks of the statements on layer 2: awake, SatAdds.
-/
import Derived.Test.YtedpkphbpkkhbaaSatWalkD
import Derived.Test.YtedpkphbpkkhbaaSatWalkH
namespace Go.Proofs.Ytedpkphbpkkhbaa.SatWalk
open Go.RowKit Go.Proofs.Ytedpkphbpkkhbaa.SatPlain Go.Proofs.Ytedpkphbpkkhbaa.Mem

def TrueIs (w : World) (e : Ending) (w' : World) : Prop := e = .returned (.bool true) ∧ Below w.heap.size w w'

theorem least_345 (w : World) : Calls Try.prog 17 #[.int .i64 3, .int .i64 5, .int .i64 4] w fun e w' => e = .returned (.tuple #[.int .i64 4, .int .i64 0]) ∧ Below w.heap.size w w' :=
  (least_good 3 5 4 w (by omega) (by omega) (by omega) (by omega)).mono fun _ _ ⟨⟨n, hw⟩, h⟩ => by
    rcases h with ⟨h, _⟩ | ⟨_, k, _, he, h1, h2⟩
    · omega
    · obtain rfl : k = 4 := by omega
      exact ⟨he, hw ▸ below_drewN (Below.refl _ _) n⟩
theorem add_top (w : World) : Calls Try.prog 6 #[.int .i64 9223372036854775807, .int .i64 1] w (PairIs 0 false w) :=
  add_over _ _ w ⟨by omega, by omega⟩ ⟨by omega, by omega⟩ (fun h => by have := h.2; omega)
theorem plus_top (w : World) : Calls Try.prog 9 #[.int .i64 9223372036854775807, .int .i64 1] w (PlusVIs 9223372036854775807 w) :=
  satplus_pos _ _ w ⟨by omega, by omega⟩ ⟨by omega, by omega⟩ (fun h => by have := h.2; omega) (by omega)

set_option maxHeartbeats 400000 in
theorem awake_any (w : World) : Calls Try.prog 14 #[] w (TrueIs w) := by
  go_enter Try.func14, Try.ntmps14
  go_wp2_with fail
  refine (least_345 _).mono ?_
  rintro e w1 ⟨rfl, hb⟩
  go_wp2_with fail
  refine (add_top _).mono ?_
  rintro e w2 ⟨rfl, rfl⟩
  go_wp2_with fail
  refine (plus_top _).mono ?_
  rintro e w2 ⟨rfl, rfl⟩
  go_wp2_with fail
  go_ret
  exact ⟨rfl, hb⟩

/-- What the sum's part of the statement needs: the program's answers and the document's. -/
def AddAns (a b s t : Int) (p : Bool) : Prop := (Fit (a + b) ∧ s = a + b ∧ p = true ∧ t = a + b) ∨ (¬ Fit (a + b) ∧ s = 0 ∧ p = false ∧ t = if a < 0 then -9223372036854775808 else 9223372036854775807)
theorem add_ans (a b : Int) (ha : Fit a) (hb : Fit b) : ∃ s t p, AddAns a b s t p ∧ (∀ w, Calls Try.prog 6 #[.int .i64 a, .int .i64 b] w (PairIs s p w)) ∧ (∀ w, Calls Try.prog 9 #[.int .i64 a, .int .i64 b] w (PlusVIs t w)) := by
  by_cases h : Fit (a + b)
  · exact ⟨a + b, a + b, true, .inl ⟨h, rfl, rfl, rfl⟩, fun w => add_fits a b w ha hb h, fun w => satplus_fits a b w ha hb h⟩
  · by_cases h0 : a < 0
    · exact ⟨0, _, false, .inr ⟨h, rfl, rfl, by rw [if_pos h0]⟩, fun w => add_over a b w ha hb h, fun w => satplus_neg a b w ha hb h h0⟩
    · exact ⟨0, _, false, .inr ⟨h, rfl, rfl, by rw [if_neg h0]⟩, fun w => add_over a b w ha hb h, fun w => satplus_pos a b w ha hb h (by omega)⟩
def MulAns (a b m : Int) (q : Bool) : Prop := (a.natAbs * b.natAbs ≤ topS (negs a b) ∧ m = a * b ∧ q = true) ∨ (topS (negs a b) < a.natAbs * b.natAbs ∧ m = 0 ∧ q = false)
theorem mul_ans (a b : Int) (ha : Fit a) (hb : Fit b) : ∃ m q, MulAns a b m q ∧ (∀ w, Calls Try.prog 7 #[.int .i64 a, .int .i64 b] w (PairIs m q w)) := by
  by_cases h : a.natAbs * b.natAbs ≤ topS (negs a b)
  · exact ⟨_, _, .inl ⟨h, rfl, rfl⟩, fun w => mul_fits a b w ha hb h⟩
  · exact ⟨_, _, .inr ⟨by omega, rfl, rfl⟩, fun w => mul_over a b w ha hb (by omega)⟩

theorem same_fit {a b : Int} {sa : Bool} (ha : Fit a) (hb : Fit b) (h1 : decide (a < 0) = sa) (h2 : decide (b < 0) = sa) : decide (a.natAbs + b.natAbs ≤ topOf sa) = decide (-9223372036854775808 ≤ a + b ∧ a + b < 9223372036854775808) := by
  have := ha.1; have := ha.2; have := hb.1; have := hb.2
  cases sa with
  | false =>
    rw [decide_eq_false_iff_not] at h1 h2
    simp only [topOf, Bool.false_eq_true, if_false]
    apply decide_eq_decide.2
    omega
  | true =>
    rw [decide_eq_true_eq] at h1 h2
    simp only [topOf, if_true]
    apply decide_eq_decide.2
    omega
theorem other_fit {a b : Int} (ha : Fit a) (hb : Fit b) (h : (decide (a < 0) = false ∧ decide (b < 0) = true) ∨ (decide (a < 0) = true ∧ decide (b < 0) = false)) : Fit (a + b) := by
  have := ha.1; have := ha.2; have := hb.1; have := hb.2
  rw [decide_eq_false_iff_not, decide_eq_true_eq, decide_eq_true_eq, decide_eq_false_iff_not] at h
  unfold Fit
  omega

set_option maxRecDepth 100000 in
set_option maxHeartbeats 3200000 in
theorem adds_any (a b : Int) (w : World) (ha : Fit a) (hb : Fit b) : Calls Try.prog 3 #[.int .i64 a, .int .i64 b] w (TrueIs w) := by
  obtain ⟨s, t, p, hadd, c1, c2⟩ := add_ans a b ha hb
  obtain ⟨m, q, hmul, c3⟩ := mul_ans a b ha hb
  have C1 := Lib.hid c1
  have C2 := Lib.hid c2
  have C3 := Lib.hid c3
  have C4 := Lib.hid (fun w => digits_any a w ha.1 ha.2)
  have C5 := Lib.hid (fun w => digits_any b w hb.1 hb.2)
  have HA := Lib.hid hadd
  have HM := Lib.hid hmul
  have FA := Lib.hid ha
  have FB := Lib.hid hb
  clear c1 c2 c3 hadd hmul ha hb
  go_enter Try.func3, Try.ntmps3
  go_wp2_with fail
  refine (C1.out _).mono ?_
  rintro e w1 ⟨rfl, rfl⟩
  go_wp2_with fail
  refine (C3.out _).mono ?_
  rintro e w1 ⟨rfl, rfl⟩
  go_wp2_with fail
  refine (C4.out _).mono ?_
  rintro e w1 ⟨x, rfl, hx, hb1⟩
  go_wp2_with fail
  refine (C5.out _).mono ?_
  rintro e w2 ⟨y, rfl, hy, hb2⟩
  have HX := Lib.hid (hx.below hb2)
  have HY := Lib.hid hy
  have HB := Lib.hid (below_then hb1 hb2)
  clear hx hy hb1 hb2
  go_wp2_with fail
  refine (C2.out _).mono ?_
  rintro e w3 ⟨rfl, rfl⟩
  go_upto_if 40 with fail
  go_cut [] (fun wc => Below w2.heap.size w2 wc)
  case first =>
    have hs := sign_cases a b
    have hb0 := FA.out
    have hs2 : (∃ sa, decide (a < 0) = sa ∧ decide (b < 0) = sa ∧ decide (a.natAbs + b.natAbs ≤ topOf sa) = decide (-9223372036854775808 ≤ a + b ∧ a + b < 9223372036854775808)) ∨
        (Fit (a + b) ∧ ((decide (a < 0) = false ∧ decide (b < 0) = true) ∨ (decide (a < 0) = true ∧ decide (b < 0) = false))) := by
      rcases hs with ⟨s1, s2, _⟩ | ⟨s1, s2, _⟩ | ⟨s1, s2, _⟩ | ⟨s1, s2, _⟩
      · exact .inl ⟨_, s1, s2, same_fit FA.out FB.out s1 s2⟩
      · exact .inl ⟨_, s1, s2, same_fit FA.out FB.out s1 s2⟩
      · exact .inr ⟨other_fit FA.out FB.out (.inl ⟨s1, s2⟩), .inl ⟨s1, s2⟩⟩
      · exact .inr ⟨other_fit FA.out FB.out (.inr ⟨s1, s2⟩), .inr ⟨s1, s2⟩⟩
    clear hs hb0
    rcases hs2 with ⟨sa, s1, s2, hF⟩ | ⟨hfit, hs2⟩
    · have CP := Lib.hid (plus_any x y _ _ w2 HX.out HY.out rfl rfl)
      have HF := Lib.hid hF
      clear hF
      rcases HA.out with ⟨hfit, rfl, rfl, rfl⟩ | ⟨hfit, rfl, rfl, ht⟩
      · have hf : decide (-9223372036854775808 ≤ a + b ∧ a + b < 9223372036854775808) = true := by rw [decide_eq_true_eq]; exact hfit
        rw [hf] at HF
        obtain ⟨f0, f1⟩ := hfit
        clear hf
        cases sa
        all_goals
          simp only [s1, s2, Bool.not_false, Bool.not_true, beq_self_eq_true, Bool.false_beq, Bool.true_beq]
          go_wp2_with fail
          refine CP.out.mono ?_
          rintro e w4 ⟨z, l, rfl, hz, hl, hv, hb4⟩
          go_wp2_with fail
          refine (fits_any z l _ w4 hz (by omega)).mono ?_
          rintro e w5 ⟨rfl, hb5⟩
          rw [hv, dg_val, dg_val, HF.out]
          have HB4 := Lib.hid (below_then hb4 hb5)
          clear hz hl hv hb4 hb5
          go_wp2_with fail
          go_meet
          exact HB4
      · have hf : decide (-9223372036854775808 ≤ a + b ∧ a + b < 9223372036854775808) = false := by rw [decide_eq_false_iff_not]; exact hfit
        rw [hf] at HF
        clear hf hfit
        cases sa
        · have s3 : ¬ a < 0 := of_decide_eq_false s1
          rw [if_neg s3] at ht
          subst ht
          clear s3
          simp only [s1, s2, Bool.not_false, Bool.not_true, beq_self_eq_true, Bool.false_beq, Bool.true_beq]
          go_wp2_with fail
          refine CP.out.mono ?_
          rintro e w4 ⟨z, l, rfl, hz, hl, hv, hb4⟩
          go_wp2_with fail
          refine (fits_any z l _ w4 hz (by omega)).mono ?_
          rintro e w5 ⟨rfl, hb5⟩
          rw [hv, dg_val, dg_val, HF.out]
          have HB4 := Lib.hid (below_then hb4 hb5)
          clear hz hl hv hb4 hb5
          go_wp2_with fail
          go_meet
          exact HB4
        · have s3 : a < 0 := of_decide_eq_true s1
          rw [if_pos s3] at ht
          subst ht
          clear s3
          simp only [s1, s2, Bool.not_false, Bool.not_true, beq_self_eq_true, Bool.false_beq, Bool.true_beq]
          go_wp2_with fail
          refine CP.out.mono ?_
          rintro e w4 ⟨z, l, rfl, hz, hl, hv, hb4⟩
          go_wp2_with fail
          refine (fits_any z l _ w4 hz (by omega)).mono ?_
          rintro e w5 ⟨rfl, hb5⟩
          rw [hv, dg_val, dg_val, HF.out]
          have HB4 := Lib.hid (below_then hb4 hb5)
          clear hz hl hv hb4 hb5
          go_wp2_with fail
          go_meet
          exact HB4
    · rcases HA.out with ⟨_, rfl, rfl, rfl⟩ | ⟨h, _⟩
      · obtain ⟨f0, f1⟩ := hfit
        rcases hs2 with ⟨s1, s2⟩ | ⟨s1, s2⟩
        all_goals
          simp only [s1, s2, Bool.not_false, Bool.not_true, beq_self_eq_true, Bool.false_beq, Bool.true_beq]
          go_wp2_with fail
          go_meet
          exact Below.refl _ _
      · exact absurd hfit h
  case rest =>
    have HC := Lib.hid (hcut : Below w2.heap.size w2 wc)
    clear hcut
    have CT := Lib.hid (times_any x y _ _ wc (HX.out.below HC.out) (HY.out.below HC.out) rfl rfl)
    have hm : (decide (a.natAbs * b.natAbs ≤ topS (negs a b)) = false ∧ m = 0 ∧ q = false) ∨
        (decide (a.natAbs * b.natAbs ≤ topS (negs a b)) = true ∧ q = true ∧ m.natAbs = a.natAbs * b.natAbs ∧ Fit m ∧ ((m == 0) = true ∨ ((m == 0) = false ∧ decide (m < 0) = negs a b))) := by
      rcases HM.out with ⟨h, rfl, rfl⟩ | ⟨h, rfl, rfl⟩
      · refine .inr ⟨by rw [decide_eq_true_eq]; exact h, rfl, Int.natAbs_mul _ _, fit_prod h, ?_⟩
        by_cases h0 : a * b = 0
        · left; rw [h0]; rfl
        · right
          refine ⟨by rw [beq_eq_false_iff_ne]; exact h0, ?_⟩
          have := negs_prod a b
          cases hn : negs a b with
          | false => rw [hn] at this; rw [decide_eq_false_iff_not]; simp at this; omega
          | true => rw [hn] at this; rw [decide_eq_true_eq]; simp at this; omega
      · exact .inl ⟨by rw [decide_eq_false_iff_not]; omega, rfl, rfl⟩
    have hs : (decide (a < 0) = false ∧ decide (b < 0) = false ∧ negs a b = false) ∨ (decide (a < 0) = true ∧ decide (b < 0) = true ∧ negs a b = false) ∨ (decide (a < 0) = false ∧ decide (b < 0) = true ∧ negs a b = true) ∨ (decide (a < 0) = true ∧ decide (b < 0) = false ∧ negs a b = true) := by
      unfold negs
      cases decide (a < 0) <;> cases decide (b < 0) <;> simp
    clear HA HM C1 C2 C3 C4 C5
    rcases hm with ⟨hF, rfl, rfl⟩ | ⟨hF, rfl, hN, hmf, hm0⟩
    · have HF := Lib.hid hF
      clear hF
      rcases hs with ⟨s1, s2, hn⟩ | ⟨s1, s2, hn⟩ | ⟨s1, s2, hn⟩ | ⟨s1, s2, hn⟩
      all_goals
        rw [hn] at HF
        clear hn
        go_wp2_with fail
        refine CT.out.mono ?_
        rintro e w4 ⟨z, l, rfl, hz, hl, hv, hb4⟩
        go_wp2_with fail
        refine (fits_any z l _ w4 hz (by omega)).mono ?_
        rintro e w5 ⟨rfl, hb5⟩
        have hFF := HF.out
        unfold topS at hFF
        unfold topOf
        rw [hv, dg_val, dg_val, hFF]
        have HB4 := Lib.hid (below_then hb4 hb5)
        clear hz hl hv hb4 hb5 hFF
        go_wp2_with fail
        refine (awake_any _).mono ?_
        rintro e w6 ⟨rfl, hb6⟩
        go_wp2_with fail
        go_ret
        exact ⟨rfl, below_then HB.out (below_then HC.out (below_then HB4.out hb6))⟩
    · have HF := Lib.hid hF
      have HN := Lib.hid hN
      have CD := Lib.hid (fun w => digits_any m w hmf.1 hmf.2)
      clear hF hN hmf
      rcases hm0 with hm0 | ⟨hm0, hm1⟩ <;> rcases hs with ⟨s1, s2, hn⟩ | ⟨s1, s2, hn⟩ | ⟨s1, s2, hn⟩ | ⟨s1, s2, hn⟩
      all_goals
        rw [hn] at HF
        try rw [hn] at hm1
        clear hn
        go_wp2_with fail
        refine CT.out.mono ?_
        rintro e w4 ⟨z, l, rfl, hz, hl, hv, hb4⟩
        go_wp2_with fail
        refine (fits_any z l _ w4 hz (by omega)).mono ?_
        rintro e w5 ⟨rfl, hb5⟩
        have hFF := HF.out
        unfold topS at hFF
        unfold topOf
        rw [hv, dg_val, dg_val, hFF]
        have HZ := Lib.hid (hz.below hb5)
        have HL := Lib.hid hl
        have HV := Lib.hid hv
        have HB4 := Lib.hid (below_then hb4 hb5)
        clear hz hl hv hb4 hb5 hFF
        go_wp2_with fail
        refine (CD.out _).mono ?_
        rintro e w6 ⟨u, rfl, hu, hb6⟩
        have HU := Lib.hid hu
        have HB6 := Lib.hid hb6
        clear hu hb6
        go_wp2_with fail
        refine (cmp_any _ _ _ _ _ HU.out (HZ.out.below HB6.out) (by rw [dg_len]; omega) (by rw [HL.out]; omega)).mono ?_
        rintro e w7 ⟨rfl, rfl⟩
        have e0 : cmpI (dval (dg m.natAbs)) (dval l) = 0 := cmpI_eq (by rw [HV.out, dg_val, dg_val, dg_val, HN.out])
        rw [e0]
        clear e0
        go_wp2_with fail
        refine (awake_any _).mono ?_
        rintro e w8 ⟨rfl, hb8⟩
        go_wp2_with fail
        go_ret
        exact ⟨rfl, below_then HB.out (below_then HC.out (below_then HB4.out (below_then HB6.out hb8)))⟩
end Go.Proofs.Ytedpkphbpkkhbaa.SatWalk
