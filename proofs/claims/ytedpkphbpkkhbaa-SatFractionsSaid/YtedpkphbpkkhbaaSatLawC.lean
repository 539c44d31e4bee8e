/-
  The walk of the statement SatFractions.
-/
import Derived.Test.YtedpkphbpkkhbaaSatLawB
import Derived.OpenShut
namespace Go.Proofs.Ytedpkphbpkkhbaa.SatWalk
open Go.RowKit Go.Proofs.Ytedpkphbpkkhbaa.SatPlain Go.Proofs.Ytedpkphbpkkhbaa.Mem

/-- Cmp, of whatever numbers. -/
def Good4 (a b c d : Int) : Prop := 0 ≤ a ∧ 0 ≤ c ∧ 1 ≤ b ∧ 1 ≤ d
def cmpN (a b c d : Int) : Int := cmpI (a.toNat * d.toNat) (c.toNat * b.toNat)
theorem cmp_good (a b c d : Int) (w : World) (ha : Fit a) (hb : Fit b) (hc : Fit c) (hd : Fit d) (h : Good4 a b c d) :
    Calls Try.prog 16 #[.int .i64 a, .int .i64 b, .int .i64 c, .int .i64 d] w (CmpsIs (cmpN a b c d) 0 w) := by
  obtain ⟨h1, h2, h3, h4⟩ := h
  have h5 := ha.2; have h6 := hb.2; have h7 := hc.2; have h8 := hd.2
  obtain ⟨a, rfl⟩ := Int.eq_ofNat_of_zero_le h1
  obtain ⟨c, rfl⟩ := Int.eq_ofNat_of_zero_le h2
  obtain ⟨b, rfl⟩ := Int.eq_ofNat_of_zero_le (show 0 ≤ b by omega)
  obtain ⟨d, rfl⟩ := Int.eq_ofNat_of_zero_le (show 0 ≤ d by omega)
  exact satcmp_good a b c d w (by omega) (by omega) (by omega) (by omega) (by omega) (by omega)
theorem cmp_bad (a b c d : Int) (w : World) (h : ¬ Good4 a b c d) : Calls Try.prog 16 #[.int .i64 a, .int .i64 b, .int .i64 c, .int .i64 d] w (CmpsIs 0 1 w) :=
  satcmp_bad a b c d w (by unfold Good4 at h; omega)
theorem bad4_cases {a b c d : Int} (h : ¬ Good4 a b c d) : decide (a < 0) = true ∨ (decide (a < 0) = false ∧ decide (c < 0) = true) ∨ (decide (a < 0) = false ∧ decide (c < 0) = false ∧ decide (b < 1) = true) ∨ (decide (a < 0) = false ∧ decide (c < 0) = false ∧ decide (b < 1) = false ∧ decide (d < 1) = true) := by
  unfold Good4 at h
  simp only [decide_eq_true_eq, decide_eq_false_iff_not]; omega
def Good3 (a b c : Int) : Prop := 0 ≤ a ∧ 0 ≤ b ∧ 1 ≤ c
theorem bad3_cases {a b c : Int} (h : ¬ Good3 a b c) : decide (a < 0) = true ∨ (decide (a < 0) = false ∧ decide (b < 0) = true) ∨ (decide (a < 0) = false ∧ decide (b < 0) = false ∧ decide (c < 1) = true) := by
  unfold Good3 at h
  simp only [decide_eq_true_eq, decide_eq_false_iff_not]; omega

theorem good4_facts {a b c d : Int} (h : Good4 a b c d) : decide (a < 0) = false ∧ decide (c < 0) = false ∧ decide (b < 1) = false ∧ decide (d < 1) = false := by
  unfold Good4 at h
  simp only [decide_eq_false_iff_not]; omega
theorem good3_facts {a b c : Int} (h : Good3 a b c) : decide (a < 0) = false ∧ decide (b < 0) = false ∧ decide (c < 1) = false := by
  unfold Good3 at h
  simp only [decide_eq_false_iff_not]; omega
theorem ab_nat {a b c : Int} (ha : Fit a) (hb : Fit b) (hc : Fit c) (h : Good3 a b c) : ∃ x y z : Nat, a = x ∧ b = y ∧ c = z ∧ x < 9223372036854775808 ∧ y < 9223372036854775808 ∧ z < 9223372036854775808 ∧ 1 ≤ z := by
  obtain ⟨h1, h2, h3⟩ := h
  have := ha.2; have := hb.2; have := hc.2
  exact ⟨a.toNat, b.toNat, c.toNat, by omega, by omega, by omega, by omega, by omega, by omega, by omega⟩
theorem dval_prod {l : List Nat} {x y : Int} {p : Nat} (h : dval l = dval (dg x.natAbs) * dval (dg y.natAbs)) (hp : p = x.natAbs * y.natAbs) : dval l = p := by rw [h, dg_val, dg_val, hp]
theorem natAbs_toNat {x : Int} (h : 0 ≤ x) : x.natAbs = x.toNat := by omega
def BadIs (p : Prop) (v : Value) : Prop := (p ∧ v = .bool false) ∨ (¬ p ∧ v = .bool true)

def P4 (a b c d : Int) : Value := .agg #[.int .i64 a, .int .i64 b, .int .i64 c, .int .i64 d]

set_option maxRecDepth 100000 in
set_option maxHeartbeats 6400000 in
theorem fractions_any (a b c d : Int) (w : World) (ha : Fit a) (hb : Fit b) (hc : Fit c) (hd : Fit d) : Calls Try.prog 5 #[P4 a b c d] w (TrueIs w) := by
  have FA := Lib.hid ha
  have FB := Lib.hid hb
  have FC := Lib.hid hc
  have FD := Lib.hid hd
  clear ha hb hc hd
  have hC : ∃ n m e f : Int, (∀ w, Calls Try.prog 16 #[.int .i64 a, .int .i64 b, .int .i64 c, .int .i64 d] w (CmpsIs n e w)) ∧ (∀ w, Calls Try.prog 16 #[.int .i64 c, .int .i64 d, .int .i64 a, .int .i64 b] w (CmpsIs m f w)) ∧
      ((¬ Good4 a b c d ∧ n = 0 ∧ m = 0 ∧ e = 1 ∧ f = 1) ∨ (Good4 a b c d ∧ e = 0 ∧ f = 0 ∧ n = cmpN a b c d ∧ m = -n)) := by
    by_cases h : Good4 a b c d
    · have h2 : Good4 c d a b := ⟨h.2.1, h.1, h.2.2.2, h.2.2.1⟩
      refine ⟨_, _, _, _, fun w => cmp_good a b c d w FA.out FB.out FC.out FD.out h, fun w => cmp_good c d a b w FC.out FD.out FA.out FB.out h2, .inr ⟨h, rfl, rfl, rfl, ?_⟩⟩
      unfold cmpN
      rw [cmpI_neg]
    · have h2 : ¬ Good4 c d a b := fun g => h ⟨g.2.1, g.1, g.2.2.2, g.2.2.1⟩
      exact ⟨_, _, _, _, fun w => cmp_bad a b c d w h, fun w => cmp_bad c d a b w h2, .inl ⟨h, rfl, rfl, rfl, rfl⟩⟩
  obtain ⟨n, m, e, f, c1, c2, hcase⟩ := hC
  have C1 := Lib.hid c1
  have C2 := Lib.hid c2
  have HC := Lib.hid hcase
  clear c1 c2 hcase
  unfold P4
  go_enter Try.func5, Try.ntmps5
  go_wp2_with fail
  go_quiet (fail)
  go_wp2_with fail
  have hb0 := below_drewN ((Below.refl w.heap.size w).alloc (Nat.le_refl _) (.cells #[.int .i64 a, .int .i64 b, .int .i64 c, .int .i64 d] 35))
  have HB0 := Lib.hid hb0
  clear hb0
  refine (C1.out _).mono ?_
  rintro e w1 ⟨rfl, hw1⟩
  have HB1 := Lib.hid (hw1 ▸ HB0.out _)
  clear hw1
  go_wp2_with fail
  refine (C2.out _).mono ?_
  rintro e w2 ⟨rfl, rfl⟩
  go_upto_region 4 with fail
  go_cut [53] (fun v wc => BadIs (Good4 a b c d) v ∧ w1 = wc)
  case first =>
    by_cases hg : Good4 a b c d
    · obtain ⟨g1, g2, g3, g4⟩ := good4_facts hg
      have HG := Lib.hid hg
      clear hg
      go_wp2_with fail
      go_meet
      exact ⟨.inl ⟨HG.out, rfl⟩, rfl⟩
    · have HG := Lib.hid hg
      rcases bad4_cases hg with g1 | ⟨g1, g2⟩ | ⟨g1, g2, g3⟩ | ⟨g1, g2, g3, g4⟩
      all_goals
        clear hg
        go_wp2_with fail
        go_meet
        exact ⟨.inr ⟨HG.out, rfl⟩, rfl⟩
  case rest =>
    obtain ⟨hbad, rfl⟩ := hcut
    go_upto_if 53 with fail
    go_cut [] (fun wc => Below w1.heap.size w1 wc)
    case first =>
      rcases HC.out with ⟨hg, rfl, rfl, rfl, rfl⟩ | ⟨hg, rfl, rfl, hn, rfl⟩
      · obtain rfl : _ = Value.bool true := by
          rcases hbad with ⟨h, _⟩ | ⟨_, h⟩
          · exact absurd h hg
          · exact h
        clear hg hbad
        go_wp2_with fail
        go_meet
        exact Below.refl _ _
      · obtain rfl : _ = Value.bool false := by
          rcases hbad with ⟨_, h⟩ | ⟨h, _⟩
          · exact h
          · exact absurd hg h
        have HG := Lib.hid hg
        have HN := Lib.hid hn
        have hnr : -1 ≤ n ∧ n ≤ 1 := by rw [hn]; exact cmpI_range _ _
        obtain ⟨n0, n1⟩ := hnr
        have D1 := Lib.hid (fun w => digits_any a w FA.out.1 FA.out.2)
        have D2 := Lib.hid (fun w => digits_any d w FD.out.1 FD.out.2)
        have D3 := Lib.hid (fun w => digits_any c w FC.out.1 FC.out.2)
        have D4 := Lib.hid (fun w => digits_any b w FB.out.1 FB.out.2)
        clear hg hbad hn
        go_wp2_with fail
        refine (D1.out _).mono ?_
        rintro e w2 ⟨x1, rfl, hx1, hb2⟩
        go_wp2_with fail
        refine (D2.out _).mono ?_
        rintro e w3 ⟨x2, rfl, hx2, hb3⟩
        go_wp2_with fail
        refine (times_any _ _ _ _ _ (hx1.below hb3) hx2 rfl rfl).mono ?_
        rintro e w4 ⟨x3, l3, rfl, hx3, hl3, hv3, hb4⟩
        have HX3 := Lib.hid hx3
        have HL3 := Lib.hid hl3
        have HV3 := Lib.hid hv3
        have HB4 := Lib.hid (below_then hb2 (below_then hb3 hb4))
        clear hx1 hx2 hx3 hl3 hv3 hb2 hb3 hb4
        go_wp2_with fail
        refine (D3.out _).mono ?_
        rintro e w5 ⟨x1, rfl, hx1, hb5⟩
        go_wp2_with fail
        refine (D4.out _).mono ?_
        rintro e w6 ⟨x2, rfl, hx2, hb6⟩
        go_wp2_with fail
        refine (times_any _ _ _ _ _ (hx1.below hb6) hx2 rfl rfl).mono ?_
        rintro e w7 ⟨x4, l4, rfl, hx4, hl4, hv4, hb7⟩
        have HX4 := Lib.hid hx4
        have HL4 := Lib.hid hl4
        have HV4 := Lib.hid hv4
        have HB7 := Lib.hid (below_then hb5 (below_then hb6 hb7))
        clear hx1 hx2 hx4 hl4 hv4 hb5 hb6 hb7
        go_wp2_with fail
        refine (cmp_any _ _ _ _ _ (HX3.out.below HB7.out) HX4.out (by rw [HL3.out]; omega) (by rw [HL4.out]; omega)).mono ?_
        rintro e w8 ⟨rfl, rfl⟩
        have e1 : cmpI (dval l3) (dval l4) = n := by
          rw [HV3.out, HV4.out, HN.out, dg_val, dg_val, dg_val, dg_val]
          obtain ⟨g1, g2, g3, g4⟩ := HG.out
          unfold cmpN
          rw [natAbs_toNat g1, natAbs_toNat g2, natAbs_toNat (show 0 ≤ b by omega), natAbs_toNat (show 0 ≤ d by omega)]
        rw [e1]
        clear e1
        go_wp2_with fail
        go_meet
        exact below_then HB4.out HB7.out
    case rest =>
      have HBC := Lib.hid (below_then HB1.out hcut)
      clear hcut hbad C1 C2 HC
      by_cases hg : Good3 a b c
      · obtain ⟨x, y, z, rfl, rfl, rfl, hx, hy, hz, hz1⟩ := ab_nat FA.out FB.out FC.out hg
        obtain ⟨g1, g2, g3⟩ := good3_facts hg
        clear hg
        have C1 := Lib.hid (fun w => least_good x y z w hx hy hz hz1)
        go_wp2_with fail
        refine (C1.out _).mono ?_
        rintro e w2 ⟨⟨q, rfl⟩, hcase⟩
        have HBD := Lib.hid (below_drewN HBC.out q)
        rcases hcase with ⟨hov, rfl⟩ | ⟨hle, k, hk, rfl, hk1, hk2⟩
        · have HOV := Lib.hid hov
          clear hov
          go_wp2_with fail
          refine (digits_pos x _ hx).mono ?_
          rintro e w3 ⟨v1, rfl, hx1, hb3⟩
          go_wp2_with fail
          refine (digits_pos y _ hy).mono ?_
          rintro e w4 ⟨v2, rfl, hx2, hb4⟩
          go_wp2_with fail
          refine (times_any _ _ _ _ _ (hx1.below hb4) hx2 rfl rfl).mono ?_
          rintro e w5 ⟨vp, lp, rfl, hp, hlp, hvp, hb5⟩
          rw [dg_val, dg_val] at hvp
          have HP := Lib.hid hp
          have HLP := Lib.hid hlp
          have HVP := Lib.hid hvp
          have HB5 := Lib.hid (below_then hb3 (below_then hb4 hb5))
          clear hx1 hx2 hp hlp hvp hb3 hb4 hb5
          go_wp2_with fail
          refine (digits_pos z _ hz).mono ?_
          rintro e w6 ⟨vb, rfl, hvb, hb6⟩
          have HVB := Lib.hid hvb
          have HB6 := Lib.hid hb6
          clear hvb hb6
          go_wp2_with fail
          refine (digits_pos 9223372036854775807 _ (by omega)).mono ?_
          rintro e w7 ⟨v3, rfl, hx3, hb7⟩
          go_wp2_with fail
          refine (times_any _ _ _ _ _ (HVB.out.below hb7) hx3 rfl rfl).mono ?_
          rintro e w8 ⟨vt, lt, rfl, ht, hlt, hvt, hb8⟩
          rw [dg_val, dg_val] at hvt
          have HT := Lib.hid ht
          have HLT := Lib.hid hlt
          have HVT := Lib.hid hvt
          have HB8 := Lib.hid (below_then hb7 hb8)
          clear hx3 ht hlt hvt hb7 hb8
          go_wp2_with fail
          refine (cmp_any _ _ _ _ _ ((HP.out.below HB6.out).below HB8.out) HT.out (by rw [HLP.out]; omega) (by rw [HLT.out]; omega)).mono ?_
          rintro e w9 ⟨rfl, rfl⟩
          rw [HVP.out, HVT.out]
          rw [cmpI_gt HOV.out]
          go_wp2_with fail
          refine (awake_any _).mono ?_
          rintro e w10 ⟨rfl, hb10⟩
          go_wp2_with fail
          go_ret
          exact ⟨rfl, below_then HBD.out (below_then HB5.out (below_then HB6.out (below_then HB8.out hb10)))⟩
        · have HLE := Lib.hid hle
          have HK1 := Lib.hid hk1
          have HK2 := Lib.hid hk2
          clear hle hk1 hk2
          go_wp2_with fail
          refine (digits_pos x _ hx).mono ?_
          rintro e w3 ⟨v1, rfl, hx1, hb3⟩
          go_wp2_with fail
          refine (digits_pos y _ hy).mono ?_
          rintro e w4 ⟨v2, rfl, hx2, hb4⟩
          go_wp2_with fail
          refine (times_any _ _ _ _ _ (hx1.below hb4) hx2 rfl rfl).mono ?_
          rintro e w5 ⟨vp, lp, rfl, hp, hlp, hvp, hb5⟩
          rw [dg_val, dg_val] at hvp
          have HP := Lib.hid hp
          have HLP := Lib.hid hlp
          have HVP := Lib.hid hvp
          have HB5 := Lib.hid (below_then hb3 (below_then hb4 hb5))
          clear hx1 hx2 hp hlp hvp hb3 hb4 hb5
          go_wp2_with fail
          refine (digits_pos z _ hz).mono ?_
          rintro e w6 ⟨vb, rfl, hvb, hb6⟩
          have HVB := Lib.hid hvb
          have HB6 := Lib.hid hb6
          clear hvb hb6
          go_wp2_with fail
          refine (digits_pos 9223372036854775807 _ (by omega)).mono ?_
          rintro e w7 ⟨v3, rfl, hx3, hb7⟩
          go_wp2_with fail
          refine (times_any _ _ _ _ _ (HVB.out.below hb7) hx3 rfl rfl).mono ?_
          rintro e w8 ⟨vt, lt, rfl, ht, hlt, hvt, hb8⟩
          rw [dg_val, dg_val] at hvt
          have HT := Lib.hid ht
          have HLT := Lib.hid hlt
          have HVT := Lib.hid hvt
          have HB8 := Lib.hid (below_then hb7 hb8)
          clear hx3 ht hlt hvt hb7 hb8
          go_wp2_with fail
          refine (cmp_any _ _ _ _ _ ((HP.out.below HB6.out).below HB8.out) HT.out (by rw [HLP.out]; omega) (by rw [HLT.out]; omega)).mono ?_
          rintro e w9 ⟨rfl, rfl⟩
          rw [HVP.out, HVT.out]
          have c0 : decide (0 < cmpI (x * y) (z * 9223372036854775807)) = false := by
            rw [decide_eq_false_iff_not]
            have := (cmpI_le (a := x * y) (b := z * 9223372036854775807)).2 HLE.out
            omega
          generalize cmpI (x * y) (z * 9223372036854775807) = r0 at *
          go_wp2_with fail
          refine (digits_pos k _ (by omega)).mono ?_
          rintro e w10 ⟨v4, rfl, hx4, hb10⟩
          go_wp2_with fail
          refine (times_any _ _ _ _ _ ((HVB.out.below HB8.out).below hb10) hx4 rfl rfl).mono ?_
          rintro e w11 ⟨v5, l5, rfl, hx5, hl5, hv5, hb11⟩
          rw [dg_val, dg_val] at hv5
          have HX5 := Lib.hid hx5
          have HL5 := Lib.hid hl5
          have HV5 := Lib.hid hv5
          have HB11 := Lib.hid (below_then hb10 hb11)
          clear hx4 hx5 hl5 hv5 hb10 hb11
          go_wp2_with fail
          refine (cmp_any _ _ _ _ _ HX5.out (((HP.out.below HB6.out).below HB8.out).below HB11.out) (by rw [HL5.out]; omega) (by rw [HLP.out]; omega)).mono ?_
          rintro e w12 ⟨rfl, rfl⟩
          rw [HVP.out, HV5.out]
          have c1 : decide (cmpI (z * k) (x * y) < 0) = false := by
            rw [decide_eq_false_iff_not]
            have := (cmpI_le (a := x * y) (b := z * k)).2 HK1.out
            rw [← cmpI_neg] at this
            omega
          generalize cmpI (z * k) (x * y) = r1 at *
          have hk3 : ((k : Int) == 0) = true ∨ (((k : Int) == 0) = false ∧ 1 ≤ k ∧ z * (k - 1) < x * y) := by
            rcases HK2.out with h | h
            · left; rw [h]; rfl
            · by_cases h0 : k = 0
              · left; rw [h0]; rfl
              · right; exact ⟨by rw [beq_eq_false_iff_ne]; omega, by omega, h⟩
          rcases hk3 with hk3 | ⟨hk3, hk4, hk5⟩
          · go_wp2_with fail
            refine (awake_any _).mono ?_
            rintro e w13 ⟨rfl, hb13⟩
            go_wp2_with fail
            go_ret
            exact ⟨rfl, below_then HBD.out (below_then HB5.out (below_then HB6.out (below_then HB8.out (below_then HB11.out hb13))))⟩
          · have HK5 := Lib.hid hk5
            clear hk5
            obtain ⟨j, rfl⟩ : ∃ j, k = j + 1 := ⟨k - 1, by omega⟩
            have hkj : ((j + 1 : Nat) : Int) - 1 = (j : Int) := by omega
            go_wp2_with fail
            refine (digits_pos j _ (by omega)).mono ?_
            rintro e w13 ⟨v6, rfl, hx6, hb13⟩
            go_wp2_with fail
            refine (times_any _ _ _ _ _ (((HVB.out.below HB8.out).below HB11.out).below hb13) hx6 rfl rfl).mono ?_
            rintro e w14 ⟨v7, l7, rfl, hx7, hl7, hv7, hb14⟩
            rw [dg_val, dg_val] at hv7
            have HX7 := Lib.hid hx7
            have HL7 := Lib.hid hl7
            have HV7 := Lib.hid hv7
            have HB14 := Lib.hid (below_then hb13 hb14)
            clear hx6 hx7 hl7 hv7 hb13 hb14
            go_wp2_with fail
            refine (cmp_any _ _ _ _ _ HX7.out ((((HP.out.below HB6.out).below HB8.out).below HB11.out).below HB14.out) (by rw [HL7.out]; omega) (by rw [HLP.out]; omega)).mono ?_
            rintro e w15 ⟨rfl, rfl⟩
            rw [HVP.out, HV7.out]
            have c2 : decide (cmpI (z * j) (x * y) < 0) = true := by
              rw [decide_eq_true_eq, cmpI_lt (show z * j < x * y from HK5.out)]
              decide
            generalize cmpI (z * j) (x * y) = r2 at *
            go_wp2_with fail
            refine (awake_any _).mono ?_
            rintro e w16 ⟨rfl, hb16⟩
            go_wp2_with fail
            go_ret
            exact ⟨rfl, below_then HBD.out (below_then HB5.out (below_then HB6.out (below_then HB8.out (below_then HB11.out (below_then HB14.out hb16)))))⟩
      · have C1 := Lib.hid (fun w => least_bad a b c w (by unfold Good3 at hg; omega))
        rcases bad3_cases hg with g1 | ⟨g1, g2⟩ | ⟨g1, g2, g3⟩
        all_goals
          clear hg
          go_wp2_with fail
          refine (C1.out _).mono ?_
          rintro e w2 ⟨rfl, q, rfl⟩
          go_wp2_with fail
          refine (awake_any _).mono ?_
          rintro e w3 ⟨rfl, hb3⟩
          go_wp2_with fail
          go_ret
          exact ⟨rfl, below_then (below_drewN HBC.out _) hb3⟩

theorem cells_int : Try.prog.cellsOf 3 = 1 := by kernel_rfl
theorem cells_four : Try.prog.cellsOf 35 = 4 := by kernel_rfl
open Go.ChangeShapes Go.WideShapes in
/-- The statement's frame hands over four integers by value. -/
theorem fractions_open {H : Type} {enc : TypeId × Value → H} {d0 : DataW H} {p0 : List MemPlace} (W : World) (base : Nat) (v0 : Value) (hv : Value.okWide Try.prog W .any base 35 v0)
    (h : DataW.Trod enc Try.prog W 0 (fun _ => true) true 35 v0 d0 p0) : Calls Try.prog 5 #[v0] W (TrueIs W) := by
  obtain ⟨cs, rfl, hsz, _⟩ : ∃ cs, v0 = .agg cs ∧ cs.size = Try.prog.cellsOf 35 ∧ Row.okWide Try.prog W .any base 35 cs := by
    simpa [Value.okWide, Try.underlying35] using hv
  rw [cells_four] at hsz
  obtain ⟨l⟩ := cs
  match l, hsz with
  | [c0, c1, c2, c3], _ =>
    obtain ⟨fuel, hf⟩ := h
    obtain ⟨xs, m, _, _, _, hl, hel⟩ := DataW.trod_array Try.underlying35 hf
    have e0 := hel 0 (by omega)
    have e1 := hel 1 (by omega)
    have e2 := hel 2 (by omega)
    have e3 := hel 3 (by omega)
    match xs, hl with
    | [y0, y1, y2, y3], _ =>
      rw [cells_int] at e0 e1 e2 e3
      obtain ⟨x0, f0, _, w0⟩ := DataW.trod_int Try.underlying3 e0
      obtain ⟨x1, f1, _, w1⟩ := DataW.trod_int Try.underlying3 e1
      obtain ⟨x2, f2, _, w2⟩ := DataW.trod_int Try.underlying3 e2
      obtain ⟨x3, f3, _, w3⟩ := DataW.trod_int Try.underlying3 e3
      simp [Value.cells] at f0 f1 f2 f3
      subst f0 f1 f2 f3
      exact fractions_any x0 x1 x2 x3 W (fit_of w0) (fit_of w1) (fit_of w2) (fit_of w3)
end Go.Proofs.Ytedpkphbpkkhbaa.SatWalk
