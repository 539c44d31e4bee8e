/-
  The walks of the statements of layer 6: GapsOk.
-/
import Derived.Test.YtalopnkdnlkdoaaGapLawB
import Derived.Deep.CutBlock
import Derived.Deep.DeepCutAuto
namespace Go.Proofs.Ytalopnkdnlkdoaa.GapWalk
open Go.RowKit Go.Proofs.Ytalopnkdnlkdoaa.SpanPlain Go.Proofs.Ytalopnkdnlkdoaa.StepPlain Go.Proofs.Ytalopnkdnlkdoaa.GapPlain Go.Proofs.Ytalopnkdnlkdoaa.Mem Go.Proofs.Ytalopnkdnlkdoaa.SpanMem Go.Proofs.Ytalopnkdnlkdoaa.StepMem Go.Proofs.Ytalopnkdnlkdoaa.SpanRef Go.Proofs.Ytalopnkdnlkdoaa.StepRef Go.Proofs.Ytalopnkdnlkdoaa.GapRef
def wideB (s : List Sp) (a n : Int) : Bool := mayG s 1 n && decide (head s ≤ a) && decide (a ≤ 1125899906842624)
theorem wide_ways (s : List Sp) (a n : Int) : (mayG s 1 n = false ∧ wideB s a n = false) ∨ (mayG s 1 n = true ∧ decide (head s ≤ a) = false ∧ wideB s a n = false) ∨ (mayG s 1 n = true ∧ decide (head s ≤ a) = true ∧ decide (a ≤ 1125899906842624) = false ∧ wideB s a n = false) ∨
    (mayG s 1 n = true ∧ decide (head s ≤ a) = true ∧ decide (a ≤ 1125899906842624) = true ∧ wideB s a n = true) := by
  unfold wideB
  cases mayG s 1 n <;> cases decide (head s ≤ a) <;> cases decide (a ≤ 1125899906842624) <;> simp
theorem wide_yes {s : List Sp} {a n m : Int} (h : WideIs s a n m) (hb : wideB s a n = true) : m = minTo s (a, a + n) s.length := by
  unfold wideB at hb
  simp only [Bool.and_eq_true, decide_eq_true_eq] at hb
  exact h.unique (wide_is hb.1.1 hb.1.2 hb.2)
theorem wide_no {s : List Sp} {a n m : Int} (h : WideIs s a n m) (hb : wideB s a n = false) : m = 0 := by
  rcases h with ⟨h1, h2, h3, _⟩ | ⟨_, h⟩
  · unfold wideB at hb
    rw [h1, decide_eq_true h2, decide_eq_true h3] at hb
    cases hb
  · exact h
theorem long_no {s : List Sp} {a m k : Int} (h : LongIs s a m k) (hm : mayG s m 1 = false) : k = 0 := by
  rcases h with ⟨h1, _⟩ | ⟨_, h⟩
  · rw [hm] at h1; cases h1
  · exact h
theorem long_ways (a m : Int) (x : Sp) : (decide (x.1 ≤ a) = false ∧ Hid (longStep a m x = m)) ∨ (decide (x.1 ≤ a) = true ∧ decide (a < x.2) = false ∧ Hid (longStep a m x = m)) ∨ (decide (x.1 ≤ a) = true ∧ decide (a < x.2) = true ∧ Hid (longStep a m x = x.2 - a)) := by
  unfold longStep
  by_cases h1 : x.1 ≤ a
  · by_cases h2 : a < x.2
    · exact .inr (.inr ⟨decide_eq_true h1, decide_eq_true h2, if_pos ⟨h1, h2⟩⟩)
    · exact .inr (.inl ⟨decide_eq_true h1, decide_eq_false h2, if_neg (fun h => h2 h.2)⟩)
  · exact .inl ⟨decide_eq_false h1, if_neg (fun h => h1 h.1)⟩
theorem cov_may {c : List Sp} (h : Cov c) {k : Nat} (hk : k < c.length) : May (nth c k) := by unfold nth; rw [getSp hk]; exact h.1 _ (List.getElem_mem hk)
set_option maxRecDepth 100000 in
set_option maxHeartbeats 6400000 in
theorem ok_any (s : List Sp) (a p n : Int) (v : Value) (w : World) (hv : SpansIs s w v) : Calls Try.prog 4 #[v, .int .i64 a, .agg #[.int .i64 p, .int .i64 n]] w (TrueIs w) := by
  obtain ⟨A, cap, rfl, hA⟩ := hv.open_
  have HV := Lib.hid hv
  have HA := Lib.hid hA
  clear hv hA
  have HAW := Lib.hid (fun w => awake_any w)
  have HB0 := Lib.hid (below_alloc w (.cells #[.int .i64 p, .int .i64 n] 23))
  have HX0 := Lib.hid (Box2.new w (.int .i64 p) (.int .i64 n) 23)
  by_cases h1 : s.length ≤ 100
  · have d1 : decide ((100 : Int) < (s.length : Int)) = false := by rw [decide_eq_false_iff_not]; omega
    have CO := Lib.hid (fun (w' : World) (hb : Below w.heap.size w w') => okS s a p n (.slice A s.length cap) w' (HV.out.below hb) (by omega))
    have CW := Lib.hid (fun (w' : World) (hb : Below w.heap.size w w') => wideS s a n (.slice A s.length cap) w' (HV.out.below hb) (by omega))
    have CL := Lib.hid (fun (w' : World) (hb : Below w.heap.size w w') => longS s a p (.slice A s.length cap) w' (HV.out.below hb) (by omega))
    have CM := Lib.hid (fun x y (w' : World) (hb : Below w.heap.size w w') => may6 s x y (.slice A s.length cap) w' (HV.out.below hb) (by omega))
    have hways : (mayG s p n = false ∧ okG s a p n = false) ∨ (mayG s p n = true ∧ roomB s a p n = okG s a p n) := by
      unfold okG
      cases mayG s p n with
      | false => exact .inl ⟨rfl, rfl⟩
      | true => exact .inr ⟨rfl, rfl⟩
    generalize okG s a p n = B at *
    have HWAY := Lib.hid hways
    clear hways
    cases B
    all_goals
      go_enter Try.func4, Try.ntmps4
      go_wp2_with fail
      refine (CO.out _ HB0.out).mono ?_
      rintro e w1 ⟨rfl, hb1⟩
      have HB1 := Lib.hid (below_then HB0.out hb1)
      obtain ⟨x0, x1, x2, _, _⟩ := HX0.out.below hb1
      have HX1 := Lib.hid (HX0.out.below hb1)
      clear hb1 CO HB0 HX0
      go_wp2_with fail
      refine (CW.out _ HB1.out).mono ?_
      rintro e w2 ⟨q, rfl, hw, hb2⟩
      have HW := Lib.hid hw
      have HB2 := Lib.hid (below_then HB1.out hb2)
      obtain ⟨y0, y1, y2, _, _⟩ := HX1.out.below hb2
      have HX2 := Lib.hid (HX1.out.below hb2)
      clear hb2 hw CW HB1 HX1 x0 x1 x2
      go_wp2_with fail
      refine (CL.out _ HB2.out).mono ?_
      rintro e w3 ⟨k, rfl, hlg, hb3⟩
      have HLG := Lib.hid hlg
      have HB3 := Lib.hid (below_then HB2.out hb3)
      obtain ⟨x0, x1, x2, _, _⟩ := HX2.out.below hb3
      have HX3 := Lib.hid (HX2.out.below hb3)
      clear hb3 hlg CL HB2 HX2 y0 y1 y2
      go_upto_region 6 with fail
      go_cut [51] (fun c wc => c = .bool false ∧ Below w3.heap.size w3 wc)
      case first =>
        rcases HWAY.out with ⟨hm, hb⟩ | ⟨hm, hb⟩
        · cases hb
          all_goals
            have CM1 := Lib.hid (CM.out p n w3 HB3.out)
            rw [hm] at CM1
            clear hm CM
            go_wp2_with fail
            refine CM1.out.mono ?_
            rintro e w4 ⟨rfl, hb4⟩
            have HB4 := Lib.hid hb4
            clear hb4
            go_wp2_with fail
            go_meet
            exact ⟨rfl, HB4.out⟩
        · obtain ⟨hc, _, hn1, hn2⟩ := mayG_iff.1 hm
          have CM1 := Lib.hid (CM.out p n w3 HB3.out)
          rw [hm] at CM1
          have CR := Lib.hid (fun (w' : World) (hb : Below w.heap.size w w') => ok6 s a p n (.slice A s.length cap) w' (HV.out.below hb) (by omega) hc hn1 hn2)
          rw [hb] at CR
          clear hm hb CM hc hn1 hn2
          go_wp2_with fail
          refine CM1.out.mono ?_
          rintro e w4 ⟨rfl, hb4⟩
          have HB4 := Lib.hid hb4
          obtain ⟨y0, y1, y2, _, _⟩ := HX3.out.below hb4
          clear hb4 x0 x1 x2
          go_wp2_with fail
          refine (CR.out _ (below_then HB3.out HB4.out)).mono ?_
          rintro e w5 ⟨rfl, hb5⟩
          have HB5 := Lib.hid (below_then HB4.out hb5)
          clear hb5
          go_wp2_with fail
          go_meet
          exact ⟨rfl, HB5.out⟩
      case rest =>
        obtain ⟨rfl, hbc⟩ := hcut
        have HB4 := Lib.hid (below_then HB3.out hbc)
        have HX4 := Lib.hid (HX3.out.below hbc)
        clear hbc HB3 HX3 x0 x1 x2 HWAY
        obtain ⟨w4, rfl⟩ : ∃ w4 : World, w4 = wc := ⟨_, rfl⟩
        go_upto_region 9 with fail
        obtain ⟨x0, x1, x2, _, _⟩ := HX4.out
        go_cut [67] (fun c wc => c = .bool (wideB s a n) ∧ Below w4.heap.size w4 wc)
        case first =>
          have CM1 := Lib.hid (CM.out 1 n w4 HB4.out)
          rcases wide_ways s a n with ⟨hm, hb⟩ | ⟨hm, g1, hb⟩ | ⟨hm, g1, g2, hb⟩ | ⟨hm, g1, g2, hb⟩
          · rw [hm] at CM1
            have HWB := Lib.hid hb
            clear hm hb CM
            go_wp2_with fail
            refine CM1.out.mono ?_
            rintro e w5 ⟨rfl, hb5⟩
            have HB5 := Lib.hid hb5
            clear hb5
            go_wp2_with fail
            go_meet
            exact ⟨by rw [HWB.out], HB5.out⟩
          all_goals
            rw [hm] at CM1
            obtain ⟨hc, _⟩ := mayG_iff.1 hm
            have hpos := hc.pos
            have hlz : (0 : Int) < (s.length : Int) := by omega
            have HWB := Lib.hid hb
            clear hm hb CM hc
            go_wp2_with fail
            refine CM1.out.mono ?_
            rintro e w5 ⟨rfl, hb5⟩
            obtain ⟨ad, rfl, had, c1, _⟩ := pair_zero (HA.out.below (below_then HB4.out hb5)) hpos
            have hh : (spCell s 0).1 = .int .i64 (head s) := rfl
            rw [hh] at c1
            have HB5 := Lib.hid hb5
            clear hb5 hh
            generalize head s = hd at *
            go_wp2_with fail
            go_meet
            exact ⟨by rw [HWB.out], HB5.out⟩
        case rest =>
          obtain ⟨rfl, hbc⟩ := hcut
          have HB5 := Lib.hid (below_then HB4.out hbc)
          have HX5 := Lib.hid (HX4.out.below hbc)
          clear hbc HB4 HX4 x0 x1 x2
          obtain ⟨w5, rfl⟩ : ∃ w5 : World, w5 = wc := ⟨_, rfl⟩
          obtain ⟨x0, x1, x2, _, _⟩ := HX5.out
          go_upto_if 67 with fail
          go_cut [10] (fun c wc => c = .int .i64 q ∧ Below w5.heap.size w5 wc)
          case first =>
            cases hwb : wideB s a n with
            | false =>
              obtain rfl := wide_no HW.out hwb
              go_wp2_with fail
              go_meet
              exact ⟨rfl, Below.refl _ _⟩
            | true =>
              obtain rfl := wide_yes HW.out hwb
              unfold wideB at hwb
              simp only [Bool.and_eq_true, decide_eq_true_eq] at hwb
              obtain ⟨⟨hm, a1⟩, a2⟩ := hwb
              obtain ⟨hc, _, n1, n2⟩ := mayG_iff.1 hm
              have hlo := hc.lo
              have CI := Lib.hid (min4 s (a, a + n) (.slice A s.length cap) w5 (HV.out.below HB5.out) (by omega))
              unfold spV at CI
              dsimp only at CI
              clear hm hc HW
              generalize minTo s (a, a + n) s.length = q at *
              generalize head s = hd at *
              go_wp2_with fail
              refine CI.out.mono ?_
              rintro e w6 ⟨rfl, hb6⟩
              have HB6 := Lib.hid hb6
              clear hb6
              go_wp2_with fail
              go_meet
              exact ⟨rfl, HB6.out⟩
          case rest =>
            obtain ⟨rfl, hbc⟩ := hcut
            have HB6 := Lib.hid (below_then HB5.out hbc)
            have HX6 := Lib.hid (HX5.out.below hbc)
            clear hbc HB5 HX5 x0 x1 x2 HW
            obtain ⟨w6, rfl⟩ : ∃ w6 : World, w6 = wc := ⟨_, rfl⟩
            obtain ⟨x0, x1, x2, _, _⟩ := HX6.out
            have hqq : (q != q) = false := by simp
            have CM2 := Lib.hid (CM.out p 1 w6 HB6.out)
            cases hm : mayG s p 1 with
            | false =>
              obtain rfl := long_no HLG.out hm
              rw [hm] at CM2
              clear hm CM
              go_wp2_with fail
              refine CM2.out.mono ?_
              rintro e w7 ⟨rfl, hb7⟩
              have HB7 := Lib.hid (below_then HB6.out hb7)
              clear hb7
              go_wp2_with fail
              refine (HAW.out _).mono ?_
              rintro e w8 ⟨rfl, hb8⟩
              have HB8 := Lib.hid (below_then HB7.out hb8)
              clear hb8
              go_wp2_with fail
              go_ret
              exact ⟨rfl, HB8.out⟩
            | true =>
              obtain ⟨hc, _⟩ := mayG_iff.1 hm
              have CR := Lib.hid (fun (w' : World) (hb : Below w.heap.size w w') => all6 s p (.slice A s.length cap) w' (HV.out.below hb) (by omega) hc)
              have HLK := Lib.hid (fun c (h : AllIs s p c) => HLG.out.unique (long_is (a := a) hm h))
              rw [hm] at CM2
              clear hm CM hc
              go_wp2_with fail
              refine CM2.out.mono ?_
              rintro e w7 ⟨rfl, hb7⟩
              have HB7 := Lib.hid (below_then HB6.out hb7)
              obtain ⟨y0, y1, y2, _, _⟩ := HX6.out.below hb7
              clear hb7 CM2 x0 x1 x2
              go_wp2_with fail
              refine (CR.out _ HB7.out).mono ?_
              rintro e w8 ⟨v8, c8, rfl, hs8, ha8, hn8, hb8⟩
              obtain rfl := HLK.out c8 ha8
              have HB8 := Lib.hid (below_then HB7.out hb8)
              obtain ⟨A8, k8, rfl, hA8⟩ := hs8.open_
              have HA8 := Lib.hid hA8
              have HCV := Lib.hid ha8.1
              clear hb8 hs8 ha8 hA8 CR HLK HLG y0 y1 y2
              go_wp2_with fail
              go_loop [11, 13] (fun o i => ∃ j : Nat, o = .int .i64 (longTo c8 a j) ∧ i = .int .i64 j ∧ j ≤ c8.length) (fun _ i => c8.length - (intOf i).toNat)
              case atStart => exact ⟨0, rfl, rfl, Nat.zero_le _⟩
              case round =>
                obtain ⟨j, rfl, rfl, hj⟩ := hrel
                by_cases hlt : j < c8.length
                · obtain ⟨ad, rfl, had, c1, c2⟩ := HA8.out j hlt
                  have e1 : (spCell c8 j).1 = .int .i64 (nth c8 j).1 := rfl
                  have e2 : (spCell c8 j).2 = .int .i64 (nth c8 j).2 := rfl
                  rw [e1] at c1
                  rw [e2] at c2
                  obtain ⟨m0, m1, m2⟩ := cov_may HCV.out hlt
                  have hways := long_ways a (longTo c8 a j) (nth c8 j)
                  have HNX := Lib.hid (long_next (a := a) hlt)
                  have i0 : (0 : Int) ≤ (j : Int) := Int.natCast_nonneg _
                  have i1 : (j : Int) < (c8.length : Int) := by omega
                  clear e1 e2
                  generalize longTo c8 a c8.length = Z at *
                  generalize longTo c8 a j = m at *
                  generalize nth c8 j = y at *
                  rcases hways with ⟨g1, HX⟩ | ⟨g1, g2, HX⟩ | ⟨g1, g2, HX⟩
                  · go_wp2_with fail
                    exact ⟨⟨j + 1, by rw [HNX.out, HX.out], by go_num, by omega⟩, by simp [intOf] <;> omega⟩
                  · go_wp2_with fail
                    exact ⟨⟨j + 1, by rw [HNX.out, HX.out], by go_num, by omega⟩, by simp [intOf] <;> omega⟩
                  · have g3 := of_decide_eq_true g1
                    have g4 := of_decide_eq_true g2
                    go_wp2_with fail
                    exact ⟨⟨j + 1, by rw [HNX.out, HX.out], by go_num, by omega⟩, by simp [intOf] <;> omega⟩
                · obtain rfl : j = c8.length := by omega
                  have hzz : (longTo c8 a c8.length == longTo c8 a c8.length) = true := by simp
                  generalize longTo c8 a c8.length = Z at *
                  go_wp2_with fail
                  refine (HAW.out _).mono ?_
                  rintro e w9 ⟨rfl, hb9⟩
                  have HB9 := Lib.hid (below_then HB8.out hb9)
                  clear hb9
                  go_wp2_with fail
                  go_ret
                  exact ⟨rfl, HB9.out⟩
  · have d1 : decide ((100 : Int) < (s.length : Int)) = true := by rw [decide_eq_true_eq]; omega
    go_enter Try.func4, Try.ntmps4
    go_wp2_with fail
    refine (HAW.out _).mono ?_
    rintro e w9 ⟨rfl, hb9⟩
    have HB9 := Lib.hid (below_then HB0.out hb9)
    clear hb9
    go_wp2_with fail
    go_ret
    exact ⟨rfl, HB9.out⟩
end Go.Proofs.Ytalopnkdnlkdoaa.GapWalk
