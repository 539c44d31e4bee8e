/-
  The walks of the statements of layer 13: TwinBest.
-/
import Derived.Test.YtnojminhbakfaaaTwnLawA
namespace Go.Proofs.Ytnojminhbakfaaa.TwnWalk
open Go.RowKit Go.Proofs.Ytnojminhbakfaaa.SubPlain Go.Proofs.Ytnojminhbakfaaa.ApiPlain Go.Proofs.Ytnojminhbakfaaa.TwnPlain Go.Proofs.Ytnojminhbakfaaa.Mem Go.Proofs.Ytnojminhbakfaaa.ApiMem Go.Proofs.Ytnojminhbakfaaa.SubRef Go.Proofs.Ytnojminhbakfaaa.TwnRef Go.Proofs.Ytnojminhbakfaaa.SubWalk
theorem lenT_ways (l : List Itm) : (decide ((10 : Int) < (l.length : Int)) = true ∧ decide ((l.length : Int) ≤ 32) = true) ∨ (decide ((10 : Int) < (l.length : Int)) = true ∧ decide ((l.length : Int) ≤ 32) = false ∧ decide ((50 : Int) < (l.length : Int)) = true) ∨
    (decide ((10 : Int) < (l.length : Int)) = true ∧ decide ((l.length : Int) ≤ 32) = false ∧ decide ((50 : Int) < (l.length : Int)) = false ∧ 32 < l.length ∧ l.length ≤ 50) ∨
    (decide ((10 : Int) < (l.length : Int)) = false ∧ decide ((50 : Int) < (l.length : Int)) = false ∧ l.length ≤ 10) := by
  by_cases h1 : l.length ≤ 10
  · exact .inr (.inr (.inr ⟨decide_eq_false (by omega), decide_eq_false (by omega), h1⟩))
  · by_cases h2 : l.length ≤ 32
    · exact .inl ⟨decide_eq_true (by omega), decide_eq_true (by omega)⟩
    · by_cases h3 : l.length ≤ 50
      · exact .inr (.inr (.inl ⟨decide_eq_true (by omega), decide_eq_false (by omega), decide_eq_false (by omega), by omega, h3⟩))
      · exact .inr (.inl ⟨decide_eq_true (by omega), decide_eq_false (by omega), decide_eq_true (by omega)⟩)
set_option maxRecDepth 100000 in
set_option maxHeartbeats 6400000 in
theorem bestT_any (l : List Itm) (room long : Int) (v : Value) (w : World) (hv : ItmsAt l w v) (hf : ItmsFit l) (hr : -9223372036854775808 ≤ room ∧ room ≤ 9223372036854775807) (hg : -9223372036854775808 ≤ long ∧ long ≤ 9223372036854775807) : Calls Try.prog 3 #[v, .int .i64 room, .int .i64 long] w (TrueIs w) := by
  have HAW := Lib.hid (fun W => awake13 W)
  have CB := Lib.hid (fun h => bestTS l room long v w hv hf h hr hg)
  have CM0 := Lib.hid (fun (h50 : l.length ≤ 50) W (h : ItmsAt l W v) => may13 l v W h (by omega))
  have CW := Lib.hid (fun W (h : ItmsAt l W v) h1 h2 => best13 l room long v W h h1 h2)
  have CT := Lib.hid (fun b W (h : ItmsAt l W v) h1 h2 h3 => sums13 l b v W h h1 h2 h3)
  have HV := Lib.hid hv
  have hlw := lenT_ways l
  obtain ⟨A, c, rfl, hc, hA⟩ := hv
  clear hA hf hr hg
  unfold TBestSays at CB
  rcases hlw with ⟨a1, a2⟩ | ⟨a1, a2, a3⟩ | ⟨a1, a2, a3, a4, a5⟩ | ⟨a1, a3, a5⟩
  iterate 2
    · go_enter Try.func3, Try.ntmps3
      go_wp2_with fail
      refine (HAW.out _).mono ?_
      rintro e w1 ⟨rfl, hb1⟩
      have HB1 := Lib.hid hb1
      clear hb1
      go_wp2_with fail
      go_ret
      exact ⟨rfl, HB1.out⟩
  · have hm := may_lenT a4
    have hbad : badT l room long = true := by unfold badT; rw [hm]; rfl
    obtain ⟨e1, e2, e3⟩ := badT_l hbad
    have CB1 := Lib.hid (CB.out a5)
    have CM := Lib.hid (CM0.out a5)
    rw [e1, e2, e3] at CB1
    rw [hm] at CM
    clear CB CM0 CW CT e1 e2 e3 hbad hm a4 a5
    go_enter Try.func3, Try.ntmps3
    go_wp2_with fail
    refine CB1.out.mono ?_
    rintro e w1 ⟨u, rfl, ⟨A1, c1, rfl, _, _⟩, _, hb1⟩
    have CM1 := Lib.hid (CM.out w1 (HV.out.below hb1))
    have HB1 := Lib.hid hb1
    clear hb1 CB1
    go_wp2_with fail
    refine CM1.out.mono ?_
    rintro e w2 ⟨rfl, rfl⟩
    go_wp2_with fail
    refine (HAW.out _).mono ?_
    rintro e w3 ⟨rfl, hb3⟩
    have HB3 := Lib.hid (below_then HB1.out hb3)
    clear hb3
    go_wp2_with fail
    go_ret
    exact ⟨rfl, HB3.out⟩
  · have hbw := badT_ways l room long
    have CB1 := Lib.hid (CB.out (by omega))
    have CM := Lib.hid (CM0.out (by omega))
    clear CB CM0
    rcases hbw with ⟨m, hbad⟩ | ⟨m, b1, hbad⟩ | ⟨m, b1, b2, hbad⟩ | ⟨m, b1, b2, b3, hbad⟩ | ⟨m, b1, b2, b3, b4, hbad⟩ | ⟨m, b1, b2, b3, b4, hbad⟩
    iterate 5
      · obtain ⟨e1, e2, e3⟩ := badT_l hbad
        rw [e1, e2, e3] at CB1
        rw [m] at CM
        clear CW CT e1 e2 e3 hbad m
        go_enter Try.func3, Try.ntmps3
        go_wp2_with fail
        refine CB1.out.mono ?_
        rintro e w1 ⟨u, rfl, ⟨A1, c1, rfl, _, _⟩, _, hb1⟩
        have CM1 := Lib.hid (CM.out w1 (HV.out.below hb1))
        have HB1 := Lib.hid hb1
        clear hb1 CB1
        go_wp2_with fail
        refine CM1.out.mono ?_
        rintro e w2 ⟨rfl, rfl⟩
        go_wp2_with fail
        refine (HAW.out _).mono ?_
        rintro e w3 ⟨rfl, hb3⟩
        have HB3 := Lib.hid (below_then HB1.out hb3)
        clear hb3
        go_wp2_with fail
        go_ret
        exact ⟨rfl, HB3.out⟩
    · obtain ⟨e1, e2, e3⟩ := goodT_l hbad
      obtain ⟨hall, _⟩ := mayT_all m
      rw [e1, e2, e3] at CB1
      rw [m] at CM
      have HALL := Lib.hid hall
      have hb62 : bestI l room long < 4611686018427387904 := by
        have h1 := bestT_le l room long (2 ^ l.length)
        have h2 : 2 ^ l.length ≤ 2 ^ 11 := Nat.pow_le_pow_right (by decide) (by omega)
        show bestT l room long (2 ^ l.length) < _
        omega
      have HLB := Lib.hid hb62
      have hpl : (placesB l.length (bestI l room long)).length ≤ 100000 := by
        have := placesTo_len l.length (bestI l room long) l.length
        show (placesTo l.length (bestI l room long) l.length).length ≤ _
        omega
      have CP := Lib.hid (fun W => places12 l.length (bestI l room long) W (by omega))
      have CS := Lib.hid (fun W a b (h1 : IntsAt (placesB l.length (bestI l room long)) W a) (h2 : IntsAt (placesB l.length (bestI l room long)) W b) => same1 _ a b W h1 h2 hpl)
      clear e1 e2 e3 hbad m hall hb62 hpl
      go_enter Try.func3, Try.ntmps3
      go_wp2_with fail
      refine CB1.out.mono ?_
      rintro e w1 ⟨u, rfl, hu, _, hb1⟩
      have CM1 := Lib.hid (CM.out w1 (HV.out.below hb1))
      have CW1 := Lib.hid (CW.out w1 (HV.out.below hb1) HALL.out (by omega))
      have CT1 := Lib.hid (CT.out (bestI l room long) w1 (HV.out.below hb1) HALL.out (by omega) HLB.out)
      have HB1 := Lib.hid hb1
      have HU := Lib.hid hu
      obtain ⟨A1, c1, rfl, _, hA1⟩ := hu
      have CP1 := Lib.hid (CP.out w1)
      clear hb1 hA1 CB1 CM CW CT CP
      generalize placesB l.length (bestI l room long) = L at *
      generalize bestI l room long = M at *
      generalize tot (wsOf l) M = T at *
      have eT : (T == T) = true := by simp
      go_wp2_with fail
      refine CM1.out.mono ?_
      rintro e w2 ⟨rfl, rfl⟩
      go_wp2_with fail
      refine CW1.out.mono ?_
      rintro e w2 ⟨rfl, rfl⟩
      go_wp2_with fail
      refine CT1.out.mono ?_
      rintro e w2 ⟨rfl, rfl⟩
      go_wp2_with fail
      refine CP1.out.mono ?_
      rintro e w2 ⟨u2, rfl, hu2, _, hb2⟩
      have HB2 := Lib.hid (below_then HB1.out hb2)
      have CS2 := Lib.hid (CS.out w2 _ _ (HU.out.below hb2) hu2)
      clear hu2 hb2 CS
      go_wp2_with fail
      refine CS2.out.mono ?_
      rintro e w3 ⟨rfl, n3, rfl⟩
      have HB3 := Lib.hid (below_drewN HB2.out n3)
      generalize w2.drewN n3 = w4 at *
      clear CS2
      go_wp2_with fail
      refine (HAW.out _).mono ?_
      rintro e w5 ⟨rfl, hb5⟩
      have HB5 := Lib.hid (below_then HB3.out hb5)
      clear hb5
      go_wp2_with fail
      go_ret
      exact ⟨rfl, HB5.out⟩
end Go.Proofs.Ytnojminhbakfaaa.TwnWalk
