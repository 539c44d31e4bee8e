/-
  The walks of the statements of layer 12: SubsetBest.
-/
import Derived.Test.YtlbgncjikfdkoaaSubLawA
namespace Go.Proofs.Ytlbgncjikfdkoaa.SubWalk
open Go.RowKit Go.Proofs.Ytlbgncjikfdkoaa.SubPlain Go.Proofs.Ytlbgncjikfdkoaa.Mem Go.Proofs.Ytlbgncjikfdkoaa.SubRef
theorem len_ways (ws : List Int) : (decide ((11 : Int) < (ws.length : Int)) = true ∧ decide ((ws.length : Int) ≤ 64) = true) ∨ (decide ((11 : Int) < (ws.length : Int)) = true ∧ decide ((ws.length : Int) ≤ 64) = false ∧ decide ((80 : Int) < (ws.length : Int)) = true) ∨
    (decide ((11 : Int) < (ws.length : Int)) = true ∧ decide ((ws.length : Int) ≤ 64) = false ∧ decide ((80 : Int) < (ws.length : Int)) = false ∧ 64 < ws.length ∧ ws.length ≤ 80) ∨
    (decide ((11 : Int) < (ws.length : Int)) = false ∧ decide ((80 : Int) < (ws.length : Int)) = false ∧ ws.length ≤ 11) := by
  by_cases h1 : ws.length ≤ 11
  · exact .inr (.inr (.inr ⟨decide_eq_false (by omega), decide_eq_false (by omega), h1⟩))
  · by_cases h2 : ws.length ≤ 64
    · exact .inl ⟨decide_eq_true (by omega), decide_eq_true (by omega)⟩
    · by_cases h3 : ws.length ≤ 80
      · exact .inr (.inr (.inl ⟨decide_eq_true (by omega), decide_eq_false (by omega), decide_eq_false (by omega), by omega, h3⟩))
      · exact .inr (.inl ⟨decide_eq_true (by omega), decide_eq_false (by omega), decide_eq_true (by omega)⟩)
theorem bad_l {ws : List Int} {room : Int} (h : bad ws room = true) : bestL ws room = [] ∧ bestN ws room = 0 ∧ badE ws room = 1 ∧ reachN ws room = 0 := by
  unfold bestL bestN badE reachN
  rw [if_pos h, if_pos h, if_pos h, if_pos h]
  exact ⟨rfl, rfl, rfl, rfl⟩
theorem good_l {ws : List Int} {room : Int} (h : bad ws room = false) : bestL ws room = placesB ws.length (bestB ws room) ∧ bestN ws room = tot ws (bestB ws room) ∧ badE ws room = 0 ∧ reachN ws room = (room + 1).toNat := by
  unfold bestL bestN badE reachN
  rw [if_neg (by rw [h]; decide), if_neg (by rw [h]; decide), if_neg (by rw [h]; decide), if_neg (by rw [h]; decide)]
  exact ⟨rfl, rfl, rfl, rfl⟩
theorem may_all {ws : List Int} (h : mayW ws = true) : ws.all wideB = true ∧ ws.length ≤ 64 := by
  unfold mayW at h
  rw [Bool.and_eq_true, decide_eq_true_eq] at h
  exact h
theorem may_len {ws : List Int} (h : 64 < ws.length) : mayW ws = false := by
  cases hm : mayW ws
  · rfl
  · have := (may_all hm).2; omega
set_option maxRecDepth 100000 in
set_option maxHeartbeats 3200000 in
theorem best_any (ws : List Int) (room : Int) (v : Value) (w : World) (hv : IntsAt ws w v) (hf : IntsFit ws) (hr : -9223372036854775808 ≤ room ∧ room ≤ 9223372036854775807) : Calls Try.prog 3 #[v, .int .i64 room] w (TrueIs w) := by
  have HAW := Lib.hid (fun W => awake12 W)
  have CB := Lib.hid (fun h => bestS ws room v w hv hf h hr)
  have CM0 := Lib.hid (fun (h80 : ws.length ≤ 80) W (h : IntsAt ws W v) => may12 ws v W h (by omega))
  have CW := Lib.hid (fun W (h : IntsAt ws W v) h1 h2 => best12 ws room v W h h1 h2)
  have CT := Lib.hid (fun b W (h : IntsAt ws W v) h1 h2 h3 => total12 ws b v W h h1 h2 h3)
  have HV := Lib.hid hv
  have hlw := len_ways ws
  obtain ⟨A, c, rfl, hc, hA⟩ := hv
  clear hA hf hr
  unfold BestSays at CB
  rcases hlw with ⟨a1, a2⟩ | ⟨a1, a2, a3⟩ | ⟨a1, a2, a3, a4, a5⟩ | ⟨a1, a3, a5⟩
  iterate 2
    · go_enter Try.func3, Try.ntmps3
      go_wp2_with (go_at_call 5; refine (HAW.out _).mono ?_; rintro e w1 ⟨rfl, hb1⟩; have HB1 := Lib.hid hb1; clear hb1)
      go_ret
      exact ⟨rfl, HB1.out⟩
  · have hm := may_len a4
    have hbad : bad ws room = true := by unfold bad; rw [hm]; rfl
    obtain ⟨e1, e2, e3, _⟩ := bad_l hbad
    have CB1 := Lib.hid (CB.out a5)
    have CM := Lib.hid (CM0.out a5)
    clear CM0
    rw [e1, e2, e3] at CB1
    rw [hm] at CM
    clear CB CW CT e1 e2 e3 hbad hm a4 a5
    go_enter Try.func3, Try.ntmps3
    go_wp2_with fail
    refine CB1.out.mono ?_
    rintro e w1 ⟨u, rfl, ⟨A1, c1, rfl, _, _⟩, _, hb1⟩
    have CM1 := Lib.hid (CM.out w1 (HV.out.below hb1))
    have HB1 := Lib.hid hb1
    clear hb1 CB1
    go_wp2_with fail
    refine CM1.out.mono ?_
    rintro e w2 ⟨rfl, rfl⟩
    go_wp2_with fail
    refine (HAW.out _).mono ?_
    rintro e w3 ⟨rfl, hb3⟩
    have HB3 := Lib.hid (below_then HB1.out hb3)
    clear hb3
    go_wp2_with fail
    go_ret
    exact ⟨rfl, HB3.out⟩
  · have hbw := bad_ways ws room
    have CB1 := Lib.hid (CB.out (by omega))
    have CM := Lib.hid (CM0.out (by omega))
    clear CB CM0
    rcases hbw with ⟨m, hbad⟩ | ⟨m, b1, hbad⟩ | ⟨m, b1, b2, hbad⟩ | ⟨m, b1, b2, hbad⟩
    iterate 3
      · obtain ⟨e1, e2, e3, _⟩ := bad_l hbad
        rw [e1, e2, e3] at CB1
        rw [m] at CM
        clear CW CT e1 e2 e3 hbad m
        go_enter Try.func3, Try.ntmps3
        go_wp2_with fail
        refine CB1.out.mono ?_
        rintro e w1 ⟨u, rfl, ⟨A1, c1, rfl, _, _⟩, _, hb1⟩
        have CM1 := Lib.hid (CM.out w1 (HV.out.below hb1))
        have HB1 := Lib.hid hb1
        clear hb1 CB1
        go_wp2_with fail
        refine CM1.out.mono ?_
        rintro e w2 ⟨rfl, rfl⟩
        go_wp2_with fail
        refine (HAW.out _).mono ?_
        rintro e w3 ⟨rfl, hb3⟩
        have HB3 := Lib.hid (below_then HB1.out hb3)
        clear hb3
        go_wp2_with fail
        go_ret
        exact ⟨rfl, HB3.out⟩
    · obtain ⟨e1, e2, e3, _⟩ := good_l hbad
      obtain ⟨hall, _⟩ := may_all m
      rw [e1, e2, e3] at CB1
      rw [m] at CM
      have HALL := Lib.hid hall
      have hb62 : bestB ws room < 4611686018427387904 := by
        have h1 := bestTo_le ws room (2 ^ ws.length)
        have h2 : 2 ^ ws.length ≤ 2 ^ 11 := Nat.pow_le_pow_right (by decide) a5
        show bestTo ws room (2 ^ ws.length) < _
        omega
      have HLB := Lib.hid hb62
      have hpl : (placesB ws.length (bestB ws room)).length ≤ 100000 := by
        have := placesTo_len ws.length (bestB ws room) ws.length
        show (placesTo ws.length (bestB ws room) ws.length).length ≤ _
        omega
      have CP := Lib.hid (fun W => places12 ws.length (bestB ws room) W (by omega))
      have CS := Lib.hid (fun W a b (h1 : IntsAt (placesB ws.length (bestB ws room)) W a) (h2 : IntsAt (placesB ws.length (bestB ws room)) W b) => same1 _ a b W h1 h2 hpl)
      clear e1 e2 e3 hbad m hall hb62 hpl
      go_enter Try.func3, Try.ntmps3
      go_wp2_with fail
      refine CB1.out.mono ?_
      rintro e w1 ⟨u, rfl, hu, _, hb1⟩
      have CM1 := Lib.hid (CM.out w1 (HV.out.below hb1))
      have CW1 := Lib.hid (CW.out w1 (HV.out.below hb1) HALL.out (by omega))
      have CT1 := Lib.hid (CT.out (bestB ws room) w1 (HV.out.below hb1) HALL.out (by omega) HLB.out)
      have HB1 := Lib.hid hb1
      have HU := Lib.hid hu
      obtain ⟨A1, c1, rfl, _, hA1⟩ := hu
      have CP1 := Lib.hid (CP.out w1)
      clear hb1 hA1 CB1 CM CW CT CP
      generalize placesB ws.length (bestB ws room) = L at *
      generalize bestB ws room = M at *
      generalize tot ws M = T at *
      have eT : (T == T) = true := by simp
      go_wp2_with fail
      refine CM1.out.mono ?_
      rintro e w2 ⟨rfl, rfl⟩
      go_wp2_with fail
      refine CW1.out.mono ?_
      rintro e w2 ⟨rfl, rfl⟩
      go_wp2_with fail
      refine CT1.out.mono ?_
      rintro e w2 ⟨rfl, rfl⟩
      go_wp2_with fail
      refine CP1.out.mono ?_
      rintro e w2 ⟨u2, rfl, hu2, _, hb2⟩
      have HB2 := Lib.hid (below_then HB1.out hb2)
      have CS2 := Lib.hid (CS.out w2 _ _ (HU.out.below hb2) hu2)
      clear hu2 hb2 CS
      go_wp2_with fail
      refine CS2.out.mono ?_
      rintro e w3 ⟨rfl, n3, rfl⟩
      have HB3 := Lib.hid (below_drewN HB2.out n3)
      generalize w2.drewN n3 = w4 at *
      clear CS2
      go_wp2_with fail
      refine (HAW.out _).mono ?_
      rintro e w5 ⟨rfl, hb5⟩
      have HB5 := Lib.hid (below_then HB3.out hb5)
      clear hb5
      go_wp2_with fail
      go_ret
      exact ⟨rfl, HB5.out⟩
end Go.Proofs.Ytlbgncjikfdkoaa.SubWalk
