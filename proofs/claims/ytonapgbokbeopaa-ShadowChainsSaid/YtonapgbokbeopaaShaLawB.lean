/-
  The walk of the statements of layer 15: ShadowOf.
-/
import Derived.Test.YtonapgbokbeopaaShaLawA
import Derived.Test.YtonapgbokbeopaaStepRef0
import Derived.Deep.QuietTactic
import Derived.BigQuiet
namespace Go.Proofs.Ytonapgbokbeopaa.ShaWalk
open Go.RowKit Go.Proofs.Ytonapgbokbeopaa.SpanPlain Go.Proofs.Ytonapgbokbeopaa.StepPlain Go.Proofs.Ytonapgbokbeopaa.GapPlain Go.Proofs.Ytonapgbokbeopaa.JobPlain Go.Proofs.Ytonapgbokbeopaa.ShaPlain Go.Proofs.Ytonapgbokbeopaa.Mem Go.Proofs.Ytonapgbokbeopaa.SpanMem Go.Proofs.Ytonapgbokbeopaa.StepMem Go.Proofs.Ytonapgbokbeopaa.JobMem Go.Proofs.Ytonapgbokbeopaa.OrdMem Go.Proofs.Ytonapgbokbeopaa.SpanRef Go.Proofs.Ytonapgbokbeopaa.StepRef Go.Proofs.Ytonapgbokbeopaa.GapRef Go.Proofs.Ytonapgbokbeopaa.ShaRef
theorem drew_s {w w1 : World} (h : Below w.heap.size w w1) (q : Nat) : Below w.heap.size w (w1.drewN q) := below_drewN h q
theorem chk_may {s : List Sp} {a n : Int} (h : chkB s = false) : mayG s a n = false := by unfold mayG; rw [h]; rfl
/-- What Of tells, beside what the document's answer tells. -/
theorem sh_ways {s : List Sp} {now : Int} {j : Jb} {a p : Int} {b : Bool} (h : ShIs s now j a p b) : (b = false ∧ fitN s now j = -1 ∧ a = 0 ∧ p = 0) ∨ (b = true ∧ chkB s = true ∧ fitN s now j = a ∧ 0 ≤ a ∧ p = val s a - j.width ∧ -9223372036854775808 ≤ p ∧ p ≤ 9223372036854775807) := by
  obtain ⟨h1, h2⟩ := h
  rcases fitN_cases s now j with ⟨e1, f1⟩ | ⟨c, e1, f1⟩
  · obtain ⟨rfl, rfl⟩ := h1.unique f1
    exact .inl ⟨rfl, e1, rfl, h2⟩
  · obtain ⟨rfl, rfl⟩ := h1.unique f1
    obtain ⟨hc, hww, _⟩ := room_may (fit_ok f1)
    have hv := val_range hc c
    rw [if_pos rfl] at h2
    exact .inr ⟨rfl, (chk_iff s).2 hc, e1, by omega, h2, by omega, by omega⟩
theorem fit_chk {s : List Sp} {now : Int} {j : Jb} (h : chkB s = false) : fitN s now j = -1 := by unfold fitN; rw [chk_may h]; rfl
theorem okg_chk {s : List Sp} {a m n : Int} (h : chkB s = false) : okG s a m n = false := by unfold okG; rw [chk_may h]; rfl
theorem spans_none {w : World} {v : Value} (h : SpansIs [] w v) : ∃ A c, v = .slice A 0 c := by
  rcases h with ⟨h, _⟩ | ⟨a, c, h, _⟩
  · exact ⟨none, 0, h⟩
  · exact ⟨_, c, h⟩
set_option maxRecDepth 100000 in
set_option maxHeartbeats 1200000 in
theorem of_any (s : List Sp) (now t : Int) (j : Jb) (v : Value) (w : World) (hv : SpansIs s w v) : Calls Try.prog 3 #[v, .agg #[.int .i64 now, .int .i64 t], jobV j] w (TrueIs w) := by
  have HV := Lib.hid hv
  obtain ⟨A, cap, rfl, _⟩ := hv.open_
  clear hv
  have HAW := Lib.hid (fun w => awake_any w)
  have HX0 := JobBox.new (w.alloc (.cells #[.int .i64 now, .int .i64 t] 23)) j 25
  rw [show (w.alloc (.cells #[.int .i64 now, .int .i64 t] 23)).heap.size = w.heap.size + 1 by simp] at HX0
  have HX := Lib.hid HX0
  clear HX0
  have HQ := Lib.hid ((Box2.new w (.int .i64 now) (.int .i64 t) 23).alloc (.cells #[.int .i64 j.id, .string j.user, .int .i64 j.width, .int .i64 j.est, .int .i64 j.prio, .int .i64 j.sub, .int .i64 j.state, .int .i64 j.start, .int .i64 j.fin] 25))
  have HB := Lib.hid ((box_s w (.cells #[.int .i64 now, .int .i64 t] 23)).alloc (by simp) (.cells #[.int .i64 j.id, .string j.user, .int .i64 j.width, .int .i64 j.est, .int .i64 j.prio, .int .i64 j.sub, .int .i64 j.state, .int .i64 j.start, .int .i64 j.fin] 25))
  by_cases h1 : s.length ≤ 100
  · have d1 : decide ((100 : Int) < (s.length : Int)) = false := by rw [decide_eq_false_iff_not]; omega
    have CO : Hid (∀ W, Below w.heap.size w W → Calls Try.prog 7 #[.slice A s.length cap, .int .i64 now, jobV j] W (ShSays s now j W)) := fun W hW => ofShS s now j _ W (HV.out.below hW) (by omega)
    have CK : Hid (∀ W, Below w.heap.size w W → Calls Try.prog 8 #[.slice A s.length cap] W (BoolD (chkB s) W)) := fun W hW => check4 s _ W (HV.out.below hW) (by omega)
    have CF : Hid (∀ W, Below w.heap.size w W → Calls Try.prog 9 #[.slice A s.length cap, .int .i64 now, jobV j] W (IntS (fitN s now j) W)) := fun W hW => of15 s now j _ W (HV.out.below hW) (by omega)
    have CW : Hid (∀ W t, Below w.heap.size w W → Calls Try.prog 10 #[.slice A s.length cap, .int .i64 t] W (IntQ (val s t) W)) := fun W t hW => within4 s _ t W (HV.out.below hW) (by omega)
    have CL : Hid (∀ W, Below w.heap.size w W → Calls Try.prog 11 #[.slice A s.length cap, .int .i64 t, jobV j] W (LaySays s t j W)) := fun W hW => layS s t j _ W (HV.out.below hW) (by omega)
    have CG : Hid (∀ W, Below w.heap.size w W → Calls Try.prog 12 #[.slice A s.length cap, .int .i64 t, jobV j] W (BoolS (okG s t j.width j.est) W)) := fun W hW => ok15 s t j _ W (HV.out.below hW) (by omega)
    unfold jobV jobA at *
    go_enter Try.func3, Try.ntmps3
    go_upto_region 1 with fail
    generalize (w.alloc (.cells #[.int .i64 now, .int .i64 t] 23)).alloc (.cells #[.int .i64 j.id, .string j.user, .int .i64 j.width, .int .i64 j.est, .int .i64 j.prio, .int .i64 j.sub, .int .i64 j.state, .int .i64 j.start, .int .i64 j.fin] 25) = W0 at *
    obtain ⟨q, q0, q1, _, _⟩ := HQ.out
    go_quiet (fail)
    have HX1 := Lib.hid (HX.out.drewN nq)
    have HB1 := Lib.hid (drew_s HB.out nq)
    generalize W0.drewN nq = W1 at *
    obtain ⟨y, y0, y1, y2, y3, y4, y5, y6, y7, y8, _, _, _, _, _, _, _, _, _⟩ := HX1.out
    clear q q0 q1 HQ HX HB
    go_wp2_with fail
    refine (CO.out _ HB1.out).mono ?_
    rintro e w2 ⟨a, p, b, rfl, hs, hb2⟩
    have HB2 := Lib.hid (thenS HB1.out hb2)
    have HX2 := Lib.hid (HX1.out.below hb2)
    have HSH := Lib.hid (sh_ways hs)
    obtain ⟨z, z0, z1, z2, z3, z4, z5, z6, z7, z8, _, _, _, _, _, _, _, _, _⟩ := HX2.out
    clear hb2 hs CO y y0 y1 y2 y3 y4 y5 y6 y7 y8 HX1 HB1
    go_wp2_with fail
    refine (CK.out _ HB2.out).mono ?_
    rintro e w3 ⟨rfl, n3, rfl⟩
    have HX3 := Lib.hid (HX2.out.drewN n3)
    have HB3 := Lib.hid (drew_s HB2.out n3)
    generalize w2.drewN n3 = W3 at *
    clear HX2 HB2 z z0 z1 z2 z3 z4 z5 z6 z7 z8
    obtain ⟨z, z0, z1, z2, z3, z4, z5, z6, z7, z8, _, _, _, _, _, _, _, _, _⟩ := HX3.out
    go_upto_if 35 with fail
    go_cut [12] (fun c wc => c = .int .i64 (fitN s now j) ∧ Below w.heap.size w wc ∧ JobBox wc (w.heap.size + 1) j)
    case first =>
      cases hc : chkB s with
      | false =>
        have HE := Lib.hid (fit_chk (now := now) (j := j) hc)
        go_wp2_with fail
        go_meet
        exact ⟨by rw [HE.out], HB3.out, HX3.out⟩
      | true =>
        go_wp2_with fail
        refine (CF.out _ HB3.out).mono ?_
        rintro e w4 ⟨rfl, hb4⟩
        have HB4 := Lib.hid (thenS HB3.out hb4)
        have HX4 := Lib.hid (HX3.out.below hb4)
        clear hb4
        go_wp2_with fail
        go_meet
        exact ⟨rfl, HB4.out, HX4.out⟩
    case rest =>
      obtain ⟨rfl, hb4, hx4⟩ := hcut
      have HX4 := Lib.hid hx4
      have HB4 := Lib.hid hb4
      clear hb4 hx4 CF HX3 HB3 z z0 z1 z2 z3 z4 z5 z6 z7 z8
      obtain ⟨z, z0, z1, z2, z3, z4, z5, z6, z7, z8, _, _, _, _, _, _, _, _, _⟩ := HX4.out
      go_upto_region 8 with fail
      go_cut [73] (fun c wc => c = .bool false ∧ Below w.heap.size w wc ∧ JobBox wc (w.heap.size + 1) j)
      case first =>
        clear z z0 z1 z2 z3 z4 z5 z6 z7 z8
        have CW4 := Lib.hid (fun (z : Lull wc) => CW.out z.u a (thenS HB4.out z.h))
        have x2 : ∀ z : Lull wc, _ := fun z => (HX4.out.below z.h).c2
        rcases HSH.out with ⟨rfl, e1, rfl, rfl⟩ | ⟨rfl, hc, e1, ha, hp, hp1, hp2⟩
        · have g1 : decide ((0 : Int) ≤ fitN s now j) = false := by rw [e1]; rfl
          clear e1
          refine wp_region_calm (by kernel_rfl) (by kernel_rfl) ?_
          repeat (first | go_big_quiet_step (fail) | quiet_step (fail))
          refine wpQuiet_nil ?_
          intro w9 hw9
          have hb9 := lull_below hw9
          clear hw9
          go_wp2_with fail
          go_meet
          exact ⟨rfl, thenS HB4.out hb9, HX4.out.below hb9⟩
        · have g1 : decide ((0 : Int) ≤ fitN s now j) = true := by rw [e1]; exact decide_eq_true ha
          have g2 : (a != fitN s now j) = false := by rw [e1]; simp
          have g3 : IntKind.i64.wrap (val s a - j.width) = p := by rw [← hp, IntKind.wrap_i64]; omega
          have g4 : (p != p) = false := by simp
          clear e1 hp
          refine wp_region_calm (by kernel_rfl) (by kernel_rfl) ?_
          repeat (first | go_big_quiet_step ((go_at_call 10; exact calm_same (CW4.out _))) | quiet_step ((go_at_call 10; exact calm_same (CW4.out _))))
          refine wpQuiet_nil ?_
          intro w9 hw9
          have hb9 := lull_below hw9
          clear hw9
          go_wp2_with fail
          go_meet
          exact ⟨rfl, thenS HB4.out hb9, HX4.out.below hb9⟩
      case rest =>
        obtain ⟨rfl, hb5, hx5⟩ := hcut
        have HX5 := Lib.hid hx5
        have HB5 := Lib.hid hb5
        clear hb5 hx5 CW HX4 HB4 HSH z z0 z1 z2 z3 z4 z5 z6 z7 z8
        obtain ⟨z, z0, z1, z2, z3, z4, z5, z6, z7, z8, _, _, _, _, _, _, _, _, _⟩ := HX5.out
        go_wp2_with fail
        refine (CL.out _ HB5.out).mono ?_
        rintro e w6 ⟨v6, r6, b6, rfl, hs6, hl6, hb6⟩
        have HB6 := Lib.hid (thenS HB5.out hb6)
        have HX6 := Lib.hid (HX5.out.below hb6)
        have HS6 := Lib.hid hs6
        have HL6 := Lib.hid hl6
        clear hb6 hs6 hl6 CL HX5 HB5 z z0 z1 z2 z3 z4 z5 z6 z7 z8
        cases hk : okG s t j.width j.est with
        | false =>
          obtain ⟨rfl, rfl⟩ : b6 = false ∧ r6 = [] := by
            rcases HL6.out with ⟨h, _⟩ | ⟨_, h2, h3⟩
            · rw [hk] at h; cases h
            · exact ⟨h2, h3⟩
          obtain ⟨A6, c6, rfl⟩ := spans_none HS6.out
          have CG6 := Lib.hid (fun W hW => (hk ▸ CG.out W hW : Calls Try.prog 12 _ W (BoolS false W)))
          clear hk CG HL6
          go_wp2_with fail
          refine (CK.out _ HB6.out).mono ?_
          rintro e w7 ⟨rfl, n7, rfl⟩
          have HB7 := Lib.hid (drew_s HB6.out n7)
          have HX7 := Lib.hid (HX6.out.drewN n7)
          generalize w6.drewN n7 = W7 at *
          clear HX6 HB6 CK
          obtain ⟨z, z0, z1, z2, z3, z4, z5, z6, z7, z8, _, _, _, _, _, _, _, _, _⟩ := HX7.out
          cases hc : chkB s with
          | false =>
            go_wp2_with fail
            refine (HAW.out _).mono ?_
            rintro e w8 ⟨rfl, hb8⟩
            have HB8 := Lib.hid (thenS HB7.out hb8)
            clear hb8
            go_wp2_with fail
            go_ret
            exact ⟨rfl, HB8.out⟩
          | true =>
            go_wp2_with fail
            refine (CG6.out _ HB7.out).mono ?_
            rintro e w8 ⟨rfl, hb8⟩
            have HB8 := Lib.hid (thenS HB7.out hb8)
            clear hb8
            go_wp2_with fail
            refine (HAW.out _).mono ?_
            rintro e w9 ⟨rfl, hb9⟩
            have HB9 := Lib.hid (thenS HB8.out hb9)
            clear hb9
            go_wp2_with fail
            go_ret
            exact ⟨rfl, HB9.out⟩
        | true =>
          obtain ⟨hc, _⟩ := room_may hk
          have hcb := (chk_iff s).2 hc
          obtain ⟨rfl, hadd⟩ : b6 = true ∧ AddIs s (runS t j) (-j.width) r6 := by
            rcases HL6.out with ⟨_, h2, h3⟩ | ⟨h, _⟩
            · exact ⟨h2, h3⟩
            · rw [hk] at h; cases h
          have CG6 := Lib.hid (fun W hW => (hk ▸ CG.out W hW : Calls Try.prog 12 _ W (BoolS true W)))
          have HLN := Lib.hid (add_len hadd)
          have HBK := Lib.hid (lift_back (.inl ⟨hk, rfl, hadd⟩))
          have HAD := Lib.hid hadd
          have CLF : Hid (∀ W, Below w6.heap.size w6 W → Calls Try.prog 13 #[v6, .int .i64 t, jobV j] W (LiftSays r6 t j W)) := fun W hW => liftS r6 t j _ W (HS6.out.below hW) (by have := HLN.out; omega)
          have CLY : Hid (∀ W, Below w.heap.size w W → Calls Try.prog 15 #[.slice A s.length cap, .int .i64 t, jobV j] W (LayTells s t j W)) := fun W hW => lay15 s t j _ W (HV.out.below hW) (by omega) hk
          rw [hcb] at CK
          obtain ⟨A6, c6, hv6, _⟩ := HS6.out.open_
          subst hv6
          unfold jobV jobA at CLF CLY
          clear hk CG hc hcb hadd
          go_wp2_with fail
          refine (CK.out _ HB6.out).mono ?_
          rintro e w7 ⟨rfl, n7, rfl⟩
          have HB7 := Lib.hid (drew_s HB6.out n7)
          have HX7 := Lib.hid (HX6.out.drewN n7)
          have HW7 : Hid (Below w6.heap.size w6 (w6.drewN n7)) := drew_s (Below.refl _ _) n7
          generalize w6.drewN n7 = W7 at *
          clear HX6 HB6 CK
          obtain ⟨z, z0, z1, z2, z3, z4, z5, z6, z7, z8, _, _, _, _, _, _, _, _, _⟩ := HX7.out
          go_wp2_with fail
          refine (CG6.out _ HB7.out).mono ?_
          rintro e w8 ⟨rfl, hb8⟩
          have HB8 := Lib.hid (thenS HB7.out hb8)
          have HX8 := Lib.hid (HX7.out.below hb8)
          have HW8 := Lib.hid (thenS HW7.out hb8)
          clear hb8 HX7 HB7 HW7 z z0 z1 z2 z3 z4 z5 z6 z7 z8
          obtain ⟨z, z0, z1, z2, z3, z4, z5, z6, z7, z8, _, _, _, _, _, _, _, _, _⟩ := HX8.out
          go_wp2_with fail
          refine (CLF.out _ HW8.out).mono ?_
          rintro e w9 ⟨v9, m9, b9, rfl, hs9, hl9, hb9⟩
          obtain ⟨rfl, rfl⟩ := hl9.unique HBK.out
          have HB9 := Lib.hid (thenS HB8.out hb9)
          have HX9 := Lib.hid (HX8.out.below hb9)
          have HW9 := Lib.hid (thenS HW8.out hb9)
          have HS9 := Lib.hid hs9
          obtain ⟨A9, c9, hv9, _⟩ := hs9.open_
          subst hv9
          clear hb9 hs9 hl9 HX8 HB8 HW8 CLF HBK z z0 z1 z2 z3 z4 z5 z6 z7 z8
          obtain ⟨z, z0, z1, z2, z3, z4, z5, z6, z7, z8, _, _, _, _, _, _, _, _, _⟩ := HX9.out
          go_wp2_with fail
          refine (CLY.out _ HB9.out).mono ?_
          rintro e w10 ⟨v10, r10, rfl, hs10, hr10, hb10, _⟩
          obtain rfl := AddIs.unique hr10 HAD.out
          have HB10 := Lib.hid (thenS HB9.out hb10)
          have HW10 := Lib.hid (thenS HW9.out hb10)
          have CS1 := Lib.hid (same4 r10 r10 _ _ w10 (HS6.out.below HW10.out) hs10 (by have := HLN.out; omega) (by have := HLN.out; omega))
          have CS2 : Hid (∀ n, Calls Try.prog 14 #[.slice A9 m9.length c9, .slice A m9.length cap] (w10.drewN n) (BoolD (decide (m9 = m9)) (w10.drewN n))) := fun n => same4 m9 m9 _ _ _ ((HS9.out.below hb10).below (below_drewN (Below.refl _ _) n)) ((HV.out.below HB10.out).below (below_drewN (Below.refl _ _) n)) (by omega) (by omega)
          rw [decide_eq_true rfl] at CS1 CS2
          obtain ⟨A10, c10, hv10, _⟩ := hs10.open_
          subst hv10
          clear hs10 hr10 hb10 CLY HX9 HB9 HW9 z z0 z1 z2 z3 z4 z5 z6 z7 z8
          go_wp2_with fail
          refine CS1.out.mono ?_
          rintro e w11 ⟨rfl, n11, rfl⟩
          go_wp2_with fail
          refine (CS2.out _).mono ?_
          rintro e w12 ⟨rfl, n12, rfl⟩
          go_wp2_with fail
          refine (HAW.out _).mono ?_
          rintro e w13 ⟨rfl, hb13⟩
          have HB13 := Lib.hid (thenS (drew_s HB10.out (n11 + n12)) hb13)
          clear hb13
          go_wp2_with fail
          go_ret
          exact ⟨rfl, HB13.out⟩
  · have d1 : decide ((100 : Int) < (s.length : Int)) = true := by rw [decide_eq_true_iff]; omega
    unfold jobV jobA at *
    go_enter Try.func3, Try.ntmps3
    go_upto_region 1 with fail
    generalize (w.alloc (.cells #[.int .i64 now, .int .i64 t] 23)).alloc (.cells #[.int .i64 j.id, .string j.user, .int .i64 j.width, .int .i64 j.est, .int .i64 j.prio, .int .i64 j.sub, .int .i64 j.state, .int .i64 j.start, .int .i64 j.fin] 25) = W0 at *
    obtain ⟨q, q0, q1, _, _⟩ := HQ.out
    go_quiet (fail)
    have HB1 := Lib.hid (drew_s HB.out nq)
    generalize W0.drewN nq = W1 at *
    clear q q0 q1 HQ HX HB
    go_wp2_with fail
    refine (HAW.out _).mono ?_
    rintro e w2 ⟨rfl, hb2⟩
    have HB2 := Lib.hid (thenS HB1.out hb2)
    clear hb2
    go_wp2_with fail
    go_ret
    exact ⟨rfl, HB2.out⟩
end Go.Proofs.Ytonapgbokbeopaa.ShaWalk
