/-
  The walks of the statements of layer 6: GapsFit.
-/
import Derived.Test.YtalopnkdnlkdoaaGapLawA
namespace Go.Proofs.Ytalopnkdnlkdoaa.GapWalk
open Go.RowKit Go.Proofs.Ytalopnkdnlkdoaa.SpanPlain Go.Proofs.Ytalopnkdnlkdoaa.StepPlain Go.Proofs.Ytalopnkdnlkdoaa.GapPlain Go.Proofs.Ytalopnkdnlkdoaa.Mem Go.Proofs.Ytalopnkdnlkdoaa.SpanMem Go.Proofs.Ytalopnkdnlkdoaa.StepMem Go.Proofs.Ytalopnkdnlkdoaa.SpanRef Go.Proofs.Ytalopnkdnlkdoaa.StepRef Go.Proofs.Ytalopnkdnlkdoaa.GapRef
theorem fit_bad {s : List Sp} {f m n r : Int} {b : Bool} (h : FitIs s f m n r b) (hm : mayG s m n = false) : r = 0 ∧ b = false := by
  rcases h with ⟨_, h1, _⟩ | ⟨h1, h2, _⟩
  · rw [hm] at h1; cases h1
  · exact ⟨h2, h1⟩
theorem fit_none {s : List Sp} {f m n r : Int} {b : Bool} (h : FitIs s f m n r b) (hm : mayG s m n = true) (hn : fitL s f m n < 0) : r = 0 ∧ b = false := h.unique ((fit_spec hm).2 hn)
theorem fit_some {s : List Sp} {f m n r : Int} {b : Bool} (h : FitIs s f m n r b) (hm : mayG s m n = true) (hn : ¬ fitL s f m n < 0) : r = fitL s f m n ∧ b = true := h.unique ((fit_spec hm).1 (by omega))
theorem fit_range {s : List Sp} {f m n r : Int} (h : FitIs s f m n r true) : 0 ≤ r ∧ r ≤ 1125899906842624 := by
  rcases h with ⟨_, h1, _, h2, _⟩ | ⟨h1, _⟩
  · have := (mayG_iff.1 h1).1.lo
    have := h2.1
    have := h2.2.1
    omega
  · cases h1
set_option maxRecDepth 100000 in
set_option maxHeartbeats 3200000 in
theorem fit_any (s : List Sp) (f m n : Int) (v : Value) (w : World) (hv : SpansIs s w v) : Calls Try.prog 3 #[v, .int .i64 f, .agg #[.int .i64 m, .int .i64 n]] w (TrueIs w) := by
  obtain ⟨A, cap, rfl, hA⟩ := hv.open_
  have HV := Lib.hid hv
  have HA := Lib.hid hA
  clear hv hA
  have HAW := Lib.hid (fun w => awake_any w)
  have HB0 := Lib.hid (below_alloc w (.cells #[.int .i64 m, .int .i64 n] 23))
  have HX0 := Lib.hid (Box2.new w (.int .i64 m) (.int .i64 n) 23)
  by_cases h1 : s.length ≤ 100
  · have d1 : decide ((100 : Int) < (s.length : Int)) = false := by rw [decide_eq_false_iff_not]; omega
    have CF := Lib.hid (fun (w' : World) (hb : Below w.heap.size w w') => fitS s f m n (.slice A s.length cap) w' (HV.out.below hb) (by omega))
    have CM := Lib.hid (fun (w' : World) (hb : Below w.heap.size w w') => may6 s m n (.slice A s.length cap) w' (HV.out.below hb) (by omega))
    have CO := Lib.hid (fun a (w' : World) (hb : Below w.heap.size w w') => okS s a m n (.slice A s.length cap) w' (HV.out.below hb) (by omega))
    go_enter Try.func3, Try.ntmps3
    go_wp2_with fail
    refine (CF.out _ HB0.out).mono ?_
    rintro e w1 ⟨r, b, rfl, hf, hb1⟩
    have HF := Lib.hid hf
    have HB1 := Lib.hid (below_then HB0.out hb1)
    obtain ⟨x0, x1, x2, _, _⟩ := HX0.out.below hb1
    have HX1 := Lib.hid (HX0.out.below hb1)
    clear hf hb1 CF HB0 HX0
    go_wp2_with fail
    refine (CM.out _ HB1.out).mono ?_
    rintro e w2 ⟨rfl, hb2⟩
    have HB2 := Lib.hid (below_then HB1.out hb2)
    have HX2 := Lib.hid (HX1.out.below hb2)
    obtain ⟨y0, y1, y2, _, _⟩ := HX1.out.below hb2
    clear x0 x1 x2 hb2 CM HB1 HX1
    cases hm : mayG s m n with
    | false =>
      obtain ⟨rfl, rfl⟩ := fit_bad HF.out hm
      clear hm
      go_wp2_with fail
      refine (HAW.out _).mono ?_
      rintro e w3 ⟨rfl, hb3⟩
      have HB3 := Lib.hid (below_then HB2.out hb3)
      clear hb3
      go_wp2_with fail
      go_ret
      exact ⟨rfl, HB3.out⟩
    | true =>
      obtain ⟨hc, _, hn1, hn2⟩ := mayG_iff.1 hm
      have CR := Lib.hid (fun (w' : World) (hb : Below w.heap.size w w') => fit6 s f m n (.slice A s.length cap) w' (HV.out.below hb) (by omega) hc hn1 hn2)
      by_cases hneg : fitL s f m n < 0
      · obtain ⟨rfl, rfl⟩ := fit_none HF.out hm hneg
        have hneg2 : decide (fitL s f m n < 0) = true := decide_eq_true hneg
        clear hm hc hneg
        generalize fitL s f m n = q at *
        go_wp2_with fail
        refine (CR.out _ HB2.out).mono ?_
        rintro e w3 ⟨rfl, hb3⟩
        have HB3 := Lib.hid (below_then HB2.out hb3)
        clear hb3
        go_wp2_with fail
        refine (HAW.out _).mono ?_
        rintro e w4 ⟨rfl, hb4⟩
        have HB4 := Lib.hid (below_then HB3.out hb4)
        clear hb4
        go_wp2_with fail
        go_ret
        exact ⟨rfl, HB4.out⟩
      · obtain ⟨hr, rfl⟩ := fit_some HF.out hm hneg
        have hneg2 : decide (fitL s f m n < 0) = false := decide_eq_false hneg
        obtain ⟨hr0, hr1⟩ := fit_range HF.out
        have hlz : (0 : Int) < (s.length : Int) := by have := hc.pos; omega
        have HOKR := Lib.hid HF.out.okG
        have HNO := Lib.hid (fun h => HF.out.no h)
        have hpos := hc.pos
        clear hm hc hneg
        generalize fitL s f m n = q at *
        subst hr
        go_wp2_with fail
        refine (CR.out _ HB2.out).mono ?_
        rintro e w3 ⟨rfl, hb3⟩
        have HB3 := Lib.hid (below_then HB2.out hb3)
        have HX3 := Lib.hid (HX2.out.below hb3)
        obtain ⟨z0, z1, z2, _, _⟩ := HX2.out.below hb3
        have CO1 := Lib.hid (CO.out r w3 HB3.out)
        rw [HOKR.out] at CO1
        clear hb3 HB2 HX2 y0 y1 y2 CR HOKR
        go_wp2_with fail
        refine CO1.out.mono ?_
        rintro e w4 ⟨rfl, hb4⟩
        have HB4 := Lib.hid (below_then HB3.out hb4)
        obtain ⟨y0, y1, y2, _, _⟩ := HX3.out.below hb4
        obtain ⟨ad, rfl, had, c1, _⟩ := pair_zero (HA.out.below HB4.out) hpos
        have hh : (spCell s 0).1 = .int .i64 (head s) := rfl
        rw [hh] at c1
        clear hb4 HB3 HX3 z0 z1 z2 hh CO1
        generalize head s = hd at *
        by_cases g1 : r ≤ hd
        · have g1' : decide (r ≤ hd) = true := decide_eq_true g1
          clear g1
          go_wp2_with fail
          refine (HAW.out _).mono ?_
          rintro e w5 ⟨rfl, hb5⟩
          have HB5 := Lib.hid (below_then HB4.out hb5)
          clear hb5
          go_wp2_with fail
          go_ret
          exact ⟨rfl, HB5.out⟩
        · have g1' : decide (r ≤ hd) = false := decide_eq_false g1
          by_cases g2 : r ≤ f
          · have g2' : decide (r ≤ f) = true := decide_eq_true g2
            clear g1 g2
            go_wp2_with fail
            refine (HAW.out _).mono ?_
            rintro e w5 ⟨rfl, hb5⟩
            have HB5 := Lib.hid (below_then HB4.out hb5)
            clear hb5
            go_wp2_with fail
            go_ret
            exact ⟨rfl, HB5.out⟩
          · have g2' : decide (r ≤ f) = false := decide_eq_false g2
            have CO2 := Lib.hid (CO.out (r - 1) w4 HB4.out)
            rw [HNO.out (by omega)] at CO2
            clear g1 g2 HNO
            go_wp2_with fail
            refine CO2.out.mono ?_
            rintro e w5 ⟨rfl, hb5⟩
            have HB5 := Lib.hid (below_then HB4.out hb5)
            clear hb5
            go_wp2_with fail
            refine (HAW.out _).mono ?_
            rintro e w6 ⟨rfl, hb6⟩
            have HB6 := Lib.hid (below_then HB5.out hb6)
            clear hb6
            go_wp2_with fail
            go_ret
            exact ⟨rfl, HB6.out⟩
  · have d1 : decide ((100 : Int) < (s.length : Int)) = true := by rw [decide_eq_true_eq]; omega
    go_enter Try.func3, Try.ntmps3
    go_wp2_with fail
    refine (HAW.out _).mono ?_
    rintro e w9 ⟨rfl, hb9⟩
    have HB9 := Lib.hid (below_then HB0.out hb9)
    clear hb9
    go_wp2_with fail
    go_ret
    exact ⟨rfl, HB9.out⟩
end Go.Proofs.Ytalopnkdnlkdoaa.GapWalk
