/-
  The walks of the statements of layer 6: what all of them end with (awake); GapsAll.
-/
import Derived.Test.YtalopnkdnlkdoaaSpanRefH
import Derived.Test.YtalopnkdnlkdoaaGapWalk
namespace Go.Proofs.Ytalopnkdnlkdoaa.GapWalk
open Go.RowKit Go.Proofs.Ytalopnkdnlkdoaa.SpanPlain Go.Proofs.Ytalopnkdnlkdoaa.StepPlain Go.Proofs.Ytalopnkdnlkdoaa.GapPlain Go.Proofs.Ytalopnkdnlkdoaa.Mem Go.Proofs.Ytalopnkdnlkdoaa.SpanMem Go.Proofs.Ytalopnkdnlkdoaa.StepMem Go.Proofs.Ytalopnkdnlkdoaa.SpanRef Go.Proofs.Ytalopnkdnlkdoaa.StepRef Go.Proofs.Ytalopnkdnlkdoaa.GapRef
theorem ex_spans (w : World) (T : TypeId) : SpansIs exG (w.alloc (.cells #[.int .i64 0, .int .i64 5, .int .i64 2, .int .i64 2, .int .i64 4, .int .i64 5] T)) (.slice (some ⟨w.heap.size, 0, none⟩) 3 3) :=
  .inr ⟨_, _, rfl, Raw.alloc w #[.int .i64 0, .int .i64 5, .int .i64 2, .int .i64 2, .int .i64 4, .int .i64 5] T, Nat.le_refl _⟩
set_option maxHeartbeats 1600000 in
theorem awake_any (w : World) : Calls Try.prog 6 #[] w (TrueIs w) := by
  have HS := Lib.hid (ex_spans w 31)
  have HB0 := Lib.hid (below_alloc w (.cells #[.int .i64 0, .int .i64 5, .int .i64 2, .int .i64 2, .int .i64 4, .int .i64 5] 31))
  have CF := Lib.hid (fitS exG 0 3 3 _ _ HS.out (by decide))
  have CO := Lib.hid (fun W (hb : Below w.heap.size w W) (hs : SpansIs exG W (.slice (some ⟨w.heap.size, 0, none⟩) 3 3)) => okS exG 0 3 2 _ W hs (by decide))
  have CW := Lib.hid (fun W (hs : SpansIs exG W (.slice (some ⟨w.heap.size, 0, none⟩) 3 3)) => wideS exG 1 5 _ W hs (by decide))
  have CL := Lib.hid (fun W (hs : SpansIs exG W (.slice (some ⟨w.heap.size, 0, none⟩) 3 3)) => longS exG 1 3 _ W hs (by decide))
  rw [ex_ok] at CO
  go_enter Try.func6, Try.ntmps6
  go_wp2_with fail
  refine CF.out.mono ?_
  rintro e w1 ⟨r, b, rfl, hf, hb1⟩
  obtain ⟨rfl, rfl⟩ := ex_fit hf
  have HB1 := Lib.hid (below_then HB0.out hb1)
  have HS1 := Lib.hid (HS.out.below hb1)
  clear hf hb1 CF HS HB0
  go_wp2_with fail
  refine (CO.out _ HB1.out HS1.out).mono ?_
  rintro e w2 ⟨rfl, hb2⟩
  have HB2 := Lib.hid (below_then HB1.out hb2)
  have HS2 := Lib.hid (HS1.out.below hb2)
  clear hb2 CO HB1 HS1
  go_wp2_with fail
  refine (CW.out _ HS2.out).mono ?_
  rintro e w3 ⟨m, rfl, hw, hb3⟩
  obtain rfl := ex_wide hw
  have HB3 := Lib.hid (below_then HB2.out hb3)
  have HS3 := Lib.hid (HS2.out.below hb3)
  clear hb3 hw CW HB2 HS2
  go_wp2_with fail
  refine (CL.out _ HS3.out).mono ?_
  rintro e w4 ⟨m, rfl, hw, hb4⟩
  obtain rfl := ex_long hw
  have HB4 := Lib.hid (below_then HB3.out hb4)
  clear hb4 hw CL HB3 HS3
  go_wp2_with fail
  go_ret
  exact ⟨rfl, HB4.out⟩
theorem spans_nil {w : World} {v : Value} (h : SpansIs [] w v) : ∃ A c, v = .slice A 0 c := by
  rcases h with ⟨h, _⟩ | ⟨a, c, h, _⟩
  · exact ⟨none, 0, h⟩
  · exact ⟨_, c, h⟩
theorem in_ways (s : List Sp) (m t : Int) : (decide (head s ≤ t) = false ∧ inG s m t = false) ∨ (decide (head s ≤ t) = true ∧ decide (t < 4503599627370496) = false ∧ inG s m t = false) ∨ (decide (head s ≤ t) = true ∧ decide (t < 4503599627370496) = true ∧ inG s m t = decide (m ≤ val s t)) := by
  unfold inG
  cases decide (head s ≤ t) <;> cases decide (t < 4503599627370496) <;> simp
set_option maxRecDepth 100000 in
set_option maxHeartbeats 3200000 in
theorem all_any (s : List Sp) (m t : Int) (v : Value) (w : World) (hv : SpansIs s w v) : Calls Try.prog 5 #[v, .int .i64 m, .int .i64 t] w (TrueIs w) := by
  obtain ⟨A, cap, rfl, hA⟩ := hv.open_
  have HV := Lib.hid hv
  have HA := Lib.hid hA
  clear hv hA
  have HAW := Lib.hid (fun w => awake_any w)
  by_cases h1 : s.length ≤ 100
  · have d1 : decide ((100 : Int) < (s.length : Int)) = false := by rw [decide_eq_false_iff_not]; omega
    have CA := Lib.hid (allS s m (.slice A s.length cap) w HV.out (by omega))
    have CM := Lib.hid (fun (w' : World) (hb : Below w.heap.size w w') => may6 s m 1 (.slice A s.length cap) w' (HV.out.below hb) (by omega))
    go_enter Try.func5, Try.ntmps5
    go_wp2_with fail
    refine CA.out.mono ?_
    rintro e w1 ⟨v1, c1, rfl, hs1, ha1, hb1⟩
    have HB1 := Lib.hid hb1
    have HS1 := Lib.hid hs1
    have HA1 := Lib.hid ha1
    clear hb1 hs1 ha1 CA
    go_wp2_with fail
    refine (CM.out _ HB1.out).mono ?_
    rintro e w2 ⟨rfl, hb2⟩
    have HB2 := Lib.hid (below_then HB1.out hb2)
    have HS2 := Lib.hid (HS1.out.below hb2)
    clear hb2 HB1 HS1 CM
    cases hm : mayG s m 1 with
    | false =>
      obtain rfl : c1 = [] := by
        rcases HA1.out with ⟨h2, _⟩ | ⟨_, h2⟩
        · rw [hm] at h2; cases h2
        · exact h2
      obtain ⟨A1, k1, rfl⟩ := spans_nil HS2.out
      clear hm
      go_wp2_with fail
      refine (HAW.out _).mono ?_
      rintro e w3 ⟨rfl, hb3⟩
      have HB3 := Lib.hid (below_then HB2.out hb3)
      clear hb3
      go_wp2_with fail
      go_ret
      exact ⟨rfl, HB3.out⟩
    | true =>
      obtain ⟨hc, _⟩ := mayG_iff.1 hm
      have HALL : Hid (AllIs s m c1) := by
        rcases HA1.out with ⟨_, h2⟩ | ⟨h2, _⟩
        · exact h2
        · rw [hm] at h2; cases h2
      have hlz : (0 : Int) < (s.length : Int) := by have := hc.pos; omega
      obtain ⟨ad, rfl, had, x1, _⟩ := pair_zero (HA.out.below HB2.out) hc.pos
      have hh : (spCell s 0).1 = .int .i64 (head s) := rfl
      rw [hh] at x1
      have CR := Lib.hid (fun (w' : World) (hb : Below w.heap.size w w') => all6 s m (.slice (some ad) s.length cap) w' (HV.out.below hb) (by omega) hc)
      have CV := Lib.hid (fun (w' : World) (hb : Below w.heap.size w w') => within4 s (.slice (some ad) s.length cap) t w' (HV.out.below hb) (by omega))
      have hways := in_ways s m t
      have HIN : Hid (anyB c1 t = inG s m t) := HALL.out.2 t
      clear hm hc hh HA1
      generalize hB : inG s m t = B at *
      generalize head s = hd at *
      rcases hways with ⟨g1, hr⟩ | ⟨g1, g2, hr⟩ | ⟨g1, g2, hr⟩
      · subst hr
        go_wp2_with fail
        refine (CR.out _ HB2.out).mono ?_
        rintro e w3 ⟨v3, c3, rfl, hs3, ha3, hn3, hb3⟩
        obtain rfl := ha3.unique HALL.out
        have HB3 := Lib.hid (below_then HB2.out hb3)
        have CS := Lib.hid (same_any c3 c3 v1 v3 w3 (HS2.out.below hb3) hs3 (by omega) (by omega))
        rw [decide_eq_true rfl] at CS
        have HS3 := Lib.hid (HS2.out.below hb3)
        clear hs3 ha3 hb3 CR CV
        go_wp2_with fail
        refine CS.out.mono ?_
        rintro e w4 ⟨rfl, q, rfl⟩
        have CH := Lib.hid (has_is c3 v1 t (w3.drewN q) (show SpansIs c3 (w3.drewN q) v1 from HS3.out) (by omega))
        rw [HIN.out] at CH
        have HB4 := Lib.hid (below_drewN HB3.out q)
        clear CS
        generalize w3.drewN q = w4 at *
        go_wp2_with fail
        refine CH.out.mono ?_
        rintro e w5 ⟨rfl, hb5⟩
        have HB5 := Lib.hid (below_then HB4.out hb5)
        clear hb5 CH
        go_wp2_with fail
        refine (HAW.out _).mono ?_
        rintro e w6 ⟨rfl, hb6⟩
        have HB6 := Lib.hid (below_then HB5.out hb6)
        clear hb6
        go_wp2_with fail
        go_ret
        exact ⟨rfl, HB6.out⟩
      · subst hr
        go_wp2_with fail
        refine (CR.out _ HB2.out).mono ?_
        rintro e w3 ⟨v3, c3, rfl, hs3, ha3, hn3, hb3⟩
        obtain rfl := ha3.unique HALL.out
        have HB3 := Lib.hid (below_then HB2.out hb3)
        have CS := Lib.hid (same_any c3 c3 v1 v3 w3 (HS2.out.below hb3) hs3 (by omega) (by omega))
        rw [decide_eq_true rfl] at CS
        have HS3 := Lib.hid (HS2.out.below hb3)
        clear hs3 ha3 hb3 CR CV
        go_wp2_with fail
        refine CS.out.mono ?_
        rintro e w4 ⟨rfl, q, rfl⟩
        have CH := Lib.hid (has_is c3 v1 t (w3.drewN q) (show SpansIs c3 (w3.drewN q) v1 from HS3.out) (by omega))
        rw [HIN.out] at CH
        have HB4 := Lib.hid (below_drewN HB3.out q)
        clear CS
        generalize w3.drewN q = w4 at *
        go_wp2_with fail
        refine CH.out.mono ?_
        rintro e w5 ⟨rfl, hb5⟩
        have HB5 := Lib.hid (below_then HB4.out hb5)
        clear hb5 CH
        go_wp2_with fail
        refine (HAW.out _).mono ?_
        rintro e w6 ⟨rfl, hb6⟩
        have HB6 := Lib.hid (below_then HB5.out hb6)
        clear hb6
        go_wp2_with fail
        go_ret
        exact ⟨rfl, HB6.out⟩
      · generalize val s t = x at *
        cases hx : decide (m ≤ x)
        all_goals
          rw [hx] at hr
          subst hr
          go_wp2_with fail
          refine (CV.out _ HB2.out).mono ?_
          rintro e w8 ⟨rfl, rfl⟩
          go_wp2_with fail
          refine (CR.out _ HB2.out).mono ?_
          rintro e w3 ⟨v3, c3, rfl, hs3, ha3, hn3, hb3⟩
          obtain rfl := ha3.unique HALL.out
          have HB3 := Lib.hid (below_then HB2.out hb3)
          have CS := Lib.hid (same_any c3 c3 v1 v3 w3 (HS2.out.below hb3) hs3 (by omega) (by omega))
          rw [decide_eq_true rfl] at CS
          have HS3 := Lib.hid (HS2.out.below hb3)
          clear hs3 ha3 hb3 CR CV
          go_wp2_with fail
          refine CS.out.mono ?_
          rintro e w4 ⟨rfl, q, rfl⟩
          have CH := Lib.hid (has_is c3 v1 t (w3.drewN q) (show SpansIs c3 (w3.drewN q) v1 from HS3.out) (by omega))
          rw [HIN.out] at CH
          have HB4 := Lib.hid (below_drewN HB3.out q)
          clear CS
          generalize w3.drewN q = w4 at *
          go_wp2_with fail
          refine CH.out.mono ?_
          rintro e w5 ⟨rfl, hb5⟩
          have HB5 := Lib.hid (below_then HB4.out hb5)
          clear hb5 CH
          go_wp2_with fail
          refine (HAW.out _).mono ?_
          rintro e w6 ⟨rfl, hb6⟩
          have HB6 := Lib.hid (below_then HB5.out hb6)
          clear hb6
          go_wp2_with fail
          go_ret
          exact ⟨rfl, HB6.out⟩
  · have d1 : decide ((100 : Int) < (s.length : Int)) = true := by rw [decide_eq_true_eq]; omega
    go_enter Try.func5, Try.ntmps5
    go_wp2_with fail
    refine (HAW.out _).mono ?_
    rintro e w9 ⟨rfl, hb9⟩
    have HB9 := Lib.hid hb9
    clear hb9
    go_wp2_with fail
    go_ret
    exact ⟨rfl, HB9.out⟩
end Go.Proofs.Ytalopnkdnlkdoaa.GapWalk
