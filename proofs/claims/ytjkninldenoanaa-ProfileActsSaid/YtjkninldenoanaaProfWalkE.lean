/-
  The walk of layer 5's code: Take.
-/
import Derived.Test.YtjkninldenoanaaProfWalkD
namespace Go.Proofs.Ytjkninldenoanaa.ProfWalk
open Go.RowKit Go.Proofs.Ytjkninldenoanaa.SpanPlain Go.Proofs.Ytjkninldenoanaa.StepPlain Go.Proofs.Ytjkninldenoanaa.ProfPlain Go.Proofs.Ytjkninldenoanaa.Mem Go.Proofs.Ytjkninldenoanaa.SpanMem Go.Proofs.Ytjkninldenoanaa.StepMem Go.Proofs.Ytjkninldenoanaa.SpanRef Go.Proofs.Ytjkninldenoanaa.StepRef Go.Proofs.Ytjkninldenoanaa.ProfRef

set_option maxRecDepth 100000 in
set_option maxHeartbeats 6400000 in
theorem takeS {G : List Nat} {x : Prof} {g : Nat} {w : World} (h : Is G x w g) (hG : ∀ i ∈ G, i < w.heap.size) (hl : x.l.length ≤ 60) (b : By) : Calls Try.prog 9 #[ptr g, byV b] w (Turns Is (TakeIs x b) G g w) := by
  have HB0 := Lib.hid (below_alloc w (.cells #[.int .i64 b.1, .int .i64 b.2.1, .int .i64 b.2.2] 36))
  have HT0 := Lib.hid (Trio.new w (.int .i64 b.1) (.int .i64 b.2.1) (.int .i64 b.2.2) 36)
  have HI0 := Lib.hid (h.low HB0.out)
  have HG := Lib.hid hG
  have HF := Lib.hid h.fair
  obtain ⟨a, c, hbx, hs, _, ha, c1, hn⟩ := HI0.out.parts
  have HS0 := Lib.hid hs
  have HX0 := Lib.hid hbx
  have hp := spos h.fair
  have hlen := steps_len hl
  have q1 : (0 : Int) < ((stepsL x).length : Int) := by omega
  have CM := Lib.hid (isMadeS HI0.out)
  have CB : Hid (∀ p : Lull (w.alloc (.cells #[.int .i64 b.1, .int .i64 b.2.1, .int .i64 b.2.2] 36)), Calls Try.prog 26 #[.agg #[.int .i64 b.1, .int .i64 b.2.1, .int .i64 b.2.2]] p.u (BoolIs (byB b) p.u)) := fun p => mayBeS b p.u
  have P0 := calm_cell HT0.out.lt HT0.out.c0
  have P1 := calm_cell (a := ⟨w.heap.size, 1, none⟩) HT0.out.lt HT0.out.c1
  have P2 := calm_cell (a := ⟨w.heap.size, 2, none⟩) HT0.out.lt HT0.out.c2
  have P3 := calm_cell hbx.lt hbx.c1
  have P4 := calm_cell ha c1
  have hways := turn_ways x b
  clear hs h hl hbx hp c1 ha hG
  have HLEN := Lib.hid hlen
  clear hlen
  generalize hln : (stepsL x).length = n at *
  have HLN := Lib.hid hln
  clear hln
  unfold ptr byV at *
  rcases hways with ⟨d0, HR⟩ | ⟨d0, d1, HR⟩ | ⟨d0, d1, HR⟩
  · rw [d0] at CB
    clear d0
    go_enter Try.func9, Try.ntmps9
    go_wp2_with fail
    refine CM.out.mono ?_
    rintro e w1 ⟨rfl, rfl⟩
    go_wp2_with fail
    refine wp_region_calm (by kernel_rfl) (by kernel_rfl) ?_
    repeat (first | go_big_quiet_step ((go_at_call 26; exact calm_of (v := .bool false) (CB.out _))) | quiet_step ((go_at_call 26; exact calm_of (v := .bool false) (CB.out _))))
    refine wpQuiet_nil ?_
    intro w1 hw
    have hb1 := lull_below hw
    clear hw
    have HB1 := Lib.hid hb1
    clear hb1 P0 P1 P2 P3 P4
    go_wp2_with fail
    go_ret
    exact ⟨_, _, rfl, .inl ⟨HR.out, rfl, rfl⟩, HI0.out.low HB1.out, grown_low (below_then HB0.out HB1.out)⟩
  · rw [d0] at CB
    clear d0
    go_enter Try.func9, Try.ntmps9
    go_wp2_with fail
    refine CM.out.mono ?_
    rintro e w1 ⟨rfl, rfl⟩
    go_wp2_with fail
    refine wp_region_calm (by kernel_rfl) (by kernel_rfl) ?_
    repeat (first | go_big_quiet_step ((go_at_call 26; exact calm_of (v := .bool true) (CB.out _))) | quiet_step ((go_at_call 26; exact calm_of (v := .bool true) (CB.out _))))
    refine wpQuiet_nil ?_
    intro w1 hw
    have hb1 := lull_below hw
    clear hw
    have HB1 := Lib.hid hb1
    clear hb1 P0 P1 P2 P3 P4
    go_wp2_with fail
    go_ret
    exact ⟨_, _, rfl, .inl ⟨HR.out, rfl, rfl⟩, HI0.out.low HB1.out, grown_low (below_then HB0.out HB1.out)⟩
  · rw [d0] at CB
    clear d0
    go_enter Try.func9, Try.ntmps9
    go_wp2_with fail
    refine CM.out.mono ?_
    rintro e w1 ⟨rfl, rfl⟩
    go_wp2_with fail
    refine wp_region_calm (by kernel_rfl) (by kernel_rfl) ?_
    repeat (first | go_big_quiet_step ((go_at_call 26; exact calm_of (v := .bool true) (CB.out _))) | quiet_step ((go_at_call 26; exact calm_of (v := .bool true) (CB.out _))))
    refine wpQuiet_nil ?_
    intro w1 hw
    have hb1 := lull_below hw
    clear hw
    have HB1 := Lib.hid (below_then HB0.out hb1)
    have HT1 := Lib.hid (HT0.out.below hb1)
    have HI1 := Lib.hid (HI0.out.low hb1)
    have HX1 := Lib.hid (HX0.out.below hb1)
    have HS1 := Lib.hid (HS0.out.below hb1)
    clear hb1 P0 P1 P2 P3 P4 d1 CB CM HI0 HT0 HB0 HX0 HS0
    obtain ⟨hbb, hbt⟩ := not_turnBad HR.out
    obtain ⟨hm, e1, e2⟩ := by_parts hbb
    have CS : Hid (∀ p : Lull w1, Calls Try.prog 28 #[.agg #[.int .i64 b.1, .int .i64 b.2.1, .int .i64 b.2.2]] p.u (SpanSays (b.1, b.2.1) p.u)) := fun p => spanOfS b p.u
    have hleast : LeastOf (freeL x.p x.l) (b.1, b.2.1) (leastN x (b.1, b.2.1)) := by
      have h1 : leastB x (b.1, b.2.1) = true := by unfold leastB; rw [hm, decide_eq_true hbt]; rfl
      unfold leastN
      rw [if_pos h1]
      exact least_spec HF.out.done ((mayB_iff _).1 hm).2.1
    have CL : Hid (∀ p : Lull w1, Calls Try.prog 27 #[.slice (some a) n c, .agg #[.int .i64 b.1, .int .i64 b.2.1]] p.u
        (fun e w' => e = .returned (.tuple #[.int .i64 (leastN x (b.1, b.2.1)), .bool (leastB x (b.1, b.2.1))]) ∧ Below p.u.heap.size p.u w')) := fun p =>
      (StepWalk.minS (stepsL x) (b.1, b.2.1) _ p.u (HS1.out.below p.h) (by have := HLEN.out; have := HLN.out; omega)).mono fun e w' ⟨n, he, hn, hb⟩ => by
        have h2 := min_n HF.out hn
        rw [min_b HF.out] at he
        subst h2
        exact ⟨he, hb⟩
    have hways := took_ways HR.out hleast
    generalize leastN x (b.1, b.2.1) = N at *
    generalize leastB x (b.1, b.2.1) = NB at *
    have P0 := calm_cell HT1.out.lt HT1.out.c0
    have P1 := calm_cell (a := ⟨w.heap.size, 1, none⟩) HT1.out.lt HT1.out.c1
    have P2 := calm_cell (a := ⟨w.heap.size, 2, none⟩) HT1.out.lt HT1.out.c2
    have P3 := calm_cell (a := ⟨g, 1, none⟩) HX1.out.lt HX1.out.c1
    clear hbb hbt hm hleast
    unfold SpanSays spV at CS
    dsimp only at CS
    go_wp2_with fail
    refine wp_region_calm (by kernel_rfl) (by kernel_rfl) ?_
    repeat (first | go_big_quiet_step ((first | (go_at_call 28; exact calm_of (CS.out _)) | (go_at_call 27; exact calm_of (CL.out _)))) | quiet_step ((first | (go_at_call 28; exact calm_of (CS.out _)) | (go_at_call 27; exact calm_of (CL.out _)))))
    refine wpQuiet_nil ?_
    intro w2 hw
    have hb2 := lull_below hw
    clear hw
    have HB2 := Lib.hid (below_then HB1.out hb2)
    have HT2 := Lib.hid (HT1.out.below hb2)
    have HI2 := Lib.hid (HI1.out.low hb2)
    have HX2 := Lib.hid (HX1.out.below hb2)
    have HS2 := Lib.hid (HS1.out.below hb2)
    clear hb2 P0 P1 P2 P3 CS CL HI1 HT1 HB1 HX1 HS1
    obtain ⟨y0, y1, y2, y3, y4, y5, y6⟩ := HT2.out
    obtain ⟨z0, z1, z2, z3, z4⟩ := HX2.out
    rcases hways with ⟨d2, ht⟩ | ⟨d2, ht, hall⟩
    · have HTK := Lib.hid ht
      clear ht
      go_wp2_with fail
      go_ret
      exact ⟨_, _, rfl, HTK.out, HI2.out, grown_low HB2.out⟩
    · have HTK := Lib.hid ht
      have HALL := Lib.hid hall
      clear ht hall
      have CS : Hid (∀ W, Calls Try.prog 28 #[.agg #[.int .i64 b.1, .int .i64 b.2.1, .int .i64 b.2.2]] W (SpanSays (b.1, b.2.1) W)) := fun W => spanOfS b W
      have CA : Hid (∀ W, Below w2.heap.size w2 W → Calls Try.prog 29 #[.slice (some a) n c, .agg #[.int .i64 b.1, .int .i64 b.2.1], .int .i64 (-b.2.2)] W (StepWalk.AddSays (stepsL x) (b.1, b.2.1) (-b.2.2) W)) := fun W hb =>
        StepWalk.addS (stepsL x) (b.1, b.2.1) (-b.2.2) _ W (HS2.out.below hb) (by have := HLEN.out; have := HLN.out; omega)
      have hneg : IntKind.i64.wrap (-b.2.2) = -b.2.2 := by rw [IntKind.wrap_i64]; omega
      unfold SpanSays spV at CS
      dsimp only at CS
      go_wp2_with fail
      go_region_with
        (first
          | (go_at_call 28; (refine (CS.out _).mono ?_; rintro e w5 ⟨rfl, hb5⟩; have HBk := Lib.hid (below_of_drew hb5); have j2 := (HBk.out.cell (p := ⟨w.heap.size, 2, none⟩) y0).trans y3; have j3 := (HBk.out.cell (p := ⟨g, 1, none⟩) z0).trans z2; clear hb5))
          | (go_at_call 29; (refine (CA.out _ HBk.out).mono ?_; rintro e w6 ⟨v6, r6, rfl, hr6, ha6, hb6, hn6⟩; obtain ⟨A6, c6, rfl, _⟩ := hr6.open_; have HBj := HBk; clear HBk; have HBk := Lib.hid (below_then HBj.out hb6); have HA6 := Lib.hid (And.intro hr6 (And.intro ha6 (hn6.mono HBj.out.size))); have j4 := (HBk.out.cell (p := ⟨g, 1, none⟩) z0).trans z2; have j5 := (HBk.out.frozen (p := ⟨g, 1, none⟩) z0).trans z4; clear hr6 ha6 hb6 hn6)))
      all_goals
        obtain ⟨k1, k2, k3⟩ := HA6.out
        obtain rfl := take_add HF.out HR.out HALL.out k2
        have HST := Lib.hid (store_is (w0 := w) (HI2.out.low HBk.out) (HTK.out.fair HF.out) rfl k1 (new_off k3 HG.out HB2.out.size) (below_then HB2.out HBk.out))
        clear k1 k2 k3
        go_wp2_with fail
        go_ret
        exact ⟨_, _, rfl, HTK.out, HST.out.1, HST.out.2⟩
end Go.Proofs.Ytjkninldenoanaa.ProfWalk
