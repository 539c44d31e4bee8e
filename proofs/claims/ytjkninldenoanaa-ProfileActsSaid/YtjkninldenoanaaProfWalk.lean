/-
  The walk of layer 5's code: Give. (With it all of layer 5's functions are walked.)
-/
import Derived.Test.YtjkninldenoanaaProfWalkE
namespace Go.Proofs.Ytjkninldenoanaa.ProfWalk
open Go.RowKit Go.Proofs.Ytjkninldenoanaa.SpanPlain Go.Proofs.Ytjkninldenoanaa.StepPlain Go.Proofs.Ytjkninldenoanaa.ProfPlain Go.Proofs.Ytjkninldenoanaa.Mem Go.Proofs.Ytjkninldenoanaa.SpanMem Go.Proofs.Ytjkninldenoanaa.StepMem Go.Proofs.Ytjkninldenoanaa.SpanRef Go.Proofs.Ytjkninldenoanaa.StepRef Go.Proofs.Ytjkninldenoanaa.ProfRef

set_option maxRecDepth 100000 in
set_option maxHeartbeats 6400000 in
theorem giveS {G : List Nat} {x : Prof} {g : Nat} {w : World} (h : Is G x w g) (hG : ∀ i ∈ G, i < w.heap.size) (hl : x.l.length ≤ 60) (b : By) : Calls Try.prog 10 #[ptr g, byV b] w (Turns Is (GiveIs x b) G g w) := by
  have HB0 := Lib.hid (below_alloc w (.cells #[.int .i64 b.1, .int .i64 b.2.1, .int .i64 b.2.2] 36))
  have HT0 := Lib.hid (Trio.new w (.int .i64 b.1) (.int .i64 b.2.1) (.int .i64 b.2.2) 36)
  have HI0 := Lib.hid (h.low HB0.out)
  have HG := Lib.hid hG
  have HF := Lib.hid h.fair
  obtain ⟨a, c, hbx, hs, _, ha, c1, hn⟩ := HI0.out.parts
  have HS0 := Lib.hid hs
  have HX0 := Lib.hid hbx
  have hp := spos h.fair
  have hlen := steps_len hl
  have q1 : (0 : Int) < ((stepsL x).length : Int) := by omega
  have CM := Lib.hid (isMadeS HI0.out)
  have CB : Hid (∀ p : Lull (w.alloc (.cells #[.int .i64 b.1, .int .i64 b.2.1, .int .i64 b.2.2] 36)), Calls Try.prog 26 #[.agg #[.int .i64 b.1, .int .i64 b.2.1, .int .i64 b.2.2]] p.u (BoolIs (byB b) p.u)) := fun p => mayBeS b p.u
  have P0 := calm_cell HT0.out.lt HT0.out.c0
  have P1 := calm_cell (a := ⟨w.heap.size, 1, none⟩) HT0.out.lt HT0.out.c1
  have P2 := calm_cell (a := ⟨w.heap.size, 2, none⟩) HT0.out.lt HT0.out.c2
  have P3 := calm_cell hbx.lt hbx.c1
  have P4 := calm_cell ha c1
  have hways := turn_ways x b
  clear hs h hl hbx hp c1 ha hG
  have HLEN := Lib.hid hlen
  clear hlen
  generalize hln : (stepsL x).length = n at *
  have HLN := Lib.hid hln
  clear hln
  unfold ptr byV at *
  rcases hways with ⟨d0, HR⟩ | ⟨d0, d1, HR⟩ | ⟨d0, d1, HR⟩
  · rw [d0] at CB
    clear d0
    go_enter Try.func10, Try.ntmps10
    go_wp2_with fail
    refine CM.out.mono ?_
    rintro e w1 ⟨rfl, rfl⟩
    go_wp2_with fail
    refine wp_region_calm (by kernel_rfl) (by kernel_rfl) ?_
    repeat (first | go_big_quiet_step ((go_at_call 26; exact calm_of (v := .bool false) (CB.out _))) | quiet_step ((go_at_call 26; exact calm_of (v := .bool false) (CB.out _))))
    refine wpQuiet_nil ?_
    intro w1 hw
    have hb1 := lull_below hw
    clear hw
    have HB1 := Lib.hid hb1
    clear hb1 P0 P1 P2 P3 P4
    go_wp2_with fail
    go_ret
    exact ⟨_, _, rfl, .inl ⟨HR.out, rfl, rfl⟩, HI0.out.low HB1.out, grown_low (below_then HB0.out HB1.out)⟩
  · rw [d0] at CB
    clear d0
    go_enter Try.func10, Try.ntmps10
    go_wp2_with fail
    refine CM.out.mono ?_
    rintro e w1 ⟨rfl, rfl⟩
    go_wp2_with fail
    refine wp_region_calm (by kernel_rfl) (by kernel_rfl) ?_
    repeat (first | go_big_quiet_step ((go_at_call 26; exact calm_of (v := .bool true) (CB.out _))) | quiet_step ((go_at_call 26; exact calm_of (v := .bool true) (CB.out _))))
    refine wpQuiet_nil ?_
    intro w1 hw
    have hb1 := lull_below hw
    clear hw
    have HB1 := Lib.hid hb1
    clear hb1 P0 P1 P2 P3 P4
    go_wp2_with fail
    go_ret
    exact ⟨_, _, rfl, .inl ⟨HR.out, rfl, rfl⟩, HI0.out.low HB1.out, grown_low (below_then HB0.out HB1.out)⟩
  · rw [d0] at CB
    clear d0
    go_enter Try.func10, Try.ntmps10
    go_wp2_with fail
    refine CM.out.mono ?_
    rintro e w1 ⟨rfl, rfl⟩
    go_wp2_with fail
    refine wp_region_calm (by kernel_rfl) (by kernel_rfl) ?_
    repeat (first | go_big_quiet_step ((go_at_call 26; exact calm_of (v := .bool true) (CB.out _))) | quiet_step ((go_at_call 26; exact calm_of (v := .bool true) (CB.out _))))
    refine wpQuiet_nil ?_
    intro w1 hw
    have hb1 := lull_below hw
    clear hw
    have HB1 := Lib.hid (below_then HB0.out hb1)
    have HT1 := Lib.hid (HT0.out.below hb1)
    have HI1 := Lib.hid (HI0.out.low hb1)
    have HX1 := Lib.hid (HX0.out.below hb1)
    have HS1 := Lib.hid (HS0.out.below hb1)
    clear hb1 P0 P1 P2 P3 P4 d1 CB CM HI0 HT0 HB0 HX0 HS0
    have CS : Hid (∀ W, Calls Try.prog 28 #[.agg #[.int .i64 b.1, .int .i64 b.2.1, .int .i64 b.2.2]] W (SpanSays (b.1, b.2.1) W)) := fun W => spanOfS b W
    have CA : Hid (∀ W, Below w1.heap.size w1 W → Calls Try.prog 29 #[.slice (some a) n c, .agg #[.int .i64 b.1, .int .i64 b.2.1], .int .i64 b.2.2] W (StepWalk.AddSays (stepsL x) (b.1, b.2.1) b.2.2 W)) := fun W hb =>
      StepWalk.addS (stepsL x) (b.1, b.2.1) b.2.2 _ W (HS1.out.below hb) (by have := HLEN.out; have := HLN.out; omega)
    obtain ⟨y0, y1, y2, y3, y4, y5, y6⟩ := HT1.out
    obtain ⟨z0, z1, z2, z3, z4⟩ := HX1.out
    unfold SpanSays spV at CS
    dsimp only at CS
    go_wp2_with fail
    go_cut [5] (fun o wc => ∃ v6 r6, v6 = o ∧ Hid (SpansIs r6 wc v6 ∧ AddIs (stepsL x) (b.1, b.2.1) b.2.2 r6 ∧ StepWalk.NewAt w1.heap.size v6 ∧ Below w1.heap.size w1 wc))
    case first =>
      go_region_held3 (fun w' => w'.cell? ⟨w.heap.size, 0, none⟩ = some (.int .i64 b.1) ∧ w'.cell? ⟨w.heap.size, 1, none⟩ = some (.int .i64 b.2.1) ∧ w'.cell? ⟨w.heap.size, 2, none⟩ = some (.int .i64 b.2.2) ∧ w'.cell? ⟨g, 1, none⟩ = some (.slice (some a) n c))
        (first | go_keep | (go_split_ands; exact ⟨(HBk.out.cell (p := ⟨w.heap.size, 0, none⟩) y0).trans y1, (HBk.out.cell (p := ⟨w.heap.size, 1, none⟩) y0).trans y2, (HBk.out.cell (p := ⟨w.heap.size, 2, none⟩) y0).trans y3, (HBk.out.cell (p := ⟨g, 1, none⟩) z0).trans z2⟩))
        (first
          | (go_at_call 28; (refine (CS.out _).mono ?_; rintro e w5 ⟨rfl, hb5⟩; have HBk := Lib.hid (below_of_drew hb5); clear hb5))
          | (go_at_call 29; (refine (CA.out _ HBk.out).mono ?_; rintro e w6 ⟨v6, r6, rfl, hr6, ha6, hb6, hn6⟩; have HBj := HBk; clear HBk; have HBk := Lib.hid (below_then HBj.out hb6); have HA6 := Lib.hid (And.intro hr6 (And.intro ha6 (hn6.mono HBj.out.size))); clear hr6 ha6 hb6 hn6)))
      all_goals
        go_wp2_with fail
        go_meet
        exact ⟨_, _, rfl, HA6.out.1, HA6.out.2.1, HA6.out.2.2, HBk.out⟩
    case rest =>
      obtain ⟨v6, r6, hv6, HC⟩ := hcut
      subst hv6
      obtain ⟨hr6, ha6, hn6, hb6⟩ := HC.out
      have HB6 := Lib.hid (below_then HB1.out hb6)
      have HI6 := Lib.hid (HI1.out.low hb6)
      have HX6 := Lib.hid (HX1.out.below hb6)
      have HR6 := Lib.hid hr6
      have HO6 := Lib.hid (new_off (w := w) hn6 HG.out HB1.out.size)
      have hways := give_ways HF.out HR.out ha6
      have hrl := StepWalk.add_len_of ha6
      have HRL : Hid (r6.length ≤ 1500) := by have := HLEN.out; have := HLN.out; exact (by omega : r6.length ≤ 1500)
      obtain ⟨A6, c6, rfl, _⟩ := hr6.open_
      clear hr6 ha6 hn6 hb6 hrl y0 y1 y2 y3 y4 y5 y6 z0 z1 z2 z3 z4 HC HI1 HT1 HB1 HX1 HS1 CS CA
      have P0 := calm_cell (a := ⟨g, 0, none⟩) HX6.out.lt HX6.out.c0
      rcases hways with ⟨rfl, hg⟩ | ⟨hpos, hck, d2, hg⟩ | ⟨hpos, hck, d2, hg, hst⟩
      · have HTK := Lib.hid hg
        clear hg
        go_wp2_with fail
        refine wp_region_calm (by kernel_rfl) (by kernel_rfl) ?_
        repeat (first | go_big_quiet_step (fail) | quiet_step (fail))
        refine wpQuiet_nil ?_
        intro w7 hw
        have hb7 := lull_below hw
        clear hw
        have HB7 := Lib.hid hb7
        clear hb7 P0
        go_wp2_with fail
        go_ret
        exact ⟨_, _, rfl, HTK.out, HI6.out.low HB7.out, grown_low (below_then HB6.out HB7.out)⟩
      all_goals
        have HTK := Lib.hid hg
        try (have HST2 := Lib.hid hst; clear hst)
        have CMO : Hid (∀ p : Lull wc, Calls Try.prog 30 #[.slice A6 r6.length c6] p.u (IntB (mostTo r6 r6.length) p.u)) := fun p => mostS (HR6.out.below p.h) hck (by have := HRL.out; omega)
        have e0 : ((r6.length : Int) == 0) = false := by rw [beq_eq_false_iff_ne]; omega
        clear hg hck hpos
        generalize mostTo r6 r6.length = M at *
        go_wp2_with fail
        refine wp_region_calm (by kernel_rfl) (by kernel_rfl) ?_
        repeat (first | go_big_quiet_step ((go_at_call 30; exact calm_of (CMO.out _))) | quiet_step ((go_at_call 30; exact calm_of (CMO.out _))))
        refine wpQuiet_nil ?_
        intro w7 hw
        have hb7 := lull_below hw
        clear hw
        have HB7 := Lib.hid (below_then HB6.out hb7)
        have HI7 := Lib.hid (HI6.out.low hb7)
        have HR7 := Lib.hid (HR6.out.below hb7)
        obtain ⟨z0, z1, z2, z3, z4⟩ := HX6.out.below hb7
        clear hb7 P0
      · go_wp2_with fail
        go_ret
        exact ⟨_, _, rfl, HTK.out, HI7.out, grown_low HB7.out⟩
      · have hr7 := HR7.out
        have ho7 := HO6.out
        have HST : Hid (Is G ⟨x.p, x.t, x.l ++ [(b.1, b.2.1, -b.2.2)]⟩ (w7.setCell ⟨g, 1, none⟩ (.slice A6 r6.length c6)) g ∧ w.grownBy (w7.setCell ⟨g, 1, none⟩ (.slice A6 r6.length c6)) (some g)) :=
          store_is (w0 := w) HI7.out (HTK.out.fair HF.out) rfl (by rw [← HST2.out]; exact hr7) ho7 HB7.out
        clear hr7 ho7
        go_wp2_with fail
        go_ret
        exact ⟨_, _, rfl, HTK.out, HST.out.1, HST.out.2⟩
end Go.Proofs.Ytjkninldenoanaa.ProfWalk
