/-
  The walks of layer 7's code: Turn; what its functions answer, as the statements' texts want it.
-/
import Derived.Test.YtclpbmhmfddifaaDoorJobWalkC
import Derived.Test.YtclpbmhmfddifaaDoorJobWalkD
namespace Go.Proofs.YtclpbmhmfddifaaDoor.JobWalk
open Go.RowKit Go.Proofs.YtclpbmhmfddifaaDoor.JobPlain Go.Proofs.YtclpbmhmfddifaaDoor.Mem Go.Proofs.YtclpbmhmfddifaaDoor.JobMem Go.Proofs.YtclpbmhmfddifaaDoor.JobRef
theorem next_fit {j : Jb} {ev t : Int} (hf : Fit j) (ht : -9223372036854775808 ≤ t ∧ t ≤ 9223372036854775807) : Fit (nextJ j ev t) := by
  unfold nextJ Fit
  dsimp only
  refine ⟨?_, ?_, hf.2.2⟩
  · split
    · exact ht.1
    · exact hf.1
  · split
    · exact ht.2
    · exact hf.2.1
theorem check_no {j : Jb} (h : mayJ j = false) : checkN j = 1 := by unfold checkN; rw [h]; rfl
theorem check_yes {j : Jb} (h : mayJ j = true) : checkN j = 0 := by unfold checkN; rw [h]; rfl
theorem in_of {n a b : Int} (h1 : decide (n < a) = false) (h2 : decide (b < n) = false) : inB n a b = true := by
  unfold inB
  rw [decide_eq_false_iff_not] at h1 h2
  rw [decide_eq_true (by omega), decide_eq_true (by omega)]
  rfl
theorem not_in_lo {n a b : Int} (h1 : decide (n < a) = true) : inB n a b = false := by
  unfold inB
  rw [decide_eq_true_eq] at h1
  rw [decide_eq_false (by omega)]
  rfl
theorem not_in_hi {n a b : Int} (h1 : decide (b < n) = true) : inB n a b = false := by
  unfold inB
  rw [decide_eq_true_eq] at h1
  rw [decide_eq_false (p := n ≤ b) (by omega), Bool.and_false]
theorem turn_ways (j : Jb) (ev t : Int) : (checkN j = 1 ∧ turnL j ev t = (noJb, 1)) ∨ (checkN j = 0 ∧ inB ev 1 6 = false ∧ turnL j ev t = (noJb, 1)) ∨ (checkN j = 0 ∧ inB ev 1 6 = true ∧ inB t j.sub 1125899906842624 = false ∧ turnL j ev t = (noJb, 1)) ∨
    (checkN j = 0 ∧ inB ev 1 6 = true ∧ inB t j.sub 1125899906842624 = true ∧ (0 ≤ j.state ∧ decide (ev < 1) = false ∧ decide (6 < ev) = false) ∧
      ((turnState j ev = true ∧ turnL j ev t = (noJb, 5)) ∨ (turnState j ev = false ∧ checkN (nextJ j ev t) = 1 ∧ turnL j ev t = (noJb, 1)) ∨ (turnState j ev = false ∧ checkN (nextJ j ev t) = 0 ∧ turnL j ev t = (nextJ j ev t, 0)))) := by
  rcases arg_ways j ev t with ⟨a1, h⟩ | ⟨a1, a2, h⟩ | ⟨a1, a2, a3, h⟩ | ⟨a1, a2, a3, a4, h⟩ | ⟨a1, a2, a3, a4, a5, h⟩ | ⟨a1, a2, a3, a4, a5, h⟩
  · exact .inl ⟨check_no a1, h⟩
  · exact .inr (.inl ⟨check_yes a1, not_in_lo a2, h⟩)
  · exact .inr (.inl ⟨check_yes a1, not_in_hi a3, h⟩)
  · exact .inr (.inr (.inl ⟨check_yes a1, in_of a2 a3, not_in_lo a4, h⟩))
  · exact .inr (.inr (.inl ⟨check_yes a1, in_of a2 a3, not_in_hi a5, h⟩))
  · refine .inr (.inr (.inr ⟨check_yes a1, in_of a2 a3, in_of a4 a5, ⟨(may_fin a1).2.2.2.2.1, a2, a3⟩, ?_⟩))
    cases hs : turnState j ev
    · rw [hs, if_neg (by decide)] at h
      cases hm : mayJ (nextJ j ev t)
      · rw [hm, if_neg (by decide)] at h
        exact .inr (.inl ⟨rfl, check_no hm, h⟩)
      · rw [hm, if_pos rfl] at h
        exact .inr (.inr ⟨rfl, check_yes hm, h⟩)
    · rw [hs, if_pos rfl] at h
      exact .inl ⟨rfl, h⟩
set_option maxRecDepth 100000 in
set_option maxHeartbeats 6400000 in
theorem turn_any (j : Jb) (ev t : Int) (w : World) (hf : Fit j) (ht : -9223372036854775808 ≤ t ∧ t ≤ 9223372036854775807) : Calls Tryd.prog 7 #[jobV j, .int .i64 ev, .int .i64 t] w (TurnIs j ev t w) := by
  have CC := Lib.hid (fun W => check_any j W hf)
  have CX := Lib.hid (fun (x : Jb) (h : Fit x) W => check_any x W h)
  have CA := Lib.hid (fun W h1 h2 h0 => after_any j ev t W h1 h2 h0)
  have HF := Lib.hid (next_fit (ev := ev) hf ht)
  have HH := Lib.hid (two_jobs w j 23)
  have hw := turn_ways j ev t
  clear hf ht
  unfold AfterIs at *
  unfold jobV jobA TurnIs at *
  rcases hw with ⟨a1, hb⟩ | ⟨a1, a2, hb⟩ | ⟨a1, a2, a3, hb⟩ | ⟨a1, a2, a3, ⟨h0, h1, h2⟩, hb⟩
  all_goals
    have HBB := Lib.hid hb
    rw [a1] at CC
    clear hb a1
    try
      have CA1 := Lib.hid (fun W => CA.out W h1 h2 h0)
      clear h0 h1 h2
    clear CA
    go_enter Tryd.func7, Tryd.ntmps7
    go_upto_region 1 with fail
    generalize ((w.alloc (.cells #[.int .i64 j.id, .string j.user, .int .i64 j.width, .int .i64 j.est, .int .i64 j.prio, .int .i64 j.sub, .int .i64 j.state, .int .i64 j.start, .int .i64 j.fin] 23)).alloc (.cells #[.int .i64 0, .string ⟨#[]⟩, .int .i64 0, .int .i64 0, .int .i64 0, .int .i64 0, .int .i64 0, .int .i64 0, .int .i64 0] 23)) = W at *
    have HX := Lib.hid HH.out.1
    have HZ := Lib.hid HH.out.2.1
    have HB := Lib.hid HH.out.2.2
    obtain ⟨y, y0, y1, y2, y3, y4, y5, y6, y7, y8, _, _, _, _, _, _, _, _, _⟩ := HX.out
    clear HH
  iterate 3
    · go_upto_region 2 with (first
        | (go_at_call 10; refine (CC.out _).mono ?_; rintro e w1 ⟨rfl, hb1⟩; have HB1 := Lib.hid (HB.out.trans (hb1.mono HB.out.size)); have HX1 := Lib.hid (HX.out.below hb1); have HZ1 := Lib.hid (HZ.out.below hb1); clear hb1 y y0 y1 y2 y3 y4 y5 y6 y7 y8; obtain ⟨x, x0, x1, x2, x3, x4, x5, x6, x7, x8, _, _, _, _, _, _, _, _, _⟩ := HX1.out)
        | (go_at_call 17; refine (within_any _ _ _ _).mono ?_; rintro e w1 ⟨rfl, rfl⟩))
      clear x x0 x1 x2 x3 x4 x5 x6 x7 x8
      obtain ⟨z, z0, z1, z2, z3, z4, z5, z6, z7, z8, z9, z10, z11, z12, z13, z14, z15, z16, z17⟩ := HZ1.out
      go_wp2_with fail
      change bodyPost _ _ _ Exit.ret _ (storedJ w1 (w.heap.size + 1) noJb)
      have HS := Lib.hid (HZ1.out.stored noJb)
      have HBS := Lib.hid (below_stored HB1.out (show w.heap.size ≤ w.heap.size + 1 by omega) noJb)
      generalize storedJ w1 (w.heap.size + 1) noJb = w9 at *
      clear z z0 z1 z2 z3 z4 z5 z6 z7 z8 z9 z10 z11 z12 z13 z14 z15 z16 z17
      obtain ⟨z, z0, z1, z2, z3, z4, z5, z6, z7, z8, z9, z10, z11, z12, z13, z14, z15, z16, z17⟩ := HS.out
      exact bodyPost_ret (v := .tuple #[jobV noJb, .int .i64 1]) (by simp [results, Tryd.results7, go_sem, z0, z1, z2, z3, z4, z5, z6, z7, z8, jobV, jobA]) rfl ⟨by rw [HBB.out], HBS.out⟩
  have HXF := Lib.hid (fun W (x : Jb) => JobBox.new W x 23)
  have HAW := Lib.hid HBB.out
  clear HBB
  go_upto_region 3 with (first
    | (go_at_call 10; refine (CC.out _).mono ?_; rintro e w1 ⟨rfl, hb1⟩; have HB1 := Lib.hid (HB.out.trans (hb1.mono HB.out.size)); have HX1 := Lib.hid (HX.out.below hb1); have HZ1 := Lib.hid (HZ.out.below hb1); clear hb1 y y0 y1 y2 y3 y4 y5 y6 y7 y8; obtain ⟨x, x0, x1, x2, x3, x4, x5, x6, x7, x8, _, _, _, _, _, _, _, _, _⟩ := HX1.out)
    | (go_at_call 17; refine (within_any _ _ _ _).mono ?_; rintro e w1 ⟨rfl, rfl⟩))
  clear a2 a3
  rcases HAW.out with ⟨hs, hb⟩ | ⟨hs, hc, hb⟩ | ⟨hs, hc, hb⟩
  all_goals
    have HBB := Lib.hid hb
    have HTS := Lib.hid hs
    rw [hs] at CA1
    clear hb hs HAW
    go_upto_region 4 with (go_at_call 18; refine (CA1.out _).mono ?_; rintro e w2 ⟨r, rfl, hr, hb2⟩; have HR := Lib.hid hr; have HB2 := Lib.hid (HB1.out.trans (hb2.mono HB1.out.size)); have HZ2 := Lib.hid (HZ1.out.below hb2); clear hb2 hr x x0 x1 x2 x3 x4 x5 x6 x7 x8)
    have HR3 := Lib.hid (HXF.out w2 r)
    have HZ3 := Lib.hid (HZ2.out.alloc (.cells #[.int .i64 r.id, .string r.user, .int .i64 r.width, .int .i64 r.est, .int .i64 r.prio, .int .i64 r.sub, .int .i64 r.state, .int .i64 r.start, .int .i64 r.fin] 23))
    have HB3 := Lib.hid (HB2.out.alloc HB2.out.size (.cells #[.int .i64 r.id, .string r.user, .int .i64 r.width, .int .i64 r.est, .int .i64 r.prio, .int .i64 r.sub, .int .i64 r.state, .int .i64 r.start, .int .i64 r.fin] 23))
    generalize w2.alloc (.cells #[.int .i64 r.id, .string r.user, .int .i64 r.width, .int .i64 r.est, .int .i64 r.prio, .int .i64 r.sub, .int .i64 r.state, .int .i64 r.start, .int .i64 r.fin] 23) = w3 at *
  · go_upto_region 5 with fail
    obtain ⟨z, z0, z1, z2, z3, z4, z5, z6, z7, z8, z9, z10, z11, z12, z13, z14, z15, z16, z17⟩ := HZ3.out
    go_wp2_with fail
    change bodyPost _ _ _ Exit.ret _ (storedJ w3 (w.heap.size + 1) noJb)
    have HS := Lib.hid (HZ3.out.stored noJb)
    have HBS := Lib.hid (below_stored HB3.out (show w.heap.size ≤ w.heap.size + 1 by omega) noJb)
    generalize storedJ w3 (w.heap.size + 1) noJb = w9 at *
    clear z z0 z1 z2 z3 z4 z5 z6 z7 z8 z9 z10 z11 z12 z13 z14 z15 z16 z17
    obtain ⟨z, z0, z1, z2, z3, z4, z5, z6, z7, z8, z9, z10, z11, z12, z13, z14, z15, z16, z17⟩ := HS.out
    exact bodyPost_ret (v := .tuple #[jobV noJb, .int .i64 5]) (by simp [results, Tryd.results7, go_sem, z0, z1, z2, z3, z4, z5, z6, z7, z8, jobV, jobA]) rfl ⟨by rw [HBB.out], HBS.out⟩
  all_goals
    have CR := Lib.hid (fun W => CX.out r (by rw [HR.out (by simp)]; exact HF.out) W)
    have HCR : Hid (checkN r = checkN (nextJ j ev t)) := Lib.hid (by rw [HR.out (by simp)])
    have hcr := HCR.out.trans hc
    rw [hcr] at CR
    clear hc HCR hcr CX
    go_upto_region 6 with fail
    obtain ⟨x, x0, x1, x2, x3, x4, x5, x6, x7, x8, _, _, _, _, _, _, _, _, _⟩ := HR3.out
  · go_upto_region 7 with (go_at_call 10; refine (CR.out _).mono ?_; rintro e w4 ⟨rfl, hb4⟩; have HB4 := Lib.hid (HB3.out.trans (hb4.mono HB3.out.size)); have HZ4 := Lib.hid (HZ3.out.below hb4); clear hb4 x x0 x1 x2 x3 x4 x5 x6 x7 x8)
    obtain ⟨z, z0, z1, z2, z3, z4, z5, z6, z7, z8, z9, z10, z11, z12, z13, z14, z15, z16, z17⟩ := HZ4.out
    go_wp2_with fail
    change bodyPost _ _ _ Exit.ret _ (storedJ w4 (w.heap.size + 1) noJb)
    have HS := Lib.hid (HZ4.out.stored noJb)
    have HBS := Lib.hid (below_stored HB4.out (show w.heap.size ≤ w.heap.size + 1 by omega) noJb)
    generalize storedJ w4 (w.heap.size + 1) noJb = w9 at *
    clear z z0 z1 z2 z3 z4 z5 z6 z7 z8 z9 z10 z11 z12 z13 z14 z15 z16 z17
    obtain ⟨z, z0, z1, z2, z3, z4, z5, z6, z7, z8, z9, z10, z11, z12, z13, z14, z15, z16, z17⟩ := HS.out
    exact bodyPost_ret (v := .tuple #[jobV noJb, .int .i64 1]) (by simp [results, Tryd.results7, go_sem, z0, z1, z2, z3, z4, z5, z6, z7, z8, jobV, jobA]) rfl ⟨by rw [HBB.out], HBS.out⟩
  · go_upto_region 8 with (go_at_call 10; refine (CR.out _).mono ?_; rintro e w4 ⟨rfl, hb4⟩; have HB4 := Lib.hid (HB3.out.trans (hb4.mono HB3.out.size)); have HZ4 := Lib.hid (HZ3.out.below hb4); have HR4 := Lib.hid (HR3.out.below hb4); clear hb4 x x0 x1 x2 x3 x4 x5 x6 x7 x8)
    obtain ⟨x, x0, x1, x2, x3, x4, x5, x6, x7, x8, _, _, _, _, _, _, _, _, _⟩ := HR4.out
    obtain ⟨z, z0, z1, z2, z3, z4, z5, z6, z7, z8, z9, z10, z11, z12, z13, z14, z15, z16, z17⟩ := HZ4.out
    go_wp2_with fail
    change bodyPost _ _ _ Exit.ret _ (storedJ w4 (w.heap.size + 1) r)
    have HS := Lib.hid (HZ4.out.stored r)
    have HBS := Lib.hid (below_stored HB4.out (show w.heap.size ≤ w.heap.size + 1 by omega) r)
    generalize storedJ w4 (w.heap.size + 1) r = w9 at *
    clear z z0 z1 z2 z3 z4 z5 z6 z7 z8 z9 z10 z11 z12 z13 z14 z15 z16 z17 x x0 x1 x2 x3 x4 x5 x6 x7 x8
    obtain ⟨z, z0, z1, z2, z3, z4, z5, z6, z7, z8, z9, z10, z11, z12, z13, z14, z15, z16, z17⟩ := HS.out
    exact bodyPost_ret (v := .tuple #[jobV r, .int .i64 0]) (by simp [results, Tryd.results7, go_sem, z0, z1, z2, z3, z4, z5, z6, z7, z8, jobV, jobA]) rfl ⟨by rw [HBB.out, HR.out (by simp)], HBS.out⟩
theorem nameS (s : ByteArray) (w : World) (hL : Lays w) (hs : s.size ≤ 9223372036854775807) : Calls Tryd.prog 13 #[.string s] w (BoolIs (nameB s) w) := name_range s w hs
theorem checkS (j : Jb) (w : World) (hL : Lays w) (hf : Fit j) : Calls Tryd.prog 10 #[jobV j] w (IntB (checkN j) w) := check_any j w hf
theorem turnS (j : Jb) (ev t : Int) (w : World) (hL : Lays w) (hf : Fit j) (ht : -9223372036854775808 ≤ t ∧ t ≤ 9223372036854775807) : Calls Tryd.prog 7 #[jobV j, .int .i64 ev, .int .i64 t] w (TurnIs j ev t w) := turn_any j ev t w hf ht
theorem liveS (j : Jb) (w : World) (hL : Lays w) (hf : Fit j) : Calls Tryd.prog 11 #[jobV j] w (BoolIs (liveB j) w) := live_any j w hf
theorem wordS (s : Int) (w : World) (hL : Lays w) : Calls Tryd.prog 15 #[.int .i64 s] w (StrB (wordL s) w) := word_any s w hL
theorem ranS (j : Jb) (t : Int) (w : World) (hL : Lays w) (hf : Fit j) (ht : -9223372036854775808 ≤ t ∧ t ≤ 9223372036854775807) : Calls Tryd.prog 16 #[jobV j, .int .i64 t] w (IntB (ranJ j t) w) := ran_any j t w hf ht
end Go.Proofs.YtclpbmhmfddifaaDoor.JobWalk
