/-
  The walks of layer 7's code: mayHaveRun, Check, Live.
-/
import Derived.Test.YtjegkddpaampmaaJobWalkA
namespace Go.Proofs.Ytjegkddpaampmaa.JobWalk
open Go.RowKit Go.Proofs.Ytjegkddpaampmaa.JobPlain Go.Proofs.Ytjegkddpaampmaa.Mem Go.Proofs.Ytjegkddpaampmaa.JobMem Go.Proofs.Ytjegkddpaampmaa.JobRef
/-- Which times a job of its state may have, as the code tests it. -/
theorem over_in {j : Jb} (hb : Base j) : overB j = (ranB j && inB j.fin j.start (j.start + j.est)) := by
  unfold overB inB
  rw [Bool.and_assoc]
  congr 2
  exact decide_eq_decide.2 (by omega)
theorem killed_in {j : Jb} (hb : Base j) : (overB j && (j.fin - j.start == j.est)) = (ranB j && (j.fin == j.start + j.est)) := by
  have h1 := hb.e1
  rw [Bool.eq_iff_iff]
  simp only [Bool.and_eq_true, beq_iff_eq, over_iff, ran_iff]
  omega
theorem ran_small {j : Jb} (hb : Base j) (h : ranB j = true) : 0 ≤ j.start ∧ j.start ≤ 1125899906842624 := by
  have h1 := hb.s1
  have h2 := (ran_iff j).1 h
  omega
theorem run_ways (j : Jb) (hb : Base j) : ((j.state == 0) = true ∧ stateB j = noneB j) ∨ ((j.state == 0) = false ∧ (j.state == 1) = true ∧ stateB j = noneB j) ∨
    ((j.state == 0) = false ∧ (j.state == 1) = false ∧ (j.state == 2) = true ∧ ranB j = false ∧ stateB j = false) ∨
    ((j.state == 0) = false ∧ (j.state == 1) = false ∧ (j.state == 2) = true ∧ ranB j = true ∧ stateB j = (j.fin == 0)) ∨
    ((j.state == 0) = false ∧ (j.state == 1) = false ∧ (j.state == 2) = false ∧ (j.state == 3) = true ∧ ranB j = false ∧ stateB j = false) ∨
    ((j.state == 0) = false ∧ (j.state == 1) = false ∧ (j.state == 2) = false ∧ (j.state == 3) = true ∧ ranB j = true ∧ stateB j = inB j.fin j.start (j.start + j.est)) ∨
    ((j.state == 0) = false ∧ (j.state == 1) = false ∧ (j.state == 2) = false ∧ (j.state == 3) = false ∧ (j.state == 4) = true ∧ ranB j = false ∧ stateB j = false) ∨
    ((j.state == 0) = false ∧ (j.state == 1) = false ∧ (j.state == 2) = false ∧ (j.state == 3) = false ∧ (j.state == 4) = true ∧ ranB j = true ∧ stateB j = (j.fin == j.start + j.est)) ∨
    ((j.state == 0) = false ∧ (j.state == 1) = false ∧ (j.state == 2) = false ∧ (j.state == 3) = false ∧ (j.state == 4) = false ∧ (j.state == 5) = true ∧ noneB j = true ∧ stateB j = true) ∨
    ((j.state == 0) = false ∧ (j.state == 1) = false ∧ (j.state == 2) = false ∧ (j.state == 3) = false ∧ (j.state == 4) = false ∧ (j.state == 5) = true ∧ noneB j = false ∧ ranB j = false ∧ stateB j = false) ∨
    ((j.state == 0) = false ∧ (j.state == 1) = false ∧ (j.state == 2) = false ∧ (j.state == 3) = false ∧ (j.state == 4) = false ∧ (j.state == 5) = true ∧ noneB j = false ∧ ranB j = true ∧ stateB j = inB j.fin j.start (j.start + j.est)) ∨
    ((j.state == 0) = false ∧ (j.state == 1) = false ∧ (j.state == 2) = false ∧ (j.state == 3) = false ∧ (j.state == 4) = false ∧ (j.state == 5) = false ∧ stateB j = false) := by
  have h3 := over_in hb
  have h4 := killed_in hb
  rcases switch_ways j with h | ⟨s0, h⟩ | ⟨s0, s1, s2, h⟩ | ⟨s0, s1, s2, s3, h⟩ | ⟨s0, s1, s2, s3, s4, h⟩ | ⟨s0, s1, s2, s3, s4, s5, h⟩ | h
  · exact .inl h
  · exact .inr (.inl ⟨s0, h⟩)
  · cases hr : ranB j
    · exact .inr (.inr (.inl ⟨s0, s1, s2, rfl, by rw [h, hr]; rfl⟩))
    · exact .inr (.inr (.inr (.inl ⟨s0, s1, s2, rfl, by rw [h, hr]; rfl⟩)))
  · rw [h3] at h
    cases hr : ranB j
    · exact .inr (.inr (.inr (.inr (.inl ⟨s0, s1, s2, s3, rfl, by rw [h, hr]; rfl⟩))))
    · exact .inr (.inr (.inr (.inr (.inr (.inl ⟨s0, s1, s2, s3, rfl, by rw [h, hr]; rfl⟩)))))
  · rw [h4] at h
    cases hr : ranB j
    · exact .inr (.inr (.inr (.inr (.inr (.inr (.inl ⟨s0, s1, s2, s3, s4, rfl, by rw [h, hr]; rfl⟩))))))
    · exact .inr (.inr (.inr (.inr (.inr (.inr (.inr (.inl ⟨s0, s1, s2, s3, s4, rfl, by rw [h, hr]; rfl⟩)))))))
  · rw [h3] at h
    cases hn : noneB j
    · cases hr : ranB j
      · exact .inr (.inr (.inr (.inr (.inr (.inr (.inr (.inr (.inr (.inl ⟨s0, s1, s2, s3, s4, s5, rfl, rfl, by rw [h, hn, hr]; rfl⟩)))))))))
      · exact .inr (.inr (.inr (.inr (.inr (.inr (.inr (.inr (.inr (.inr (.inl ⟨s0, s1, s2, s3, s4, s5, rfl, rfl, by rw [h, hn, hr]; rfl⟩))))))))))
    · exact .inr (.inr (.inr (.inr (.inr (.inr (.inr (.inr (.inl ⟨s0, s1, s2, s3, s4, s5, rfl, by rw [h, hn]; rfl⟩))))))))
  · exact .inr (.inr (.inr (.inr (.inr (.inr (.inr (.inr (.inr (.inr (.inr h))))))))))
set_option maxRecDepth 100000 in
set_option maxHeartbeats 6400000 in
theorem haveRun_any (j : Jb) (w : World) (hb : Base j) : Calls Try.prog 42 #[jobV j] w (BoolIs (stateB j) w) := by
  have HX := Lib.hid (JobBox.new w j 28)
  have HB := Lib.hid ((Below.refl w.heap.size w).alloc (Nat.le_refl _) (.cells #[.int .i64 j.id, .string j.user, .int .i64 j.width, .int .i64 j.est, .int .i64 j.prio, .int .i64 j.sub, .int .i64 j.state, .int .i64 j.start, .int .i64 j.fin] 28))
  have CN := Lib.hid (fun W => hasNo_any j W)
  have CS := Lib.hid (fun W => mayStart_any j W)
  have CE := Lib.hid (fun W (h : ranB j = true) => mayEnd_any j W (ran_small hb h).1 (ran_small hb h).2 hb.e1 hb.e2)
  have HS := Lib.hid (fun h => ran_small hb h)
  have e1 := hb.e1
  have e2 := hb.e2
  have hw := run_ways j hb
  clear hb
  unfold jobV jobA at *
  rcases hw with ⟨s0, h⟩ | ⟨s0, s1, h⟩ | ⟨s0, s1, s2, r, h⟩ | ⟨s0, s1, s2, r, h⟩ | ⟨s0, s1, s2, s3, r, h⟩ | ⟨s0, s1, s2, s3, r, h⟩ | ⟨s0, s1, s2, s3, s4, r, h⟩ | ⟨s0, s1, s2, s3, s4, r, h⟩ | ⟨s0, s1, s2, s3, s4, s5, r, h⟩ | ⟨s0, s1, s2, s3, s4, s5, n, r, h⟩ | ⟨s0, s1, s2, s3, s4, s5, n, r, h⟩ | ⟨s0, s1, s2, s3, s4, s5, h⟩
  all_goals
    have HBB := Lib.hid h
    clear h
    try
      have CE1 := Lib.hid (fun W => CE.out W r)
      have hs1 := (HS.out r).1
      have hs2 := (HS.out r).2
    clear CE HS
    go_enter Try.func42, Try.ntmps42
    go_upto_region 1 with fail
    obtain ⟨y, y0, y1, y2, y3, y4, y5, y6, y7, y8, _, _, _, _, _, _, _, _, _⟩ := HX.out
    generalize w.alloc (.cells #[.int .i64 j.id, .string j.user, .int .i64 j.width, .int .i64 j.est, .int .i64 j.prio, .int .i64 j.sub, .int .i64 j.state, .int .i64 j.start, .int .i64 j.fin] 28) = W at *
    go_wp2_with (first
      | (go_at_call 55; refine (CN.out _).mono ?_; rintro e w1 ⟨rfl, hb1⟩; replace HB := Lib.hid (HB.out.trans (hb1.mono HB.out.size)); replace HX := Lib.hid (HX.out.below hb1); clear hb1 y y0 y1 y2 y3 y4 y5 y6 y7 y8; obtain ⟨y, y0, y1, y2, y3, y4, y5, y6, y7, y8, _, _, _, _, _, _, _, _, _⟩ := HX.out)
      | (go_at_call 56; refine (CS.out _).mono ?_; rintro e w1 ⟨rfl, hb1⟩; replace HB := Lib.hid (HB.out.trans (hb1.mono HB.out.size)); replace HX := Lib.hid (HX.out.below hb1); clear hb1 y y0 y1 y2 y3 y4 y5 y6 y7 y8; obtain ⟨y, y0, y1, y2, y3, y4, y5, y6, y7, y8, _, _, _, _, _, _, _, _, _⟩ := HX.out)
      | (go_at_call 57; refine (CE1.out _).mono ?_; rintro e w1 ⟨rfl, hb1⟩; replace HB := Lib.hid (HB.out.trans (hb1.mono HB.out.size)); replace HX := Lib.hid (HX.out.below hb1); clear hb1 y y0 y1 y2 y3 y4 y5 y6 y7 y8; obtain ⟨y, y0, y1, y2, y3, y4, y5, y6, y7, y8, _, _, _, _, _, _, _, _, _⟩ := HX.out))
    go_ret
    exact ⟨by rw [HBB.out]; rfl, HB.out⟩
set_option maxRecDepth 100000 in
set_option maxHeartbeats 3200000 in
theorem check_any (j : Jb) (w : World) (hf : Fit j) : Calls Try.prog 24 #[jobV j] w (IntB (checkN j) w) := by
  have HX := Lib.hid (JobBox.new w j 28)
  have HB := Lib.hid ((Below.refl w.heap.size w).alloc (Nat.le_refl _) (.cells #[.int .i64 j.id, .string j.user, .int .i64 j.width, .int .i64 j.est, .int .i64 j.prio, .int .i64 j.sub, .int .i64 j.state, .int .i64 j.start, .int .i64 j.fin] 28))
  have CA := Lib.hid (fun W => asked_any j W hf)
  have CR := Lib.hid (fun W (h : baseB j = true) => haveRun_any j W ((base_iff j).1 h))
  have hw : (baseB j = false ∧ checkN j = 1) ∨ (baseB j = true ∧ stateB j = false ∧ checkN j = 1) ∨ (baseB j = true ∧ stateB j = true ∧ checkN j = 0) := by
    unfold checkN mayJ
    cases baseB j <;> cases stateB j <;> simp
  clear hf
  unfold jobV jobA at *
  rcases hw with ⟨r, h⟩ | ⟨r, s, h⟩ | ⟨r, s, h⟩
  all_goals
    have HBB := Lib.hid h
    clear h
    try have CR1 := Lib.hid (fun W => CR.out W r)
    clear CR
    go_enter Try.func24, Try.ntmps24
    go_upto_region 1 with fail
    obtain ⟨y, y0, y1, y2, y3, y4, y5, y6, y7, y8, _, _, _, _, _, _, _, _, _⟩ := HX.out
    generalize w.alloc (.cells #[.int .i64 j.id, .string j.user, .int .i64 j.width, .int .i64 j.est, .int .i64 j.prio, .int .i64 j.sub, .int .i64 j.state, .int .i64 j.start, .int .i64 j.fin] 28) = W at *
    go_wp2_with (first
      | (go_at_call 41; refine (CA.out _).mono ?_; rintro e w1 ⟨rfl, hb1⟩; replace HB := Lib.hid (HB.out.trans (hb1.mono HB.out.size)); replace HX := Lib.hid (HX.out.below hb1); clear hb1 y y0 y1 y2 y3 y4 y5 y6 y7 y8; obtain ⟨y, y0, y1, y2, y3, y4, y5, y6, y7, y8, _, _, _, _, _, _, _, _, _⟩ := HX.out)
      | (go_at_call 42; refine (CR1.out _).mono ?_; rintro e w1 ⟨rfl, hb1⟩; replace HB := Lib.hid (HB.out.trans (hb1.mono HB.out.size)); replace HX := Lib.hid (HX.out.below hb1); clear hb1 y y0 y1 y2 y3 y4 y5 y6 y7 y8; obtain ⟨y, y0, y1, y2, y3, y4, y5, y6, y7, y8, _, _, _, _, _, _, _, _, _⟩ := HX.out))
    go_ret
    exact ⟨by rw [HBB.out]; rfl, HB.out⟩
theorem live_st {j : Jb} (h : mayJ j = true) : liveB j = liveSt j.state := by
  unfold liveB liveSt
  rw [h]
  obtain ⟨_, _, _, _, h5, h6, _⟩ := may_fin h
  rw [Bool.eq_iff_iff]
  simp only [Bool.true_and, decide_eq_true_eq, Bool.or_eq_true, beq_iff_eq]
  omega
set_option maxHeartbeats 3200000 in
theorem live_any (j : Jb) (w : World) (hf : Fit j) : Calls Try.prog 38 #[jobV j] w (BoolIs (liveB j) w) := by
  have HX := Lib.hid (JobBox.new w j 28)
  have HB := Lib.hid ((Below.refl w.heap.size w).alloc (Nat.le_refl _) (.cells #[.int .i64 j.id, .string j.user, .int .i64 j.width, .int .i64 j.est, .int .i64 j.prio, .int .i64 j.sub, .int .i64 j.state, .int .i64 j.start, .int .i64 j.fin] 28))
  have CC := Lib.hid (fun W => check_any j W hf)
  have hw : (checkN j = 1 ∧ liveB j = false) ∨ (checkN j = 0 ∧ liveB j = liveSt j.state) := by
    cases hm : mayJ j
    · exact .inl ⟨by unfold checkN; rw [hm]; rfl, by unfold liveB; rw [hm]; rfl⟩
    · exact .inr ⟨by unfold checkN; rw [hm]; rfl, live_st hm⟩
  clear hf
  unfold jobV jobA at *
  rcases hw with ⟨r, h⟩ | ⟨r, h⟩
  all_goals
    have HBB := Lib.hid h
    rw [r] at CC
    clear h r
    go_enter Try.func38, Try.ntmps38
    go_upto_region 1 with fail
    obtain ⟨y, y0, y1, y2, y3, y4, y5, y6, y7, y8, _, _, _, _, _, _, _, _, _⟩ := HX.out
    generalize w.alloc (.cells #[.int .i64 j.id, .string j.user, .int .i64 j.width, .int .i64 j.est, .int .i64 j.prio, .int .i64 j.sub, .int .i64 j.state, .int .i64 j.start, .int .i64 j.fin] 28) = W at *
    go_wp2_with (first
      | (go_at_call 24; refine (CC.out _).mono ?_; rintro e w1 ⟨rfl, hb1⟩; replace HB := Lib.hid (HB.out.trans (hb1.mono HB.out.size)); replace HX := Lib.hid (HX.out.below hb1); clear hb1 y y0 y1 y2 y3 y4 y5 y6 y7 y8; obtain ⟨y, y0, y1, y2, y3, y4, y5, y6, y7, y8, _, _, _, _, _, _, _, _, _⟩ := HX.out)
      | (go_at_call 52; refine (isLive_any _ _).mono ?_; rintro e w1 ⟨rfl, rfl⟩))
    go_ret
    exact ⟨by rw [HBB.out]; rfl, HB.out⟩
end Go.Proofs.Ytjegkddpaampmaa.JobWalk
