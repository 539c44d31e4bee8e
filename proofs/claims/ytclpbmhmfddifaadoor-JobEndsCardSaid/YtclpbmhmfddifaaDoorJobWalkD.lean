/-
  The walks of layer 7's code: Ran, Word.
-/
import Derived.Test.YtclpbmhmfddifaaDoorJobWalkB
namespace Go.Proofs.YtclpbmhmfddifaaDoor.JobWalk
open Go.RowKit Go.Proofs.YtclpbmhmfddifaaDoor.JobPlain Go.Proofs.YtclpbmhmfddifaaDoor.Mem Go.Proofs.YtclpbmhmfddifaaDoor.JobMem Go.Proofs.YtclpbmhmfddifaaDoor.JobRef
theorem ran_min (j : Jb) (t : Int) : ranL j t = if min (endJ j) t ≤ j.start then 0 else min (endJ j) t - j.start := by
  have h : (if endJ j < t then endJ j else t) = min (endJ j) t := by split <;> omega
  unfold ranL
  rw [h]
theorem ran_ways2 (j : Jb) (t : Int) : (checkN j = 1 ∧ ranJ j t = 0) ∨ (checkN j = 0 ∧ decide (t ≤ j.start) = true ∧ ranJ j t = 0) ∨
    (checkN j = 0 ∧ decide (t ≤ j.start) = false ∧ mayJ j = true ∧ (j.state == 2) = true ∧ ranJ j t = min (j.start + j.est) t - j.start) ∨
    (checkN j = 0 ∧ decide (t ≤ j.start) = false ∧ mayJ j = true ∧ (j.state == 2) = false ∧ ranJ j t = min j.fin t - j.start) := by
  unfold ranJ checkN
  cases hm : mayJ j with
  | false => exact .inl ⟨by simp, by simp⟩
  | true =>
    have hb := may_base hm
    have e1 := hb.e1
    have hs := may_state hm
    by_cases h1 : t ≤ j.start
    · refine .inr (.inl ⟨by simp, decide_eq_true h1, ?_⟩)
      rw [if_pos rfl, ran_min, if_pos (by omega)]
    · cases h2 : (j.state == 2)
      · refine .inr (.inr (.inr ⟨by simp, decide_eq_false h1, rfl, rfl, ?_⟩))
        have hne : ¬ j.state = 2 := by simpa using h2
        have he : endJ j = j.fin := by unfold endJ; rw [if_neg hne]
        rw [if_pos rfl, ran_min, he]
        have hfs : j.start ≤ j.fin := by rcases state_ways hs with ⟨a, b⟩ | ⟨a, b, c⟩ | ⟨a, b, c⟩ | ⟨a, b, c⟩ | ⟨a, b | ⟨b, c⟩⟩ <;> omega
        by_cases h3 : min j.fin t ≤ j.start
        · rw [if_pos h3]; omega
        · rw [if_neg h3]
      · refine .inr (.inr (.inl ⟨by simp, decide_eq_false h1, rfl, rfl, ?_⟩))
        have he : endJ j = j.start + j.est := by unfold endJ; rw [if_pos (by simpa using h2)]
        rw [if_pos rfl, ran_min, he, if_neg (by omega)]
set_option maxRecDepth 100000 in
set_option maxHeartbeats 3200000 in
theorem ran_any (j : Jb) (t : Int) (w : World) (hf : Fit j) (ht : -9223372036854775808 ≤ t ∧ t ≤ 9223372036854775807) : Calls Tryd.prog 16 #[jobV j, .int .i64 t] w (IntB (ranJ j t) w) := by
  have HX := Lib.hid (JobBox.new w j 23)
  have HB := Lib.hid ((Below.refl w.heap.size w).alloc (Nat.le_refl _) (.cells #[.int .i64 j.id, .string j.user, .int .i64 j.width, .int .i64 j.est, .int .i64 j.prio, .int .i64 j.sub, .int .i64 j.state, .int .i64 j.start, .int .i64 j.fin] 23))
  have CC := Lib.hid (fun W => check_any j W hf)
  obtain ⟨ht1, ht2⟩ := ht
  have hw := ran_ways2 j t
  clear hf
  unfold jobV jobA at *
  rcases hw with ⟨r, h⟩ | ⟨r, h1, h⟩ | ⟨r, h1, hm, h2, h⟩ | ⟨r, h1, hm, h2, h⟩
  iterate 2
    · have HBB := Lib.hid h
      rw [r] at CC
      clear h r
      go_enter Tryd.func16, Tryd.ntmps16
      go_upto_region 1 with fail
      obtain ⟨y, y0, y1, y2, y3, y4, y5, y6, y7, y8, _, _, _, _, _, _, _, _, _⟩ := HX.out
      generalize w.alloc (.cells #[.int .i64 j.id, .string j.user, .int .i64 j.width, .int .i64 j.est, .int .i64 j.prio, .int .i64 j.sub, .int .i64 j.state, .int .i64 j.start, .int .i64 j.fin] 23) = W at *
      go_wp2_with (go_at_call 10; refine (CC.out _).mono ?_; rintro e w1 ⟨rfl, hb1⟩; replace HB := Lib.hid (HB.out.trans (hb1.mono HB.out.size)); replace HX := Lib.hid (HX.out.below hb1); clear hb1 y y0 y1 y2 y3 y4 y5 y6 y7 y8; obtain ⟨y, y0, y1, y2, y3, y4, y5, y6, y7, y8, _, _, _, _, _, _, _, _, _⟩ := HX.out)
      go_ret
      exact ⟨by rw [HBB.out]; rfl, HB.out⟩
  all_goals
    have HBB := Lib.hid h
    rw [r] at CC
    obtain ⟨f1, f2, f3, f4, f5, f6, f7⟩ := may_fin hm
    have hb := may_base hm
    have e1 := hb.e1
    have e2 := hb.e2
    have h5 : j.start < t := by have := of_decide_eq_false h1; omega
    clear h r hm hb
    go_enter Tryd.func16, Tryd.ntmps16
    go_upto_region 1 with fail
    obtain ⟨y, y0, y1, y2, y3, y4, y5, y6, y7, y8, _, _, _, _, _, _, _, _, _⟩ := HX.out
    generalize w.alloc (.cells #[.int .i64 j.id, .string j.user, .int .i64 j.width, .int .i64 j.est, .int .i64 j.prio, .int .i64 j.sub, .int .i64 j.state, .int .i64 j.start, .int .i64 j.fin] 23) = W at *
    go_upto_region 6 with (go_at_call 10; refine (CC.out _).mono ?_; rintro e w1 ⟨rfl, hb1⟩; replace HB := Lib.hid (HB.out.trans (hb1.mono HB.out.size)); replace HX := Lib.hid (HX.out.below hb1); clear hb1 y y0 y1 y2 y3 y4 y5 y6 y7 y8; obtain ⟨y, y0, y1, y2, y3, y4, y5, y6, y7, y8, _, _, _, _, _, _, _, _, _⟩ := HX.out)
  · have hx : ∃ X : Int, min (j.start + j.est) t = X ∧ ((j.start + j.est ≤ t ∧ X = j.start + j.est) ∨ (t < j.start + j.est ∧ X = t)) := ⟨_, rfl, by omega⟩
    obtain ⟨X, hX, hx⟩ := hx
    have HR : Hid (ranJ j t = X - j.start) := Lib.hid (by rw [HBB.out, hX])
    clear hX
    rcases hx with ⟨h3, rfl⟩ | ⟨h3, rfl⟩
    all_goals
      go_wp2_with fail
      go_ret
      exact ⟨by rw [HR.out]; rfl, HB.out⟩
  · have hx : ∃ X : Int, min j.fin t = X ∧ ((j.fin ≤ t ∧ X = j.fin) ∨ (t < j.fin ∧ X = t)) := ⟨_, rfl, by omega⟩
    obtain ⟨X, hX, hx⟩ := hx
    have HR : Hid (ranJ j t = X - j.start) := Lib.hid (by rw [HBB.out, hX])
    clear hX
    rcases hx with ⟨h3, rfl⟩ | ⟨h3, rfl⟩
    all_goals
      go_wp2_with fail
      go_ret
      exact ⟨by rw [HR.out]; rfl, HB.out⟩
theorem wordl_no {s : Int} (h : s < 0 ∨ 6 ≤ s) : wordL s = ⟨#[]⟩ := by
  unfold wordL
  rw [if_neg (by omega), if_neg (by omega), if_neg (by omega), if_neg (by omega), if_neg (by omega), if_neg (by omega)]
theorem word_any (s : Int) (w : World) (hL : Lays w) : Calls Tryd.prog 15 #[.int .i64 s] w (StrB (wordL s) w) := by
  have hw : (inB s 0 5 = false ∧ wordL s = ⟨#[]⟩) ∨ (s = 0 ∨ s = 1 ∨ s = 2 ∨ s = 3 ∨ s = 4 ∨ s = 5) := by
    by_cases h1 : 0 ≤ s ∧ s ≤ 5
    · exact .inr (by omega)
    · exact .inl ⟨by unfold inB; rw [Bool.and_eq_false_iff, decide_eq_false_iff_not, decide_eq_false_iff_not]; omega, wordl_no (by omega)⟩
  have k0 := hL.2 0 (by decide)
  have k1 := hL.2 1 (by decide)
  have k2 := hL.2 2 (by decide)
  have k3 := hL.2 3 (by decide)
  have k4 := hL.2 4 (by decide)
  have k5 := hL.2 5 (by decide)
  rcases hw with ⟨h1, h2⟩ | rfl | rfl | rfl | rfl | rfl | rfl
  · have HR := Lib.hid h2
    clear h2
    go_enter Tryd.func15, Tryd.ntmps15
    go_wp2_with (go_at_call 17; refine (within_any _ _ _ _).mono ?_; rintro e w1 ⟨rfl, rfl⟩)
    go_ret
    exact ⟨by rw [HR.out]; rfl, Below.refl _ _⟩
  all_goals
    have C := Lib.hid (fun n (h : inB n 0 5 = true) => (within_any n 0 5 w).mono (fun e w2 q => (show e = .returned (.bool true) ∧ w = w2 from ⟨q.1.trans (by rw [h]), q.2⟩)))
    go_enter Tryd.func15, Tryd.ntmps15
    go_wp2_with (go_at_call 17; refine (C.out _ rfl).mono ?_; rintro e w1 ⟨rfl, rfl⟩)
    go_ret
    exact ⟨rfl, Below.refl _ _⟩
end Go.Proofs.YtclpbmhmfddifaaDoor.JobWalk
