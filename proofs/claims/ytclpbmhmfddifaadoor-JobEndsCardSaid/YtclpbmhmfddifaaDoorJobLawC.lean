/-
  The walks of the statements of layer 7: JobTells.
-/
import Derived.Test.YtclpbmhmfddifaaDoorJobLawB
namespace Go.Proofs.YtclpbmhmfddifaaDoor.JobWalk
open Go.RowKit Go.Proofs.YtclpbmhmfddifaaDoor.JobPlain Go.Proofs.YtclpbmhmfddifaaDoor.Mem Go.Proofs.YtclpbmhmfddifaaDoor.JobMem Go.Proofs.YtclpbmhmfddifaaDoor.JobRef
theorem word_ways (s : Int) : (decide (0 ≤ s) = false ∧ wordL s = ⟨#[]⟩) ∨ (decide (0 ≤ s) = true ∧ decide (s < 6) = false ∧ wordL s = ⟨#[]⟩) ∨ (s = 0 ∨ s = 1 ∨ s = 2 ∨ s = 3 ∨ s = 4 ∨ s = 5) := by
  by_cases h1 : 0 ≤ s
  · by_cases h2 : s < 6
    · exact .inr (.inr (by omega))
    · refine .inr (.inl ⟨decide_eq_true h1, decide_eq_false h2, ?_⟩)
      unfold wordL
      rw [if_neg (by omega), if_neg (by omega), if_neg (by omega), if_neg (by omega), if_neg (by omega), if_neg (by omega)]
  · refine .inl ⟨decide_eq_false h1, ?_⟩
    unfold wordL
    rw [if_neg (by omega), if_neg (by omega), if_neg (by omega), if_neg (by omega), if_neg (by omega), if_neg (by omega)]
theorem w0 : wordL 0 = ⟨#[104, 101, 108, 100]⟩ := by kernel_rfl
theorem w1 : wordL 1 = ⟨#[113, 117, 101, 117, 101, 100]⟩ := by kernel_rfl
theorem w2 : wordL 2 = ⟨#[114, 117, 110, 110, 105, 110, 103]⟩ := by kernel_rfl
theorem w3 : wordL 3 = ⟨#[100, 111, 110, 101]⟩ := by kernel_rfl
theorem w4 : wordL 4 = ⟨#[107, 105, 108, 108, 101, 100]⟩ := by kernel_rfl
theorem w5 : wordL 5 = ⟨#[99, 97, 110, 99, 101, 108, 108, 101, 100]⟩ := by kernel_rfl
theorem below_al {B : Nat} {a w : World} (h : Below B a w) (hB : B ≤ a.heap.size) (o : Obj) : Below B a (w.alloc o) := h.alloc (Nat.le_trans hB h.size) o
/-- How the words' slice is passed: the world behind it. -/
theorem words_box {w W : World} {n : Nat} {j : Jb} (h : JobBox W n j) (hB : Below w.heap.size w W) (o : Obj) : JobBox (W.alloc o) n j ∧ Below w.heap.size w (W.alloc o) := ⟨h.alloc o, hB.alloc hB.size o⟩
set_option maxRecDepth 100000 in
set_option maxHeartbeats 6400000 in
theorem tells_any (j : Jb) (s : ByteArray) (t : Int) (w : World) (hL : Lays w) (hf : Fit j) (hs : s.size ≤ 9223372036854775807) (ht : -9223372036854775808 ≤ t ∧ t ≤ 9223372036854775807) : Calls Tryd.prog 4 #[jobV j, .string s, .int .i64 t] w (TrueIs w) := by
  have HX0 := Lib.hid (JobBox.new w j 23)
  have HB0 := Lib.hid ((Below.refl w.heap.size w).alloc (Nat.le_refl _) (.cells #[.int .i64 j.id, .string j.user, .int .i64 j.width, .int .i64 j.est, .int .i64 j.prio, .int .i64 j.sub, .int .i64 j.state, .int .i64 j.start, .int .i64 j.fin] 23))
  have HAW := Lib.hid (fun W (h : Below w.heap.size w W) => awake7 W (hL.below h))
  have RM := Lib.hid (fun W => may7 j W hf)
  have RR := Lib.hid (fun W (h : mayJ j = true) => ran7 j t W h)
  have CN := Lib.hid (fun W (h : Below w.heap.size w W) => nameS s W (hL.below h) hs)
  have RN := Lib.hid (fun W => name7 s W hs)
  have CW := Lib.hid (fun W (h : Below w.heap.size w W) => wordS j.state W (hL.below h))
  have CR := Lib.hid (fun W (h : Below w.heap.size w W) => ranS j t W (hL.below h) hf ht)
  have hrj : (mayJ j = false ∧ ranJ j t = 0) ∨ (mayJ j = true ∧ ranJ j t = ranL j t) := by
    unfold ranJ
    cases mayJ j with
    | false => exact .inl ⟨rfl, rfl⟩
    | true => exact .inr ⟨rfl, rfl⟩
  have hww := word_ways j.state
  generalize nameB s = NB at *
  generalize ranL j t = RL at *
  generalize ranJ j t = RJ at *
  generalize mayJ j = M at *
  obtain ⟨id, user, width, est, prio, sub, st, start, fin⟩ := j
  unfold jobV jobA at *
  dsimp only at *
  by_cases h1 : s.size ≤ 100 ∧ user.size ≤ 100
  · have d1 : decide ((100 : Int) < (s.size : Int)) = false := by rw [decide_eq_false_iff_not]; omega
    have d2 : decide ((100 : Int) < (user.size : Int)) = false := by rw [decide_eq_false_iff_not]; omega
    have d3 : (RL == RL) = true := by simp
    have d4 : (NB == NB) = true := by simp
    clear ht hf hL hs
    rcases hww with ⟨s1, hw⟩ | ⟨s1, s2, hw⟩ | rfl | rfl | rfl | rfl | rfl | rfl
    all_goals
      try rw [hw] at CW
      try clear hw
      try (first | rw [w0] at CW | rw [w1] at CW | rw [w2] at CW | rw [w3] at CW | rw [w4] at CW | rw [w5] at CW)
      rcases hrj with ⟨rfl, rfl⟩ | ⟨rfl, rfl⟩
      · go_enter Tryd.func4, Tryd.ntmps4
        go_upto_region 1 with fail
        have HX1 := HX0
        have HB1 := HB0
        clear HX0 HB0
        generalize w.alloc (.cells #[.int .i64 id, .string user, .int .i64 width, .int .i64 est, .int .i64 prio, .int .i64 sub, .int .i64 _, .int .i64 start, .int .i64 fin] 23) = W0 at *
        obtain ⟨y, y0, y1, y2, y3, y4, y5, y6, y7, y8, _, _, _, _, _, _, _, _, _⟩ := HX1.out
        dsimp only at y0 y1 y2 y3 y4 y5 y6 y7 y8
        go_upto_region 7 with fail
        have HX2 := Lib.hid (HX1.out.alloc (.cells #[.string ⟨#[104, 101, 108, 100]⟩, .string ⟨#[113, 117, 101, 117, 101, 100]⟩, .string ⟨#[114, 117, 110, 110, 105, 110, 103]⟩, .string ⟨#[100, 111, 110, 101]⟩, .string ⟨#[107, 105, 108, 108, 101, 100]⟩, .string ⟨#[99, 97, 110, 99, 101, 108, 108, 101, 100]⟩] 9))
        have HB2 := Lib.hid (HB1.out.alloc HB1.out.size (.cells #[.string ⟨#[104, 101, 108, 100]⟩, .string ⟨#[113, 117, 101, 117, 101, 100]⟩, .string ⟨#[114, 117, 110, 110, 105, 110, 103]⟩, .string ⟨#[100, 111, 110, 101]⟩, .string ⟨#[107, 105, 108, 108, 101, 100]⟩, .string ⟨#[99, 97, 110, 99, 101, 108, 108, 101, 100]⟩] 9))
        generalize W0.alloc (.cells #[.string ⟨#[104, 101, 108, 100]⟩, .string ⟨#[113, 117, 101, 117, 101, 100]⟩, .string ⟨#[114, 117, 110, 110, 105, 110, 103]⟩, .string ⟨#[100, 111, 110, 101]⟩, .string ⟨#[107, 105, 108, 108, 101, 100]⟩, .string ⟨#[99, 97, 110, 99, 101, 108, 108, 101, 100]⟩] 9) = w2 at *
        clear HX1 HB1 y y0 y1 y2 y3 y4 y5 y6 y7 y8
        obtain ⟨y, y0, y1, y2, y3, y4, y5, y6, y7, y8, _, _, _, _, _, _, _, _, _⟩ := HX2.out
        dsimp only at y0 y1 y2 y3 y4 y5 y6 y7 y8
        go_wp2_with fail
        refine (RM.out _).mono ?_
        rintro e w3 ⟨rfl, hb3⟩
        have HX3 := Lib.hid (HX2.out.below hb3)
        have HB3 := Lib.hid (below_then HB2.out hb3)
        clear hb3 HX2 HB2 y y0 y1 y2 y3 y4 y5 y6 y7 y8
        obtain ⟨y, y0, y1, y2, y3, y4, y5, y6, y7, y8, _, _, _, _, _, _, _, _, _⟩ := HX3.out
        dsimp only at y0 y1 y2 y3 y4 y5 y6 y7 y8
        go_wp2_with fail
        refine (CN.out _ HB3.out).mono ?_
        rintro e w4 ⟨rfl, hb4⟩
        have HX4 := Lib.hid (HX3.out.below hb4)
        have HB4 := Lib.hid (below_then HB3.out hb4)
        clear hb4 HX3 HB3 y y0 y1 y2 y3 y4 y5 y6 y7 y8
        obtain ⟨y, y0, y1, y2, y3, y4, y5, y6, y7, y8, _, _, _, _, _, _, _, _, _⟩ := HX4.out
        dsimp only at y0 y1 y2 y3 y4 y5 y6 y7 y8
        go_wp2_with fail
        refine (RN.out _).mono ?_
        rintro e w5 ⟨rfl, rfl⟩
        go_wp2_with fail
        refine (CW.out _ HB4.out).mono ?_
        rintro e w6 ⟨rfl, hb6⟩
        have HX6 := Lib.hid (HX4.out.below hb6)
        have HB6 := Lib.hid (below_then HB4.out hb6)
        clear hb6 HX4 HB4 y y0 y1 y2 y3 y4 y5 y6 y7 y8
        obtain ⟨y, y0, y1, y2, y3, y4, y5, y6, y7, y8, _, _, _, _, _, _, _, _, _⟩ := HX6.out
        dsimp only at y0 y1 y2 y3 y4 y5 y6 y7 y8
        go_wp2_with fail
        refine (CR.out _ HB6.out).mono ?_
        rintro e w7 ⟨rfl, hb7⟩
        have HX7 := Lib.hid (HX6.out.below hb7)
        have HB7 := Lib.hid (below_then HB6.out hb7)
        clear hb7 HX6 HB6 y y0 y1 y2 y3 y4 y5 y6 y7 y8
        obtain ⟨y, y0, y1, y2, y3, y4, y5, y6, y7, y8, _, _, _, _, _, _, _, _, _⟩ := HX7.out
        dsimp only at y0 y1 y2 y3 y4 y5 y6 y7 y8
        go_wp2_with fail
        refine (HAW.out _ HB7.out).mono ?_
        rintro e w8 ⟨rfl, hb8⟩
        have HB8 := Lib.hid (below_then HB7.out hb8)
        clear hb8
        go_wp2_with fail
        go_ret
        exact ⟨rfl, HB8.out⟩
      · go_enter Tryd.func4, Tryd.ntmps4
        go_upto_region 1 with fail
        have HX1 := HX0
        have HB1 := HB0
        clear HX0 HB0
        generalize w.alloc (.cells #[.int .i64 id, .string user, .int .i64 width, .int .i64 est, .int .i64 prio, .int .i64 sub, .int .i64 _, .int .i64 start, .int .i64 fin] 23) = W0 at *
        obtain ⟨y, y0, y1, y2, y3, y4, y5, y6, y7, y8, _, _, _, _, _, _, _, _, _⟩ := HX1.out
        dsimp only at y0 y1 y2 y3 y4 y5 y6 y7 y8
        go_upto_region 7 with fail
        have HX2 := Lib.hid (HX1.out.alloc (.cells #[.string ⟨#[104, 101, 108, 100]⟩, .string ⟨#[113, 117, 101, 117, 101, 100]⟩, .string ⟨#[114, 117, 110, 110, 105, 110, 103]⟩, .string ⟨#[100, 111, 110, 101]⟩, .string ⟨#[107, 105, 108, 108, 101, 100]⟩, .string ⟨#[99, 97, 110, 99, 101, 108, 108, 101, 100]⟩] 9))
        have HB2 := Lib.hid (HB1.out.alloc HB1.out.size (.cells #[.string ⟨#[104, 101, 108, 100]⟩, .string ⟨#[113, 117, 101, 117, 101, 100]⟩, .string ⟨#[114, 117, 110, 110, 105, 110, 103]⟩, .string ⟨#[100, 111, 110, 101]⟩, .string ⟨#[107, 105, 108, 108, 101, 100]⟩, .string ⟨#[99, 97, 110, 99, 101, 108, 108, 101, 100]⟩] 9))
        generalize W0.alloc (.cells #[.string ⟨#[104, 101, 108, 100]⟩, .string ⟨#[113, 117, 101, 117, 101, 100]⟩, .string ⟨#[114, 117, 110, 110, 105, 110, 103]⟩, .string ⟨#[100, 111, 110, 101]⟩, .string ⟨#[107, 105, 108, 108, 101, 100]⟩, .string ⟨#[99, 97, 110, 99, 101, 108, 108, 101, 100]⟩] 9) = w2 at *
        clear HX1 HB1 y y0 y1 y2 y3 y4 y5 y6 y7 y8
        obtain ⟨y, y0, y1, y2, y3, y4, y5, y6, y7, y8, _, _, _, _, _, _, _, _, _⟩ := HX2.out
        dsimp only at y0 y1 y2 y3 y4 y5 y6 y7 y8
        go_wp2_with fail
        refine (RM.out _).mono ?_
        rintro e w3 ⟨rfl, hb3⟩
        have HX3 := Lib.hid (HX2.out.below hb3)
        have HB3 := Lib.hid (below_then HB2.out hb3)
        clear hb3 HX2 HB2 y y0 y1 y2 y3 y4 y5 y6 y7 y8
        obtain ⟨y, y0, y1, y2, y3, y4, y5, y6, y7, y8, _, _, _, _, _, _, _, _, _⟩ := HX3.out
        dsimp only at y0 y1 y2 y3 y4 y5 y6 y7 y8
        go_wp2_with fail
        refine (RR.out _ (by trivial)).mono ?_
        rintro e w4 ⟨rfl, hb4⟩
        have HX4 := Lib.hid (HX3.out.below hb4)
        have HB4 := Lib.hid (below_then HB3.out hb4)
        clear hb4 HX3 HB3 y y0 y1 y2 y3 y4 y5 y6 y7 y8
        obtain ⟨y, y0, y1, y2, y3, y4, y5, y6, y7, y8, _, _, _, _, _, _, _, _, _⟩ := HX4.out
        dsimp only at y0 y1 y2 y3 y4 y5 y6 y7 y8
        go_wp2_with fail
        refine (CN.out _ HB4.out).mono ?_
        rintro e w5 ⟨rfl, hb5⟩
        have HX5 := Lib.hid (HX4.out.below hb5)
        have HB5 := Lib.hid (below_then HB4.out hb5)
        clear hb5 HX4 HB4 y y0 y1 y2 y3 y4 y5 y6 y7 y8
        obtain ⟨y, y0, y1, y2, y3, y4, y5, y6, y7, y8, _, _, _, _, _, _, _, _, _⟩ := HX5.out
        dsimp only at y0 y1 y2 y3 y4 y5 y6 y7 y8
        go_wp2_with fail
        refine (RN.out _).mono ?_
        rintro e w6 ⟨rfl, rfl⟩
        go_wp2_with fail
        refine (CW.out _ HB5.out).mono ?_
        rintro e w7 ⟨rfl, hb7⟩
        have HX7 := Lib.hid (HX5.out.below hb7)
        have HB7 := Lib.hid (below_then HB5.out hb7)
        clear hb7 HX5 HB5 y y0 y1 y2 y3 y4 y5 y6 y7 y8
        obtain ⟨y, y0, y1, y2, y3, y4, y5, y6, y7, y8, _, _, _, _, _, _, _, _, _⟩ := HX7.out
        dsimp only at y0 y1 y2 y3 y4 y5 y6 y7 y8
        go_wp2_with fail
        refine (CR.out _ HB7.out).mono ?_
        rintro e w8 ⟨rfl, hb8⟩
        have HX8 := Lib.hid (HX7.out.below hb8)
        have HB8 := Lib.hid (below_then HB7.out hb8)
        clear hb8 HX7 HB7 y y0 y1 y2 y3 y4 y5 y6 y7 y8
        obtain ⟨y, y0, y1, y2, y3, y4, y5, y6, y7, y8, _, _, _, _, _, _, _, _, _⟩ := HX8.out
        dsimp only at y0 y1 y2 y3 y4 y5 y6 y7 y8
        go_wp2_with fail
        refine (HAW.out _ HB8.out).mono ?_
        rintro e w9 ⟨rfl, hb9⟩
        have HB9 := Lib.hid (below_then HB8.out hb9)
        clear hb9
        go_wp2_with fail
        go_ret
        exact ⟨rfl, HB9.out⟩
  · have hd : (decide ((100 : Int) < (s.size : Int)) = true) ∨ (decide ((100 : Int) < (s.size : Int)) = false ∧ decide ((100 : Int) < (user.size : Int)) = true) := by
      by_cases h2 : (100 : Int) < (s.size : Int)
      · exact .inl (decide_eq_true h2)
      · exact .inr ⟨decide_eq_false h2, decide_eq_true (by omega)⟩
    clear ht hf hL hs hww hrj
    rcases hd with d1 | ⟨d1, d2⟩
    all_goals
      go_enter Tryd.func4, Tryd.ntmps4
      go_upto_region 1 with fail
      generalize w.alloc (.cells #[.int .i64 id, .string user, .int .i64 width, .int .i64 est, .int .i64 prio, .int .i64 sub, .int .i64 _, .int .i64 start, .int .i64 fin] 23) = W0 at *
      obtain ⟨y, y0, y1, y2, y3, y4, y5, y6, y7, y8, _, _, _, _, _, _, _, _, _⟩ := HX0.out
      dsimp only at y0 y1 y2 y3 y4 y5 y6 y7 y8
      go_wp2_with fail
      refine (HAW.out _ HB0.out).mono ?_
      rintro e w1 ⟨rfl, hb1⟩
      have HB1 := Lib.hid (below_then HB0.out hb1)
      clear hb1
      go_wp2_with fail
      go_ret
      exact ⟨rfl, HB1.out⟩
end Go.Proofs.YtclpbmhmfddifaaDoor.JobWalk
