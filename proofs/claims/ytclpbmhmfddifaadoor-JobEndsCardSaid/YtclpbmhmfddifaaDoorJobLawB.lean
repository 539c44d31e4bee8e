/-
  The walks of the statements of layer 7: JobTurns.
-/
import Derived.Test.YtclpbmhmfddifaaDoorJobLawA
namespace Go.Proofs.YtclpbmhmfddifaaDoor.JobWalk
open Go.RowKit Go.Proofs.YtclpbmhmfddifaaDoor.JobPlain Go.Proofs.YtclpbmhmfddifaaDoor.Mem Go.Proofs.YtclpbmhmfddifaaDoor.JobMem Go.Proofs.YtclpbmhmfddifaaDoor.JobRef
theorem m_ways (j : Jb) : (mayJ j = false ∧ checkN j = 1 ∧ liveB j = false) ∨ (mayJ j = true ∧ checkN j = 0 ∧ decide (j.state ≤ 2) = true ∧ liveB j = true) ∨ (mayJ j = true ∧ checkN j = 0 ∧ decide (j.state ≤ 2) = false ∧ liveB j = false) := by
  unfold liveB checkN
  cases mayJ j with
  | false => exact .inl ⟨rfl, rfl, rfl⟩
  | true => cases decide (j.state ≤ 2) with
    | true => exact .inr (.inl ⟨rfl, rfl, rfl, rfl⟩)
    | false => exact .inr (.inr ⟨rfl, rfl, rfl, rfl⟩)
set_option maxRecDepth 100000 in
set_option maxHeartbeats 3200000 in
theorem turns_any (j : Jb) (ev t : Int) (w : World) (hL : Lays w) (hf : Fit j) (ht : -9223372036854775808 ≤ t ∧ t ≤ 9223372036854775807) : Calls Tryd.prog 3 #[jobV j, .int .i64 ev, .int .i64 t] w (TrueIs w) := by
  have HX0 := Lib.hid (JobBox.new w j 23)
  have HB0 := Lib.hid ((Below.refl w.heap.size w).alloc (Nat.le_refl _) (.cells #[.int .i64 j.id, .string j.user, .int .i64 j.width, .int .i64 j.est, .int .i64 j.prio, .int .i64 j.sub, .int .i64 j.state, .int .i64 j.start, .int .i64 j.fin] 23))
  have HAW := Lib.hid (fun W (h : Below w.heap.size w W) => awake7 W (hL.below h))
  have CT := Lib.hid (fun W (h : Below w.heap.size w W) => turnS j ev t W (hL.below h) hf ht)
  have RT := Lib.hid (fun W => turn7 j ev t W hf ht)
  have RM := Lib.hid (fun W => may7 j W hf)
  have CC := Lib.hid (fun W (h : Below w.heap.size w W) => checkS j W (hL.below h) hf)
  have CL := Lib.hid (fun W (h : Below w.heap.size w W) => liveS j W (hL.below h) hf)
  have hmw := m_ways j
  unfold TurnIs at CT RT
  generalize (turnL j ev t).1 = X at *
  generalize (turnL j ev t).2 = N at *
  have E1 := fun W => eq_job W X
  unfold jobV jobA at *
  by_cases h1 : j.user.size ≤ 100
  · have d1 : decide ((100 : Int) < (j.user.size : Int)) = false := by rw [decide_eq_false_iff_not]; omega
    have d2 : (N == N) = true := by simp
    clear ht hf hL
    go_enter Tryd.func3, Tryd.ntmps3
    go_upto_region 1 with fail
    generalize w.alloc (.cells #[.int .i64 j.id, .string j.user, .int .i64 j.width, .int .i64 j.est, .int .i64 j.prio, .int .i64 j.sub, .int .i64 j.state, .int .i64 j.start, .int .i64 j.fin] 23) = W0 at *
    obtain ⟨y, y0, y1, y2, y3, y4, y5, y6, y7, y8, _, _, _, _, _, _, _, _, _⟩ := HX0.out
    go_wp2_with fail
    refine (CT.out _ HB0.out).mono ?_
    rintro e w1 ⟨rfl, hb1⟩
    have HXj := Lib.hid ((HX0.out.below hb1).alloc (.cells #[.int .i64 X.id, .string X.user, .int .i64 X.width, .int .i64 X.est, .int .i64 X.prio, .int .i64 X.sub, .int .i64 X.state, .int .i64 X.start, .int .i64 X.fin] 23))
    have HX1 := Lib.hid (JobBox.new w1 X 23)
    have HB1 := Lib.hid ((below_then HB0.out hb1).alloc (below_then HB0.out hb1).size (.cells #[.int .i64 X.id, .string X.user, .int .i64 X.width, .int .i64 X.est, .int .i64 X.prio, .int .i64 X.sub, .int .i64 X.state, .int .i64 X.start, .int .i64 X.fin] 23))
    clear hb1 HX0 HB0 CT y y0 y1 y2 y3 y4 y5 y6 y7 y8
    go_upto_region 4 with fail
    obtain ⟨n1, hn1⟩ : ∃ n1 : Nat, n1 = w1.heap.size := ⟨_, rfl⟩
    rw [← hn1] at HX1 ⊢
    generalize w1.alloc (.cells #[.int .i64 X.id, .string X.user, .int .i64 X.width, .int .i64 X.est, .int .i64 X.prio, .int .i64 X.sub, .int .i64 X.state, .int .i64 X.start, .int .i64 X.fin] 23) = w2 at *
    clear hn1
    obtain ⟨y, y0, y1, y2, y3, y4, y5, y6, y7, y8, _, _, _, _, _, _, _, _, _⟩ := HXj.out
    go_wp2_with fail
    refine (RT.out _).mono ?_
    rintro e w3 ⟨rfl, hb3⟩
    have HXj3 := Lib.hid ((HXj.out.below hb3).alloc (.cells #[.int .i64 X.id, .string X.user, .int .i64 X.width, .int .i64 X.est, .int .i64 X.prio, .int .i64 X.sub, .int .i64 X.state, .int .i64 X.start, .int .i64 X.fin] 23))
    have HX3 := Lib.hid ((HX1.out.below hb3).alloc (.cells #[.int .i64 X.id, .string X.user, .int .i64 X.width, .int .i64 X.est, .int .i64 X.prio, .int .i64 X.sub, .int .i64 X.state, .int .i64 X.start, .int .i64 X.fin] 23))
    have HY3 := Lib.hid (JobBox.new w3 X 23)
    have HB3 := Lib.hid ((below_then HB1.out hb3).alloc (below_then HB1.out hb3).size (.cells #[.int .i64 X.id, .string X.user, .int .i64 X.width, .int .i64 X.est, .int .i64 X.prio, .int .i64 X.sub, .int .i64 X.state, .int .i64 X.start, .int .i64 X.fin] 23))
    clear hb3 HXj HX1 HB1 RT y y0 y1 y2 y3 y4 y5 y6 y7 y8
    go_upto_region 5 with fail
    obtain ⟨n3, hn3⟩ : ∃ n3 : Nat, n3 = w3.heap.size := ⟨_, rfl⟩
    rw [← hn3] at HY3 ⊢
    generalize w3.alloc (.cells #[.int .i64 X.id, .string X.user, .int .i64 X.width, .int .i64 X.est, .int .i64 X.prio, .int .i64 X.sub, .int .i64 X.state, .int .i64 X.start, .int .i64 X.fin] 23) = w4 at *
    clear hn3
    obtain ⟨y, y0, y1, y2, y3, y4, y5, y6, y7, y8, _, _, _, _, _, _, _, _, _⟩ := HXj3.out
    go_wp2_with fail
    refine (RM.out _).mono ?_
    rintro e w5 ⟨rfl, hb5⟩
    have HXj5 := Lib.hid (HXj3.out.below hb5)
    have HX5 := Lib.hid (HX3.out.below hb5)
    have HY5 := Lib.hid (HY3.out.below hb5)
    have HB5 := Lib.hid (below_then HB3.out hb5)
    clear hb5 HXj3 HX3 HY3 HB3 RM y y0 y1 y2 y3 y4 y5 y6 y7 y8
    obtain ⟨y, y0, y1, y2, y3, y4, y5, y6, y7, y8, _, _, _, _, _, _, _, _, _⟩ := HXj5.out
    rcases hmw with ⟨m1, m2, m3⟩ | ⟨m1, m2, m4, m3⟩ | ⟨m1, m2, m4, m3⟩
    all_goals
      rw [m1]
      rw [m2] at CC
      rw [m3] at CL
      clear m1 m2 m3
      go_wp2_with fail
      refine (CC.out _ HB5.out).mono ?_
      rintro e w6 ⟨rfl, hb6⟩
      have HXj6 := Lib.hid (HXj5.out.below hb6)
      have HX6 := Lib.hid (HX5.out.below hb6)
      have HY6 := Lib.hid (HY5.out.below hb6)
      have HB6 := Lib.hid (below_then HB5.out hb6)
      clear hb6 HXj5 HX5 HY5 HB5 y y0 y1 y2 y3 y4 y5 y6 y7 y8
      obtain ⟨y, y0, y1, y2, y3, y4, y5, y6, y7, y8, _, _, _, _, _, _, _, _, _⟩ := HXj6.out
      go_wp2_with fail
      refine (CC.out _ HB6.out).mono ?_
      rintro e w7 ⟨rfl, hb7⟩
      have HXj7 := Lib.hid (HXj6.out.below hb7)
      have HX7 := Lib.hid (HX6.out.below hb7)
      have HY7 := Lib.hid (HY6.out.below hb7)
      have HB7 := Lib.hid (below_then HB6.out hb7)
      clear hb7 HXj6 HX6 HY6 HB6 CC y y0 y1 y2 y3 y4 y5 y6 y7 y8
      obtain ⟨y, y0, y1, y2, y3, y4, y5, y6, y7, y8, _, _, _, _, _, _, _, _, _⟩ := HXj7.out
      go_wp2_with fail
      refine (CL.out _ HB7.out).mono ?_
      rintro e w8 ⟨rfl, hb8⟩
      have HXj8 := Lib.hid (HXj7.out.below hb8)
      have HX8 := Lib.hid (HX7.out.below hb8)
      have HY8 := Lib.hid (HY7.out.below hb8)
      have HB8 := Lib.hid (below_then HB7.out hb8)
      clear hb8 HXj7 HX7 HY7 HB7 CL y y0 y1 y2 y3 y4 y5 y6 y7 y8
      obtain ⟨y, y0, y1, y2, y3, y4, y5, y6, y7, y8, _, _, _, _, _, _, _, _, _⟩ := HXj8.out
      obtain ⟨x, x0, x1, x2, x3, x4, x5, x6, x7, x8, _, _, _, _, _, _, _, _, _⟩ := HX8.out
      obtain ⟨z, z0, z1, z2, z3, z4, z5, z6, z7, z8, _, _, _, _, _, _, _, _, _⟩ := HY8.out
      go_wp2_with fail
      refine (HAW.out _ HB8.out).mono ?_
      rintro e w9 ⟨rfl, hb9⟩
      have HB9 := Lib.hid (below_then HB8.out hb9)
      clear hb9
      go_wp2_with fail
      go_ret
      exact ⟨rfl, HB9.out⟩
  · have d1 : decide ((100 : Int) < (j.user.size : Int)) = true := decide_eq_true (by omega)
    go_enter Tryd.func3, Tryd.ntmps3
    go_upto_region 1 with fail
    generalize w.alloc (.cells #[.int .i64 j.id, .string j.user, .int .i64 j.width, .int .i64 j.est, .int .i64 j.prio, .int .i64 j.sub, .int .i64 j.state, .int .i64 j.start, .int .i64 j.fin] 23) = W0 at *
    obtain ⟨y, y0, y1, y2, y3, y4, y5, y6, y7, y8, _, _, _, _, _, _, _, _, _⟩ := HX0.out
    go_wp2_with fail
    refine (HAW.out _ HB0.out).mono ?_
    rintro e w1 ⟨rfl, hb1⟩
    have HB1 := Lib.hid (below_then HB0.out hb1)
    clear hb1
    go_wp2_with fail
    go_ret
    exact ⟨rfl, HB1.out⟩
end Go.Proofs.YtclpbmhmfddifaaDoor.JobWalk
