/-
  The walks of the statements of layer 10: LimitMay.
-/
import Derived.Test.YtgjmgcmheccdfaaLimLawA
namespace Go.Proofs.Ytgjmgcmheccdfaa.LimWalk
open Go.RowKit Go.Proofs.Ytgjmgcmheccdfaa.JobPlain Go.Proofs.Ytgjmgcmheccdfaa.ApiPlain Go.Proofs.Ytgjmgcmheccdfaa.LimPlain Go.Proofs.Ytgjmgcmheccdfaa.Mem Go.Proofs.Ytgjmgcmheccdfaa.ApiMem Go.Proofs.Ytgjmgcmheccdfaa.JobMem Go.Proofs.Ytgjmgcmheccdfaa.LimRef
theorem may_ways {l : List Lim} {u : List Use} {j : Jb} (h : checkL l = 0) : (mayJ j = false ∧ mayM l u j = false) ∨ (mayJ j = true ∧ decide (0 < (leftL l u j.user).1) = false ∧ mayM l u j = false) ∨
    (mayJ j = true ∧ decide (0 < (leftL l u j.user).1) = true ∧ decide (j.width ≤ (leftL l u j.user).2) = false ∧ mayM l u j = false) ∨ (mayJ j = true ∧ decide (0 < (leftL l u j.user).1) = true ∧ decide (j.width ≤ (leftL l u j.user).2) = true ∧ mayM l u j = true) := by
  unfold mayM
  rw [decide_eq_true h]
  cases mayJ j <;> cases decide (0 < (leftL l u j.user).1) <;> cases decide (j.width ≤ (leftL l u j.user).2) <;> simp
theorem may_never {l : List Lim} {u : List Use} {j : Jb} (h : ¬ checkL l = 0) : mayM l u j = false := by unfold mayM; rw [decide_eq_false h]; rfl
set_option maxRecDepth 100000 in
set_option maxHeartbeats 6400000 in
theorem may_any (l : List Lim) (us : List Use) (j : Jb) (v u : Value) (w : World) (hv : limL.Is l w v) (hu : useL.Is us w u) (hs : LimsFit l) (hus : UsesFit us) (hj : Fit j) : Calls Try.prog 4 #[v, u, jobV j] w (TrueIs w) := by
  have HAW := Lib.hid (fun W => awake10 W)
  have HX := Lib.hid (JobBox.new w j 36)
  have HB0 := Lib.hid (below_new w (.cells #[.int .i64 j.id, .string j.user, .int .i64 j.width, .int .i64 j.est, .int .i64 j.prio, .int .i64 j.sub, .int .i64 j.state, .int .i64 j.start, .int .i64 j.fin] 36))
  have CL := Lib.hid (fun W (hb : Below w.heap.size w W) => light10 l j.user v W (hv.below hb) hj.2.2)
  have HV := Lib.hid hv
  have HU := Lib.hid hu
  have HS := Lib.hid hs
  have HUS := Lib.hid hus
  have HJ := Lib.hid hj
  obtain ⟨B, d, rfl, hm, _⟩ := uses_open hu
  unfold jobV jobA
  cases h1 : lightB l j.user with
  | false =>
    rw [h1] at CL
    clear h1 hv hs hu hus hj
    go_enter Try.func4, Try.ntmps4
    go_upto_region 1 with fail
    generalize w.alloc (.cells #[.int .i64 j.id, .string j.user, .int .i64 j.width, .int .i64 j.est, .int .i64 j.prio, .int .i64 j.sub, .int .i64 j.state, .int .i64 j.start, .int .i64 j.fin] 36) = w0 at *
    obtain ⟨y, y0, y1, y2, y3, y4, y5, y6, y7, y8, _, _, _, _, _, _, _, _, _⟩ := HX.out
    go_wp2_with (go_at_call 5; refine (CL.out _ HB0.out).mono ?_; rintro e w1 ⟨rfl, rfl⟩)
    refine (HAW.out _).mono ?_
    rintro e w1 ⟨rfl, hb1⟩
    have HB1 := Lib.hid (below_then HB0.out hb1)
    clear hb1
    go_wp2_with fail
    go_ret
    exact ⟨rfl, HB1.out⟩
  | true =>
    rw [h1] at CL
    obtain ⟨hl, hz⟩ := light_len h1
    by_cases hul : us.length ≤ 60
    · have d1 : decide ((60 : Int) < (us.length : Int)) = false := decide_eq_false (by omega)
      have C1 := Lib.hid (fun W (hb : Below w.heap.size w W) => leftS l us j.user v (.slice B us.length d) W (HV.out.below hb) (HU.out.below hb) HS.out HUS.out (by omega) (by omega) HJ.out.2.2)
      have C2 := Lib.hid (fun W (hb : Below w.heap.size w W) => mayS l us j v (.slice B us.length d) W (HV.out.below hb) (HU.out.below hb) HS.out HUS.out HJ.out (by omega) (by omega))
      have C3 := Lib.hid (fun W (hb : Below w.heap.size w W) => check10 l v W (HV.out.below hb) HS.out (by omega))
      unfold jobV jobA at C2
      by_cases h0 : checkL l = 0
      · have C4 := Lib.hid (fun W (hb : Below w.heap.size w W) => left10 l us j.user v (.slice B us.length d) W (HV.out.below hb) (HU.out.below hb) (by omega) (by omega) (checkL_zero h0).2)
        have C5 := Lib.hid (fun W => JobRef.may7 j W HJ.out)
        have C6 := Lib.hid (fun W (hb : Below w.heap.size w W) => mayS l [] j v (.slice none 0 0) W (HV.out.below hb) (Lay.Is.nil _ _) HS.out (fun x hx => by cases hx) HJ.out (by omega) (by simp))
        have hways := may_ways (u := us) (j := j) h0
        have HMORE := Lib.hid (fun h => may_more (l := l) (u := us) (j := j) h)
        have hp : leftP l us j.user = leftL l us j.user := by unfold leftP; rw [if_pos h0]
        rw [hp] at C1
        rw [h0] at C3
        unfold TwoSays at C1 C4
        unfold jobV jobA at C5 C6
        clear h0 hp h1 hv hs hu hus hj
        generalize leftL l us j.user = R at *
        obtain ⟨X, Y⟩ := R
        dsimp only at C1 C4 hways
        have eX : (X != X) = false := by simp
        have eY : (Y != Y) = false := by simp
        have e0 : ((0 : Int) != 0) = false := by decide
        generalize mayM l us j = G at *
        generalize mayM l [] j = G2 at *
        generalize mayJ j = G3 at *
        go_enter Try.func4, Try.ntmps4
        go_upto_region 1 with fail
        generalize w.alloc (.cells #[.int .i64 j.id, .string j.user, .int .i64 j.width, .int .i64 j.est, .int .i64 j.prio, .int .i64 j.sub, .int .i64 j.state, .int .i64 j.start, .int .i64 j.fin] 36) = w0 at *
        obtain ⟨y, y0, y1, y2, y3, y4, y5, y6, y7, y8, _, _, _, _, _, _, _, _, _⟩ := HX.out
        go_wp2_with (go_at_call 5; refine (CL.out _ HB0.out).mono ?_; rintro e w1 ⟨rfl, rfl⟩)
        refine (C1.out _ HB0.out).mono ?_
        rintro e w1 ⟨rfl, hb1⟩
        have HX1 := Lib.hid (HX.out.below hb1)
        have HB1 := Lib.hid (below_then HB0.out hb1)
        clear hb1 HX HB0 C1 CL y y0 y1 y2 y3 y4 y5 y6 y7 y8
        obtain ⟨y, y0, y1, y2, y3, y4, y5, y6, y7, y8, _, _, _, _, _, _, _, _, _⟩ := HX1.out
        go_wp2_with fail
        refine (C2.out _ HB1.out).mono ?_
        rintro e w2 ⟨rfl, hb2⟩
        have HX2 := Lib.hid (HX1.out.below hb2)
        have HB2 := Lib.hid (below_then HB1.out hb2)
        clear hb2 HX1 HB1 C2 y y0 y1 y2 y3 y4 y5 y6 y7 y8
        go_wp2_with fail
        refine (C3.out _ HB2.out).mono ?_
        rintro e w3 ⟨rfl, hb3⟩
        have HX3 := Lib.hid (HX2.out.below hb3)
        have HB3 := Lib.hid (below_then HB2.out hb3)
        clear hb3 HX2 HB2 C3
        obtain ⟨y, y0, y1, y2, y3, y4, y5, y6, y7, y8, _, _, _, _, _, _, _, _, _⟩ := HX3.out
        go_wp2_with fail
        refine (C4.out _ HB3.out).mono ?_
        rintro e w4 ⟨rfl, hb4⟩
        have HX4 := Lib.hid (HX3.out.below hb4)
        have HB4 := Lib.hid (below_then HB3.out hb4)
        clear hb4 HX3 HB3 C4 y y0 y1 y2 y3 y4 y5 y6 y7 y8
        obtain ⟨y, y0, y1, y2, y3, y4, y5, y6, y7, y8, _, _, _, _, _, _, _, _, _⟩ := HX4.out
        rcases hways with ⟨rfl, rfl⟩ | ⟨rfl, g1, rfl⟩ | ⟨rfl, g1, g2, rfl⟩ | ⟨rfl, g1, g2, rfl⟩
        case inr.inr.inr =>
          have hG2 : G2 = true := HMORE.out rfl
          subst hG2
          go_wp2_with fail
          refine (C5.out _).mono ?_
          rintro e w5 ⟨rfl, hb5⟩
          have HX5 := Lib.hid (HX4.out.below hb5)
          have HB5 := Lib.hid (below_then HB4.out hb5)
          clear hb5 HX4 HB4 C5 y y0 y1 y2 y3 y4 y5 y6 y7 y8
          obtain ⟨y, y0, y1, y2, y3, y4, y5, y6, y7, y8, _, _, _, _, _, _, _, _, _⟩ := HX5.out
          go_wp2_with fail
          refine (C6.out _ HB5.out).mono ?_
          rintro e w6 ⟨rfl, hb6⟩
          have HB6 := Lib.hid (below_then HB5.out hb6)
          clear hb6 HX5 HB5 C6
          go_wp2_with fail
          refine (HAW.out _).mono ?_
          rintro e w7 ⟨rfl, hb7⟩
          have HB7 := Lib.hid (below_then HB6.out hb7)
          clear hb7
          go_wp2_with fail
          go_ret
          exact ⟨rfl, HB7.out⟩
        all_goals
          go_wp2_with fail
          refine (C5.out _).mono ?_
          rintro e w5 ⟨rfl, hb5⟩
          have HX5 := Lib.hid (HX4.out.below hb5)
          have HB5 := Lib.hid (below_then HB4.out hb5)
          clear hb5 HX4 HB4 C5 y y0 y1 y2 y3 y4 y5 y6 y7 y8
          obtain ⟨y, y0, y1, y2, y3, y4, y5, y6, y7, y8, _, _, _, _, _, _, _, _, _⟩ := HX5.out
          go_wp2_with fail
          refine (HAW.out _).mono ?_
          rintro e w7 ⟨rfl, hb7⟩
          have HB7 := Lib.hid (below_then HB5.out hb7)
          clear hb7
          go_wp2_with fail
          go_ret
          exact ⟨rfl, HB7.out⟩
      · have hp : leftP l us j.user = (0, 0) := by unfold leftP; rw [if_neg h0]
        have hn : mayM l us j = false := may_never h0
        have e0 : (checkL l != 0) = true := by simpa using h0
        rw [hp] at C1
        rw [hn] at C2
        clear h0 hp hn h1 hv hs hu hus hj
        unfold TwoSays at C1
        dsimp only at C1
        generalize checkL l = C at *
        go_enter Try.func4, Try.ntmps4
        go_upto_region 1 with fail
        generalize w.alloc (.cells #[.int .i64 j.id, .string j.user, .int .i64 j.width, .int .i64 j.est, .int .i64 j.prio, .int .i64 j.sub, .int .i64 j.state, .int .i64 j.start, .int .i64 j.fin] 36) = w0 at *
        obtain ⟨y, y0, y1, y2, y3, y4, y5, y6, y7, y8, _, _, _, _, _, _, _, _, _⟩ := HX.out
        go_wp2_with (go_at_call 5; refine (CL.out _ HB0.out).mono ?_; rintro e w1 ⟨rfl, rfl⟩)
        refine (C1.out _ HB0.out).mono ?_
        rintro e w1 ⟨rfl, hb1⟩
        have HX1 := Lib.hid (HX.out.below hb1)
        have HB1 := Lib.hid (below_then HB0.out hb1)
        clear hb1 HX HB0 C1 CL y y0 y1 y2 y3 y4 y5 y6 y7 y8
        obtain ⟨y, y0, y1, y2, y3, y4, y5, y6, y7, y8, _, _, _, _, _, _, _, _, _⟩ := HX1.out
        go_wp2_with fail
        refine (C2.out _ HB1.out).mono ?_
        rintro e w2 ⟨rfl, hb2⟩
        have HB2 := Lib.hid (below_then HB1.out hb2)
        clear hb2 HX1 HB1 C2 y y0 y1 y2 y3 y4 y5 y6 y7 y8
        go_wp2_with fail
        refine (C3.out _ HB2.out).mono ?_
        rintro e w3 ⟨rfl, hb3⟩
        have HB3 := Lib.hid (below_then HB2.out hb3)
        clear hb3 HB2 C3
        go_wp2_with fail
        refine (HAW.out _).mono ?_
        rintro e w7 ⟨rfl, hb7⟩
        have HB7 := Lib.hid (below_then HB3.out hb7)
        clear hb7
        go_wp2_with fail
        go_ret
        exact ⟨rfl, HB7.out⟩
    · have d1 : decide ((60 : Int) < (us.length : Int)) = true := decide_eq_true (by omega)
      clear h1 hv hs hu hus hj
      go_enter Try.func4, Try.ntmps4
      go_upto_region 1 with fail
      generalize w.alloc (.cells #[.int .i64 j.id, .string j.user, .int .i64 j.width, .int .i64 j.est, .int .i64 j.prio, .int .i64 j.sub, .int .i64 j.state, .int .i64 j.start, .int .i64 j.fin] 36) = w0 at *
      obtain ⟨y, y0, y1, y2, y3, y4, y5, y6, y7, y8, _, _, _, _, _, _, _, _, _⟩ := HX.out
      go_wp2_with (go_at_call 5; refine (CL.out _ HB0.out).mono ?_; rintro e w1 ⟨rfl, rfl⟩)
      refine (HAW.out _).mono ?_
      rintro e w1 ⟨rfl, hb1⟩
      have HB1 := Lib.hid (below_then HB0.out hb1)
      clear hb1
      go_wp2_with fail
      go_ret
      exact ⟨rfl, HB1.out⟩
end Go.Proofs.Ytgjmgcmheccdfaa.LimWalk
