/-
  The walks of the statements of layer 5: ProfileBack.
-/
import Derived.Test.YtjkninldenoanaaProfLawB
import Derived.Test.YtjkninldenoanaaStepRefD
import Derived.Test.YtjkninldenoanaaStepRefK
namespace Go.Proofs.Ytjkninldenoanaa.ProfWalk
open Go.RowKit Go.Proofs.Ytjkninldenoanaa.SpanPlain Go.Proofs.Ytjkninldenoanaa.StepPlain Go.Proofs.Ytjkninldenoanaa.ProfPlain Go.Proofs.Ytjkninldenoanaa.Mem Go.Proofs.Ytjkninldenoanaa.SpanMem Go.Proofs.Ytjkninldenoanaa.StepMem Go.Proofs.Ytjkninldenoanaa.SpanRef Go.Proofs.Ytjkninldenoanaa.StepRef Go.Proofs.Ytjkninldenoanaa.ProfRef

theorem steps_rep {x : Prof} (h : x.Fair) : Rep (stepsL x) x.t (freeL x.p x.l) := h.rep
theorem steps_nil {w : World} {v : Value} (h : SpansIs [] w v) : ∃ A c, v = .slice A 0 c := by
  rcases h with ⟨h, _⟩ | ⟨a, c, h, _⟩
  · exact ⟨none, 0, h⟩
  · exact ⟨_, c, h⟩
theorem Is.single {g : Nat} {x : Prof} {w : World} (h : Is [g] x w g) : ∀ i ∈ [g], i < w.heap.size := fun i hi => by simp at hi; subst hi; exact h.lt
theorem take_len {x y : Prof} {b : By} {c : Int} (h : TakeIs x b y c) : y.l.length ≤ x.l.length + 1 := by
  rcases h with ⟨_, rfl, _⟩ | ⟨_, _, rfl, _⟩ | ⟨_, _, rfl, _⟩
  · omega
  · omega
  · simp
/-- What is told of a taking: nothing is turned, or all that follows of it. -/
theorem take_ways {x y : Prof} {b : By} {c : Int} (h : TakeIs x b y c) (hx : x.Fair) : ((c != 0) = true ∧ y = x) ∨
    ((c != 0) = false ∧ c = 0 ∧ freeB y b.1 = true ∧ freeN y b.1 = val (stepsL x) b.1 - b.2.2 ∧ -300 ≤ b.2.2 ∧ b.2.2 ≤ 300 ∧ -300 ≤ val (stepsL x) b.1 ∧ val (stepsL x) b.1 ≤ 300 ∧ ∀ z d, GiveIs y b z d → d = 0 ∧ stepsL z = stepsL x ∧ z.l.length ≤ x.l.length + 2) := by
  have hy := h.fair hx
  rcases h with ⟨_, rfl, rfl⟩ | ⟨_, _, rfl, rfl⟩ | ⟨h1, h2, rfl, rfl⟩
  · exact .inl ⟨by decide, rfl⟩
  · exact .inl ⟨by decide, rfl⟩
  · right
    obtain ⟨hb, ht⟩ := not_turnBad h1
    obtain ⟨hm, b1, b2⟩ := by_parts hb
    obtain ⟨m0, m1, m2⟩ := (mayB_iff _).1 hm
    have m1' : b.1 < b.2.1 := m1
    have m2' : b.2.1 ≤ 4503599627370496 := m2
    have hr := steps_rep hx
    have hv := hr.2.2 b.1 ht
    have hf := hx.free b.1 ht
    have hp := hx.p2
    have hB : freeB ⟨x.p, x.t, x.l ++ [b]⟩ b.1 = true := by unfold freeB; simp; omega
    have hhas : hasB (b.1, b.2.1) b.1 = true := hasB_iff.2 ⟨(mayB_iff _).1 hm, Int.le_refl _, m1'⟩
    refine ⟨by decide, rfl, hB, ?_, by omega, by omega, by omega, by omega, fun z d hg => ?_⟩
    · unfold freeN
      rw [if_pos hB, hv]
      dsimp only
      rw [free_take hm, if_pos hhas]
    · have hall : ∀ u, freeL x.p ((x.l ++ [b]) ++ [(b.1, b.2.1, -b.2.2)]) u = freeL x.p x.l u := fun u => by
        rw [free_take (b := (b.1, b.2.1, -b.2.2)) hm, free_take hm]
        dsimp only
        cases hasB (b.1, b.2.1) u <;> simp
      have hg2 : GiveIs ⟨x.p, x.t, x.l ++ [b]⟩ b ⟨x.p, x.t, (x.l ++ [b]) ++ [(b.1, b.2.1, -b.2.2)]⟩ 0 := by
        refine .inr (.inr ⟨h1, fun u u1 u2 => ?_, rfl, rfl⟩)
        dsimp only
        have hu : hasB (b.1, b.2.1) u = true := hasB_iff.2 ⟨(mayB_iff _).1 hm, u1, u2⟩
        rw [free_take hm, if_pos hu]
        have := (hx.free u (by omega)).2
        omega
      obtain ⟨rfl, rfl⟩ := hg.unique hg2
      refine ⟨rfl, ?_, by simp⟩
      have hz := steps_rep (hg2.fair hy)
      have hz2 : Rep (stepsL ⟨x.p, x.t, (x.l ++ [b]) ++ [(b.1, b.2.1, -b.2.2)]⟩) x.t (freeL x.p x.l) := by
        refine ⟨hz.1, hz.2.1, fun u hu => ?_⟩
        rw [hz.2.2 u hu]
        exact hall u
      exact hz2.unique hr

set_option maxRecDepth 100000 in
set_option maxHeartbeats 6400000 in
theorem back_any (p : Int) (l : List By) (b : By) (v : Value) (w : World) (hv : BusyIs l w v) : Calls Try.prog 4 #[.int .i64 p, v, byV b] w (TrueIs w) := by
  obtain ⟨A, cap, rfl, hA⟩ := hv.open_
  have HA := Lib.hid hA
  clear hA hv
  have HAW := Lib.hid (fun w => awake5 w)
  have HX0 := Lib.hid (Trio.new w (.int .i64 b.1) (.int .i64 b.2.1) (.int .i64 b.2.2) 36)
  have HB0 := Lib.hid (below_alloc w (.cells #[.int .i64 b.1, .int .i64 b.2.1, .int .i64 b.2.2] 36))
  have NF := Lib.hid (fun w v (h : Nobody w v) => noFree h 1)
  have NL := Lib.hid (fun w v (h : Nobody w v) => noLeast h (0, 1))
  have NT := Lib.hid (fun w v (h : Nobody w v) => noTake h b)
  have NG := Lib.hid (fun w v (h : Nobody w v) => noGive h b)
  have NM := Lib.hid (fun w v (h : Nobody w v) => noMove h 1)
  have NS := Lib.hid (fun w v (h : Nobody w v) => noSteps h)
  have NC := Lib.hid (fun w v (h : Nobody w v) => noCopy h)
  have NP := Lib.hid (fun w v (h : Nobody w v) => noProcs h)
  have CT := Lib.hid (fun (x : Prof) (g : Nat) (w' : World) (h : Is [g] x w' g) (hl : x.l.length ≤ 60) (b : By) => takeS h h.single hl b)
  have CG := Lib.hid (fun (x : Prof) (g : Nat) (w' : World) (h : Is [g] x w' g) (hl : x.l.length ≤ 60) => giveS h h.single hl b)
  have CS := Lib.hid (fun (x : Prof) (g : Nat) (w' : World) (h : Is [g] x w' g) (hl : x.l.length ≤ 60) => stepsS h h.single hl)
  have CF := Lib.hid (fun (x : Prof) (g : Nat) (w' : World) (h : Is [g] x w' g) (hl : x.l.length ≤ 60) => freeS h hl b.1)
  have R5 := Lib.hid (fun (x : Prof) (hl : x.l.length ≤ 60) v6 v7 (w' : World) h6 h7 => same4 (stepsL x) (stepsL x) v6 v7 w' h6 h7 (by have := steps_len hl; omega) (by have := steps_len hl; omega))
  have R5b : Hid (∀ (x : Prof) (hl : x.l.length ≤ 60) v6 v7 (w' : World), SpansIs (stepsL x) w' v6 → SpansIs (stepsL x) w' v7 → Calls Try.prog 17 #[v6, v7] w' (BoolD true w')) := fun x hl v6 v7 w' h6 h7 => by
    have h := R5.out x hl v6 v7 w' h6 h7
    rwa [decide_eq_true (rfl : stepsL x = stepsL x)] at h
  have RW := Lib.hid (fun (x : Prof) (hl : x.l.length ≤ 60) v6 (w' : World) h6 => within4 (stepsL x) v6 b.1 w' h6 (by have := steps_len hl; omega))
  have RK := Lib.hid (fun (x : Prof) (hl : x.l.length ≤ 60) v6 (w' : World) h6 => check4 (stepsL x) v6 w' h6 (by have := steps_len hl; omega))
  clear R5
  unfold byV spV ptr at *
  dsimp only at NL
  go_enter Try.func4, Try.ntmps4
  go_upto_region 1 with fail
  generalize w.alloc (.cells #[.int .i64 b.1, .int .i64 b.2.1, .int .i64 b.2.2] 36) = W0 at *
  by_cases h1 : l.length ≤ 40
  · have d1 : decide ((40 : Int) < (l.length : Int)) = false := by rw [decide_eq_false_iff_not]; omega
    go_wp2_with fail
    go_loopw [7] (fun k wr => (k = .int .i64 0 ∨ k = .int .i64 1 ∨ k = .int .i64 2) ∧ Hid (Below W0.heap.size W0 wr)) (fun k _ => 2 - (intOf k).toNat)
    case atStart => exact ⟨.inl rfl, Below.refl _ _⟩
    case round =>
      obtain ⟨hk, HL⟩ := hrel
      rcases hk with rfl | rfl | rfl
      · have HN := Lib.hid (nobody_nil wr)
        have HX := Lib.hid (HX0.out.below HL.out)
        have HB := Lib.hid (HL.out)
        obtain ⟨z, hz⟩ : ∃ z : Value, z = .pointer none := ⟨_, rfl⟩
        clear HL
        obtain ⟨y0, y1, y2, y3, y4, y5, y6⟩ := HX.out
        go_wp2_with fail
        refine (NF.out _ _ HN.out).mono ?_
        rintro e u0 ⟨rfl, hb⟩
        have HN0 := Lib.hid (HN.out.below hb)
        have HX10 := Lib.hid (HX.out.below hb)
        have HB10 := Lib.hid (below_then HB.out hb)
        clear hb HN HX HB y0 y1 y2 y3 y4 y5 y6
        obtain ⟨y0, y1, y2, y3, y4, y5, y6⟩ := HX10.out
        go_wp2_with fail
        refine (NL.out _ _ HN0.out).mono ?_
        rintro e u1 ⟨rfl, hb⟩
        have HN1 := Lib.hid (HN0.out.below hb)
        have HX11 := Lib.hid (HX10.out.below hb)
        have HB11 := Lib.hid (below_then HB10.out hb)
        clear hb HN0 HX10 HB10 y0 y1 y2 y3 y4 y5 y6
        obtain ⟨y0, y1, y2, y3, y4, y5, y6⟩ := HX11.out
        go_wp2_with fail
        refine (NT.out _ _ HN1.out).mono ?_
        rintro e u2 ⟨rfl, hb⟩
        have HN2 := Lib.hid (HN1.out.below hb)
        have HX12 := Lib.hid (HX11.out.below hb)
        have HB12 := Lib.hid (below_then HB11.out hb)
        clear hb HN1 HX11 HB11 y0 y1 y2 y3 y4 y5 y6
        obtain ⟨y0, y1, y2, y3, y4, y5, y6⟩ := HX12.out
        go_wp2_with fail
        refine (NG.out _ _ HN2.out).mono ?_
        rintro e u3 ⟨rfl, hb⟩
        have HN3 := Lib.hid (HN2.out.below hb)
        have HX13 := Lib.hid (HX12.out.below hb)
        have HB13 := Lib.hid (below_then HB12.out hb)
        clear hb HN2 HX12 HB12 y0 y1 y2 y3 y4 y5 y6
        obtain ⟨y0, y1, y2, y3, y4, y5, y6⟩ := HX13.out
        go_wp2_with fail
        refine (NM.out _ _ HN3.out).mono ?_
        rintro e u4 ⟨rfl, hb⟩
        have HN4 := Lib.hid (HN3.out.below hb)
        have HX14 := Lib.hid (HX13.out.below hb)
        have HB14 := Lib.hid (below_then HB13.out hb)
        clear hb HN3 HX13 HB13 y0 y1 y2 y3 y4 y5 y6
        obtain ⟨y0, y1, y2, y3, y4, y5, y6⟩ := HX14.out
        go_wp2_with fail
        refine (NS.out _ _ HN4.out).mono ?_
        rintro e u5 ⟨vs, rfl, hs, hb⟩
        obtain ⟨As, cs, rfl⟩ := steps_nil hs
        clear hs
        have HN5 := Lib.hid (HN4.out.below hb)
        have HX15 := Lib.hid (HX14.out.below hb)
        have HB15 := Lib.hid (below_then HB14.out hb)
        clear hb HN4 HX14 HB14 y0 y1 y2 y3 y4 y5 y6
        obtain ⟨y0, y1, y2, y3, y4, y5, y6⟩ := HX15.out
        go_wp2_with fail
        refine (NC.out _ _ HN5.out).mono ?_
        rintro e u6 ⟨rfl, hb⟩
        have HN6 := Lib.hid (HN5.out.below hb)
        have HX16 := Lib.hid (HX15.out.below hb)
        have HB16 := Lib.hid (below_then HB15.out hb)
        clear hb HN5 HX15 HB15 y0 y1 y2 y3 y4 y5 y6
        obtain ⟨y0, y1, y2, y3, y4, y5, y6⟩ := HX16.out
        go_wp2_with fail
        refine (NP.out _ _ HN6.out).mono ?_
        rintro e u7 ⟨rfl, hb⟩
        have HN7 := Lib.hid (HN6.out.below hb)
        have HX17 := Lib.hid (HX16.out.below hb)
        have HB17 := Lib.hid (below_then HB16.out hb)
        clear hb HN6 HX16 HB16 y0 y1 y2 y3 y4 y5 y6
        go_wp2_with fail
        exact ⟨⟨.inr (.inl (by first | rfl | go_num)), HB17.out⟩, by simp [intOf]⟩
      · have HN := Lib.hid (nobody_zero wr)
        have HX := Lib.hid ((HX0.out.below HL.out).alloc (.cells #[.int .i64 0, .slice none 0 0] 47))
        have HB := Lib.hid (HL.out.alloc HL.out.size (.cells #[.int .i64 0, .slice none 0 0] 47))
        unfold ptr at *
        clear HL
        obtain ⟨y0, y1, y2, y3, y4, y5, y6⟩ := HX.out
        go_wp2_with fail
        refine (NF.out _ _ HN.out).mono ?_
        rintro e u0 ⟨rfl, hb⟩
        have HN0 := Lib.hid (HN.out.below hb)
        have HX10 := Lib.hid (HX.out.below hb)
        have HB10 := Lib.hid (below_then HB.out hb)
        clear hb HN HX HB y0 y1 y2 y3 y4 y5 y6
        obtain ⟨y0, y1, y2, y3, y4, y5, y6⟩ := HX10.out
        go_wp2_with fail
        refine (NL.out _ _ HN0.out).mono ?_
        rintro e u1 ⟨rfl, hb⟩
        have HN1 := Lib.hid (HN0.out.below hb)
        have HX11 := Lib.hid (HX10.out.below hb)
        have HB11 := Lib.hid (below_then HB10.out hb)
        clear hb HN0 HX10 HB10 y0 y1 y2 y3 y4 y5 y6
        obtain ⟨y0, y1, y2, y3, y4, y5, y6⟩ := HX11.out
        go_wp2_with fail
        refine (NT.out _ _ HN1.out).mono ?_
        rintro e u2 ⟨rfl, hb⟩
        have HN2 := Lib.hid (HN1.out.below hb)
        have HX12 := Lib.hid (HX11.out.below hb)
        have HB12 := Lib.hid (below_then HB11.out hb)
        clear hb HN1 HX11 HB11 y0 y1 y2 y3 y4 y5 y6
        obtain ⟨y0, y1, y2, y3, y4, y5, y6⟩ := HX12.out
        go_wp2_with fail
        refine (NG.out _ _ HN2.out).mono ?_
        rintro e u3 ⟨rfl, hb⟩
        have HN3 := Lib.hid (HN2.out.below hb)
        have HX13 := Lib.hid (HX12.out.below hb)
        have HB13 := Lib.hid (below_then HB12.out hb)
        clear hb HN2 HX12 HB12 y0 y1 y2 y3 y4 y5 y6
        obtain ⟨y0, y1, y2, y3, y4, y5, y6⟩ := HX13.out
        go_wp2_with fail
        refine (NM.out _ _ HN3.out).mono ?_
        rintro e u4 ⟨rfl, hb⟩
        have HN4 := Lib.hid (HN3.out.below hb)
        have HX14 := Lib.hid (HX13.out.below hb)
        have HB14 := Lib.hid (below_then HB13.out hb)
        clear hb HN3 HX13 HB13 y0 y1 y2 y3 y4 y5 y6
        obtain ⟨y0, y1, y2, y3, y4, y5, y6⟩ := HX14.out
        go_wp2_with fail
        refine (NS.out _ _ HN4.out).mono ?_
        rintro e u5 ⟨vs, rfl, hs, hb⟩
        obtain ⟨As, cs, rfl⟩ := steps_nil hs
        clear hs
        have HN5 := Lib.hid (HN4.out.below hb)
        have HX15 := Lib.hid (HX14.out.below hb)
        have HB15 := Lib.hid (below_then HB14.out hb)
        clear hb HN4 HX14 HB14 y0 y1 y2 y3 y4 y5 y6
        obtain ⟨y0, y1, y2, y3, y4, y5, y6⟩ := HX15.out
        go_wp2_with fail
        refine (NC.out _ _ HN5.out).mono ?_
        rintro e u6 ⟨rfl, hb⟩
        have HN6 := Lib.hid (HN5.out.below hb)
        have HX16 := Lib.hid (HX15.out.below hb)
        have HB16 := Lib.hid (below_then HB15.out hb)
        clear hb HN5 HX15 HB15 y0 y1 y2 y3 y4 y5 y6
        obtain ⟨y0, y1, y2, y3, y4, y5, y6⟩ := HX16.out
        go_wp2_with fail
        refine (NP.out _ _ HN6.out).mono ?_
        rintro e u7 ⟨rfl, hb⟩
        have HN7 := Lib.hid (HN6.out.below hb)
        have HX17 := Lib.hid (HX16.out.below hb)
        have HB17 := Lib.hid (below_then HB16.out hb)
        clear hb HN6 HX16 HB16 y0 y1 y2 y3 y4 y5 y6
        go_wp2_with fail
        exact ⟨⟨.inr (.inr (by first | rfl | go_num)), HB17.out⟩, by simp [intOf]⟩
      · clear NF NL NT NG NM NS NC NP
        go_wp2_with fail
        refine (newS [] p 0 _ (fun i hi => by cases hi)).mono ?_
        rintro e w1 ⟨hn, hb1⟩
        have HB1 := Lib.hid (below_then HL.out hb1)
        rcases hn with ⟨_, rfl⟩ | ⟨hn, g, hg, rfl, hI⟩
        · clear hb1 CT CG CS CF R5b RW RK
          go_wp2_with fail
          refine (HAW.out _).mono ?_
          rintro e wz ⟨rfl, hbz⟩
          have HBZ := Lib.hid (HB0.out.trans ((below_then HB1.out hbz).mono HB0.out.size))
          clear hbz
          go_wp2_with fail
          go_ret
          exact ⟨rfl, HBZ.out⟩
        · have HGW : Hid (W0.heap.size ≤ g) := Nat.le_trans HL.out.size hg
          have HI1 := Lib.hid hI
          clear hb1 hI hg hn HL
          unfold ptr
          go_wp2_with fail
          go_loopw [15] (fun i wr => ∃ (k : Nat) (X : Prof), i = .int .i64 k ∧ k ≤ l.length ∧ Hid (Is [g] X wr g) ∧ Hid (X.l.length ≤ k) ∧ Hid (Below W0.heap.size W0 wr)) (fun i _ => l.length - (intOf i).toNat)
          case atStart => exact ⟨0, _, rfl, Nat.zero_le _, HI1.out, Nat.le_refl _, HB1.out⟩
          case round =>
            obtain ⟨k, X, rfl, hk, HI, HLEN, HL⟩ := hrel
            by_cases hlt : k < l.length
            · obtain ⟨ad, rfl, had, c1, c2, c3⟩ := (HA.out.below (HB0.out.trans (HL.out.mono HB0.out.size))) k hlt
              have i0 : (k : Int) < (l.length : Int) := by omega
              go_wp2_with fail
              refine (CT.out X g _ HI.out (by have := HLEN.out; omega) (byCell l k)).mono ?_
              rintro e w3 ⟨Y, c, rfl, ht, hi3, hg3⟩
              have HL3 := Lib.hid (below_grown HL.out hg3 HGW.out HL.out.size)
              have HI3 := Lib.hid hi3
              have HT := Lib.hid (take_len ht)
              clear ht hi3 hg3
              go_wp2_with fail
              exact ⟨⟨k + 1, Y, by go_num, by omega, HI3.out, by have h8 := HT.out; have h9 := HLEN.out; show Y.l.length ≤ k + 1; omega, HL3.out⟩, by simp [intOf] <;> omega⟩
            · have hX : X.l.length ≤ 40 := by have := HLEN.out; omega
              have HFAIR := Lib.hid HI.out.fair
              go_wp2_with fail
              refine (CS.out X g _ HI.out (by omega)).mono ?_
              rintro e w3 ⟨v3, rfl, hs3, ho3, hb3⟩
              have HI3 := Lib.hid (HI.out.below hb3)
              have HS3 := Lib.hid hs3
              have HO3 := Lib.hid ho3
              have HL3 := Lib.hid (below_then HL.out hb3)
              have HX3 := Lib.hid (HX0.out.below HL3.out)
              obtain ⟨A3, k3, rfl, _⟩ := hs3.open_
              clear hs3 ho3 hb3 HI HL HLEN
              obtain ⟨y0, y1, y2, y3, y4, y5, y6⟩ := HX3.out
              go_wp2_with fail
              refine (CT.out X g _ HI3.out (by omega) b).mono ?_
              rintro e w4 ⟨Y, c, rfl, ht, hi4, hg4⟩
              have hw := take_ways ht HFAIR.out
              have hY := take_len ht
              have HI4 := Lib.hid hi4
              have HS4 := Lib.hid (spans_still HS3.out HO3.out (Still.of_grown hg4 (List.mem_singleton.2 rfl)))
              have HL4 := Lib.hid (below_grown HL3.out hg4 HGW.out HL3.out.size)
              have HX4 := Lib.hid (HX0.out.below HL4.out)
              clear ht hi4 hg4 HI3 HS3 HL3 HX3 y0 y1 y2 y3 y4 y5 y6
              rcases hw with ⟨hc, rfl⟩ | ⟨hc, rfl, hB, hN, b1, b2, m1, m2, hgive⟩
              · go_wp2_with fail
                refine (CS.out Y g _ HI4.out (by omega)).mono ?_
                rintro e w5 ⟨v5, rfl, hs5, _, hb5⟩
                have HS5 := Lib.hid (HS4.out.below hb5)
                have HL5 := Lib.hid (below_then HL4.out hb5)
                have HT5 := Lib.hid hs5
                obtain ⟨A5, k5, rfl, _⟩ := hs5.open_
                clear hs5 hb5
                go_wp2_with fail
                refine (R5b.out Y (by omega) _ _ _ HT5.out HS5.out).mono ?_
                rintro e w6 ⟨rfl, n6, rfl⟩
                have HL6 := Lib.hid (below_drewN HL5.out n6)
                go_wp2_with fail
                refine (HAW.out _).mono ?_
                rintro e wz ⟨rfl, hbz⟩
                have HBZ := Lib.hid (HB0.out.trans ((below_then HL6.out hbz).mono HB0.out.size))
                clear hbz
                go_wp2_with fail
                go_ret
                exact ⟨rfl, HBZ.out⟩
              · have HGV := Lib.hid hgive
                have hck := (chk_iff _).2 (steps_rep HFAIR.out).1
                clear hgive
                have CF4 := Lib.hid (CF.out Y g _ HI4.out (by omega))
                rw [hB, hN] at CF4
                have RK4 := Lib.hid (fun w' h6 => RK.out X (by omega) (.slice A3 (stepsL X).length k3) w' h6)
                rw [hck] at RK4
                have RW4 := Lib.hid (fun w' h6 => RW.out X (by omega) (.slice A3 (stepsL X).length k3) w' h6)
                clear hB hN hck CF RK RW
                generalize val (stepsL X) b.1 = M at *
                obtain ⟨N, hN⟩ : ∃ N : Int, N = M - b.2.2 := ⟨_, rfl⟩
                rw [← hN] at CF4
                have hwrap : IntKind.i64.wrap (M - b.2.2) = N := by rw [IntKind.wrap_i64]; omega
                clear hN
                obtain ⟨y0, y1, y2, y3, y4, y5, y6⟩ := HX4.out
                go_wp2_with fail
                refine CF4.out.mono ?_
                rintro e w5 ⟨rfl, hb5⟩
                have HS5 := Lib.hid (HS4.out.below hb5)
                have HL5 := Lib.hid (below_then HL4.out hb5)
                have HI5 := Lib.hid (HI4.out.below hb5)
                have HX5 := Lib.hid (HX4.out.below hb5)
                clear hb5 HS4 HL4 HI4 HX4 y0 y1 y2 y3 y4 y5 y6 CF4
                obtain ⟨y0, y1, y2, y3, y4, y5, y6⟩ := HX5.out
                go_wp2_with fail
                refine (RW4.out _ HS5.out).mono ?_
                rintro e w6 ⟨rfl, rfl⟩
                go_wp2_with fail
                refine (RK4.out _ HS5.out).mono ?_
                rintro e w6 ⟨rfl, n6, rfl⟩
                have HL6 := Lib.hid (below_drewN HL5.out n6)
                have HI6 := Lib.hid (HI5.out.below (below_drewN (Below.refl _ _) n6))
                have HS6 := Lib.hid (HS5.out.below (below_drewN (Below.refl _ _) n6))
                have HX6 := Lib.hid (HX5.out.drewN n6)
                clear HL5 HI5 HS5 HX5 y0 y1 y2 y3 y4 y5 y6
                obtain ⟨y0, y1, y2, y3, y4, y5, y6⟩ := HX6.out
                go_wp2_with fail
                refine (CG.out Y g _ HI6.out (by omega)).mono ?_
                rintro e w7 ⟨Z, d, rfl, hg7, hi7, hr7⟩
                obtain ⟨rfl, hz, hzl⟩ := HGV.out Z d hg7
                have HI7 := Lib.hid hi7
                have HS7 := Lib.hid (spans_still HS6.out HO3.out (Still.of_grown hr7 (List.mem_singleton.2 rfl)))
                have HL7 := Lib.hid (below_grown HL6.out hr7 HGW.out HL6.out.size)
                have HZ := Lib.hid hz
                clear hz hg7 hi7 hr7 HL6 HI6 HS6 HX6 y0 y1 y2 y3 y4 y5 y6
                go_wp2_with fail
                refine (CS.out Z g _ HI7.out (by omega)).mono ?_
                rintro e w8 ⟨v8, rfl, hs8, _, hb8⟩
                rw [HZ.out] at hs8
                have HS8 := Lib.hid (HS7.out.below hb8)
                have HL8 := Lib.hid (below_then HL7.out hb8)
                have HT8 := Lib.hid hs8
                obtain ⟨A8, k8, rfl, _⟩ := hs8.open_
                clear hs8 hb8
                go_wp2_with fail
                refine (R5b.out X (by omega) _ _ _ HT8.out HS8.out).mono ?_
                rintro e w9 ⟨rfl, n9, rfl⟩
                have HL9 := Lib.hid (below_drewN HL8.out n9)
                go_wp2_with fail
                refine (HAW.out _).mono ?_
                rintro e wz ⟨rfl, hbz⟩
                have HBZ := Lib.hid (HB0.out.trans ((below_then HL9.out hbz).mono HB0.out.size))
                clear hbz
                go_wp2_with fail
                go_ret
                exact ⟨rfl, HBZ.out⟩
  · have d1 : decide ((40 : Int) < (l.length : Int)) = true := by rw [decide_eq_true_eq]; omega
    clear NF NL NT NG NM NS NC NP CT CG CS CF R5b RW RK
    go_wp2_with fail
    refine (HAW.out _).mono ?_
    rintro e wz ⟨rfl, hbz⟩
    have HBZ := Lib.hid (HB0.out.trans ((hbz).mono HB0.out.size))
    clear hbz
    go_wp2_with fail
    go_ret
    exact ⟨rfl, HBZ.out⟩
end Go.Proofs.Ytjkninldenoanaa.ProfWalk
