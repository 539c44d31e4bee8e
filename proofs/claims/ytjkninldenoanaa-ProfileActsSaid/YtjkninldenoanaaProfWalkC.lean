/-
  The walks of layer 5's code: New, Copy; what is told of what is no profile.
-/
import Derived.Test.YtjkninldenoanaaProfWalkB
import Derived.Test.YtjkninldenoanaaStepWalk
namespace Go.Proofs.Ytjkninldenoanaa.ProfWalk
open Go.RowKit Go.Proofs.Ytjkninldenoanaa.SpanPlain Go.Proofs.Ytjkninldenoanaa.StepPlain Go.Proofs.Ytjkninldenoanaa.ProfPlain Go.Proofs.Ytjkninldenoanaa.Mem Go.Proofs.Ytjkninldenoanaa.SpanMem Go.Proofs.Ytjkninldenoanaa.StepMem Go.Proofs.Ytjkninldenoanaa.SpanRef Go.Proofs.Ytjkninldenoanaa.StepRef Go.Proofs.Ytjkninldenoanaa.ProfRef

set_option maxHeartbeats 1600000 in
theorem newS (G : List Nat) (p t : Int) (w : World) (hG : ∀ i ∈ G, i < w.heap.size) : Calls Try.prog 6 #[.int .i64 p, .int .i64 t] w (NewSays Is G p t w) := by
  have CO := Lib.hid (StepWalk.ofS p t [] (.slice none 0 0) w (.inl ⟨rfl, rfl⟩) (by decide))
  have HG := Lib.hid hG
  clear hG
  go_enter Try.func6, Try.ntmps6
  go_wp2_with fail
  refine CO.out.mono ?_
  rintro e w1 ⟨v, s, c, rfl, ho, hs, hb, hn⟩
  rcases new_of ho with ⟨hb0, rfl, rfl⟩ | ⟨hb0, rfl, rfl⟩
  · have HB := Lib.hid hb
    have HN := Lib.hid hb0
    clear hb hs hn ho hb0
    go_wp2_with fail
    go_ret2
    exact ⟨.inl ⟨HN.out, rfl⟩, HB.out⟩
  · have hf := new_fair hb0
    have HIS : Hid (Is (w1.heap.size :: G) ⟨p, t, []⟩ (w1.alloc (.cells #[.int .i64 p, v] 47)) w1.heap.size) := by
      refine ⟨List.mem_cons_self, hf, v, Box2.new w1 _ _ _, hs.below (below_alloc _ _), fun a m k e hm => ?_⟩
      subst e
      have h1 := spans_lt hs (spos hf)
      have h2 := hn a m k rfl
      rcases List.mem_cons.1 hm with hm | hm
      · omega
      · have := HG.out _ hm; omega
    obtain ⟨A, k, rfl, _⟩ := hs.open_
    have HB := Lib.hid hb
    have HN := Lib.hid hb0
    clear hb hs hn ho hb0 hf
    go_wp2_with fail
    go_ret2
    exact ⟨.inr ⟨HN.out, _, HB.out.size, rfl, HIS.out⟩, HB.out.alloc HB.out.size _⟩
set_option maxHeartbeats 1600000 in
theorem copyS {G : List Nat} {x : Prof} {g : Nat} {w : World} (h : Is G x w g) (hG : ∀ i ∈ G, i < w.heap.size) (hl : x.l.length ≤ 60) : Calls Try.prog 7 #[ptr g] w (CopySays Is G x w) := by
  obtain ⟨a, c, ⟨b0, b1, b2, _, _⟩, hs, _⟩ := h.parts
  have CM := Lib.hid (isMadeS h)
  have CK := Lib.hid (StepWalk.cloneS a (stepsL x).length c (svals (stepsL x)) w.drew (svals_len _) (by have := steps_len hl; omega) (StepWalk.raw_of hs) (svals_cell _))
  have HG := Lib.hid hG
  have HF := Lib.hid h.fair
  clear hs h hl hG
  unfold ptr at *
  go_enter Try.func7, Try.ntmps7
  go_wp2_with fail
  refine CM.out.mono ?_
  rintro e w1 ⟨rfl, rfl⟩
  go_wp2_with fail
  go_region_held3 (fun w' => w'.cell? ⟨g, 0, none⟩ = some (.int .i64 x.p) ∧ w'.cell? ⟨g, 1, none⟩ = some (.slice (some a) (stepsL x).length c))
    (first | go_keep | (go_split_ands; exact ⟨(HBk.out.cell (p := ⟨g, 0, none⟩) b0).trans b1, (HBk.out.cell (p := ⟨g, 1, none⟩) b0).trans b2⟩))
    (first | (go_at_call 22; (refine CK.out.mono ?_; rintro e w5 ⟨v5, rfl, ho5, hb5⟩; have HBk := Lib.hid (below_of_drew hb5); obtain ⟨g5, k5, rfl, _⟩ := ho5.form; have HO5 := Lib.hid ho5; clear ho5 hb5)))
  all_goals
    obtain ⟨k1, k2⟩ := clone_off (w := w.drew) HO5.out rfl HG.out
    have HIS : Hid (Is (w5.heap.size :: G) x (w5.alloc (.cells #[.int .i64 x.p, .slice (some ⟨g5, 0, none⟩) (stepsL x).length k5] 47)) w5.heap.size) := by
      refine ⟨List.mem_cons_self, HF.out, _, Box2.new w5 _ _ _, k1.below (below_alloc _ _), fun a m k e hm => ?_⟩
      rcases List.mem_cons.1 hm with hm | hm
      · have h1 := spans_lt k1 (spos HF.out)
        injection e with e
        injection e with e
        subst e
        omega
      · exact k2 a m k e hm
    go_wp2_with fail
    go_ret
    exact ⟨_, HBk.out.size, rfl, HIS.out, HBk.out.alloc HBk.out.size _⟩

theorem noFree {w : World} {v : Value} (h : Nobody w v) (t : Int) : Calls Try.prog 13 #[v, .int .i64 t] w (PairIs 0 false w) := by
  have CM := Lib.hid (noMade h)
  clear h
  go_enter Try.func13, Try.ntmps13
  go_wp2_with fail
  refine CM.out.mono ?_
  rintro e w1 ⟨rfl, rfl⟩
  go_wp2_with fail
  go_ret2
  exact ⟨rfl, Below.refl _ _⟩
theorem noLeast {w : World} {v : Value} (h : Nobody w v) (s : Sp) : Calls Try.prog 14 #[v, spV s] w (PairIs 0 false w) := by
  have HB := Lib.hid (below_alloc w (.cells #[.int .i64 s.1, .int .i64 s.2] 25))
  have CM := Lib.hid (noMade (h.below HB.out))
  clear h
  unfold spV
  go_enter Try.func14, Try.ntmps14
  go_wp2_with fail
  refine CM.out.mono ?_
  rintro e w1 ⟨rfl, rfl⟩
  go_wp2_with fail
  go_ret2
  exact ⟨rfl, HB.out⟩
theorem noTake {w : World} {v : Value} (h : Nobody w v) (b : By) : Calls Try.prog 9 #[v, byV b] w (IntB 5 w) := by
  have HB := Lib.hid (below_alloc w (.cells #[.int .i64 b.1, .int .i64 b.2.1, .int .i64 b.2.2] 36))
  have CM := Lib.hid (noMade (h.below HB.out))
  clear h
  unfold byV
  go_enter Try.func9, Try.ntmps9
  go_wp2_with fail
  refine CM.out.mono ?_
  rintro e w1 ⟨rfl, rfl⟩
  go_wp2_with fail
  go_ret
  exact ⟨rfl, HB.out⟩
theorem noGive {w : World} {v : Value} (h : Nobody w v) (b : By) : Calls Try.prog 10 #[v, byV b] w (IntB 5 w) := by
  have HB := Lib.hid (below_alloc w (.cells #[.int .i64 b.1, .int .i64 b.2.1, .int .i64 b.2.2] 36))
  have CM := Lib.hid (noMade (h.below HB.out))
  clear h
  unfold byV
  go_enter Try.func10, Try.ntmps10
  go_wp2_with fail
  refine CM.out.mono ?_
  rintro e w1 ⟨rfl, rfl⟩
  go_wp2_with fail
  go_ret
  exact ⟨rfl, HB.out⟩
theorem noMove {w : World} {v : Value} (h : Nobody w v) (t : Int) : Calls Try.prog 11 #[v, .int .i64 t] w (IntB 5 w) := by
  have CM := Lib.hid (noMade h)
  clear h
  go_enter Try.func11, Try.ntmps11
  go_wp2_with fail
  refine CM.out.mono ?_
  rintro e w1 ⟨rfl, rfl⟩
  go_wp2_with fail
  go_ret
  exact ⟨rfl, Below.refl _ _⟩
theorem noSteps {w : World} {v : Value} (h : Nobody w v) : Calls Try.prog 15 #[v] w (NoSteps w) := by
  have CM := Lib.hid (noMade h)
  clear h
  go_enter Try.func15, Try.ntmps15
  go_wp2_with fail
  refine CM.out.mono ?_
  rintro e w1 ⟨rfl, rfl⟩
  go_wp2_with fail
  go_ret
  exact ⟨_, rfl, .inl ⟨rfl, rfl⟩, Below.refl _ _⟩
theorem noCopy {w : World} {v : Value} (h : Nobody w v) : Calls Try.prog 7 #[v] w (NilIs w) := by
  have CM := Lib.hid (noMade h)
  clear h
  go_enter Try.func7, Try.ntmps7
  go_wp2_with fail
  refine CM.out.mono ?_
  rintro e w1 ⟨rfl, rfl⟩
  go_wp2_with fail
  go_ret
  exact ⟨rfl, Below.refl _ _⟩
theorem noProcs {w : World} {v : Value} (h : Nobody w v) : Calls Try.prog 16 #[v] w (IntB 0 w) := by
  have CM := Lib.hid (noMade h)
  clear h
  go_enter Try.func16, Try.ntmps16
  go_wp2_with fail
  refine CM.out.mono ?_
  rintro e w1 ⟨rfl, rfl⟩
  go_wp2_with fail
  go_ret
  exact ⟨rfl, Below.refl _ _⟩
end Go.Proofs.Ytjkninldenoanaa.ProfWalk
