/-
  The walks of layer 5's code: Free, Least, Steps, Procs.
-/
import Derived.Test.YtjkninldenoanaaProfWalkA
import Derived.Test.YtjkninldenoanaaStepWalkD
namespace Go.Proofs.Ytjkninldenoanaa.ProfWalk
open Go.RowKit Go.Proofs.Ytjkninldenoanaa.SpanPlain Go.Proofs.Ytjkninldenoanaa.StepPlain Go.Proofs.Ytjkninldenoanaa.ProfPlain Go.Proofs.Ytjkninldenoanaa.Mem Go.Proofs.Ytjkninldenoanaa.SpanMem Go.Proofs.Ytjkninldenoanaa.StepMem Go.Proofs.Ytjkninldenoanaa.SpanRef Go.Proofs.Ytjkninldenoanaa.StepRef Go.Proofs.Ytjkninldenoanaa.ProfRef

theorem freeS {G : List Nat} {x : Prof} {g : Nat} {w : World} (h : Is G x w g) (hl : x.l.length ≤ 60) (t : Int) : Calls Try.prog 13 #[ptr g, .int .i64 t] w (PairIs (freeN x t) (freeB x t) w) := by
  obtain ⟨a, c, ⟨b0, b1, b2, _, _⟩, hs, _⟩ := h.parts
  have CM := Lib.hid (isMadeS h)
  have CA := Lib.hid (StepWalk.atS (stepsL x) t _ w hs (by have := steps_len hl; omega))
  rw [at_b h.fair, at_n h.fair] at CA
  clear hs h hl
  generalize (stepsL x).length = n at *
  unfold ptr at *
  go_enter Try.func13, Try.ntmps13
  go_wp2_with fail
  refine CM.out.mono ?_
  rintro e w1 ⟨rfl, rfl⟩
  go_wp2_with fail
  refine CA.out.mono ?_
  rintro e w1 ⟨rfl, hb1⟩
  have HB := Lib.hid hb1
  clear hb1
  go_wp2_with fail
  go_ret2
  exact ⟨rfl, HB.out⟩
theorem procsS {G : List Nat} {x : Prof} {g : Nat} {w : World} (h : Is G x w g) (hl : x.l.length ≤ 60) : Calls Try.prog 16 #[ptr g] w (IntB x.p w) := by
  obtain ⟨a, c, ⟨b0, b1, b2, _, _⟩, _⟩ := h.parts
  have CM := Lib.hid (isMadeS h)
  clear h hl
  generalize (stepsL x).length = n at *
  unfold ptr at *
  go_enter Try.func16, Try.ntmps16
  go_wp2_with fail
  refine CM.out.mono ?_
  rintro e w1 ⟨rfl, rfl⟩
  go_wp2_with fail
  go_ret
  exact ⟨rfl, Below.refl _ _⟩
/-- A clone lies in none of the blocks that were there. -/
theorem clone_off {G : List Nat} {l : List Sp} {w w' : World} {v : Value} {n : Nat} (h : OwnR 62 2 w.heap.size w' v n (svals l)) (hn : n = l.length) (hG : ∀ i ∈ G, i < w.heap.size) : SpansIs l w' v ∧ Off G v := by
  refine ⟨OwnR.spans h hn, fun a m c e hm => ?_⟩
  obtain ⟨g, k, rfl, hg, _⟩ := h.form
  injection e with e
  injection e with e
  subst e
  have := hG _ hm
  simp at this
  omega
theorem stepsS {G : List Nat} {x : Prof} {g : Nat} {w : World} (h : Is G x w g) (hG : ∀ i ∈ G, i < w.heap.size) (hl : x.l.length ≤ 60) : Calls Try.prog 15 #[ptr g] w (StepsSays G x w) := by
  obtain ⟨a, c, ⟨b0, b1, b2, _, _⟩, hs, _⟩ := h.parts
  have CM := Lib.hid (isMadeS h)
  have CK := Lib.hid (StepWalk.cloneS a (stepsL x).length c (svals (stepsL x)) w (svals_len _) (by have := steps_len hl; omega) (StepWalk.raw_of hs) (svals_cell _))
  have HG := Lib.hid hG
  clear hs h hl hG
  unfold ptr at *
  go_enter Try.func15, Try.ntmps15
  go_wp2_with fail
  refine CM.out.mono ?_
  rintro e w1 ⟨rfl, rfl⟩
  go_wp2_with fail
  refine CK.out.mono ?_
  rintro e w1 ⟨v, rfl, ho, hb⟩
  obtain ⟨k1, k2⟩ := clone_off ho rfl HG.out
  have HB := Lib.hid hb
  clear hb ho
  go_wp2_with fail
  go_ret
  exact ⟨_, rfl, k1, k2, HB.out⟩

set_option maxHeartbeats 1600000 in
theorem leastS {G : List Nat} {x : Prof} {g : Nat} {w : World} (h : Is G x w g) (hl : x.l.length ≤ 60) (s : Sp) : Calls Try.prog 14 #[ptr g, spV s] w (PairIs (leastN x s) (leastB x s) w) := by
  have HB0 := Lib.hid (below_alloc w (.cells #[.int .i64 s.1, .int .i64 s.2] 25))
  have HX0 := Lib.hid (Box2.new w (.int .i64 s.1) (.int .i64 s.2) 25)
  have h1 := h.keep (Still.of_below HB0.out) (HB0.out.block g h.lt)
  obtain ⟨a, c, hbx, hs, _⟩ := h1.parts
  have CM := Lib.hid (isMadeS h1)
  have CL : Hid (∀ p : Lull (w.alloc (.cells #[.int .i64 s.1, .int .i64 s.2] 25)), Calls Try.prog 27 #[.slice (some a) (stepsL x).length c, .agg #[.int .i64 s.1, .int .i64 s.2]] p.u
      (fun e w' => e = .returned (.tuple #[.int .i64 (leastN x s), .bool (leastB x s)]) ∧ Below p.u.heap.size p.u w')) := fun p =>
    (StepWalk.minS (stepsL x) s _ p.u (hs.below p.h) (by have := steps_len hl; omega)).mono fun e w' ⟨n, he, hn, hb⟩ => by
      have h2 := min_n h.fair hn
      rw [min_b h.fair] at he
      subst h2
      exact ⟨he, hb⟩
  have P0 := calm_cell HX0.out.lt HX0.out.c0
  have P1 := calm_cell (a := ⟨w.heap.size, 1, none⟩) HX0.out.lt HX0.out.c1
  have P2 := calm_cell hbx.lt hbx.c1
  clear hs h1 h hl hbx HX0
  generalize (stepsL x).length = n at *
  generalize leastN x s = N at *
  generalize leastB x s = B at *
  unfold ptr spV at *
  go_enter Try.func14, Try.ntmps14
  go_wp2_with fail
  refine CM.out.mono ?_
  rintro e w1 ⟨rfl, rfl⟩
  go_wp2_with fail
  refine wp_region_calm (by kernel_rfl) (by kernel_rfl) ?_
  repeat (first | go_big_quiet_step ((go_at_call 27; exact calm_of (CL.out _))) | quiet_step ((go_at_call 27; exact calm_of (CL.out _))))
  refine wpQuiet_nil ?_
  intro w1 hw
  have hb1 := lull_below hw
  clear hw
  have HB1 := Lib.hid hb1
  clear hb1 P0 P1 P2
  go_wp2_with fail
  go_ret2
  exact ⟨rfl, below_then HB0.out HB1.out⟩

end Go.Proofs.Ytjkninldenoanaa.ProfWalk
