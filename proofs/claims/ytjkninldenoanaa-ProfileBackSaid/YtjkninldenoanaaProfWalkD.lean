/-
  The walks of layer 5's code: Move; what is stored into a profile.
-/
import Derived.Test.YtjkninldenoanaaProfWalkC
import Derived.Test.YtjkninldenoanaaStepWalkG
namespace Go.Proofs.Ytjkninldenoanaa.ProfWalk
open Go.RowKit Go.Proofs.Ytjkninldenoanaa.SpanPlain Go.Proofs.Ytjkninldenoanaa.StepPlain Go.Proofs.Ytjkninldenoanaa.ProfPlain Go.Proofs.Ytjkninldenoanaa.Mem Go.Proofs.Ytjkninldenoanaa.SpanMem Go.Proofs.Ytjkninldenoanaa.StepMem Go.Proofs.Ytjkninldenoanaa.SpanRef Go.Proofs.Ytjkninldenoanaa.StepRef Go.Proofs.Ytjkninldenoanaa.ProfRef

theorem Is.drewN {G : List Nat} {x : Prof} {w : World} {g : Nat} (h : Is G x w g) (n : Nat) : Is G x (w.drewN n) g := h.keep (Still.of_below (below_drewN (Below.refl _ _) n)) rfl
theorem Is.low {G : List Nat} {x : Prof} {w w' : World} {g : Nat} (h : Is G x w g) (hb : Below w.heap.size w w') : Is G x w' g := h.keep (Still.of_below hb) (hb.block g h.lt)
theorem grown_low {w w' : World} {g : Nat} (h : Below w.heap.size w w') : w.grownBy w' (some g) := ⟨h.os, h.tape, h.output, h.size, fun i hi _ => h.block i hi⟩
/-- What is stored into a profile: other steps. -/
theorem store_is {G : List Nat} {x y : Prof} {w0 w w1 : World} {g : Nat} {v : Value} (h : Is G x w1 g) (hy : y.Fair) (hp : y.p = x.p) (hs : SpansIs (stepsL y) w1 v) (ho : Off G v) (hb : Below w.heap.size w w1) :
    Is G y (w1.setCell ⟨g, 1, none⟩ v) g ∧ w.grownBy (w1.setCell ⟨g, 1, none⟩ v) (some g) := by
  obtain ⟨u, h1, _, _⟩ := h.box
  refine ⟨⟨h.mem, hy, v, by rw [hp]; exact h1.set1 v, spans_still hs ho (Still.of_set w1 (p := ⟨g, 1, none⟩) h.mem v), ho⟩, hb.os, hb.tape, hb.output, Nat.le_trans hb.size (by simp [World.setCell]), fun i hi hn => ?_⟩
  exact (Below.heap_setCell w1 ⟨g, 1, none⟩ v i (fun e => hn (by rw [e]))).trans (hb.block i hi)
theorem new_off {G : List Nat} {w w1 : World} {v : Value} (h : StepWalk.NewAt w1.heap.size v) (hG : ∀ i ∈ G, i < w.heap.size) (hw : w.heap.size ≤ w1.heap.size) : Off G v := fun a n c e hm => by
  have h1 := h a n c e
  have h2 := hG _ hm
  omega

theorem move_ways (x : Prof) (t : Int) : (decide (t < x.t) = true ∧ Hid (MoveIs x t x 1)) ∨ (decide (t < x.t) = false ∧ decide (1125899906842624 < t) = true ∧ Hid (MoveIs x t x 1)) ∨
    (decide (t < x.t) = false ∧ decide (1125899906842624 < t) = false ∧ Hid (x.t ≤ t ∧ t ≤ 1125899906842624 ∧ MoveIs x t ⟨x.p, t, x.l⟩ 0)) := by
  by_cases h1 : t < x.t
  · exact .inl ⟨decide_eq_true h1, .inl ⟨.inl h1, rfl, rfl⟩⟩
  by_cases h2 : 1125899906842624 < t
  · exact .inr (.inl ⟨decide_eq_false h1, decide_eq_true h2, .inl ⟨.inr h2, rfl, rfl⟩⟩)
  · exact .inr (.inr ⟨decide_eq_false h1, decide_eq_false h2, by omega, by omega, .inr ⟨by omega, rfl, rfl⟩⟩)
set_option maxHeartbeats 1600000 in
theorem moveS {G : List Nat} {x : Prof} {g : Nat} {w : World} (h : Is G x w g) (hG : ∀ i ∈ G, i < w.heap.size) (hl : x.l.length ≤ 60) (t : Int) : Calls Try.prog 11 #[ptr g, .int .i64 t] w (Turns Is (MoveIs x t) G g w) := by
  obtain ⟨a, c, ⟨b0, b1, b2, b3, b4⟩, hs, _, ha, c1, hn⟩ := h.parts
  have hp := spos h.fair
  have q1 : (0 : Int) < ((stepsL x).length : Int) := by omega
  have CM := Lib.hid (isMadeS h)
  have CT := Lib.hid (StepWalk.trimS (stepsL x) t _ w hs (by have := steps_len hl; omega))
  have HI := Lib.hid h
  have HG := Lib.hid hG
  have hways := move_ways x t
  clear hs h hl hG hp
  generalize (stepsL x).length = n at *
  unfold ptr at *
  rcases hways with ⟨d1, HR⟩ | ⟨d1, d2, HR⟩ | ⟨d1, d2, HR⟩
  · go_enter Try.func11, Try.ntmps11
    go_wp2_with fail
    refine CM.out.mono ?_
    rintro e w1 ⟨rfl, rfl⟩
    go_wp2_with fail
    go_ret
    exact ⟨_, _, rfl, HR.out, HI.out, grown_low (Below.refl _ _)⟩
  · go_enter Try.func11, Try.ntmps11
    go_wp2_with fail
    refine CM.out.mono ?_
    rintro e w1 ⟨rfl, rfl⟩
    go_wp2_with fail
    go_ret
    exact ⟨_, _, rfl, HR.out, HI.out, grown_low (Below.refl _ _)⟩
  · go_enter Try.func11, Try.ntmps11
    go_wp2_with fail
    refine CM.out.mono ?_
    rintro e w1 ⟨rfl, rfl⟩
    go_wp2_with fail
    refine CT.out.mono ?_
    rintro e w1 ⟨v, r, rfl, hr, ht, hb, hnew⟩
    obtain ⟨m1, m2, m3⟩ := HR.out
    obtain rfl := move_trim HI.out.fair m1 m2 ht
    have HS := Lib.hid (store_is (w0 := w) (HI.out.low hb) (m3.fair HI.out.fair) rfl hr (new_off hnew HG.out (Nat.le_refl _)) hb)
    obtain ⟨e0, e1, e2, e3, e4⟩ := (Box2.mk b0 b1 b2 b3 b4).below hb
    obtain ⟨A1, k1, rfl, _⟩ := hr.open_
    clear hr ht hb hnew m1 m2 m3 b0 b1 b2 b3 b4 c1 CT
    go_wp2_with fail
    go_ret
    exact ⟨_, _, rfl, HR.out.2.2, HS.out.1, HS.out.2⟩

/-- What is asked of busy times that are taken or given back, in the code's order. -/
theorem turn_ways (x : Prof) (b : By) : (byB b = false ∧ Hid (turnBad x b)) ∨ (byB b = true ∧ decide (b.1 < x.t) = true ∧ Hid (turnBad x b)) ∨ (byB b = true ∧ decide (b.1 < x.t) = false ∧ Hid (¬ turnBad x b)) := by
  unfold turnBad
  cases h1 : byB b with
  | false => exact .inl ⟨rfl, .inl rfl⟩
  | true =>
    by_cases h2 : b.1 < x.t
    · exact .inr (.inl ⟨rfl, decide_eq_true h2, .inr h2⟩)
    · exact .inr (.inr ⟨rfl, decide_eq_false h2, fun h => h.elim (fun h => by cases h) h2⟩)
/-- What is told of a taking, by the least number that is free. -/
theorem took_ways {x : Prof} {b : By} (hb : ¬ turnBad x b) {n : Int} (h : LeastOf (freeL x.p x.l) (b.1, b.2.1) n) : (decide (n < b.2.2) = true ∧ TakeIs x b x 8) ∨ (decide (n < b.2.2) = false ∧ TakeIs x b ⟨x.p, x.t, x.l ++ [b]⟩ 0 ∧ ∀ u, b.1 ≤ u → u < b.2.1 → b.2.2 ≤ freeL x.p x.l u) := by
  obtain ⟨⟨t, t1, t2, t3⟩, h2⟩ := h
  by_cases h3 : n < b.2.2
  · exact .inl ⟨decide_eq_true h3, .inr (.inl ⟨hb, ⟨t, t1, t2, by omega⟩, rfl, rfl⟩)⟩
  · have h4 : ∀ u, b.1 ≤ u → u < b.2.1 → b.2.2 ≤ freeL x.p x.l u := fun u u1 u2 => by have := h2 u u1 u2; omega
    exact .inr ⟨decide_eq_false h3, .inr (.inr ⟨hb, h4, rfl, rfl⟩), h4⟩
end Go.Proofs.Ytjkninldenoanaa.ProfWalk
