/-
  The walks of the statements of layer 5: what both of them end with (awake).
-/
import Derived.Test.YtjkninldenoanaaProfLawA
namespace Go.Proofs.Ytjkninldenoanaa.ProfWalk
open Go.RowKit Go.Proofs.Ytjkninldenoanaa.SpanPlain Go.Proofs.Ytjkninldenoanaa.StepPlain Go.Proofs.Ytjkninldenoanaa.ProfPlain Go.Proofs.Ytjkninldenoanaa.Mem Go.Proofs.Ytjkninldenoanaa.SpanMem Go.Proofs.Ytjkninldenoanaa.StepMem Go.Proofs.Ytjkninldenoanaa.SpanRef Go.Proofs.Ytjkninldenoanaa.StepRef Go.Proofs.Ytjkninldenoanaa.ProfRef

theorem below_grown {B : Nat} {a w w' : World} {g : Nat} (h : Below B a w) (hg : w.grownBy w' (some g)) (hB : B ≤ g) (hw : B ≤ w.heap.size) : Below B a w' :=
  h.trans ⟨hg.os, hg.tape, hg.output, hg.size, fun i hi => hg.block i (by omega) (fun e => by cases e; omega)⟩
def exB : By := (2, 4, 3)
theorem ex_take1 {y : Prof} {c : Int} (h : TakeIs ⟨5, 0, []⟩ exB y c) : y = ⟨5, 0, [exB]⟩ ∧ c = 0 :=
  h.unique (.inr (.inr ⟨by unfold turnBad; decide, fun u _ _ => by show (3 : Int) ≤ 5; decide, rfl, rfl⟩))
theorem ex_take2 {y : Prof} {c : Int} (h : TakeIs ⟨5, 0, [exB]⟩ exB y c) : y = ⟨5, 0, [exB]⟩ ∧ c = 8 :=
  h.unique (.inr (.inl ⟨by unfold turnBad; decide, ⟨2, by decide, by decide, by decide⟩, rfl, rfl⟩))
theorem ex_give {y : Prof} {c : Int} (h : GiveIs ⟨5, 0, [exB]⟩ exB y c) : y = ⟨5, 0, [exB, (2, 4, -3)]⟩ ∧ c = 0 :=
  h.unique (.inr (.inr ⟨by unfold turnBad; decide, fun u h1 h2 => by
    have h3 : u = 2 ∨ u = 3 := by have : (exB.1 : Int) = 2 := rfl; have : (exB.2.1 : Int) = 4 := rfl; omega
    rcases h3 with rfl | rfl <;> decide, rfl, rfl⟩))
theorem ex_steps : (stepsL ⟨5, 0, [exB]⟩).length = 3 := by decide
theorem ex_new : newB 5 0 = true := by decide

set_option maxHeartbeats 3200000 in
theorem awake5 (w : World) : Calls Try.prog 5 #[] w (TrueIs w) := by
  have CN := Lib.hid (newS [] 5 0 w (fun i hi => by cases hi))
  have CT := Lib.hid (fun (G : List Nat) (x : Prof) (g : Nat) (w' : World) (h : Is G x w' g) (hG : ∀ i ∈ G, i < w'.heap.size) (hl : x.l.length ≤ 60) => takeS h hG hl exB)
  have CG := Lib.hid (fun (G : List Nat) (x : Prof) (g : Nat) (w' : World) (h : Is G x w' g) (hG : ∀ i ∈ G, i < w'.heap.size) (hl : x.l.length ≤ 60) => giveS h hG hl exB)
  have CS := Lib.hid (fun (G : List Nat) (x : Prof) (g : Nat) (w' : World) (h : Is G x w' g) (hG : ∀ i ∈ G, i < w'.heap.size) (hl : x.l.length ≤ 60) => stepsS h hG hl)
  have CP := Lib.hid (fun (G : List Nat) (x : Prof) (g : Nat) (w' : World) (h : Is G x w' g) (hl : x.l.length ≤ 60) => procsS h hl)
  have hv : byV exB = .agg #[.int .i64 2, .int .i64 4, .int .i64 3] := rfl
  rw [hv] at CT CG
  clear hv
  go_enter Try.func5, Try.ntmps5
  go_wp2_with fail
  refine CN.out.mono ?_
  rintro e w1 ⟨hn, hb1⟩
  have hn2 : ∃ g, w.heap.size ≤ g ∧ e = .returned (.tuple #[ptr g, .int .i64 0]) ∧ Is [g] ⟨5, 0, []⟩ w1 g := by
    rcases hn with ⟨h, _⟩ | ⟨_, h⟩
    · rw [ex_new] at h; cases h
    · exact h
  clear hn CN
  obtain ⟨g, hg, rfl, hI⟩ := hn2
  have HI := Lib.hid (hI.below (below_alloc w1 (.cells #[.int .i64 2, .int .i64 4, .int .i64 3] 36)))
  have HT := Lib.hid (Trio.new w1 (.int .i64 2) (.int .i64 4) (.int .i64 3) 36)
  have HB := Lib.hid (hb1.alloc hb1.size (.cells #[.int .i64 2, .int .i64 4, .int .i64 3] 36))
  have hgl : Hid (some g ≠ some w1.heap.size) := fun e => by have := hI.lt; cases e; omega
  have HG := Lib.hid hg
  clear hI hb1 hg
  unfold ptr at *
  go_upto_region 5 with fail
  generalize w1.alloc (.cells #[.int .i64 2, .int .i64 4, .int .i64 3] 36) = w2 at *
  obtain ⟨y0, y1, y2, y3, y4, y5, y6⟩ := HT.out
  go_wp2_with fail
  refine (CT.out _ _ _ _ HI.out (fun i hi => by simp at hi; subst hi; exact HI.out.lt) (by decide)).mono ?_
  rintro e w3 ⟨z, c, rfl, ht, hi3, hg3⟩
  obtain ⟨rfl, rfl⟩ := ex_take1 ht
  have HI3 := Lib.hid hi3
  have HT3 := Lib.hid (HT.out.grown hg3 hgl.out)
  have HB3 := Lib.hid (below_grown HB.out hg3 HG.out HB.out.size)
  clear ht hi3 hg3 HI HT HB y0 y1 y2 y3 y4 y5 y6
  obtain ⟨y0, y1, y2, y3, y4, y5, y6⟩ := HT3.out
  go_wp2_with fail
  refine (CT.out _ _ _ _ HI3.out (fun i hi => by simp at hi; subst hi; exact HI3.out.lt) (by decide)).mono ?_
  rintro e w4 ⟨z, c, rfl, ht, hi3, hg3⟩
  obtain ⟨rfl, rfl⟩ := ex_take2 ht
  have HI4 := Lib.hid hi3
  have HT4 := Lib.hid (HT3.out.grown hg3 hgl.out)
  have HB4 := Lib.hid (below_grown HB3.out hg3 HG.out HB3.out.size)
  clear ht hi3 hg3 HI3 HT3 HB3 y0 y1 y2 y3 y4 y5 y6
  go_wp2_with fail
  refine (CS.out _ _ _ _ HI4.out (fun i hi => by simp at hi; subst hi; exact HI4.out.lt) (by decide)).mono ?_
  rintro e w5 ⟨v, rfl, hs, _, hb5⟩
  obtain ⟨A5, c5, rfl, _⟩ := hs.open_
  have h3 := ex_steps
  have HI5 := Lib.hid (HI4.out.below hb5)
  have HT5 := Lib.hid (HT4.out.below hb5)
  have HB5 := Lib.hid (below_then (Below.refl _ _) (HB4.out.trans (hb5.mono HB4.out.size)))
  clear hs hb5 HI4 HT4 HB4
  rw [h3]
  obtain ⟨y0, y1, y2, y3, y4, y5, y6⟩ := HT5.out
  go_wp2_with fail
  refine (CG.out _ _ _ _ HI5.out (fun i hi => by simp at hi; subst hi; exact HI5.out.lt) (by decide)).mono ?_
  rintro e w6 ⟨z, c, rfl, ht, hi3, hg3⟩
  obtain ⟨rfl, rfl⟩ := ex_give ht
  have HI6 := Lib.hid hi3
  have HB6 := Lib.hid (below_grown HB5.out hg3 HG.out HB5.out.size)
  clear ht hi3 hg3 HI5 HT5 HB5 y0 y1 y2 y3 y4 y5 y6
  go_wp2_with fail
  refine (CP.out _ _ _ _ HI6.out (by decide)).mono ?_
  rintro e w7 ⟨rfl, hb7⟩
  have HB7 := Lib.hid (HB6.out.trans (hb7.mono HB6.out.size))
  clear hb7
  go_wp2_with fail
  go_ret
  exact ⟨rfl, HB7.out⟩
end Go.Proofs.Ytjkninldenoanaa.ProfWalk
