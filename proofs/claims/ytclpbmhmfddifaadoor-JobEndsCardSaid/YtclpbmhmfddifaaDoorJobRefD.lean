/-
  The walks of the document's answers for layer 7: Ran.
-/
import Derived.Test.YtclpbmhmfddifaaDoorJobRefB
namespace Go.Proofs.YtclpbmhmfddifaaDoor.JobRef
open Go.RowKit Go.Proofs.YtclpbmhmfddifaaDoor.JobPlain Go.Proofs.YtclpbmhmfddifaaDoor.Mem Go.Proofs.YtclpbmhmfddifaaDoor.JobMem
def IntB (n : Int) (w : World) (e : Ending) (w' : World) : Prop := e = .returned (.int .i64 n) ∧ Below w.heap.size w w'
theorem ran_ways (j : Jb) (t E : Int) (he : E = endJ j) : (decide (E < t) = true ∧ decide (E ≤ j.start) = true ∧ ranL j t = 0) ∨ (decide (E < t) = true ∧ decide (E ≤ j.start) = false ∧ ranL j t = E - j.start) ∨
    (decide (E < t) = false ∧ decide (t ≤ j.start) = true ∧ ranL j t = 0) ∨ (decide (E < t) = false ∧ decide (t ≤ j.start) = false ∧ (t ≤ E ∧ j.start < t) ∧ ranL j t = t - j.start) := by
  subst he
  unfold ranL
  by_cases h1 : endJ j < t
  · rw [if_pos h1]
    by_cases h2 : endJ j ≤ j.start
    · exact .inl ⟨decide_eq_true h1, decide_eq_true h2, if_pos h2⟩
    · exact .inr (.inl ⟨decide_eq_true h1, decide_eq_false h2, if_neg h2⟩)
  · rw [if_neg h1]
    by_cases h2 : t ≤ j.start
    · exact .inr (.inr (.inl ⟨decide_eq_false h1, decide_eq_true h2, if_pos h2⟩))
    · exact .inr (.inr (.inr ⟨decide_eq_false h1, decide_eq_false h2, ⟨by omega, by omega⟩, if_neg h2⟩))
set_option maxHeartbeats 1600000 in
theorem ran7 (j : Jb) (t : Int) (w : World) (hm : mayJ j = true) : Calls Tryd.prog 12 #[jobV j, .int .i64 t] w (IntB (ranL j t) w) := by
  have hb := may_base hm
  obtain ⟨f1, f2, f3, f4, f5, f6, f7⟩ := may_fin hm
  have e1 := hb.e1
  have e2 := hb.e2
  have HX := Lib.hid (JobBox.new w j 23)
  have HB := Lib.hid ((Below.refl w.heap.size w).alloc (Nat.le_refl _) (.cells #[.int .i64 j.id, .string j.user, .int .i64 j.width, .int .i64 j.est, .int .i64 j.prio, .int .i64 j.sub, .int .i64 j.state, .int .i64 j.start, .int .i64 j.fin] 23))
  unfold jobV jobA
  cases h2 : (j.state == 2)
  · have he : j.fin = endJ j := by unfold endJ; rw [if_neg (by simpa using h2)]
    rcases ran_ways j t j.fin he with ⟨a1, a2, a3⟩ | ⟨a1, a2, a3⟩ | ⟨a1, a2, a3⟩ | ⟨a1, a2, ⟨a4, a5⟩, a3⟩
    all_goals
      have HR := Lib.hid a3
      clear a3 he hm
      go_enter Tryd.func12, Tryd.ntmps12
      go_upto_region 1 with fail
      obtain ⟨y, y0, y1, y2, y3, y4, y5, y6, y7, y8, _, _, _, _, _, _, _, _, _⟩ := HX.out
      generalize w.alloc (.cells #[.int .i64 j.id, .string j.user, .int .i64 j.width, .int .i64 j.est, .int .i64 j.prio, .int .i64 j.sub, .int .i64 j.state, .int .i64 j.start, .int .i64 j.fin] 23) = W at *
      go_wp2_with fail
      go_ret
      exact ⟨by rw [HR.out]; rfl, HB.out⟩
  · have hst : j.state = 2 := by simpa using h2
    have he : j.start + j.est = endJ j := by unfold endJ; rw [if_pos hst]
    rcases ran_ways j t (j.start + j.est) he with ⟨a1, a2, a3⟩ | ⟨a1, a2, a3⟩ | ⟨a1, a2, a3⟩ | ⟨a1, a2, ⟨a4, a5⟩, a3⟩
    all_goals
      have HR := Lib.hid a3
      clear a3 he hm hst
      go_enter Tryd.func12, Tryd.ntmps12
      go_upto_region 1 with fail
      obtain ⟨y, y0, y1, y2, y3, y4, y5, y6, y7, y8, _, _, _, _, _, _, _, _, y9⟩ := HX.out
      generalize w.alloc (.cells #[.int .i64 j.id, .string j.user, .int .i64 j.width, .int .i64 j.est, .int .i64 j.prio, .int .i64 j.sub, .int .i64 j.state, .int .i64 j.start, .int .i64 j.fin] 23) = W at *
      go_wp2_with fail
      go_ret
      exact ⟨by rw [HR.out]; rfl, HB.out.setCell (p := ⟨w.heap.size, 8, none⟩) (Nat.le_refl _) _⟩
end Go.Proofs.YtclpbmhmfddifaaDoor.JobRef
