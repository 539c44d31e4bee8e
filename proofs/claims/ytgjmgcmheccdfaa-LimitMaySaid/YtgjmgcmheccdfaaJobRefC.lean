/-
  The walks of the document's answers for layer 7: Turn, Ran.
-/
import Derived.Test.YtgjmgcmheccdfaaJobRefB
namespace Go.Proofs.Ytgjmgcmheccdfaa.JobRef
open Go.RowKit Go.Proofs.Ytgjmgcmheccdfaa.JobPlain Go.Proofs.Ytgjmgcmheccdfaa.Mem Go.Proofs.Ytgjmgcmheccdfaa.JobMem
def TurnIs (j : Jb) (ev t : Int) (w : World) (e : Ending) (w' : World) : Prop := e = .returned (.tuple #[jobV (turnL j ev t).1, .int .i64 (turnL j ev t).2]) ∧ Below w.heap.size w w'
theorem arg_ways (j : Jb) (ev t : Int) : (mayJ j = false ∧ turnL j ev t = (noJb, 1)) ∨ (mayJ j = true ∧ decide (ev < 1) = true ∧ turnL j ev t = (noJb, 1)) ∨ (mayJ j = true ∧ decide (ev < 1) = false ∧ decide (6 < ev) = true ∧ turnL j ev t = (noJb, 1)) ∨
    (mayJ j = true ∧ decide (ev < 1) = false ∧ decide (6 < ev) = false ∧ decide (t < j.sub) = true ∧ turnL j ev t = (noJb, 1)) ∨ (mayJ j = true ∧ decide (ev < 1) = false ∧ decide (6 < ev) = false ∧ decide (t < j.sub) = false ∧ decide (1125899906842624 < t) = true ∧ turnL j ev t = (noJb, 1)) ∨
    (mayJ j = true ∧ decide (ev < 1) = false ∧ decide (6 < ev) = false ∧ decide (t < j.sub) = false ∧ decide (1125899906842624 < t) = false ∧ turnL j ev t = if turnState j ev then (noJb, 5) else if mayJ (nextJ j ev t) then (nextJ j ev t, 0) else (noJb, 1)) := by
  unfold turnL turnArg
  cases mayJ j with
  | false => exact .inl ⟨rfl, by simp⟩
  | true =>
    cases decide (ev < 1) with
    | true => exact .inr (.inl ⟨rfl, rfl, by simp⟩)
    | false =>
      cases decide (6 < ev) with
      | true => exact .inr (.inr (.inl ⟨rfl, rfl, rfl, by simp⟩))
      | false =>
        cases decide (t < j.sub) with
        | true => exact .inr (.inr (.inr (.inl ⟨rfl, rfl, rfl, rfl, by simp⟩)))
        | false =>
          cases decide (1125899906842624 < t) with
          | true => exact .inr (.inr (.inr (.inr (.inl ⟨rfl, rfl, rfl, rfl, rfl, by simp⟩))))
          | false => exact .inr (.inr (.inr (.inr (.inr ⟨rfl, rfl, rfl, rfl, rfl, by simp⟩))))
/-- By what happens: who is turned by it, what it is then. -/
theorem ev_ways (j : Jb) (ev t : Int) (h1 : decide (ev < 1) = false) (h2 : decide (6 < ev) = false) : (∃ f s : Int, ∃ b : Bool, ((ev = 1 ∧ f = 1 ∧ s = 0 ∧ b = false) ∨ (ev = 2 ∧ f = 0 ∧ s = 1 ∧ b = false) ∨ (ev = 3 ∧ f = 1 ∧ s = 2 ∧ b = true) ∨ (ev = 4 ∧ f = 2 ∧ s = 3 ∧ b = false) ∨ (ev = 5 ∧ f = 2 ∧ s = 4 ∧ b = false)) ∧
      turnState j ev = (j.state != f) ∧ (j.state = f → nextJ j ev t = ⟨j.id, j.user, j.width, j.est, j.prio, j.sub, s, if b then t else j.start, if f = 2 then t else j.fin⟩)) ∨
    (ev = 6 ∧ turnState j ev = decide (2 < j.state) ∧ nextJ j ev t = ⟨j.id, j.user, j.width, j.est, j.prio, j.sub, 5, j.start, if j.state = 2 then t else j.fin⟩) := by
  have h3 : 1 ≤ ev ∧ ev ≤ 6 := by
    rw [decide_eq_false_iff_not] at h1 h2; omega
  have h4 : ev = 1 ∨ ev = 2 ∨ ev = 3 ∨ ev = 4 ∨ ev = 5 ∨ ev = 6 := by omega
  unfold turnState nextJ fromS toS
  rcases h4 with rfl | rfl | rfl | rfl | rfl | rfl
  · exact .inl ⟨1, 0, false, .inl ⟨rfl, rfl, rfl, rfl⟩, by simp, fun h => by simp [h]⟩
  · exact .inl ⟨0, 1, false, .inr (.inl ⟨rfl, rfl, rfl, rfl⟩), by simp, fun h => by simp [h]⟩
  · exact .inl ⟨1, 2, true, .inr (.inr (.inl ⟨rfl, rfl, rfl, rfl⟩)), by simp, fun h => by simp [h]⟩
  · exact .inl ⟨2, 3, false, .inr (.inr (.inr (.inl ⟨rfl, rfl, rfl, rfl⟩))), by simp, fun h => by simp [h]⟩
  · exact .inl ⟨2, 4, false, .inr (.inr (.inr (.inr ⟨rfl, rfl, rfl, rfl⟩))), by simp, fun h => by simp [h]⟩
  · exact .inr ⟨rfl, by simp, by simp⟩
theorem two_jobs (w : World) (j : Jb) (T : TypeId) : JobBox ((w.alloc (.cells #[.int .i64 j.id, .string j.user, .int .i64 j.width, .int .i64 j.est, .int .i64 j.prio, .int .i64 j.sub, .int .i64 j.state, .int .i64 j.start, .int .i64 j.fin] T)).alloc (.cells #[.int .i64 0, .string ⟨#[]⟩, .int .i64 0, .int .i64 0, .int .i64 0, .int .i64 0, .int .i64 0, .int .i64 0, .int .i64 0] T)) w.heap.size j ∧
    JobBox ((w.alloc (.cells #[.int .i64 j.id, .string j.user, .int .i64 j.width, .int .i64 j.est, .int .i64 j.prio, .int .i64 j.sub, .int .i64 j.state, .int .i64 j.start, .int .i64 j.fin] T)).alloc (.cells #[.int .i64 0, .string ⟨#[]⟩, .int .i64 0, .int .i64 0, .int .i64 0, .int .i64 0, .int .i64 0, .int .i64 0, .int .i64 0] T)) (w.heap.size + 1) noJb ∧
    Below w.heap.size w ((w.alloc (.cells #[.int .i64 j.id, .string j.user, .int .i64 j.width, .int .i64 j.est, .int .i64 j.prio, .int .i64 j.sub, .int .i64 j.state, .int .i64 j.start, .int .i64 j.fin] T)).alloc (.cells #[.int .i64 0, .string ⟨#[]⟩, .int .i64 0, .int .i64 0, .int .i64 0, .int .i64 0, .int .i64 0, .int .i64 0, .int .i64 0] T)) := by
  have h1 := JobBox.new w j T
  have h2 := JobBox.new (w.alloc (.cells #[.int .i64 j.id, .string j.user, .int .i64 j.width, .int .i64 j.est, .int .i64 j.prio, .int .i64 j.sub, .int .i64 j.state, .int .i64 j.start, .int .i64 j.fin] T)) noJb T
  have hs : (w.alloc (.cells #[.int .i64 j.id, .string j.user, .int .i64 j.width, .int .i64 j.est, .int .i64 j.prio, .int .i64 j.sub, .int .i64 j.state, .int .i64 j.start, .int .i64 j.fin] T)).heap.size = w.heap.size + 1 := by simp
  rw [hs] at h2
  exact ⟨h1.below ((Below.refl _ _).alloc (Nat.le_refl _) _), h2, ((Below.refl _ _).alloc (Nat.le_refl _) _).alloc (by simp) _⟩
end Go.Proofs.Ytgjmgcmheccdfaa.JobRef
