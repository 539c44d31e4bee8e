/-
  The walks of the document's answers for layer 8: Ahead.
-/
import Derived.Test.YtjegkddpaampmaaOrdMem
namespace Go.Proofs.Ytjegkddpaampmaa.OrdRef
open Go.RowKit Go.Proofs.Ytjegkddpaampmaa.JobPlain Go.Proofs.Ytjegkddpaampmaa.OrdPlain Go.Proofs.Ytjegkddpaampmaa.Mem Go.Proofs.Ytjegkddpaampmaa.JobMem Go.Proofs.Ytjegkddpaampmaa.OrdMem
theorem ahead_ways (a b : Jb) : ((a.prio != b.prio) = true ∧ decide (b.prio < a.prio) = aheadB a b) ∨ ((a.prio != b.prio) = false ∧ (a.sub != b.sub) = true ∧ decide (a.sub < b.sub) = aheadB a b) ∨ ((a.prio != b.prio) = false ∧ (a.sub != b.sub) = false ∧ decide (a.id < b.id) = aheadB a b) := by
  unfold aheadB
  cases h1 : (a.prio != b.prio) with
  | true => exact .inl ⟨rfl, by simp⟩
  | false => cases h2 : (a.sub != b.sub) with
    | true => exact .inr (.inl ⟨rfl, rfl, by simp⟩)
    | false => exact .inr (.inr ⟨rfl, rfl, by simp⟩)
theorem two_boxes (w : World) (a b : Jb) (T : TypeId) : JobBox ((w.alloc (.cells #[.int .i64 a.id, .string a.user, .int .i64 a.width, .int .i64 a.est, .int .i64 a.prio, .int .i64 a.sub, .int .i64 a.state, .int .i64 a.start, .int .i64 a.fin] T)).alloc (.cells #[.int .i64 b.id, .string b.user, .int .i64 b.width, .int .i64 b.est, .int .i64 b.prio, .int .i64 b.sub, .int .i64 b.state, .int .i64 b.start, .int .i64 b.fin] T)) w.heap.size a ∧
    JobBox ((w.alloc (.cells #[.int .i64 a.id, .string a.user, .int .i64 a.width, .int .i64 a.est, .int .i64 a.prio, .int .i64 a.sub, .int .i64 a.state, .int .i64 a.start, .int .i64 a.fin] T)).alloc (.cells #[.int .i64 b.id, .string b.user, .int .i64 b.width, .int .i64 b.est, .int .i64 b.prio, .int .i64 b.sub, .int .i64 b.state, .int .i64 b.start, .int .i64 b.fin] T)) (w.heap.size + 1) b ∧
    Below w.heap.size w ((w.alloc (.cells #[.int .i64 a.id, .string a.user, .int .i64 a.width, .int .i64 a.est, .int .i64 a.prio, .int .i64 a.sub, .int .i64 a.state, .int .i64 a.start, .int .i64 a.fin] T)).alloc (.cells #[.int .i64 b.id, .string b.user, .int .i64 b.width, .int .i64 b.est, .int .i64 b.prio, .int .i64 b.sub, .int .i64 b.state, .int .i64 b.start, .int .i64 b.fin] T)) := by
  have h1 := JobBox.new w a T
  have h2 := JobBox.new (w.alloc (.cells #[.int .i64 a.id, .string a.user, .int .i64 a.width, .int .i64 a.est, .int .i64 a.prio, .int .i64 a.sub, .int .i64 a.state, .int .i64 a.start, .int .i64 a.fin] T)) b T
  have hs : (w.alloc (.cells #[.int .i64 a.id, .string a.user, .int .i64 a.width, .int .i64 a.est, .int .i64 a.prio, .int .i64 a.sub, .int .i64 a.state, .int .i64 a.start, .int .i64 a.fin] T)).heap.size = w.heap.size + 1 := by simp
  rw [hs] at h2
  exact ⟨h1.below (below_box _ _), h2, (below_box _ _).alloc (by simp) _⟩
set_option maxHeartbeats 1600000 in
theorem ahead8 (a b : Jb) (w : World) : Calls Try.prog 70 #[jobV a, jobV b] w (BoolB (aheadB a b) w) := by
  have HH := Lib.hid (two_boxes w a b 28)
  unfold jobV jobA
  rcases ahead_ways a b with ⟨h1, h2⟩ | ⟨h1, h3, h2⟩ | ⟨h1, h3, h2⟩
  all_goals
    have HR := Lib.hid h2
    clear h2
    go_enter Try.func70, Try.ntmps70
    go_upto_region 1 with fail
    generalize ((w.alloc (.cells #[.int .i64 a.id, .string a.user, .int .i64 a.width, .int .i64 a.est, .int .i64 a.prio, .int .i64 a.sub, .int .i64 a.state, .int .i64 a.start, .int .i64 a.fin] 28)).alloc (.cells #[.int .i64 b.id, .string b.user, .int .i64 b.width, .int .i64 b.est, .int .i64 b.prio, .int .i64 b.sub, .int .i64 b.state, .int .i64 b.start, .int .i64 b.fin] 28)) = W at *
    obtain ⟨hx, hz, hb⟩ := HH.out
    have HB := Lib.hid hb
    obtain ⟨y, y0, y1, y2, y3, y4, y5, y6, y7, y8, _, _, _, _, _, _, _, _, _⟩ := hx
    obtain ⟨z, z0, z1, z2, z3, z4, z5, z6, z7, z8, _, _, _, _, _, _, _, _, _⟩ := hz
    clear hb HH
    go_wp2_with fail
    go_ret
    exact ⟨by rw [← HR.out]; rfl, HB.out⟩
end Go.Proofs.Ytjegkddpaampmaa.OrdRef
