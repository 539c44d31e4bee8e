/-
  The walks of the statements of layer 8: OrderAhead.
-/
import Derived.Test.YtkoadlgjehmkcaaOrdLawA
import Derived.Test.YtkoadlgjehmkcaaOrdRefA
namespace Go.Proofs.Ytkoadlgjehmkcaa.OrdWalk
open Go.RowKit Go.Proofs.Ytkoadlgjehmkcaa.JobPlain Go.Proofs.Ytkoadlgjehmkcaa.OrdPlain Go.Proofs.Ytkoadlgjehmkcaa.Mem Go.Proofs.Ytkoadlgjehmkcaa.JobMem Go.Proofs.Ytkoadlgjehmkcaa.OrdMem Go.Proofs.Ytkoadlgjehmkcaa.OrdRef
theorem three_boxes (w : World) (a b c : Jb) (T : TypeId) : JobBox (((w.alloc (.cells (jobA a) T)).alloc (.cells (jobA b) T)).alloc (.cells (jobA c) T)) w.heap.size a ∧ JobBox (((w.alloc (.cells (jobA a) T)).alloc (.cells (jobA b) T)).alloc (.cells (jobA c) T)) (w.heap.size + 1) b ∧
    JobBox (((w.alloc (.cells (jobA a) T)).alloc (.cells (jobA b) T)).alloc (.cells (jobA c) T)) (w.heap.size + 1 + 1) c ∧ Below w.heap.size w (((w.alloc (.cells (jobA a) T)).alloc (.cells (jobA b) T)).alloc (.cells (jobA c) T)) := by
  obtain ⟨h1, h2, h3⟩ := two_boxes w a b T
  have h4 := JobBox.new ((w.alloc (.cells (jobA a) T)).alloc (.cells (jobA b) T)) c T
  have hs : ((w.alloc (.cells (jobA a) T)).alloc (.cells (jobA b) T)).heap.size = w.heap.size + 1 + 1 := by simp
  rw [hs] at h4
  exact ⟨JobBox.below h1 (below_box _ _), JobBox.below h2 (below_box _ _), h4, Below.alloc h3 h3.size _⟩
/-- Who is ahead of whom: all that the statement asks. -/
theorem three_ways (a b c : Jb) : ∃ AB BA BC AC : Bool, aheadB a b = AB ∧ aheadB b a = BA ∧ aheadB b c = BC ∧ aheadB a c = AC ∧ (((a.id != b.id) = true ∧ ((AB = true ∧ BA = false) ∨ (AB = false ∧ BA = true))) ∨ (a.id != b.id) = false) ∧ (AB = false ∨ (AB = true ∧ BC = false) ∨ (AB = true ∧ BC = true ∧ AC = true)) := by
  refine ⟨_, _, _, _, rfl, rfl, rfl, rfl, ?_, ?_⟩
  · cases hi : (a.id != b.id) with
    | false => exact .inr rfl
    | true =>
      have h := ahead_one (show a.id ≠ b.id by simpa using hi)
      refine .inl ⟨rfl, ?_⟩
      cases hb : aheadB b a with
      | true => rw [hb] at h; exact .inr ⟨h, rfl⟩
      | false => rw [hb] at h; exact .inl ⟨h, rfl⟩
  · cases hab : aheadB a b with
    | false => exact .inl rfl
    | true => cases hbc : aheadB b c with
      | false => exact .inr (.inl ⟨rfl, rfl⟩)
      | true => exact .inr (.inr ⟨rfl, rfl, ahead_trans hab hbc⟩)
set_option maxRecDepth 100000 in
set_option maxHeartbeats 6400000 in
theorem ahead_any (a b c : Jb) (w : World) : Calls Try.prog 4 #[jobV a, jobV b, jobV c] w (TrueIs w) := by
  have HH := Lib.hid (three_boxes w a b c 24)
  have HAW := Lib.hid (fun W => awake8 W)
  have CAB := Lib.hid (fun W => aheadS a b W)
  have CBA := Lib.hid (fun W => aheadS b a W)
  have CAA := Lib.hid (fun W => aheadS a a W)
  have CBC := Lib.hid (fun W => aheadS b c W)
  have CAC := Lib.hid (fun W => aheadS a c W)
  have RAB := Lib.hid (fun W => ahead8 a b W)
  obtain ⟨AB, BA, BC, AC, e1, e2, e3, e4, hid, htr⟩ := three_ways a b c
  rw [e1] at CAB RAB
  rw [e2] at CBA
  rw [e3] at CBC
  rw [e4] at CAC
  rw [ahead_self] at CAA
  clear e1 e2 e3 e4
  unfold jobV jobA at *
  go_enter Try.func4, Try.ntmps4
  go_upto_region 1 with fail
  obtain ⟨hx, hy, hz, hb⟩ := HH.out
  generalize (((w.alloc (.cells #[.int .i64 a.id, .string a.user, .int .i64 a.width, .int .i64 a.est, .int .i64 a.prio, .int .i64 a.sub, .int .i64 a.state, .int .i64 a.start, .int .i64 a.fin] 24)).alloc (.cells #[.int .i64 b.id, .string b.user, .int .i64 b.width, .int .i64 b.est, .int .i64 b.prio, .int .i64 b.sub, .int .i64 b.state, .int .i64 b.start, .int .i64 b.fin] 24)).alloc (.cells #[.int .i64 c.id, .string c.user, .int .i64 c.width, .int .i64 c.est, .int .i64 c.prio, .int .i64 c.sub, .int .i64 c.state, .int .i64 c.start, .int .i64 c.fin] 24)) = W at *
  have HX := Lib.hid hx
  have HY := Lib.hid hy
  have HZ := Lib.hid hz
  have HB := Lib.hid hb
  have PX := Lib.hid (fun p : Lull W => hx.below p.h)
  have PY := Lib.hid (fun p : Lull W => hy.below p.h)
  clear HH hx hy hz hb
  have x0 := fun p : Lull W => (PX.out p).c0
  have x1 := fun p : Lull W => (PX.out p).c1
  have x2 := fun p : Lull W => (PX.out p).c2
  have x3 := fun p : Lull W => (PX.out p).c3
  have x4 := fun p : Lull W => (PX.out p).c4
  have x5 := fun p : Lull W => (PX.out p).c5
  have x6 := fun p : Lull W => (PX.out p).c6
  have x7 := fun p : Lull W => (PX.out p).c7
  have x8 := fun p : Lull W => (PX.out p).c8
  have z0 := fun p : Lull W => (PY.out p).c0
  have z1 := fun p : Lull W => (PY.out p).c1
  have z2 := fun p : Lull W => (PY.out p).c2
  have z3 := fun p : Lull W => (PY.out p).c3
  have z4 := fun p : Lull W => (PY.out p).c4
  have z5 := fun p : Lull W => (PY.out p).c5
  have z6 := fun p : Lull W => (PY.out p).c6
  have z7 := fun p : Lull W => (PY.out p).c7
  have z8 := fun p : Lull W => (PY.out p).c8
  have hne : (AB != AB) = false := by simp
  rcases hid with ⟨h1, ⟨rfl, rfl⟩ | ⟨rfl, rfl⟩⟩ | h1
  all_goals
    refine wp_region_calm (by kernel_rfl) (by kernel_rfl) ?_
    repeat (first | go_big_quiet_step ((first | (go_at_call 15; first | with_reducible exact calm_of (CAB.out _) | with_reducible exact calm_of (CBA.out _) | with_reducible exact calm_of (CAA.out _)) | (go_at_call 14; exact calm_of (RAB.out _)))) | quiet_step ((first | (go_at_call 15; first | with_reducible exact calm_of (CAB.out _) | with_reducible exact calm_of (CBA.out _) | with_reducible exact calm_of (CAA.out _)) | (go_at_call 14; exact calm_of (RAB.out _)))))
    refine wpQuiet_nil ?_
    intro w1 hw
    have hb1 := lull_below hw
    clear hw
    have HB1 := Lib.hid (HB.out.trans (hb1.mono HB.out.size))
    have HX1 := Lib.hid (HX.out.below hb1)
    have HY1 := Lib.hid (HY.out.below hb1)
    have HZ1 := Lib.hid (HZ.out.below hb1)
    clear hb1 x0 z0 x1 z1 x2 z2 x3 z3 x4 z4 x5 z5 x6 z6 x7 z7 x8 z8 HX HY HZ HB PX PY h1 hne RAB CAA CBA
    rcases htr with h | ⟨h, rfl⟩ | ⟨h, rfl, rfl⟩
    all_goals first
      | exact absurd h (by decide)
      | (try subst h
         obtain ⟨xl, x0, x1, x2, x3, x4, x5, x6, x7, x8, _, _, _, _, _, _, _, _, _⟩ := HX1.out
         obtain ⟨yl, y0, y1, y2, y3, y4, y5, y6, y7, y8, _, _, _, _, _, _, _, _, _⟩ := HY1.out
         obtain ⟨zl, z0, z1, z2, z3, z4, z5, z6, z7, z8, _, _, _, _, _, _, _, _, _⟩ := HZ1.out
         go_wp2_with (first | (go_at_call 15; (with_reducible refine (CAB.out _).mono ?_); rintro e w2 ⟨rfl, hb2⟩; have HB2 := Lib.hid (below_then HB1.out hb2); have HX2 := Lib.hid (HX1.out.below hb2); have HY2 := Lib.hid (HY1.out.below hb2); have HZ2 := Lib.hid (HZ1.out.below hb2); clear xl x0 x1 x2 x3 x4 x5 x6 x7 x8 yl y0 y1 y2 y3 y4 y5 y6 y7 y8 zl z0 z1 z2 z3 z4 z5 z6 z7 z8 hb2; obtain ⟨xl, x0, x1, x2, x3, x4, x5, x6, x7, x8, _, _, _, _, _, _, _, _, _⟩ := HX2.out; obtain ⟨yl, y0, y1, y2, y3, y4, y5, y6, y7, y8, _, _, _, _, _, _, _, _, _⟩ := HY2.out; obtain ⟨zl, z0, z1, z2, z3, z4, z5, z6, z7, z8, _, _, _, _, _, _, _, _, _⟩ := HZ2.out) | (go_at_call 15; (with_reducible refine (CBC.out _).mono ?_); rintro e w3 ⟨rfl, hb3⟩; have HB3 := Lib.hid (below_then HB2.out hb3); have HX3 := Lib.hid (HX2.out.below hb3); have HY3 := Lib.hid (HY2.out.below hb3); have HZ3 := Lib.hid (HZ2.out.below hb3); clear xl x0 x1 x2 x3 x4 x5 x6 x7 x8 yl y0 y1 y2 y3 y4 y5 y6 y7 y8 zl z0 z1 z2 z3 z4 z5 z6 z7 z8 hb3; obtain ⟨xl, x0, x1, x2, x3, x4, x5, x6, x7, x8, _, _, _, _, _, _, _, _, _⟩ := HX3.out; obtain ⟨yl, y0, y1, y2, y3, y4, y5, y6, y7, y8, _, _, _, _, _, _, _, _, _⟩ := HY3.out; obtain ⟨zl, z0, z1, z2, z3, z4, z5, z6, z7, z8, _, _, _, _, _, _, _, _, _⟩ := HZ3.out) | (go_at_call 15; (with_reducible refine (CAC.out _).mono ?_); rintro e w4 ⟨rfl, hb4⟩; have HB4 := Lib.hid (below_then HB3.out hb4); have HX4 := Lib.hid (HX3.out.below hb4); have HY4 := Lib.hid (HY3.out.below hb4); have HZ4 := Lib.hid (HZ3.out.below hb4); clear xl x0 x1 x2 x3 x4 x5 x6 x7 x8 yl y0 y1 y2 y3 y4 y5 y6 y7 y8 zl z0 z1 z2 z3 z4 z5 z6 z7 z8 hb4; obtain ⟨xl, x0, x1, x2, x3, x4, x5, x6, x7, x8, _, _, _, _, _, _, _, _, _⟩ := HX4.out; obtain ⟨yl, y0, y1, y2, y3, y4, y5, y6, y7, y8, _, _, _, _, _, _, _, _, _⟩ := HY4.out; obtain ⟨zl, z0, z1, z2, z3, z4, z5, z6, z7, z8, _, _, _, _, _, _, _, _, _⟩ := HZ4.out) | (go_at_call 6; refine (HAW.out _).mono ?_; rintro e w5 ⟨rfl, hb5⟩; first | have HB5 := Lib.hid (below_then HB4.out hb5) | have HB5 := Lib.hid (below_then HB3.out hb5) | have HB5 := Lib.hid (below_then HB2.out hb5)))
         go_ret
         exact ⟨rfl, HB5.out⟩)
end Go.Proofs.Ytkoadlgjehmkcaa.OrdWalk
