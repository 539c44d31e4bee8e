/-
  The walks of the statements of layer 8: what all of them end with (awake).
-/
import Derived.Test.YtkoadlgjehmkcaaOrdWalk
namespace Go.Proofs.Ytkoadlgjehmkcaa.OrdWalk
open Go.RowKit Go.Proofs.Ytkoadlgjehmkcaa.JobPlain Go.Proofs.Ytkoadlgjehmkcaa.OrdPlain Go.Proofs.Ytkoadlgjehmkcaa.Mem Go.Proofs.Ytkoadlgjehmkcaa.JobMem Go.Proofs.Ytkoadlgjehmkcaa.OrdMem
theorem ex_jobs (w : World) (T : TypeId) : JobsIs [exA, exB] (w.alloc (.cells #[.int .i64 1, .string ⟨#[]⟩, .int .i64 0, .int .i64 0, .int .i64 1, .int .i64 0, .int .i64 0, .int .i64 0, .int .i64 0, .int .i64 2, .string ⟨#[]⟩, .int .i64 0, .int .i64 0, .int .i64 2, .int .i64 0, .int .i64 0, .int .i64 0, .int .i64 0] T)) (.slice (some ⟨w.heap.size, 0, none⟩) 2 2) :=
  .inr ⟨_, _, rfl, Raw.alloc w #[.int .i64 1, .string ⟨#[]⟩, .int .i64 0, .int .i64 0, .int .i64 1, .int .i64 0, .int .i64 0, .int .i64 0, .int .i64 0, .int .i64 2, .string ⟨#[]⟩, .int .i64 0, .int .i64 0, .int .i64 2, .int .i64 0, .int .i64 0, .int .i64 0, .int .i64 0] T, Nat.le_refl _⟩
set_option maxRecDepth 100000 in
set_option maxHeartbeats 1600000 in
theorem awake8 (w : World) : Calls Try.prog 6 #[] w (TrueIs w) := by
  have HJ := Lib.hid (ex_jobs w 24)
  have HB0 := Lib.hid (below_box w (.cells #[.int .i64 1, .string ⟨#[]⟩, .int .i64 0, .int .i64 0, .int .i64 1, .int .i64 0, .int .i64 0, .int .i64 0, .int .i64 0, .int .i64 2, .string ⟨#[]⟩, .int .i64 0, .int .i64 0, .int .i64 2, .int .i64 0, .int .i64 0, .int .i64 0, .int .i64 0] 24))
  have CS := Lib.hid (sortS [exA, exB] _ _ HJ.out (by decide))
  rw [ex_sort] at CS
  have CP := Lib.hid (fun v W (h : JobsIs [exB, exA] W v) => placeS [exB, exA] 1 v W h (by decide))
  rw [ex_find] at CP
  have CA := Lib.hid (fun W => aheadS exB exA W)
  rw [ex_ahead] at CA
  unfold jobV jobA exA exB at CA
  go_enter Try.func6, Try.ntmps6
  go_wp2_with fail
  refine CS.out.mono ?_
  rintro e w1 ⟨v1, rfl, hj1, hb1⟩
  obtain ⟨A, c, rfl, hc, hat⟩ := hj1.open_
  obtain ⟨a, rfl, h0⟩ := hat 0 (by decide)
  obtain ⟨a', ea, h1⟩ := hat 1 (by decide)
  injection ea with ea
  subst ea
  have h0' : JobAt w1 a exB := by
    have e : a.add (0 * 9) = a := by unfold Addr.add; simp
    rw [e] at h0
    exact h0
  have h1' : JobAt w1 (a.add 9) exA := h1
  have HJ1 := Lib.hid hj1
  have HB1 := Lib.hid (below_then HB0.out hb1)
  have H0 := Lib.hid (fun p : Lull w1 => h0'.below p.h)
  have H1 := Lib.hid (fun p : Lull w1 => h1'.below p.h)
  have CPP := Lib.hid (fun p : Lull w1 => CP.out _ p.u (hj1.below p.h))
  have x0 := fun p : Lull w1 => (H0.out p).c0
  have x1 := fun p : Lull w1 => (H0.out p).c1
  have x2 := fun p : Lull w1 => (H0.out p).c2
  have x3 := fun p : Lull w1 => (H0.out p).c3
  have x4 := fun p : Lull w1 => (H0.out p).c4
  have x5 := fun p : Lull w1 => (H0.out p).c5
  have x6 := fun p : Lull w1 => (H0.out p).c6
  have x7 := fun p : Lull w1 => (H0.out p).c7
  have x8 := fun p : Lull w1 => (H0.out p).c8
  have e9 : a.add 9 = ⟨a.block, a.off + 9, none⟩ := by unfold Addr.add; simp
  have H1' : Hid (∀ p : Lull w1, JobAt p.u ⟨a.block, a.off + 9, none⟩ exA) := fun p => by rw [← e9]; exact H1.out p
  have z0 : ∀ p : Lull w1, p.u.cell? ⟨a.block, a.off + 9, none⟩ = some (.int .i64 exA.id) := fun p => (H1'.out p).c0
  have z1 : ∀ p : Lull w1, p.u.cell? ⟨a.block, a.off + 10, none⟩ = some (.string exA.user) := fun p => (H1'.out p).c1
  have q1 : ∀ p : Lull w1, p.u.cell? ⟨a.block, a.off + 9 + 1, none⟩ = some (.string exA.user) := fun p => (H1'.out p).c1
  have z2 : ∀ p : Lull w1, p.u.cell? ⟨a.block, a.off + 11, none⟩ = some (.int .i64 exA.width) := fun p => (H1'.out p).c2
  have q2 : ∀ p : Lull w1, p.u.cell? ⟨a.block, a.off + 9 + 2, none⟩ = some (.int .i64 exA.width) := fun p => (H1'.out p).c2
  have z3 : ∀ p : Lull w1, p.u.cell? ⟨a.block, a.off + 12, none⟩ = some (.int .i64 exA.est) := fun p => (H1'.out p).c3
  have q3 : ∀ p : Lull w1, p.u.cell? ⟨a.block, a.off + 9 + 3, none⟩ = some (.int .i64 exA.est) := fun p => (H1'.out p).c3
  have z4 : ∀ p : Lull w1, p.u.cell? ⟨a.block, a.off + 13, none⟩ = some (.int .i64 exA.prio) := fun p => (H1'.out p).c4
  have q4 : ∀ p : Lull w1, p.u.cell? ⟨a.block, a.off + 9 + 4, none⟩ = some (.int .i64 exA.prio) := fun p => (H1'.out p).c4
  have z5 : ∀ p : Lull w1, p.u.cell? ⟨a.block, a.off + 14, none⟩ = some (.int .i64 exA.sub) := fun p => (H1'.out p).c5
  have q5 : ∀ p : Lull w1, p.u.cell? ⟨a.block, a.off + 9 + 5, none⟩ = some (.int .i64 exA.sub) := fun p => (H1'.out p).c5
  have z6 : ∀ p : Lull w1, p.u.cell? ⟨a.block, a.off + 15, none⟩ = some (.int .i64 exA.state) := fun p => (H1'.out p).c6
  have q6 : ∀ p : Lull w1, p.u.cell? ⟨a.block, a.off + 9 + 6, none⟩ = some (.int .i64 exA.state) := fun p => (H1'.out p).c6
  have z7 : ∀ p : Lull w1, p.u.cell? ⟨a.block, a.off + 16, none⟩ = some (.int .i64 exA.start) := fun p => (H1'.out p).c7
  have q7 : ∀ p : Lull w1, p.u.cell? ⟨a.block, a.off + 9 + 7, none⟩ = some (.int .i64 exA.start) := fun p => (H1'.out p).c7
  have z8 : ∀ p : Lull w1, p.u.cell? ⟨a.block, a.off + 17, none⟩ = some (.int .i64 exA.fin) := fun p => (H1'.out p).c8
  have q8 : ∀ p : Lull w1, p.u.cell? ⟨a.block, a.off + 9 + 8, none⟩ = some (.int .i64 exA.fin) := fun p => (H1'.out p).c8
  clear e9
  unfold exB at x0 x1 x2 x3 x4 x5 x6 x7 x8
  unfold exA at z0 z1 z2 z3 z4 z5 z6 z7 z8 q1 q2 q3 q4 q5 q6 q7 q8
  dsimp only at x0 x1 x2 x3 x4 x5 x6 x7 x8 z0 z1 z2 z3 z4 z5 z6 z7 z8 q1 q2 q3 q4 q5 q6 q7 q8
  have hlen : [exB, exA].length = 2 := rfl
  rw [hlen] at CPP hc ⊢
  clear hj1 hb1 hat h0 h1 h0' h1' CS HJ HB0 hlen CP
  go_wp2_with fail
  refine wp_region_calm (by kernel_rfl) (by kernel_rfl) ?_
  repeat (first | go_big_quiet_step ((first | (go_at_call 15; exact calm_of (CA.out _)) | (go_at_call 12; exact calm_of (CPP.out _)))) | quiet_step ((first | (go_at_call 15; exact calm_of (CA.out _)) | (go_at_call 12; exact calm_of (CPP.out _)))))
  refine wpQuiet_nil ?_
  intro w2 hw
  have hb2 := lull_below hw
  clear hw
  have HB2 := Lib.hid (below_then HB1.out hb2)
  clear hb2 x0 x1 x2 x3 x4 x5 x6 x7 x8 z0 z1 z2 z3 z4 z5 z6 z7 z8 q1 q2 q3 q4 q5 q6 q7 q8
  go_wp2_with fail
  go_ret
  exact ⟨rfl, HB2.out⟩
end Go.Proofs.Ytkoadlgjehmkcaa.OrdWalk
