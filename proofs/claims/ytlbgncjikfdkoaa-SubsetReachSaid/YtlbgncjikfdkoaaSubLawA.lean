/-
  The walks of the statements of layer 12: what all of them end with (awake).
-/
import Derived.Test.YtlbgncjikfdkoaaSubWalk
namespace Go.Proofs.Ytlbgncjikfdkoaa.SubWalk
open Go.RowKit Go.Proofs.Ytlbgncjikfdkoaa.SubPlain Go.Proofs.Ytlbgncjikfdkoaa.Mem Go.Proofs.Ytlbgncjikfdkoaa.SubRef
theorem below_new (w : World) (o : Obj) : Below w.heap.size w (w.alloc o) := (Below.refl _ _).alloc (Nat.le_refl _) o
theorem three_ints (w : World) (a b c : Int) (T : TypeId) : IntsAt [a, b, c] (w.alloc (.cells #[.int .i64 a, .int .i64 b, .int .i64 c] T)) (.slice (some ⟨w.heap.size, 0, none⟩) 3 3) :=
  ⟨_, 3, rfl, Nat.le_refl _, (Cells.of_alloc w #[.int .i64 a, .int .i64 b, .int .i64 c] T (icell [a, b, c]) (fun i hi => by
    have h3 : i < 3 := hi
    match i, h3 with
    | 0, _ => rfl
    | 1, _ => rfl
    | 2, _ => rfl))⟩
set_option maxHeartbeats 1600000 in
theorem awake12 (w : World) : Calls Try.prog 5 #[] w (TrueIs w) := by
  have CB := Lib.hid (bestS [3, 5, 2] 7 _ _ (three_ints w 3 5 2 3) (by unfold IntsFit; decide) (by decide) (by decide))
  have HB := Lib.hid (below_new w (.cells #[.int .i64 3, .int .i64 5, .int .i64 2] 3))
  unfold BestSays at CB
  rw [ex_l, ex_n, ex_e] at CB
  go_enter Try.func5, Try.ntmps5
  go_wp2_with fail
  refine CB.out.mono ?_
  rintro e w1 ⟨u, rfl, ⟨A, c, rfl, hc, hA⟩, _, hb1⟩
  obtain ⟨a, rfl, _, h0⟩ := hA.at (i := 0) (by decide)
  obtain ⟨a', ea, _, h1⟩ := hA.at (i := 1) (by decide)
  injection ea with ea
  subst ea
  have HB1 := Lib.hid (below_then HB.out hb1)
  have e0 : a.add 0 = a := by unfold Addr.add; simp
  rw [e0] at h0
  have z0 : w1.cell? a = some (.int .i64 1) := h0
  have z1 : w1.cell? (a.add 1) = some (.int .i64 2) := h1
  have z2 : w1.cell? ⟨a.block, a.off + 1, none⟩ = some (.int .i64 2) := by
    have e1 : a.add 1 = ⟨a.block, a.off + 1, none⟩ := by unfold Addr.add; simp
    rw [← e1]; exact z1
  clear hA h0 h1 hb1 e0 CB
  go_wp2_with fail
  go_ret
  exact ⟨rfl, HB1.out⟩
end Go.Proofs.Ytlbgncjikfdkoaa.SubWalk
