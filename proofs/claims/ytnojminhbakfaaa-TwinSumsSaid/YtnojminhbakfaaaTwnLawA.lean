/-
  The walks of the statements of layer 13: what all of them end with (awake).
-/
import Derived.Test.YtnojminhbakfaaaTwnWalk
namespace Go.Proofs.Ytnojminhbakfaaa.TwnWalk
open Go.RowKit Go.Proofs.Ytnojminhbakfaaa.SubPlain Go.Proofs.Ytnojminhbakfaaa.ApiPlain Go.Proofs.Ytnojminhbakfaaa.TwnPlain Go.Proofs.Ytnojminhbakfaaa.Mem Go.Proofs.Ytnojminhbakfaaa.ApiMem Go.Proofs.Ytnojminhbakfaaa.SubRef Go.Proofs.Ytnojminhbakfaaa.TwnRef Go.Proofs.Ytnojminhbakfaaa.SubWalk
theorem ex_items (w : World) (T : TypeId) : ItmsAt exL (w.alloc (.cells #[.int .i64 3, .bool true, .int .i64 3, .bool false] T)) (.slice (some ⟨w.heap.size, 0, none⟩) 2 2) :=
  ItmsAt.of (.inr ⟨_, 2, rfl, Raw.alloc w #[.int .i64 3, .bool true, .int .i64 3, .bool false] T, Nat.le_refl _⟩)
theorem below_fresh (w : World) (o : Obj) : Below w.heap.size w (w.alloc o) := (Below.refl _ _).alloc (Nat.le_refl _) o
set_option maxHeartbeats 1600000 in
theorem awake13 (w : World) : Calls Try.prog 5 #[] w (TrueIs w) := by
  have CB := Lib.hid (bestTS exL 6 2 _ _ (ex_items w 39) (by unfold ItmsFit exL; decide) (by decide) (by decide) (by decide))
  have HB := Lib.hid (below_fresh w (.cells #[.int .i64 3, .bool true, .int .i64 3, .bool false] 39))
  unfold TBestSays at CB
  rw [ex_lT, ex_nT, ex_eT] at CB
  go_enter Try.func5, Try.ntmps5
  go_wp2_with fail
  refine CB.out.mono ?_
  rintro e w1 ⟨u, rfl, ⟨A, c, rfl, hc, hA⟩, _, hb1⟩
  obtain ⟨a, rfl, _, h0⟩ := hA.at (i := 0) (by decide)
  have HB1 := Lib.hid (below_then HB.out hb1)
  have e0 : a.add 0 = a := by unfold Addr.add; simp
  rw [e0] at h0
  have z0 : w1.cell? a = some (.int .i64 1) := h0
  clear hA h0 hb1 e0 CB
  go_wp2_with fail
  go_ret
  exact ⟨rfl, HB1.out⟩
end Go.Proofs.Ytnojminhbakfaaa.TwnWalk
