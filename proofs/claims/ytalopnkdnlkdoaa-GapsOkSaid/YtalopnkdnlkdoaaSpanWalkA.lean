/-
  The walks of layer 3's code: May, Has, Len.
-/
import Derived.Test.YtalopnkdnlkdoaaSpanSay
import Derived.Test.YtalopnkdnlkdoaaBase
import Derived.Test.YtalopnkdnlkdoaaSpanPlain
namespace Go.Proofs.Ytalopnkdnlkdoaa.SpanWalk
open Go.RowKit Go.Proofs.Ytalopnkdnlkdoaa.SpanPlain Go.Proofs.Ytalopnkdnlkdoaa.Mem Go.Proofs.Ytalopnkdnlkdoaa.SpanMem Go.Proofs.Ytalopnkdnlkdoaa.SpanRef
/-- A box of two cells, behind whatever left it alone. -/
theorem box_two {w w1 : World} {x y : Value} {T : TypeId} (hb : Below (w.alloc (.cells #[x, y] T)).heap.size (w.alloc (.cells #[x, y] T)) w1) :
    w1.cell? ⟨w.heap.size, 0, none⟩ = some x ∧ w1.cell? ⟨w.heap.size, 1, none⟩ = some y ∧ w.heap.size < w1.heap.size := by
  have h := (Raw.alloc w #[x, y] T).below hb
  have h0 := h 0 x rfl
  have h1 := h 1 y rfl
  rw [add_flat] at h0 h1
  exact ⟨h0.2, h1.2, h0.1⟩
set_option maxHeartbeats 800000 in
theorem mayS (s : Sp) (w : World) : Calls Try.prog 30 #[spV s] w (BoolIs (mayB s) w) := by
  have hs := may_cases s
  obtain ⟨a, b⟩ := s
  unfold spV
  dsimp only at hs ⊢
  generalize mayB (a, b) = B at *
  rcases hs with ⟨rfl, h1, h2, h3⟩ | ⟨rfl, h1⟩ | ⟨rfl, h1, h2⟩ | ⟨rfl, h1, h2, h3⟩
  all_goals
    go_enter Try.func30, Try.ntmps30
    go_wp2_with fail
    go_ret
    exact ⟨rfl, (Below.refl _ _).alloc (Nat.le_refl _) _⟩
set_option maxHeartbeats 800000 in
theorem hasS (s : Sp) (t : Int) (w : World) : Calls Try.prog 24 #[spV s, .int .i64 t] w (BoolIs (hasB s t) w) := by
  have hs := has_cases s t
  have C1 := Lib.hid (fun w => mayS s w)
  obtain ⟨a, b⟩ := s
  unfold spV at *
  dsimp only at hs C1 ⊢
  rcases hs with ⟨hh, hm⟩ | ⟨hh, hm, h1⟩ | ⟨hh, hm, h1, h2⟩ | ⟨hh, hm, h1, h2⟩
  all_goals
    rw [hm] at C1
    rw [hh]
    clear hh hm
    go_enter Try.func24, Try.ntmps24
    go_wp2_with fail
    refine (C1.out _).mono ?_
    rintro e w1 ⟨rfl, hb1⟩
    obtain ⟨d1, d2, d3⟩ := box_two hb1
    have HB1 := Lib.hid hb1
    clear hb1
    go_wp2_with fail
    go_ret
    exact ⟨rfl, below_then (below_alloc _ _) HB1.out⟩
end Go.Proofs.Ytalopnkdnlkdoaa.SpanWalk
