/-
  The walks of layer 3's code: May, Has, Len.
-/
import Derived.Test.YtoaehmnmejlkbaaSpanSay
import Derived.Test.YtoaehmnmejlkbaaGrow
import Derived.Test.YtoaehmnmejlkbaaSpanRise
namespace Go.Proofs.Ytoaehmnmejlkbaa.SpanWalk
open Go.RowKit Go.Proofs.Ytoaehmnmejlkbaa.SpanPlain Go.Proofs.Ytoaehmnmejlkbaa.Mem Go.Proofs.Ytoaehmnmejlkbaa.SpanMem Go.Proofs.Ytoaehmnmejlkbaa.SpanRef

/-- A box of two cells, behind whatever left it alone. -/
theorem box_two {w w1 : World} {x y : Value} {T : TypeId} (hb : Below (w.alloc (.cells #[x, y] T)).heap.size (w.alloc (.cells #[x, y] T)) w1) :
    w1.cell? ⟨w.heap.size, 0, none⟩ = some x ∧ w1.cell? ⟨w.heap.size, 1, none⟩ = some y ∧ w.heap.size < w1.heap.size := by
  have h := (Raw.alloc w #[x, y] T).below hb
  have h0 := h 0 x rfl
  have h1 := h 1 y rfl
  rw [add_flat] at h0 h1
  exact ⟨h0.2, h1.2, h0.1⟩

set_option maxHeartbeats 800000 in
theorem mayS (s : Sp) (w : World) : Calls Try.prog 9 #[spV s] w (BoolIs (mayB s) w) := by
  have hs := may_cases s
  obtain ⟨a, b⟩ := s
  unfold spV
  dsimp only at hs ⊢
  generalize mayB (a, b) = B at *
  rcases hs with ⟨rfl, h1, h2, h3⟩ | ⟨rfl, h1⟩ | ⟨rfl, h1, h2⟩ | ⟨rfl, h1, h2, h3⟩
  all_goals
    go_enter Try.func9, Try.ntmps9
    go_wp2_with fail
    go_ret
    exact ⟨rfl, (Below.refl _ _).alloc (Nat.le_refl _) _⟩

set_option maxHeartbeats 800000 in
theorem hasS (s : Sp) (t : Int) (w : World) : Calls Try.prog 10 #[spV s, .int .i64 t] w (BoolIs (hasB s t) w) := by
  have hs := has_cases s t
  have C1 := Lib.hid (fun w => mayS s w)
  obtain ⟨a, b⟩ := s
  unfold spV at *
  dsimp only at hs C1 ⊢
  rcases hs with ⟨hh, hm⟩ | ⟨hh, hm, h1⟩ | ⟨hh, hm, h1, h2⟩ | ⟨hh, hm, h1, h2⟩
  all_goals
    rw [hm] at C1
    rw [hh]
    clear hh hm
    go_enter Try.func10, Try.ntmps10
    go_wp2_with fail
    refine (C1.out _).mono ?_
    rintro e w1 ⟨rfl, hb1⟩
    obtain ⟨d1, d2, d3⟩ := box_two hb1
    have HB1 := Lib.hid hb1
    clear hb1
    go_wp2_with fail
    go_ret
    exact ⟨rfl, below_then (below_alloc _ _) HB1.out⟩

set_option maxHeartbeats 800000 in
theorem lenS (s : Sp) (w : World) : Calls Try.prog 11 #[spV s] w (IntIs (lenL s) w) := by
  have hs : (mayB s = false ∧ lenL s = 0) ∨ (mayB s = true ∧ lenL s = s.2 - s.1 ∧ May s) := by
    unfold lenL
    cases h : mayB s with
    | false => left; exact ⟨rfl, rfl⟩
    | true => right; exact ⟨rfl, rfl, (mayB_iff s).1 h⟩
  have C1 := Lib.hid (fun w => mayS s w)
  obtain ⟨a, b⟩ := s
  unfold spV at *
  unfold May at hs
  dsimp only at hs C1 ⊢
  rcases hs with ⟨hm, hh⟩ | ⟨hm, hh, h1, h2, h3⟩
  all_goals
    rw [hm] at C1
    rw [hh]
    clear hh hm
    go_enter Try.func11, Try.ntmps11
    go_wp2_with fail
    refine (C1.out _).mono ?_
    rintro e w1 ⟨rfl, hb1⟩
    obtain ⟨d1, d2, d3⟩ := box_two hb1
    have HB1 := Lib.hid hb1
    clear hb1
    go_wp2_with fail
    go_ret
    exact ⟨rfl, below_then (below_alloc _ _) HB1.out⟩
end Go.Proofs.Ytoaehmnmejlkbaa.SpanWalk
