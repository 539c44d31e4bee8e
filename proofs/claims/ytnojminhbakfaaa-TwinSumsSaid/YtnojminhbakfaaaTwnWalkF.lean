/-
  The walk of layer 13's Fits.
-/
import Derived.Test.YtnojminhbakfaaaTwnWalkA
import Derived.Deep.RegionHeld3
namespace Go.Proofs.Ytnojminhbakfaaa.TwnWalk
open Go.RowKit Go.Proofs.Ytnojminhbakfaaa.SubPlain Go.Proofs.Ytnojminhbakfaaa.ApiPlain Go.Proofs.Ytnojminhbakfaaa.TwnPlain Go.Proofs.Ytnojminhbakfaaa.Mem Go.Proofs.Ytnojminhbakfaaa.ApiMem Go.Proofs.Ytnojminhbakfaaa.SubRef Go.Proofs.Ytnojminhbakfaaa.TwnRef Go.Proofs.Ytnojminhbakfaaa.SubWalk
/-- Whether places are a choice, by what they are together. -/
theorem fits_ways (l : List Itm) (ps : List Int) (room long : Int) : (roomT room = false ∧ fitsT l ps room long = false) ∨ (roomT room = true ∧ roomT long = false ∧ fitsT l ps room long = false) ∨
    (roomT room = true ∧ roomT long = true ∧ okT l ps = false ∧ fitsT l ps room long = false) ∨ (roomT room = true ∧ roomT long = true ∧ okT l ps = true ∧ decide (sumA l ps ≤ room) = false ∧ fitsT l ps room long = false) ∨
    (roomT room = true ∧ roomT long = true ∧ okT l ps = true ∧ decide (sumA l ps ≤ room) = true ∧ decide (sumB l ps ≤ long) = false ∧ fitsT l ps room long = false) ∨
    (roomT room = true ∧ roomT long = true ∧ okT l ps = true ∧ decide (sumA l ps ≤ room) = true ∧ decide (sumB l ps ≤ long) = true ∧ fitsT l ps room long = true) := by
  unfold fitsT roomT sumA sumB
  cases okT l ps <;> cases decide (0 ≤ room) <;> cases decide (room ≤ 256) <;> cases decide (0 ≤ long) <;> cases decide (long ≤ 256) <;> simp
  all_goals
    by_cases h1 : sumP (wsOf l) ps ≤ room <;> by_cases h2 : sumP (lsOf l) ps ≤ long <;> simp [h1, h2] <;> omega
set_option maxHeartbeats 1600000 in
theorem fits_1 (l : List Itm) (ps : List Int) (room long : Int) (v u : Value) (w : World) (a b : Int) (q : Bool) (CS : Hid (Calls Try.prog 12 #[v, u] w fun e w' => e = .returned (.tuple #[.int .i64 a, .int .i64 b, .bool q]) ∧ Below w.heap.size w w')) (h1 : roomT room = false) : Calls Try.prog 13 #[v, u, .int .i64 room, .int .i64 long] w (BoolB false w) := by
  have C1 := Lib.hid (room_i room w)
  have C2 := Lib.hid (room_i long w)
  rw [h1] at C1
  clear h1 C2 CS
  go_enter Try.func13, Try.ntmps13
  go_wp2_with (go_at_call_of 16 (Value.int .i64 room); refine C1.out.mono ?_; rintro e w1 ⟨rfl, rfl⟩)
  go_ret
  exact ⟨rfl, Below.refl _ _⟩
set_option maxHeartbeats 1600000 in
theorem fits_2 (l : List Itm) (ps : List Int) (room long : Int) (v u : Value) (w : World) (a b : Int) (q : Bool) (CS : Hid (Calls Try.prog 12 #[v, u] w fun e w' => e = .returned (.tuple #[.int .i64 a, .int .i64 b, .bool q]) ∧ Below w.heap.size w w')) (h1 : roomT room = true) (h2 : roomT long = false) : Calls Try.prog 13 #[v, u, .int .i64 room, .int .i64 long] w (BoolB false w) := by
  have C1 := Lib.hid (room_i room w)
  have C2 := Lib.hid (room_i long w)
  rw [h1] at C1
  rw [h2] at C2
  clear h1 h2 CS
  go_enter Try.func13, Try.ntmps13
  go_wp2_with (first | (go_at_call_of 16 (Value.int .i64 room); refine C1.out.mono ?_; rintro e w1 ⟨rfl, rfl⟩) | (go_at_call_of 16 (Value.int .i64 long); refine C2.out.mono ?_; rintro e w1 ⟨rfl, rfl⟩))
  go_ret
  exact ⟨rfl, Below.refl _ _⟩
set_option maxHeartbeats 1600000 in
theorem fits_3 (l : List Itm) (ps : List Int) (room long : Int) (v u : Value) (w : World) (a b : Int) (q : Bool) (CS : Hid (Calls Try.prog 12 #[v, u] w fun e w' => e = .returned (.tuple #[.int .i64 a, .int .i64 b, .bool q]) ∧ Below w.heap.size w w')) (h1 : roomT room = true) (h2 : roomT long = true) (hq : q = false) : Calls Try.prog 13 #[v, u, .int .i64 room, .int .i64 long] w (BoolB false w) := by
  have C1 := Lib.hid (room_i room w)
  have C2 := Lib.hid (room_i long w)
  subst hq
  rw [h1] at C1
  rw [h2] at C2
  clear h1 h2
  go_enter Try.func13, Try.ntmps13
  go_wp2_with (first | (go_at_call_of 16 (Value.int .i64 room); refine C1.out.mono ?_; rintro e w1 ⟨rfl, rfl⟩) | (go_at_call_of 16 (Value.int .i64 long); refine C2.out.mono ?_; rintro e w1 ⟨rfl, rfl⟩) | (go_at_call 12; refine CS.out.mono ?_; rintro e w1 ⟨rfl, hb1⟩))
  go_ret
  exact ⟨rfl, hb1⟩
set_option maxHeartbeats 1600000 in
theorem fits_4 (l : List Itm) (ps : List Int) (room long : Int) (v u : Value) (w : World) (a b : Int) (q : Bool) (CS : Hid (Calls Try.prog 12 #[v, u] w fun e w' => e = .returned (.tuple #[.int .i64 a, .int .i64 b, .bool q]) ∧ Below w.heap.size w w')) (h1 : roomT room = true) (h2 : roomT long = true) (hq : q = true) (a4 : decide (a ≤ room) = false) : Calls Try.prog 13 #[v, u, .int .i64 room, .int .i64 long] w (BoolB false w) := by
  have C1 := Lib.hid (room_i room w)
  have C2 := Lib.hid (room_i long w)
  subst hq
  rw [h1] at C1
  rw [h2] at C2
  clear h1 h2
  go_enter Try.func13, Try.ntmps13
  go_wp2_with (first | (go_at_call_of 16 (Value.int .i64 room); refine C1.out.mono ?_; rintro e w1 ⟨rfl, rfl⟩) | (go_at_call_of 16 (Value.int .i64 long); refine C2.out.mono ?_; rintro e w1 ⟨rfl, rfl⟩) | (go_at_call 12; refine CS.out.mono ?_; rintro e w1 ⟨rfl, hb1⟩))
  go_ret
  exact ⟨rfl, hb1⟩
set_option maxHeartbeats 1600000 in
theorem fits_5 (l : List Itm) (ps : List Int) (room long : Int) (v u : Value) (w : World) (a b : Int) (q : Bool) (CS : Hid (Calls Try.prog 12 #[v, u] w fun e w' => e = .returned (.tuple #[.int .i64 a, .int .i64 b, .bool q]) ∧ Below w.heap.size w w')) (h1 : roomT room = true) (h2 : roomT long = true) (hq : q = true) (a4 : decide (a ≤ room) = true) (a5 : decide (b ≤ long) = false) : Calls Try.prog 13 #[v, u, .int .i64 room, .int .i64 long] w (BoolB false w) := by
  have C1 := Lib.hid (room_i room w)
  have C2 := Lib.hid (room_i long w)
  subst hq
  rw [h1] at C1
  rw [h2] at C2
  clear h1 h2
  go_enter Try.func13, Try.ntmps13
  go_wp2_with (first | (go_at_call_of 16 (Value.int .i64 room); refine C1.out.mono ?_; rintro e w1 ⟨rfl, rfl⟩) | (go_at_call_of 16 (Value.int .i64 long); refine C2.out.mono ?_; rintro e w1 ⟨rfl, rfl⟩) | (go_at_call 12; refine CS.out.mono ?_; rintro e w1 ⟨rfl, hb1⟩))
  go_ret
  exact ⟨rfl, hb1⟩
set_option maxHeartbeats 1600000 in
theorem fits_6 (l : List Itm) (ps : List Int) (room long : Int) (v u : Value) (w : World) (a b : Int) (q : Bool) (CS : Hid (Calls Try.prog 12 #[v, u] w fun e w' => e = .returned (.tuple #[.int .i64 a, .int .i64 b, .bool q]) ∧ Below w.heap.size w w')) (h1 : roomT room = true) (h2 : roomT long = true) (hq : q = true) (a4 : decide (a ≤ room) = true) (a5 : decide (b ≤ long) = true) : Calls Try.prog 13 #[v, u, .int .i64 room, .int .i64 long] w (BoolB true w) := by
  have C1 := Lib.hid (room_i room w)
  have C2 := Lib.hid (room_i long w)
  subst hq
  rw [h1] at C1
  rw [h2] at C2
  clear h1 h2
  go_enter Try.func13, Try.ntmps13
  go_wp2_with (first | (go_at_call_of 16 (Value.int .i64 room); refine C1.out.mono ?_; rintro e w1 ⟨rfl, rfl⟩) | (go_at_call_of 16 (Value.int .i64 long); refine C2.out.mono ?_; rintro e w1 ⟨rfl, rfl⟩) | (go_at_call 12; refine CS.out.mono ?_; rintro e w1 ⟨rfl, hb1⟩))
  go_ret
  exact ⟨rfl, hb1⟩
theorem fitsS (l : List Itm) (ps : List Int) (room long : Int) (v u : Value) (w : World) (hv : ItmsAt l w v) (hf : ItmsFit l) (hl : l.length ≤ 50) (hu : IntsAt ps w u) (hg : IntsFit ps) (hm : ps.length ≤ 50) : Calls Try.prog 13 #[v, u, .int .i64 room, .int .i64 long] w (BoolB (fitsT l ps room long) w) := by
  have CS := Lib.hid (sumsS l ps v u w hv hf hl hu hg hm)
  unfold SumsSays at CS
  rcases fits_ways l ps room long with ⟨a1, h2⟩ | ⟨a1, a2, h2⟩ | ⟨a1, a2, a3, h2⟩ | ⟨a1, a2, a3, a4, h2⟩ | ⟨a1, a2, a3, a4, a5, h2⟩ | ⟨a1, a2, a3, a4, a5, h2⟩
  all_goals rw [h2]
  · exact fits_1 l ps room long v u w _ _ _ CS a1
  · exact fits_2 l ps room long v u w _ _ _ CS a1 a2
  · exact fits_3 l ps room long v u w _ _ _ CS a1 a2 a3
  · exact fits_4 l ps room long v u w _ _ _ CS a1 a2 a3 a4
  · exact fits_5 l ps room long v u w _ _ _ CS a1 a2 a3 a4 a5
  · exact fits_6 l ps room long v u w _ _ _ CS a1 a2 a3 a4 a5
end Go.Proofs.Ytnojminhbakfaaa.TwnWalk
