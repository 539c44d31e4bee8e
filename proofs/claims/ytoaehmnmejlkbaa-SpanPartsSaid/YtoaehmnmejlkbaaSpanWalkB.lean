/-
  The walk of layer 3's code: Meet.
-/
import Derived.Test.YtoaehmnmejlkbaaSpanWalkA
import Derived.Test.YtoaehmnmejlkbaaBox
namespace Go.Proofs.Ytoaehmnmejlkbaa.SpanWalk
open Go.RowKit Go.Proofs.Ytoaehmnmejlkbaa.SpanPlain Go.Proofs.Ytoaehmnmejlkbaa.Mem Go.Proofs.Ytoaehmnmejlkbaa.SpanMem Go.Proofs.Ytoaehmnmejlkbaa.SpanRef

theorem box_res {w w1 : World} {x y u v p q : Value} {S T R : TypeId} (hb : Below (((w.alloc (.cells #[x, y] S)).alloc (.cells #[u, v] T)).alloc (.cells #[p, q] R)).heap.size (((w.alloc (.cells #[x, y] S)).alloc (.cells #[u, v] T)).alloc (.cells #[p, q] R)) w1) :
    Box2 w1 (w.heap.size + 1 + 1) p q := by
  have h := (Box2.new ((w.alloc (.cells #[x, y] S)).alloc (.cells #[u, v] T)) p q R).below hb
  simpa using h
theorem box_fst {w w1 : World} {x y u v p q : Value} {S T R : TypeId} (hb : Below (((w.alloc (.cells #[x, y] S)).alloc (.cells #[u, v] T)).alloc (.cells #[p, q] R)).heap.size (((w.alloc (.cells #[x, y] S)).alloc (.cells #[u, v] T)).alloc (.cells #[p, q] R)) w1) :
    Box2 w1 w.heap.size x y := (((Box2.new w x y S).alloc _).alloc _).below hb
theorem box_snd {w w1 : World} {x y u v p q : Value} {S T R : TypeId} (hb : Below (((w.alloc (.cells #[x, y] S)).alloc (.cells #[u, v] T)).alloc (.cells #[p, q] R)).heap.size (((w.alloc (.cells #[x, y] S)).alloc (.cells #[u, v] T)).alloc (.cells #[p, q] R)) w1) :
    Box2 w1 (w.heap.size + 1) u v := by
  have h := ((Box2.new (w.alloc (.cells #[x, y] S)) u v T).alloc (.cells #[p, q] R)).below hb
  simpa using h
theorem below_three (w : World) (a b c : Obj) : Below w.heap.size w (((w.alloc a).alloc b).alloc c) := (((Below.refl _ _).alloc (Nat.le_refl _) _).alloc (by simp) _).alloc (by simp; omega) _
theorem meet_cases (a b : Sp) : (mayB a = false ∧ meetL a b = ((0, 0), false)) ∨ (mayB a = true ∧ mayB b = false ∧ meetL a b = ((0, 0), false)) ∨
    (mayB a = true ∧ mayB b = true ∧ mayB (max a.1 b.1, min a.2 b.2) = false ∧ meetL a b = ((0, 0), false)) ∨ (mayB a = true ∧ mayB b = true ∧ mayB (max a.1 b.1, min a.2 b.2) = true ∧ meetL a b = ((max a.1 b.1, min a.2 b.2), true)) := by
  cases ha : mayB a with
  | false => exact .inl ⟨rfl, meet_no (.inl ha)⟩
  | true =>
    cases hb : mayB b with
    | false => exact .inr (.inl ⟨rfl, rfl, meet_no (.inr (.inl hb))⟩)
    | true =>
      have h1 := (mayB_iff a).1 ha
      have h2 := (mayB_iff b).1 hb
      have h3 : mayB (max a.1 b.1, min a.2 b.2) = decide (max a.1 b.1 < min a.2 b.2) := by
        apply bool_ext
        rw [mayB_iff, decide_eq_true_eq]
        unfold May at *
        dsimp only
        omega
      by_cases h : max a.1 b.1 < min a.2 b.2
      · exact .inr (.inr (.inr ⟨rfl, rfl, by rw [h3, decide_eq_true h], meet_yes ha hb h⟩))
      · exact .inr (.inr (.inl ⟨rfl, rfl, by rw [h3, decide_eq_false h], meet_no (.inr (.inr h))⟩))
set_option maxHeartbeats 1600000 in
theorem meetS (a b : Sp) (w : World) : Calls Try.prog 6 #[spV a, spV b] w (MeetIs (meetL a b) w) := by
  have hs := meet_cases a b
  have C1 := Lib.hid (fun w => mayS a w)
  have C2 := Lib.hid (fun w => mayS b w)
  have C3 := Lib.hid (fun w => mayS (max a.1 b.1, min a.2 b.2) w)
  obtain ⟨a1, a2⟩ := a
  obtain ⟨b1, b2⟩ := b
  unfold spV at *
  dsimp only at hs C1 C2 C3 ⊢
  rcases hs with ⟨hm, hh⟩ | ⟨hm, hn, hh⟩ | ⟨hm, hn, ho, hh⟩ | ⟨hm, hn, ho, hh⟩
  · rw [hm] at C1
    rw [hh]
    clear hh hm C2 C3
    go_enter Try.func6, Try.ntmps6
    go_wp2_with fail
    refine (C1.out _).mono ?_
    rintro e w1 ⟨rfl, hb1⟩
    obtain ⟨q0, q1, q2, q3, q4⟩ := box_res hb1
    have HB1 := Lib.hid hb1
    clear hb1
    go_wp2_with fail
    exact bodyPost_ret (v := .tuple #[.agg #[.int .i64 0, .int .i64 0], .bool false]) (by simp [results, Try.results6, go_sem, q0, q1, q2, q3, q4]) rfl ⟨rfl, (((below_three w _ _ _).trans (HB1.out.mono (by simp; omega))).setCell (by simp; omega) _).setCell (by simp; omega) _⟩
  · rw [hm] at C1
    rw [hn] at C2
    rw [hh]
    clear hh hm hn C3
    go_enter Try.func6, Try.ntmps6
    go_wp2_with fail
    refine (C1.out _).mono ?_
    rintro e w1 ⟨rfl, hb1⟩
    have HR := Lib.hid (box_res hb1)
    obtain ⟨s0, s1, s2, s3, s4⟩ := box_snd hb1
    have HB1 := Lib.hid hb1
    clear hb1
    go_wp2_with fail
    refine (C2.out _).mono ?_
    rintro e w2 ⟨rfl, hb2⟩
    obtain ⟨q0, q1, q2, q3, q4⟩ := HR.out.below hb2
    have HB2 := Lib.hid hb2
    clear hb2
    go_wp2_with fail
    exact bodyPost_ret (v := .tuple #[.agg #[.int .i64 0, .int .i64 0], .bool false]) (by simp [results, Try.results6, go_sem, q0, q1, q2, q3, q4]) rfl ⟨rfl, (((below_three w _ _ _).trans ((below_then HB1.out HB2.out).mono (by simp; omega))).setCell (by simp; omega) _).setCell (by simp; omega) _⟩
  all_goals
    have hxy : (∃ X Y : Int, max a1 b1 = X ∧ min a2 b2 = Y ∧ (((a1 < b1 ∧ X = b1) ∨ (b1 ≤ a1 ∧ X = a1)) ∧ ((b2 < a2 ∧ Y = b2) ∨ (a2 ≤ b2 ∧ Y = a2)))) := ⟨_, _, rfl, rfl, by omega, by omega⟩
    obtain ⟨X, Y, hX, hY, hx, hy⟩ := hxy
    rw [hX, hY] at C3 ho
    try rw [hX, hY] at hh
    rw [hm] at C1
    rw [hn] at C2
    rw [ho] at C3
    rw [hh]
    clear hh hm hn ho hX hY
    rcases hx with ⟨hx, rfl⟩ | ⟨hx, rfl⟩ <;> rcases hy with ⟨hy, rfl⟩ | ⟨hy, rfl⟩
    all_goals
      go_enter Try.func6, Try.ntmps6
      go_wp2_with fail
      refine (C1.out _).mono ?_
      rintro e w1 ⟨rfl, hb1⟩
      have HR := Lib.hid (box_res hb1)
      have HA := Lib.hid (box_fst hb1)
      have HS := Lib.hid (box_snd hb1)
      obtain ⟨s0, s1, s2, s3, s4⟩ := HS.out
      have HB1 := Lib.hid hb1
      clear hb1
      go_wp2_with fail
      refine (C2.out _).mono ?_
      rintro e w2 ⟨rfl, hb2⟩
      clear s0 s1 s2 s3 s4
      obtain ⟨a0, a1', a2', a3', a4'⟩ := HA.out.below hb2
      obtain ⟨s0, s1, s2, s3, s4⟩ := HS.out.below hb2
      have HR2 := Lib.hid (HR.out.below hb2)
      have HB2 := Lib.hid hb2
      clear hb2
      go_wp2_with fail
      refine (C3.out _).mono ?_
      rintro e w3 ⟨rfl, hb3⟩
      obtain ⟨q0, q1, q2, q3, q4⟩ := (HR2.out.alloc _).below hb3
      obtain ⟨r0, r1, r2, r3, r4⟩ := (Box2.new w2 _ _ _).below hb3
      have HB3 := Lib.hid hb3
      clear hb3 a0 a1' a2' a3' a4' s0 s1 s2 s3 s4
      go_wp2_with fail
      first
        | exact bodyPost_ret (v := .tuple #[.agg #[.int .i64 0, .int .i64 0], .bool false]) (by simp [results, Try.results6, go_sem, q0, q1, q2, q3, q4]) rfl ⟨rfl, (((below_three w _ _ _).trans ((below_then (below_then (below_then HB1.out HB2.out) (below_alloc _ _)) HB3.out).mono (by simp; omega))).setCell (by simp; omega) _).setCell (by simp; omega) _⟩
        | exact bodyPost_ret (v := .tuple #[.agg #[.int .i64 _, .int .i64 _], .bool true]) (by simp [results, Try.results6, go_sem, q0, q1, q2, q3, q4]) rfl ⟨rfl, (((below_three w _ _ _).trans ((below_then (below_then (below_then HB1.out HB2.out) (below_alloc _ _)) HB3.out).mono (by simp; omega))).setCell (by simp; omega) _).setCell (by simp; omega) _⟩
end Go.Proofs.Ytoaehmnmejlkbaa.SpanWalk
