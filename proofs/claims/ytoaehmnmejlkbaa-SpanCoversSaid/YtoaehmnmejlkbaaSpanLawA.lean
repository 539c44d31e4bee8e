/-
  The walks of the statements of layer 3: awake, SpanCovers.
-/
import Derived.Test.YtoaehmnmejlkbaaSpanWalk
namespace Go.Proofs.Ytoaehmnmejlkbaa.SpanWalk
open Go.RowKit Go.Proofs.Ytoaehmnmejlkbaa.SpanPlain Go.Proofs.Ytoaehmnmejlkbaa.Mem Go.Proofs.Ytoaehmnmejlkbaa.SpanMem Go.Proofs.Ytoaehmnmejlkbaa.SpanRef

theorem cover_two {c : List Sp} (h : LessOf [(3, 5), (1, 3)] [] c) : c = [(1, 5)] := by
  refine cov_unique h.1 ⟨fun s hs => ?_, by simp⟩ fun t => ?_
  · obtain rfl : s = (1, 5) := by simpa using hs
    exact ⟨by decide, by decide, by decide⟩
  · rw [h.2, any_nil, any_cons, any_cons, any_nil, any_cons, any_nil]
    apply bool_ext
    simp only [Bool.or_false, Bool.not_false, Bool.and_true, Bool.or_eq_true, hasB_iff, May]
    omega

set_option maxHeartbeats 1600000 in
theorem awake_any (w : World) : Calls Try.prog 12 #[] w (TrueIs w) := by
  have C1 := Lib.hid (fun v w h => coverS [(3, 5), (1, 3)] v w h (by simp))
  have C2 := Lib.hid (fun v w h => totalS [(1, 5)] v w h (by simp))
  have C3 := Lib.hid (fun w => hasS (1, 5) 4 w)
  have h4 : hasB (1, 5) 4 = true := by rw [hasB_iff]; exact ⟨⟨by decide, by decide, by decide⟩, by decide, by decide⟩
  rw [h4] at C3
  clear h4
  have HO := Lib.hid (fun w T => Raw_two (3, 5) (1, 3) w T)
  go_enter Try.func12, Try.ntmps12
  go_wp2_with fail
  refine (C1.out _ _ (HO.out _ _)).mono ?_
  rintro e w1 ⟨v, c, rfl, hv, hc, _, hb⟩
  obtain rfl := cover_two hc
  have HB := Lib.hid (Mem.below_then (below_alloc w _) hb)
  have HV := Lib.hid hv
  obtain ⟨ad, n, rfl, had, c1, c2⟩ := first_cells hv
  clear hb hc hv
  simp only [List.length_nil, Nat.zero_add] at HV ⊢
  go_wp2_with fail
  refine (C2.out _ _ HV.out).mono ?_
  rintro e w2 ⟨c, hc, rfl, hb2⟩
  have ec : c = [(1, 5)] := cov_unique hc.1 ⟨fun s hs => ?k1, by simp⟩ fun t => ?k2
  case k1 =>
    obtain rfl : s = (1, 5) := by simpa using hs
    exact ⟨by decide, by decide, by decide⟩
  case k2 => rw [hc.2, any_nil, Bool.not_false, Bool.and_true]
  have et : totL c = 4 := by rw [ec]; rfl
  rw [et]
  obtain ⟨d1, d2, had2⟩ := first_held hb2 c1 c2 had
  have HB2 := Lib.hid (Mem.below_then HB.out hb2)
  clear hb2 hc ec et c1 c2 had
  go_wp2_with fail
  refine (C3.out _).mono ?_
  rintro e w3 ⟨rfl, hb3⟩
  have HB3 := Lib.hid (Mem.below_then HB2.out hb3)
  clear hb3
  go_wp2_with fail
  go_ret
  exact ⟨rfl, HB3.out⟩
end Go.Proofs.Ytoaehmnmejlkbaa.SpanWalk
