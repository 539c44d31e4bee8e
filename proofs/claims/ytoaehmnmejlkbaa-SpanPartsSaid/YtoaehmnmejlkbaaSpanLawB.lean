/-
  The walks of the statements of layer 3: SpanCovers.
-/
import Derived.Test.YtoaehmnmejlkbaaSpanLawA
namespace Go.Proofs.Ytoaehmnmejlkbaa.SpanWalk
open Go.RowKit Go.Proofs.Ytoaehmnmejlkbaa.SpanPlain Go.Proofs.Ytoaehmnmejlkbaa.Mem Go.Proofs.Ytoaehmnmejlkbaa.SpanMem Go.Proofs.Ytoaehmnmejlkbaa.SpanRef

set_option maxHeartbeats 3200000 in
theorem covers_any (l m : List Sp) (v u : Value) (w : World) (hv : SpansIs l w v) (hu : SpansIs m w u) : Calls Try.prog 4 #[v, u] w (TrueIs w) := by
  obtain ⟨A, n, rfl, _⟩ := hv.open_
  obtain ⟨B, k, rfl, _⟩ := hu.open_
  have HV := Lib.hid hv
  have HU := Lib.hid hu
  clear hv hu
  by_cases h1 : l.length ≤ 40
  · have d1 : decide ((40 : Int) < (l.length : Int)) = false := by rw [decide_eq_false_iff_not]; omega
    by_cases h2 : m.length ≤ 40
    · have d2 : decide ((40 : Int) < (m.length : Int)) = false := by rw [decide_eq_false_iff_not]; omega
      have C1 := Lib.hid (fun x y w h g => less_any l [] x y w h g (by omega) (by simp))
      have C2 := Lib.hid (fun x w h => coverS l x w h (by omega))
      have C3 := Lib.hid (fun x y w h g => lessS l m x y w h g (by omega) (by omega))
      have C4 := Lib.hid (fun x y w h g => less_any l m x y w h g (by omega) (by omega))
      have C5 := Lib.hid (fun x w h => totalS l x w h (by omega))
      go_enter Try.func4, Try.ntmps4
      go_wp2_with fail
      refine (C1.out _ _ _ HV.out (nil_is _)).mono ?_
      rintro e w1 ⟨v1, c, rfl, hs1, ho1, hn1, hb1⟩
      have HO1 := Lib.hid ho1
      have HB1 := Lib.hid hb1
      have HS1 := Lib.hid hs1
      clear hb1 ho1 hs1
      go_wp2_with fail
      refine (C2.out _ _ (HV.out.below HB1.out)).mono ?_
      rintro e w2 ⟨v2, c2, rfl, hs2, ho2, hn2, hb2⟩
      obtain rfl := LessOf.unique ho2 HO1.out
      have HS2 := Lib.hid hs2
      have HS1' := Lib.hid (HS1.out.below hb2)
      have HB2 := Lib.hid (Mem.below_then HB1.out hb2)
      clear hb2 ho2 hs2 HS1
      go_wp2_with fail
      refine (same_any c2 c2 _ _ _ HS2.out HS1'.out (by simp at hn2; omega) (by simp at hn2; omega)).mono ?_
      rintro e w3 ⟨rfl, q, rfl⟩
      have e1 : decide (c2 = c2) = true := by simp
      rw [e1]
      have HB3 := Lib.hid (below_drewN HB2.out q)
      have HS3 := Lib.hid (show SpansIs c2 (w2.drewN q) v1 from HS1'.out)
      clear e1 HS2 HS1' HB1 HB2
      go_wp2_with fail
      refine (C3.out _ _ _ (HV.out.below HB3.out) (HU.out.below HB3.out)).mono ?_
      rintro e w4 ⟨v4, d, rfl, hs4, ho4, hn4, hb4⟩
      have HO4 := Lib.hid ho4
      have HS4 := Lib.hid hs4
      have HS3' := Lib.hid (HS3.out.below hb4)
      have HB4 := Lib.hid (Mem.below_then HB3.out hb4)
      clear hb4 ho4 hs4 HS3 HB3
      go_wp2_with fail
      refine (C4.out _ _ _ (HV.out.below HB4.out) (HU.out.below HB4.out)).mono ?_
      rintro e w5 ⟨v5, d5, rfl, hs5, ho5, hn5, hb5⟩
      obtain rfl := LessOf.unique ho5 HO4.out
      have HS5 := Lib.hid hs5
      have HS4' := Lib.hid (HS4.out.below hb5)
      have HS3 := Lib.hid (HS3'.out.below hb5)
      have HB5 := Lib.hid (Mem.below_then HB4.out hb5)
      clear hb5 ho5 hs5 HS4 HS3' HB4
      go_wp2_with fail
      refine (same_any d5 d5 _ _ _ HS4'.out HS5.out (by omega) (by omega)).mono ?_
      rintro e w6 ⟨rfl, q6, rfl⟩
      have e1 : decide (d5 = d5) = true := by simp
      rw [e1]
      have HB6 := Lib.hid (below_drewN HB5.out q6)
      have HS6 := Lib.hid (show SpansIs c2 (w5.drewN q6) v1 from HS3.out)
      clear e1 HS5 HS4' HS3 HB5
      go_wp2_with fail
      refine (C5.out _ _ (HV.out.below HB6.out)).mono ?_
      rintro e w7 ⟨c7, ho7, rfl, hb7⟩
      obtain rfl := LessOf.unique ho7 HO1.out
      have HS7 := Lib.hid (HS6.out.below hb7)
      have HB7 := Lib.hid (Mem.below_then HB6.out hb7)
      clear hb7 ho7 HS6 HB6
      go_wp2_with fail
      refine (total_any c7 _ _ HS7.out HO1.out.1 (by simp at hn1; omega)).mono ?_
      rintro e w8 ⟨rfl, q8, rfl⟩
      have HB8 := Lib.hid (below_drewN HB7.out q8)
      have e2 : (totL c7 == totL c7) = true := by simp
      generalize totL c7 = T at *
      clear HB7
      go_wp2_with fail
      refine (awake_any _).mono ?_
      rintro e w9 ⟨rfl, hb9⟩
      have HB9 := Lib.hid (Mem.below_then HB8.out hb9)
      clear hb9
      go_wp2_with fail
      go_ret
      exact ⟨rfl, HB9.out⟩
    · have d2 : decide ((40 : Int) < (m.length : Int)) = true := by rw [decide_eq_true_eq]; omega
      go_enter Try.func4, Try.ntmps4
      go_wp2_with fail
      refine (awake_any _).mono ?_
      rintro e w9 ⟨rfl, hb9⟩
      have HB9 := Lib.hid hb9
      clear hb9
      go_wp2_with fail
      go_ret
      exact ⟨rfl, HB9.out⟩
  · have d1 : decide ((40 : Int) < (l.length : Int)) = true := by rw [decide_eq_true_eq]; omega
    go_enter Try.func4, Try.ntmps4
    go_wp2_with fail
    refine (awake_any _).mono ?_
    rintro e w9 ⟨rfl, hb9⟩
    have HB9 := Lib.hid hb9
    clear hb9
    go_wp2_with fail
    go_ret
    exact ⟨rfl, HB9.out⟩
end Go.Proofs.Ytoaehmnmejlkbaa.SpanWalk
