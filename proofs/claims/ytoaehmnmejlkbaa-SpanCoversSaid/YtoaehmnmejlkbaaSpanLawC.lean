/-
  The walks of the statements of layer 3: SpanParts.
-/
import Derived.Test.YtoaehmnmejlkbaaSpanLawB
namespace Go.Proofs.Ytoaehmnmejlkbaa.SpanWalk
open Go.RowKit Go.Proofs.Ytoaehmnmejlkbaa.SpanPlain Go.Proofs.Ytoaehmnmejlkbaa.Mem Go.Proofs.Ytoaehmnmejlkbaa.SpanMem Go.Proofs.Ytoaehmnmejlkbaa.SpanRef

set_option maxHeartbeats 3200000 in
theorem parts_any (l m : List Sp) (v u : Value) (w : World) (hv : SpansIs l w v) (hu : SpansIs m w u) : Calls Try.prog 5 #[v, u] w (TrueIs w) := by
  obtain ⟨A, n, rfl, _⟩ := hv.open_
  obtain ⟨B, k, rfl, _⟩ := hu.open_
  have HV := Lib.hid hv
  have HU := Lib.hid hu
  clear hv hu
  by_cases h1 : l.length ≤ 40
  · have d1 : decide ((40 : Int) < (l.length : Int)) = false := by rw [decide_eq_false_iff_not]; omega
    by_cases h2 : m.length ≤ 40
    · have d2 : decide ((40 : Int) < (m.length : Int)) = false := by rw [decide_eq_false_iff_not]; omega
      have C1 := Lib.hid (fun x w h => coverS l x w h (by omega))
      have C3 := Lib.hid (fun x y w h g => lessS l m x y w h g (by omega) (by omega))
      have C4 := Lib.hid (fun x y w h g => lessS m l x y w h g (by omega) (by omega))
      go_enter Try.func5, Try.ntmps5
      go_wp2_with fail
      refine (C1.out _ _ HV.out).mono ?_
      rintro e w1 ⟨v1, c, rfl, hs1, ho1, hn1, hb1⟩
      have HO1 := Lib.hid ho1
      have HB1 := Lib.hid hb1
      have HS1 := Lib.hid hs1
      simp only [List.length_nil, Nat.add_zero] at hn1
      have C2 := Lib.hid (fun x w h => coverS c x w h (by omega))
      clear hb1 ho1 hs1
      go_wp2_with fail
      refine (C2.out _ _ HS1.out).mono ?_
      rintro e w2 ⟨v2, c2, rfl, hs2, ho2, hn2, hb2⟩
      obtain rfl := cov_self HO1.out.1 ho2
      have HS2 := Lib.hid hs2
      have HS1' := Lib.hid (HS1.out.below hb2)
      have HB2 := Lib.hid (Mem.below_then HB1.out hb2)
      clear hb2 ho2 hs2 HS1 hn2
      go_wp2_with fail
      refine (same_any c2 c2 _ _ _ HS2.out HS1'.out (by omega) (by omega)).mono ?_
      rintro e w3 ⟨rfl, q, rfl⟩
      have e1 : decide (c2 = c2) = true := by simp
      rw [e1]
      have HB3 := Lib.hid (below_drewN HB2.out q)
      have HS3 := Lib.hid (show SpansIs c2 (w2.drewN q) v1 from HS1'.out)
      clear e1 HS2 HS1' HB1 HB2
      generalize w2.drewN q = w3 at *
      have HO := Lib.hid (OwnR.new w3 23 2)
      have HBO := Lib.hid (below_alloc w3 (.cells #[] 23))
      go_wp2_with (at_builtin; refine push_src spans_t rfl (.tmp 26) (.tmp 27) rfl w3.heap.size _ 0 [] rfl HO.out _ l.length (svals l) rfl ?a1 ?a2 ?a3 ?a4 ?_)
      case a1 => exact svals_len l
      case a2 => exact ((HV.out.below HB3.out).below HBO.out).src
      case a3 => exact svals_cell l
      case a4 => omega
      intro x1 w4 ho4 hb4
      have HOW := Lib.hid ho4
      have HB4 := Lib.hid (HBO.out.trans hb4)
      clear ho4 hb4
      go_wp2_with (at_builtin; refine push_src spans_t rfl (.tmp 28) (.tmp 29) rfl w3.heap.size _ _ _ rfl HOW.out _ m.length (svals m) rfl ?b1 ?b2 ?b3 ?b4 ?_)
      case b1 => exact svals_len m
      case b2 => exact ((HU.out.below HB3.out).below HB4.out).src
      case b3 => exact svals_cell m
      case b4 => omega
      intro x2 w5 ho5 hb5
      have HA : Hid (SpansIs (l ++ m) w5 x2) := OwnR.spans (ho5.cast (by simp) (by simp [svals])) rfl
      have hb6 := HB4.out.trans hb5
      have HB5 := Lib.hid (Mem.below_then HB3.out hb6)
      have HS5 := Lib.hid (HS3.out.below hb6)
      clear ho5 hb5 hb6 HO HBO HB4 HOW HS3 HB3
      go_wp2_with fail
      refine (C3.out _ _ _ (HV.out.below HB5.out) (HU.out.below HB5.out)).mono ?_
      rintro e w6 ⟨v6, a, rfl, hs6, ho6, hn6, hb6⟩
      have HO6 := Lib.hid ho6
      have HS6 := Lib.hid hs6
      have HB6 := Lib.hid (Mem.below_then HB5.out hb6)
      have HA6 := Lib.hid (HA.out.below hb6)
      have HC6 := Lib.hid (HS5.out.below hb6)
      clear hb6 ho6 hs6 HB5 HA HS5
      go_wp2_with fail
      refine (C4.out _ _ _ (HU.out.below HB6.out) (HV.out.below HB6.out)).mono ?_
      rintro e w7 ⟨v7, b, rfl, hs7, ho7, hn7, hb7⟩
      have HO7 := Lib.hid ho7
      have HS7 := Lib.hid hs7
      have HB7 := Lib.hid (Mem.below_then HB6.out hb7)
      have HA7 := Lib.hid (HA6.out.below hb7)
      have HC7 := Lib.hid (HC6.out.below hb7)
      have HX7 := Lib.hid (HS6.out.below hb7)
      clear hb7 ho7 hs7 HB6 HA6 HC6 HS6
      have C5 := Lib.hid (fun x y w h g => lessS c2 a x y w h g (by omega) (by omega))
      go_wp2_with fail
      refine (C5.out _ _ _ HC7.out HX7.out).mono ?_
      rintro e w8 ⟨v8, d, rfl, hs8, ho8, hn8, hb8⟩
      have HO8 := Lib.hid ho8
      have HB8 := Lib.hid (Mem.below_then HB7.out hb8)
      have HA8 := Lib.hid (HA7.out.below hb8)
      have HX8 := Lib.hid (HX7.out.below hb8)
      have HS8 := Lib.hid (HS7.out.below hb8)
      have HD8 := Lib.hid hs8
      clear hb8 ho8 hs8 HB7 HA7 HC7 HX7 HS7
      have C6 := Lib.hid (fun x y w h g => lessS d b x y w h g (by omega) (by omega))
      go_wp2_with fail
      refine (C6.out _ _ _ HD8.out HS8.out).mono ?_
      rintro e w9 ⟨v9, f, rfl, hs9, ho9, hn9, hb9⟩
      have HO9 := Lib.hid ho9
      have HB9 := Lib.hid (Mem.below_then HB8.out hb9)
      have HA9 := Lib.hid (HA8.out.below hb9)
      have HX9 := Lib.hid (HX8.out.below hb9)
      have HS9 := Lib.hid (HS8.out.below hb9)
      have HF9 := Lib.hid hs9
      clear hb9 ho9 hs9 HB8 HA8 HX8 HS8 HD8
      have T1 := Lib.hid (fun x w h => totalS a x w h (by omega))
      have T2 := Lib.hid (fun x w h => totalS b x w h (by omega))
      have T3 := Lib.hid (fun x w h => totalS f x w h (by omega))
      have T4 := Lib.hid (fun x w h => totalS (l ++ m) x w h (by simp; omega))
      go_wp2_with fail
      refine (T1.out _ _ HX9.out).mono ?_
      rintro e w10 ⟨a', ha, rfl, hb10⟩
      obtain rfl := cov_self HO6.out.1 ha
      have HB10 := Lib.hid (Mem.below_then HB9.out hb10)
      have HA10 := Lib.hid (HA9.out.below hb10)
      have HS10 := Lib.hid (HS9.out.below hb10)
      have HF10 := Lib.hid (HF9.out.below hb10)
      clear hb10 ha HB9 HA9 HS9 HF9 HX9
      go_wp2_with fail
      refine (T2.out _ _ HS10.out).mono ?_
      rintro e w11 ⟨b', hb, rfl, hb11⟩
      obtain rfl := cov_self HO7.out.1 hb
      have HB11 := Lib.hid (Mem.below_then HB10.out hb11)
      have HA11 := Lib.hid (HA10.out.below hb11)
      have HF11 := Lib.hid (HF10.out.below hb11)
      clear hb11 hb HB10 HA10 HS10 HF10
      obtain ⟨r1, r2⟩ := tot_range HO6.out.1
      obtain ⟨r3, r4⟩ := tot_range HO7.out.1
      obtain ⟨r5, r6⟩ := tot_range HO9.out.1
      have HPARTS := Lib.hid (fun all h => parts (all := all) HO6.out HO7.out HO1.out HO8.out HO9.out h)
      generalize totL a' = ta at *
      generalize totL b' = tb at *
      go_wp2_with fail
      refine (T3.out _ _ HF11.out).mono ?_
      rintro e w12 ⟨f', hf, rfl, hb12⟩
      obtain rfl := cov_self HO9.out.1 hf
      have HB12 := Lib.hid (Mem.below_then HB11.out hb12)
      have HA12 := Lib.hid (HA11.out.below hb12)
      clear hb12 hf HB11 HA11 HF11
      generalize totL f' = tf at *
      go_wp2_with fail
      refine (T4.out _ _ HA12.out).mono ?_
      rintro e w13 ⟨g, hg, rfl, hb13⟩
      have hp : (ta + tb + tf == totL g) = true := by rw [beq_iff_eq]; exact HPARTS.out _ hg
      have HB13 := Lib.hid (Mem.below_then HB12.out hb13)
      clear hb13 hg HB12 HA12
      generalize totL g = tg at *
      go_wp2_with fail
      refine (awake_any _).mono ?_
      rintro e w14 ⟨rfl, hb14⟩
      have HB14 := Lib.hid (Mem.below_then HB13.out hb14)
      clear hb14
      go_wp2_with fail
      go_ret
      exact ⟨rfl, HB14.out⟩
    · have d2 : decide ((40 : Int) < (m.length : Int)) = true := by rw [decide_eq_true_eq]; omega
      go_enter Try.func5, Try.ntmps5
      go_wp2_with fail
      refine (awake_any _).mono ?_
      rintro e w9 ⟨rfl, hb9⟩
      have HB9 := Lib.hid hb9
      clear hb9
      go_wp2_with fail
      go_ret
      exact ⟨rfl, HB9.out⟩
  · have d1 : decide ((40 : Int) < (l.length : Int)) = true := by rw [decide_eq_true_eq]; omega
    go_enter Try.func5, Try.ntmps5
    go_wp2_with fail
    refine (awake_any _).mono ?_
    rintro e w9 ⟨rfl, hb9⟩
    have HB9 := Lib.hid hb9
    clear hb9
    go_wp2_with fail
    go_ret
    exact ⟨rfl, HB9.out⟩
end Go.Proofs.Ytoaehmnmejlkbaa.SpanWalk
