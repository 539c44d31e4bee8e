/-
  The walks of the statements of layer 4: StepAdds.
-/
import Derived.Test.YtnjhboanhjjldaaStepLawB
namespace Go.Proofs.Ytnjhboanhjjldaa.StepWalk
open Go.RowKit Go.Proofs.Ytnjhboanhjjldaa.SpanPlain Go.Proofs.Ytnjhboanhjjldaa.StepPlain Go.Proofs.Ytnjhboanhjjldaa.Mem Go.Proofs.Ytnjhboanhjjldaa.SpanMem Go.Proofs.Ytnjhboanhjjldaa.StepMem Go.Proofs.Ytnjhboanhjjldaa.SpanRef Go.Proofs.Ytnjhboanhjjldaa.StepRef

theorem add_bad {s r : List Sp} {x : Sp} {n : Int} (h : AddIs s x n r) (hb : addBad s x n) : r = [] := h.unique (.inl ⟨hb, rfl⟩)
theorem adds_ways (s : List Sp) (x : Sp) (n : Int) : (chkB s = false ∧ Hid (addBad s x n)) ∨ (chkB s = true ∧ mayB x = false ∧ Hid (addBad s x n)) ∨ (chkB s = true ∧ mayB x = true ∧ decide (n < -256) = true ∧ Hid (addBad s x n)) ∨
    (chkB s = true ∧ mayB x = true ∧ decide (n < -256) = false ∧ decide (256 < n) = true ∧ Hid (addBad s x n)) ∨ (chkB s = true ∧ mayB x = true ∧ decide (n < -256) = false ∧ decide (256 < n) = false ∧ Hid (¬ addBad s x n)) := by
  unfold addBad
  cases h1 : chkB s with
  | false => exact .inl ⟨rfl, .inl rfl⟩
  | true =>
    cases h2 : mayB x with
    | false => exact .inr (.inl ⟨rfl, rfl, .inr (.inl rfl)⟩)
    | true =>
      by_cases h3 : n < -256
      · exact .inr (.inr (.inl ⟨rfl, rfl, decide_eq_true h3, .inr (.inr (.inl h3))⟩))
      · by_cases h4 : 256 < n
        · exact .inr (.inr (.inr (.inl ⟨rfl, rfl, decide_eq_false h3, decide_eq_true h4, .inr (.inr (.inr h4))⟩)))
        · exact .inr (.inr (.inr (.inr ⟨rfl, rfl, decide_eq_false h3, decide_eq_false h4, fun h => by
            rcases h with h | h | h | h
            · cases h
            · cases h
            · exact h3 h
            · exact h4 h⟩)))
theorem back_is {s r r7 : List Sp} {x : Sp} {n : Int} (h : ¬ addBad s x n) (hr : Rep r (head s) (addF s x n)) (ha : AddIs r x (-n) r7) : s = r7 := by
  obtain ⟨h1, h2⟩ := add_back h hr
  exact AddIs.unique (.inr (.inr ⟨h1, h2⟩)) ha

set_option maxHeartbeats 3200000 in
theorem adds_any (s : List Sp) (x : Sp) (n : Int) (v : Value) (w : World) (hv : SpansIs s w v) : Calls Try.prog 5 #[v, spV x, .int .i64 n] w (TrueIs w) := by
  obtain ⟨A, cap, rfl, hA⟩ := hv.open_
  have HV := Lib.hid hv
  have HA := Lib.hid hA
  clear hv hA
  have HAW := Lib.hid (fun w => awake_any w)
  by_cases h1 : s.length ≤ 100
  · have d1 : decide ((100 : Int) < (s.length : Int)) = false := by rw [decide_eq_false_iff_not]; omega
    have CA := Lib.hid (fun (w' : World) (hb : Below w.heap.size w w') => addS s x n (.slice A s.length cap) w' (HV.out.below hb) (by omega))
    have CK := Lib.hid (fun (w' : World) (hb : Below w.heap.size w w') => check4 s (.slice A s.length cap) w' (HV.out.below hb) (by omega))
    have CX := Lib.hid (fun (w' : World) => may_any x w')
    have hways := adds_ways s x n
    have HB0 := Lib.hid (below_alloc w (.cells #[.int .i64 x.1, .int .i64 x.2] 36))
    have HBX := Lib.hid (Box2.new w (.int .i64 x.1) (.int .i64 x.2) 36)
    unfold spV at *
    go_enter Try.func5, Try.ntmps5
    go_wp2_with fail
    refine (CA.out _ HB0.out).mono ?_
    rintro e w1 ⟨v1, r, rfl, hr, hadd, hb1⟩
    have hrl := add_len_of hadd
    have HADD := Lib.hid hadd
    have HR := Lib.hid hr
    have HB1 := Lib.hid hb1
    clear hr hadd hb1 CA
    go_wp2_with fail
    refine (CK.out _ (below_then HB0.out HB1.out)).mono ?_
    rintro e w2 ⟨rfl, q, rfl⟩
    have HB2 := Lib.hid (below_drewN HB1.out q)
    have HR2 := Lib.hid (show SpansIs r (w1.drewN q) v1 from HR.out)
    clear CK HB1 HR
    generalize w1.drewN q = w2 at *
    obtain ⟨x0, x1, x2, _, _⟩ := HBX.out.below HB2.out
    rcases hways with ⟨hk, HO⟩ | ⟨hk, hm, HO⟩ | ⟨hk, hm, h2, HO⟩ | ⟨hk, hm, h2, h3, HO⟩ | ⟨hk, hm, h2, h3, HO⟩
    · have HE := Lib.hid (add_bad HADD.out HO.out)
      obtain rfl := HE.out
      obtain ⟨B, cb, rfl⟩ := spans_nil HR2.out
      go_wp2_with fail
      refine (HAW.out _).mono ?_
      rintro e w8 ⟨rfl, hb8⟩
      have HB8 := Lib.hid (below_then HB0.out (below_then HB2.out hb8))
      clear hb8
      go_wp2_with fail
      go_ret
      exact ⟨rfl, HB8.out⟩
    · have HE := Lib.hid (add_bad HADD.out HO.out)
      rw [hm] at CX
      clear hm
      go_wp2_with fail
      refine (CX.out _).mono ?_
      rintro e w3 ⟨rfl, hb3⟩
      have HB3 := Lib.hid (below_then HB2.out hb3)
      have HR3 := Lib.hid (HR2.out.below hb3)
      clear hb3 x0 x1 x2 HB2 HR2
      obtain rfl := HE.out
      obtain ⟨B, cb, rfl⟩ := spans_nil HR3.out
      go_wp2_with fail
      refine (HAW.out _).mono ?_
      rintro e w8 ⟨rfl, hb8⟩
      have HB8 := Lib.hid (below_then HB0.out (below_then HB3.out hb8))
      clear hb8
      go_wp2_with fail
      go_ret
      exact ⟨rfl, HB8.out⟩
    · have HE := Lib.hid (add_bad HADD.out HO.out)
      rw [hm] at CX
      clear hm
      go_wp2_with fail
      refine (CX.out _).mono ?_
      rintro e w3 ⟨rfl, hb3⟩
      have HB3 := Lib.hid (below_then HB2.out hb3)
      have HR3 := Lib.hid (HR2.out.below hb3)
      clear hb3 x0 x1 x2 HB2 HR2
      obtain rfl := HE.out
      obtain ⟨B, cb, rfl⟩ := spans_nil HR3.out
      go_wp2_with fail
      refine (HAW.out _).mono ?_
      rintro e w8 ⟨rfl, hb8⟩
      have HB8 := Lib.hid (below_then HB0.out (below_then HB3.out hb8))
      clear hb8
      go_wp2_with fail
      go_ret
      exact ⟨rfl, HB8.out⟩
    · have HE := Lib.hid (add_bad HADD.out HO.out)
      rw [hm] at CX
      clear hm
      go_wp2_with fail
      refine (CX.out _).mono ?_
      rintro e w3 ⟨rfl, hb3⟩
      have HB3 := Lib.hid (below_then HB2.out hb3)
      have HR3 := Lib.hid (HR2.out.below hb3)
      clear hb3 x0 x1 x2 HB2 HR2
      obtain rfl := HE.out
      obtain ⟨B, cb, rfl⟩ := spans_nil HR3.out
      go_wp2_with fail
      refine (HAW.out _).mono ?_
      rintro e w8 ⟨rfl, hb8⟩
      have HB8 := Lib.hid (below_then HB0.out (below_then HB3.out hb8))
      clear hb8
      go_wp2_with fail
      go_ret
      exact ⟨rfl, HB8.out⟩
    · have hn : -256 ≤ n ∧ n ≤ 256 := ⟨by have := of_decide_eq_false h2; omega, by have := of_decide_eq_false h3; omega⟩
      obtain ⟨n1, n2⟩ := hn
      have hxm := (mayB_iff x).1 hm
      have HC := Lib.hid ((chk_iff s).1 hk)
      have CAD := Lib.hid (fun (w' : World) (hb : Below w.heap.size w w') => add4 s x n (.slice A s.length cap) w' (HV.out.below hb) (by omega) HC.out hxm n1 n2)
      unfold spV at CAD
      clear hxm
      rw [hm] at CX
      clear hm
      go_wp2_with fail
      refine (CX.out _).mono ?_
      rintro e w3 ⟨rfl, hb3⟩
      have HB3 := Lib.hid (below_then HB2.out hb3)
      have HR3 := Lib.hid (HR2.out.below hb3)
      clear hb3 x0 x1 x2 HB2 HR2
      obtain ⟨x0, x1, x2, _, _⟩ := HBX.out.below HB3.out
      go_wp2_with fail
      refine (CAD.out _ (below_then HB0.out HB3.out)).mono ?_
      rintro e w4 ⟨v2, r2, b2, rfl, hr2, hr2l, hways2, hb4⟩
      have HB4 := Lib.hid (below_then HB3.out hb4)
      have HR4 := Lib.hid (HR3.out.below hb4)
      have HR2b := Lib.hid hr2
      have HW2 := Lib.hid hways2
      obtain ⟨y0, y1, y2, _, _⟩ := HBX.out.below HB4.out
      obtain ⟨ad, hAd, had, c1, _⟩ := pair_zero (HA.out.below (below_then HB0.out HB4.out)) HC.out.pos
      subst hAd
      have hc1 : (spCell s 0).1 = .int .i64 (head s) := rfl
      rw [hc1] at c1
      have i0 : (0 : Int) < (s.length : Int) := by have := HC.out.pos; omega
      clear hb4 x0 x1 x2 HB3 HR3 hr2 hways2 hc1 CAD had
      by_cases hh : x.2 ≤ head s
      · have hh2 : decide (x.2 ≤ head s) = true := decide_eq_true hh
        have hr : Rep r (head s) (addF s x n) := by
          have e := HADD.out.unique (add_none HO.out hh)
          rw [e]
          exact (Rep.self HC.out).congr fun t ht => (addF_off hh ht).symm
        have HES := Lib.hid (HADD.out.unique (add_none HO.out hh))
        have HCK := Lib.hid ((chk_iff r).2 hr.1)
        have HBACK := Lib.hid (fun (r7 : List Sp) (ha : AddIs r x (-n) r7) => back_is HO.out hr ha)
        clear hr hh HW2 HR2b
        generalize head s = hd at *
        go_wp2_with fail
        go_quiet (fail)
        have HB4q := Lib.hid (below_drewN HB4.out nq)
        have HR4q := Lib.hid (show SpansIs r (w4.drewN nq) v1 from HR4.out)
        clear HB4 HR4 c1 y0 y1 y2
        generalize w4.drewN nq = W4 at *
        obtain ⟨y0, y1, y2, _, _⟩ := HBX.out.below HB4q.out
        have hu : SpansIs r W4 (.slice (some ad) s.length cap) := by rw [HES.out]; exact HV.out.below (below_then HB0.out HB4q.out)
        have HU := Lib.hid hu
        clear hu HES
        have CS := Lib.hid (same4 r r v1 (.slice (some ad) s.length cap) W4 (HR4q.out) (HU.out) (by omega) (by omega))
        rw [decide_eq_true rfl] at CS
        go_wp2_with fail
        refine CS.out.mono ?_
        rintro e w5 ⟨rfl, q5, rfl⟩
        have HB5 := Lib.hid (below_drewN HB4q.out q5)
        have HR5 := Lib.hid (show SpansIs r (W4.drewN q5) v1 from HR4q.out)
        clear CS
        generalize W4.drewN q5 = w5 at *
        have CK := Lib.hid (checkS r v1 w5 HR5.out (by omega))
        rw [HCK.out] at CK
        go_wp2_with fail
        refine CK.out.mono ?_
        rintro e w6 ⟨rfl, hb6⟩
        have HB6 := Lib.hid (below_then HB5.out hb6)
        have HR6 := Lib.hid (HR5.out.below hb6)
        have CAB := Lib.hid (addS r x (-n) v1 w6 HR6.out (by omega))
        unfold spV at CAB
        obtain ⟨z0, z1, z2, _, _⟩ := HBX.out.below HB6.out
        clear hb6 CK y0 y1 y2
        go_wp2_with fail
        refine CAB.out.mono ?_
        rintro e w7 ⟨v7, r7, rfl, hr7, hab, hb7⟩
        have e7 := HBACK.out r7 hab
        subst e7
        have CS2 := Lib.hid (same4 s s v7 (.slice (some ad) s.length cap) w7 hr7 (HV.out.below (below_then HB0.out (below_then HB6.out hb7))) (by omega) (by omega))
        rw [decide_eq_true rfl] at CS2
        have HB7 := Lib.hid (below_then HB6.out hb7)
        clear hb7 hr7 hab CAB z0 z1 z2
        go_wp2_with fail
        refine CS2.out.mono ?_
        rintro e w9 ⟨rfl, q9, rfl⟩
        have HB9 := Lib.hid (below_drewN HB7.out q9)
        clear CS2
        generalize w7.drewN q9 = w9 at *
        go_wp2_with fail
        refine (HAW.out _).mono ?_
        rintro e w8 ⟨rfl, hb8⟩
        have HB8 := Lib.hid (below_then HB0.out (below_then HB9.out hb8))
        clear hb8
        go_wp2_with fail
        go_ret
        exact ⟨rfl, HB8.out⟩
      · have hh2 : decide (x.2 ≤ head s) = false := decide_eq_false hh
        rcases HW2.out with ⟨rfl, hrep⟩ | ⟨rfl, rfl, hout⟩
        · have e2 := HADD.out.unique (.inr (.inr ⟨HO.out, hrep⟩))
          subst e2
          have HCK := Lib.hid ((chk_iff r).2 hrep.1)
          have HBACK := Lib.hid (fun (r7 : List Sp) (ha : AddIs r x (-n) r7) => back_is HO.out hrep ha)
          clear hrep hh HW2
          generalize head s = hd at *
          go_wp2_with fail
          go_quiet (fail)
          have HB4q := Lib.hid (below_drewN HB4.out nq)
          have HR4q := Lib.hid (show SpansIs r (w4.drewN nq) v1 from HR4.out)
          have HU := Lib.hid (show SpansIs r (w4.drewN nq) v2 from HR2b.out)
          clear HB4 HR4 HR2b c1 y0 y1 y2
          generalize w4.drewN nq = W4 at *
          obtain ⟨y0, y1, y2, _, _⟩ := HBX.out.below HB4q.out
          have CS := Lib.hid (same4 r r v1 v2 W4 (HR4q.out) (HU.out) (by omega) (by omega))
          rw [decide_eq_true rfl] at CS
          go_wp2_with fail
          refine CS.out.mono ?_
          rintro e w5 ⟨rfl, q5, rfl⟩
          have HB5 := Lib.hid (below_drewN HB4q.out q5)
          have HR5 := Lib.hid (show SpansIs r (W4.drewN q5) v1 from HR4q.out)
          clear CS
          generalize W4.drewN q5 = w5 at *
          have CK := Lib.hid (checkS r v1 w5 HR5.out (by omega))
          rw [HCK.out] at CK
          go_wp2_with fail
          refine CK.out.mono ?_
          rintro e w6 ⟨rfl, hb6⟩
          have HB6 := Lib.hid (below_then HB5.out hb6)
          have HR6 := Lib.hid (HR5.out.below hb6)
          have CAB := Lib.hid (addS r x (-n) v1 w6 HR6.out (by omega))
          unfold spV at CAB
          obtain ⟨z0, z1, z2, _, _⟩ := HBX.out.below HB6.out
          clear hb6 CK y0 y1 y2
          go_wp2_with fail
          refine CAB.out.mono ?_
          rintro e w7 ⟨v7, r7, rfl, hr7, hab, hb7⟩
          have e7 := HBACK.out r7 hab
          subst e7
          have CS2 := Lib.hid (same4 s s v7 (.slice (some ad) s.length cap) w7 hr7 (HV.out.below (below_then HB0.out (below_then HB6.out hb7))) (by omega) (by omega))
          rw [decide_eq_true rfl] at CS2
          have HB7 := Lib.hid (below_then HB6.out hb7)
          clear hb7 hr7 hab CAB z0 z1 z2
          go_wp2_with fail
          refine CS2.out.mono ?_
          rintro e w9 ⟨rfl, q9, rfl⟩
          have HB9 := Lib.hid (below_drewN HB7.out q9)
          clear CS2
          generalize w7.drewN q9 = w9 at *
          go_wp2_with fail
          refine (HAW.out _).mono ?_
          rintro e w8 ⟨rfl, hb8⟩
          have HB8 := Lib.hid (below_then HB0.out (below_then HB9.out hb8))
          clear hb8
          go_wp2_with fail
          go_ret
          exact ⟨rfl, HB8.out⟩
        · have HE := Lib.hid (HADD.out.unique (.inr (.inl ⟨HO.out, hout, rfl⟩)))
          clear hout hh HW2
          generalize head s = hd at *
          go_wp2_with fail
          go_quiet (fail)
          have HB4q := Lib.hid (below_drewN HB4.out nq)
          have HR4q := Lib.hid (show SpansIs r (w4.drewN nq) v1 from HR4.out)
          clear HB4 HR4 HR2b c1 y0 y1 y2
          generalize w4.drewN nq = W4 at *
          obtain rfl := HE.out
          obtain ⟨B, cb, rfl⟩ := spans_nil HR4q.out
          go_wp2_with fail
          refine (HAW.out _).mono ?_
          rintro e w8 ⟨rfl, hb8⟩
          have HB8 := Lib.hid (below_then HB0.out (below_then HB4q.out hb8))
          clear hb8
          go_wp2_with fail
          go_ret
          exact ⟨rfl, HB8.out⟩
  · have d1 : decide ((100 : Int) < (s.length : Int)) = true := by rw [decide_eq_true_eq]; omega
    unfold spV
    go_enter Try.func5, Try.ntmps5
    go_wp2_with fail
    refine (HAW.out _).mono ?_
    rintro e w1 ⟨rfl, hb1⟩
    have HB1 := Lib.hid (below_then (below_alloc _ _) hb1)
    clear hb1
    go_wp2_with fail
    go_ret
    exact ⟨rfl, HB1.out⟩
end Go.Proofs.Ytnjhboanhjjldaa.StepWalk
