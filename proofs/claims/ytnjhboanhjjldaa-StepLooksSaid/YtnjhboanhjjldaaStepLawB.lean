/-
  The walks of the statements of layer 4: StepLooks.
-/
import Derived.Test.YtnjhboanhjjldaaStepLawA
import Derived.Shelf.SlSortCmp.QuietGrown
namespace Go.Proofs.Ytnjhboanhjjldaa.StepWalk
open Go.RowKit Go.Proofs.Ytnjhboanhjjldaa.SpanPlain Go.Proofs.Ytnjhboanhjjldaa.StepPlain Go.Proofs.Ytnjhboanhjjldaa.Mem Go.Proofs.Ytnjhboanhjjldaa.SpanMem Go.Proofs.Ytnjhboanhjjldaa.StepMem Go.Proofs.Ytnjhboanhjjldaa.SpanRef Go.Proofs.Ytnjhboanhjjldaa.StepRef

set_option maxHeartbeats 800000 in
theorem may_grown (s : Sp) (w : World) : Calls Try.prog 16 #[.agg #[.int .i64 s.1, .int .i64 s.2]] w fun e w' => e = .returned (.bool (mayB s)) ∧ ∃ q os', w' = Go.Sort.grow (w.drewN q) os' := by
  have hs := may_cases s
  obtain ⟨a, b⟩ := s
  dsimp only at hs ⊢
  generalize mayB (a, b) = B at *
  rcases hs with ⟨rfl, h1, h2, h3⟩ | ⟨rfl, h1⟩ | ⟨rfl, h1, h2⟩ | ⟨rfl, h1, h2, h3⟩
  all_goals
    go_enter Try.func16, Try.ntmps16
    go_wp2_with fail
    go_ret
    exact ⟨rfl, 0, _, by rw [Go.Sort.alloc_eq_grow]; rfl⟩
theorem grown_below (w : World) (n : Nat) (os : Array Obj) : Below w.heap.size w (Go.Sort.grow (w.drewN n) os) :=
  ⟨rfl, rfl, rfl, by show w.heap.size ≤ (w.heap ++ os).size; rw [Array.size_append]; omega, fun k hk => by show (w.heap ++ os)[k]? = w.heap[k]?; exact Array.getElem?_append_left hk⟩

theorem spans_nil {w : World} {v : Value} (h : SpansIs [] w v) : ∃ A c, v = .slice A 0 c := by
  rcases h with ⟨h, _⟩ | ⟨a, c, h, _⟩
  · exact ⟨none, 0, h⟩
  · exact ⟨_, c, h⟩
theorem trim_bad {s r : List Sp} {t : Int} (h : TrimIs s t r) (hb : chkB s = false ∨ 1125899906842624 < t) : r = [] := by
  rcases h with ⟨_, h⟩ | ⟨h1, h2, _⟩ | ⟨h1, h2, _⟩
  · exact h
  all_goals
    rcases hb with hb | hb
    · rw [h1] at hb; cases hb
    · omega
theorem min_true {s : List Sp} {x : Sp} (h : minB s x = true) : chkB s = true ∧ mayB x = true ∧ head s ≤ x.1 := by
  unfold minB at h
  simpa [and_assoc] using h
theorem looks_ways (s : List Sp) (x : Sp) : (chkB s = false ∧ Hid (minB s x = false)) ∨ (chkB s = true ∧ mayB x = false ∧ Hid (minB s x = false)) ∨ (chkB s = true ∧ mayB x = true ∧ decide (x.1 < head s) = true ∧ Hid (minB s x = false)) ∨
    (chkB s = true ∧ mayB x = true ∧ decide (x.1 < head s) = false ∧ Hid (minB s x = true)) := by
  unfold minB
  cases chkB s with
  | false => exact .inl ⟨rfl, rfl⟩
  | true =>
    cases mayB x with
    | false => exact .inr (.inl ⟨rfl, rfl, rfl⟩)
    | true =>
      by_cases h : x.1 < head s
      · exact .inr (.inr (.inl ⟨rfl, rfl, decide_eq_true h, by rw [decide_eq_false (by omega : ¬ head s ≤ x.1)]; rfl⟩))
      · exact .inr (.inr (.inr ⟨rfl, rfl, decide_eq_false h, by rw [decide_eq_true (by omega : head s ≤ x.1)]; rfl⟩))

set_option maxHeartbeats 6400000 in
theorem looks_any (s : List Sp) (x : Sp) (t : Int) (v : Value) (w : World) (hv : SpansIs s w v) : Calls Try.prog 4 #[v, spV x, .int .i64 t] w (TrueIs w) := by
  obtain ⟨A, cap, rfl, hA⟩ := hv.open_
  have HV := Lib.hid hv
  have HA := Lib.hid hA
  clear hv hA
  have HAW := Lib.hid (fun w => awake_any w)
  by_cases h1 : s.length ≤ 100
  · have d1 : decide ((100 : Int) < (s.length : Int)) = false := by rw [decide_eq_false_iff_not]; omega
    have CM := Lib.hid (fun (w' : World) (hb : Below w.heap.size w w') => minS s x (.slice A s.length cap) w' (HV.out.below hb) (by omega))
    have CT := Lib.hid (fun (w' : World) (hb : Below w.heap.size w w') => trimS s t (.slice A s.length cap) w' (HV.out.below hb) (by omega))
    have CK := Lib.hid (fun (w' : World) (hb : Below w.heap.size w w') => check4 s (.slice A s.length cap) w' (HV.out.below hb) (by omega))
    have CL := Lib.hid (fun (w' : World) (hb : Below w.heap.size w w') => checkS s (.slice A s.length cap) w' (HV.out.below hb) (by omega))
    have CX := Lib.hid (fun (w' : World) => may_grown x w')
    have hways := looks_ways s x
    have HB0 := Lib.hid (below_alloc w (.cells #[.int .i64 x.1, .int .i64 x.2] 36))
    have HBX := Lib.hid (Box2.new w (.int .i64 x.1) (.int .i64 x.2) 36)
    unfold spV at *
    go_enter Try.func4, Try.ntmps4
    go_wp2_with fail
    refine (CM.out _ HB0.out).mono ?_
    rintro e w1 ⟨n, rfl, hmin, hb1⟩
    have HMIN := Lib.hid hmin
    have HB1 := Lib.hid hb1
    clear hmin hb1 CM
    go_wp2_with fail
    refine (CT.out _ (below_then HB0.out HB1.out)).mono ?_
    rintro e w2 ⟨vr, r, rfl, hr, htr, hb2⟩
    have hrl := trim_len_of htr
    have HTR := Lib.hid htr
    have HR := Lib.hid hr
    have HB2 := Lib.hid (below_then HB1.out hb2)
    clear hr htr hb2 CT HB1
    go_wp2_with fail
    refine (CK.out _ (below_then HB0.out HB2.out)).mono ?_
    rintro e w3 ⟨rfl, q, rfl⟩
    have HB3 := Lib.hid (below_drewN HB2.out q)
    have HR3 := Lib.hid (show SpansIs r (w2.drewN q) vr from HR.out)
    clear CK HB2 HR
    generalize w2.drewN q = w3 at *
    have hcl := CL.out _ (below_then HB0.out HB3.out)
    have HCL := Lib.hid hcl
    clear hcl CL
    go_wp2_with fail
    refine HCL.out.mono ?_
    rintro e w4 ⟨rfl, hb4⟩
    have HB4 := Lib.hid (below_then HB3.out hb4)
    have HR4 := Lib.hid (HR3.out.below hb4)
    have HBX4 := Lib.hid (HBX.out.below HB4.out)
    clear hb4 HCL HB3 HR3
    have hA4 := HA.out.below (below_then HB0.out HB4.out)
    have HA4 := Lib.hid hA4
    clear hA4
    go_upto_region 8 with fail
    go_cut [45] from 30 to 45 (fun c wc => c = .bool (!minB s x) ∧ Below w4.heap.size w4 wc)
    case first =>
      obtain ⟨x0, x1, x2, _, _⟩ := HBX4.out
      rcases hways with ⟨hk, HO⟩ | ⟨hk, hm, HO⟩ | ⟨hk, hm, hh, HO⟩ | ⟨hk, hm, hh, HO⟩
      · go_wp2_with fail
        go_quiet (fail)
        go_wp2_with fail
        go_meet
        exact ⟨by rw [HO.out]; rfl, below_drewN (Below.refl _ _) _⟩
      · have X0 := cell_grown x0 x1
        have X1 := cell_grown x0 x2
        rw [hm] at CX
        clear hm x0 x1 x2
        go_wp2_with fail
        refine wp_region_quiet_grown (by kernel_rfl) (by kernel_rfl) ?_
        repeat (first | go_big_quiet_step ((go_at_call 16; refine Calls.grown_of (CX.out _))) | quiet_step ((go_at_call 16; refine Calls.grown_of (CX.out _))))
        refine wpQuiet_nil ?_
        intro _ hw
        obtain ⟨⟨nq, osq⟩, hw2⟩ := hw
        subst hw2
        go_wp2_with fail
        go_meet
        exact ⟨by rw [HO.out]; rfl, grown_below w4 nq osq⟩
      all_goals
        have hp := ((chk_iff s).1 hk).pos
        obtain ⟨ad, rfl, had, c1, _⟩ := pair_zero HA4.out hp
        have hc1 : (spCell s 0).1 = .int .i64 (head s) := rfl
        rw [hc1] at c1
        have i0 : (0 : Int) < (s.length : Int) := by omega
        have X0 := cell_grown x0 x1
        have X1 := cell_grown x0 x2
        have X2 := cell_grown had c1
        rw [hm] at CX
        clear hm hc1 hp x0 x1 x2 had c1
        generalize head s = hd at *
        go_wp2_with fail
        refine wp_region_quiet_grown (by kernel_rfl) (by kernel_rfl) ?_
        repeat (first | go_big_quiet_step ((go_at_call 16; refine Calls.grown_of (CX.out _))) | quiet_step ((go_at_call 16; refine Calls.grown_of (CX.out _))))
        refine wpQuiet_nil ?_
        intro _ hw
        obtain ⟨⟨nq, osq⟩, hw2⟩ := hw
        subst hw2
        go_wp2_with fail
        go_meet
        exact ⟨by rw [HO.out]; rfl, grown_below w4 nq osq⟩
    case rest =>
      obtain ⟨rfl, hbc⟩ := hcut
      have HB5 := Lib.hid (below_then HB4.out hbc)
      have HR5 := Lib.hid (HR4.out.below hbc)
      have HBX5 := Lib.hid (HBX4.out.below hbc)
      clear hbc HB4 HR4 HBX4 HA4 hways CX HBX
      cases hB : minB s x with
      | false =>
        have hn : n = 0 := by
          rcases HMIN.out with ⟨h, _⟩ | ⟨_, h⟩
          · rw [hB] at h; cases h
          · exact h
        subst hn
        clear HMIN
        cases hk : chkB s with
        | false =>
          have HBAD : Hid (chkB s = false ∨ 1125899906842624 < t) := .inl hk
          obtain rfl := trim_bad HTR.out (HBAD.out)
          obtain ⟨B, cb, rfl⟩ := spans_nil HR5.out
          go_wp2_with fail
          refine (HAW.out _).mono ?_
          rintro e w6 ⟨rfl, hb6⟩
          have HB6 := Lib.hid (below_then HB0.out (below_then HB5.out hb6))
          clear hb6
          go_wp2_with fail
          go_ret
          exact ⟨rfl, HB6.out⟩
        | true =>
          by_cases ht : 1125899906842624 < t
          · have d2 : decide ((1125899906842624 : Int) < t) = true := decide_eq_true ht
            have HBAD : Hid (chkB s = false ∨ 1125899906842624 < t) := .inr ht
            obtain rfl := trim_bad HTR.out (HBAD.out)
            obtain ⟨B, cb, rfl⟩ := spans_nil HR5.out
            go_wp2_with fail
            refine (HAW.out _).mono ?_
            rintro e w6 ⟨rfl, hb6⟩
            have HB6 := Lib.hid (below_then HB0.out (below_then HB5.out hb6))
            clear hb6
            go_wp2_with fail
            go_ret
            exact ⟨rfl, HB6.out⟩
          · have d2 : decide ((1125899906842624 : Int) < t) = false := decide_eq_false ht
            have HPOS := Lib.hid ((chk_iff s).1 hk).pos
            have CTR := Lib.hid (fun (w' : World) (hb : Below w.heap.size w w') => trim4 s t (.slice A s.length cap) w' (HV.out.below hb) HPOS.out (by omega))
            rw [← trim_same HTR.out hk (by omega)] at CTR
            go_wp2_with fail
            refine (CTR.out _ (below_then HB0.out HB5.out)).mono ?_
            rintro e w6 ⟨v6, rfl, hs6, hb6⟩
            have HB6 := Lib.hid (below_then HB5.out hb6)
            have CS := Lib.hid (same4 r r vr v6 w6 (HR5.out.below hb6) hs6 (by omega) (by omega))
            rw [decide_eq_true rfl] at CS
            clear hb6 hs6 CTR
            go_wp2_with fail
            refine CS.out.mono ?_
            rintro e w7 ⟨rfl, q7, rfl⟩
            have HB7 := Lib.hid (below_drewN HB6.out q7)
            clear CS
            generalize w6.drewN q7 = w7 at *
            go_wp2_with fail
            refine (HAW.out _).mono ?_
            rintro e w8 ⟨rfl, hb8⟩
            have HB8 := Lib.hid (below_then HB0.out (below_then HB7.out hb8))
            clear hb8
            go_wp2_with fail
            go_ret
            exact ⟨rfl, HB8.out⟩
      | true =>
        obtain ⟨hk, hx, hh⟩ := min_true hB
        have hn : n = minTo s x s.length := by
          rcases HMIN.out with ⟨_, h⟩ | ⟨h, _⟩
          · exact h.unique (min_spec ((chk_iff s).1 hk) ((mayB_iff x).1 hx).2.1 hh)
          · rw [hB] at h; cases h
        have CN := Lib.hid (min4 s x (.slice A s.length cap) wc (HV.out.below (below_then HB0.out HB5.out)) (by omega))
        rw [← hn] at CN
        unfold spV at CN
        obtain ⟨x0, x1, x2, _, _⟩ := HBX5.out
        clear hn hx hh HMIN
        go_wp2_with fail
        refine CN.out.mono ?_
        rintro e w9 ⟨rfl, hb9⟩
        have HB9 := Lib.hid (below_then HB5.out hb9)
        have HR9 := Lib.hid (HR5.out.below hb9)
        clear hb9 x0 x1 x2 HB5 HR5 CN
        have HB5 := Lib.hid HB9.out
        have HR5 := Lib.hid HR9.out
        clear HB9 HR9
        by_cases ht : 1125899906842624 < t
        · have d2 : decide ((1125899906842624 : Int) < t) = true := decide_eq_true ht
          have HBAD : Hid (chkB s = false ∨ 1125899906842624 < t) := .inr ht
          obtain rfl := trim_bad HTR.out (HBAD.out)
          obtain ⟨B, cb, rfl⟩ := spans_nil HR5.out
          go_wp2_with fail
          refine (HAW.out _).mono ?_
          rintro e w6 ⟨rfl, hb6⟩
          have HB6 := Lib.hid (below_then HB0.out (below_then HB5.out hb6))
          clear hb6
          go_wp2_with fail
          go_ret
          exact ⟨rfl, HB6.out⟩
        · have d2 : decide ((1125899906842624 : Int) < t) = false := decide_eq_false ht
          have HPOS := Lib.hid ((chk_iff s).1 hk).pos
          have CTR := Lib.hid (fun (w' : World) (hb : Below w.heap.size w w') => trim4 s t (.slice A s.length cap) w' (HV.out.below hb) HPOS.out (by omega))
          rw [← trim_same HTR.out hk (by omega)] at CTR
          go_wp2_with fail
          refine (CTR.out _ (below_then HB0.out HB5.out)).mono ?_
          rintro e w6 ⟨v6, rfl, hs6, hb6⟩
          have HB6 := Lib.hid (below_then HB5.out hb6)
          have CS := Lib.hid (same4 r r vr v6 w6 (HR5.out.below hb6) hs6 (by omega) (by omega))
          rw [decide_eq_true rfl] at CS
          clear hb6 hs6 CTR
          go_wp2_with fail
          refine CS.out.mono ?_
          rintro e w7 ⟨rfl, q7, rfl⟩
          have HB7 := Lib.hid (below_drewN HB6.out q7)
          clear CS
          generalize w6.drewN q7 = w7 at *
          go_wp2_with fail
          refine (HAW.out _).mono ?_
          rintro e w8 ⟨rfl, hb8⟩
          have HB8 := Lib.hid (below_then HB0.out (below_then HB7.out hb8))
          clear hb8
          go_wp2_with fail
          go_ret
          exact ⟨rfl, HB8.out⟩
  · have d1 : decide ((100 : Int) < (s.length : Int)) = true := by rw [decide_eq_true_eq]; omega
    unfold spV
    go_enter Try.func4, Try.ntmps4
    go_wp2_with fail
    refine (HAW.out _).mono ?_
    rintro e w1 ⟨rfl, hb1⟩
    have HB1 := Lib.hid (below_then (below_alloc _ _) hb1)
    clear hb1
    go_wp2_with fail
    go_ret
    exact ⟨rfl, HB1.out⟩
end Go.Proofs.Ytnjhboanhjjldaa.StepWalk
