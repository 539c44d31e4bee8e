/-
  The walks of the statements of layer 14: together.
-/
import Derived.Test.YtkaepadkdohmpaaWinLawA
import Derived.Deep.RegionHeld3
import Derived.Deep.RegionWith
namespace Go.Proofs.Ytkaepadkdohmpaa.WinWalk
open Go.RowKit Go.Proofs.Ytkaepadkdohmpaa.SpanPlain Go.Proofs.Ytkaepadkdohmpaa.StepPlain Go.Proofs.Ytkaepadkdohmpaa.GapPlain Go.Proofs.Ytkaepadkdohmpaa.JobPlain Go.Proofs.Ytkaepadkdohmpaa.OrdPlain Go.Proofs.Ytkaepadkdohmpaa.SubPlain Go.Proofs.Ytkaepadkdohmpaa.ApiPlain Go.Proofs.Ytkaepadkdohmpaa.TwnPlain Go.Proofs.Ytkaepadkdohmpaa.WinPlain Go.Proofs.Ytkaepadkdohmpaa.Mem Go.Proofs.Ytkaepadkdohmpaa.SpanMem Go.Proofs.Ytkaepadkdohmpaa.StepMem Go.Proofs.Ytkaepadkdohmpaa.JobMem Go.Proofs.Ytkaepadkdohmpaa.OrdMem Go.Proofs.Ytkaepadkdohmpaa.ApiMem Go.Proofs.Ytkaepadkdohmpaa.WinRef Go.Proofs.Ytkaepadkdohmpaa.StepWalk Go.Proofs.Ytkaepadkdohmpaa.GapWalk
theorem raw_front {W : World} {a : Addr} {xs ys : List Value} (h : Raw W a (xs ++ ys)) : Raw W a xs := fun i u hu => h i u (by rw [List.getElem?_append_left (List.getElem?_eq_some_iff.1 hu).1]; exact hu)
theorem jobs_take {l : List Jb} {W : World} {a : Addr} {c i : Nat} (h : JobsIs l W (.slice (some a) l.length c)) (hi : i ≤ l.length) : JobsIs (l.take i) W (.slice (some a) i c) := by
  rcases h with ⟨h, _⟩ | ⟨a', c', e, hr, hn⟩
  · cases h
  · injection e with e1 _ e3
    injection e1 with e1
    subst e1 e3
    have e2 : jvals l = jvals (l.take i) ++ jvals (l.drop i) := by rw [← jvals_append, List.take_append_drop]
    rw [e2] at hr
    exact .inr ⟨a, c, by rw [List.length_take, Nat.min_eq_left hi], raw_front hr, by rw [List.length_take]; omega⟩
theorem jobs_tail {j0 : Jb} {rest : List Jb} {W : World} {a : Addr} {n c : Nat} (hn : n = rest.length + 1) (h : JobsIs (j0 :: rest) W (.slice (some a) n c)) : JobsIs rest W (.slice (if c = 1 then some a else some ⟨a.block, a.off + 9, none⟩) (n - 1) (c - 1)) := by
  subst hn
  rcases h with ⟨h, _⟩ | ⟨a', c', e, hr, hn⟩
  · cases h
  · injection e with e1 _ e3
    injection e1 with e1
    subst e1 e3
    simp only [List.length_cons] at hn
    have hr2 := Raw.drop hr 9
    have e2 : (jvals (j0 :: rest)).drop 9 = jvals rest := rfl
    have e3 : a.add 9 = ⟨a.block, a.off + 9, none⟩ := by unfold Addr.add; simp
    rw [e2, e3] at hr2
    by_cases h1 : c = 1
    · have h0 : rest = [] := List.eq_nil_of_length_eq_zero (by omega)
      subst h0
      rw [if_pos h1]
      exact .inr ⟨a, c - 1, by simp, fun i u hu => by simp [jvals] at hu, by simp⟩
    · rw [if_neg h1]
      exact .inr ⟨_, c - 1, by simp, hr2, by omega⟩
theorem find_pos {l : List Jb} {id : Int} : decide (0 ≤ findL l id) = !decide (findL l id < 0) := by
  by_cases h : findL l id < 0
  · rw [decide_eq_true h, decide_eq_false (by omega)]; rfl
  · rw [decide_eq_false h, decide_eq_true (by omega)]; rfl
set_option maxRecDepth 100000 in
set_option maxHeartbeats 2400000 in
theorem together_any (p : Int) (bl : List By) (jobs : List Jb) (vb vj : Value) (w : World) (hb : BusyIs bl w vb) (hb0 : ∀ x ∈ bl, x.1 = 0) (hbl : bl.length ≤ 60) (hj : JobsIs jobs w vj) (hjf : ∀ j ∈ jobs, Fit j) (hj1 : 1 ≤ jobs.length) (hj2 : jobs.length ≤ 12) :
    Calls Try.prog 14 #[.int .i64 p, vb, vj] w (TrueW w) := by
  have C1 := Lib.hid (ofS p 0 bl vb w hb (by omega))
  have HJ0 := Lib.hid hj
  have HB00 := Lib.hid hb0
  have HJF := Lib.hid hjf
  obtain ⟨Ab, cb, rfl, _⟩ : ∃ A c, vb = .slice A bl.length c ∧ True := by
    rcases hb with ⟨rfl, rfl⟩ | ⟨a, c, rfl, _⟩
    · exact ⟨none, 0, rfl, trivial⟩
    · exact ⟨_, _, rfl, trivial⟩
  obtain ⟨Aj, cj, hvj, hcj, hjat⟩ := hj.open_
  obtain ⟨aj, hAj, _⟩ := hjat 0 (by omega)
  subst hAj
  subst hvj
  clear hb hj hjat hb0 hjf
  go_enter Try.func14, Try.ntmps14
  go_wp2_with fail
  refine C1.out.mono ?_
  rintro e w1 ⟨vs, s, c, rfl, hof, hsp, hb1, _⟩
  have HOF := Lib.hid hof
  have HS1 := Lib.hid hsp
  have HB1 := Lib.hid hb1
  have HJ1 := Lib.hid (HJ0.out.below hb1)
  obtain ⟨As, cs, rfl, _⟩ := hsp.open_
  clear hb1 hof C1 HJ0
  by_cases hc : c = 0
  · subst hc
    go_upto_block 0 with fail
    go_cut [] from 28 to 51 (fun wc => Hid (goodTo jobs jobs.length) ∧ Hid (Below w1.heap.size w1 wc))
    case first =>
      go_wp2_with fail
      go_loopw [9] (fun i wr => ∃ k : Nat, i = .int .i64 k ∧ k ≤ jobs.length ∧ Hid (goodTo jobs k) ∧ Hid (Below w1.heap.size w1 wr)) (fun i _ => jobs.length - (intOf i).toNat)
      case atStart => exact ⟨0, rfl, Nat.zero_le _, fun i hi h => absurd h (Nat.not_lt_zero _), Below.refl _ _⟩
      case round =>
        obtain ⟨k, rfl, hk, HG, HB⟩ := hrel
        by_cases hlt : k < jobs.length
        · have hjw := HJ1.out.below HB.out
          obtain ⟨A2, c2, h2, hc2, hat2⟩ := hjw.open_
          injection h2 with h2a _ h2c
          obtain ⟨a2, e2, hat⟩ := hat2 k hlt
          rw [e2] at h2a
          injection h2a with h2a
          subst h2a
          have HE := Lib.hid hat
          have HTK := Lib.hid (jobs_take hjw (i := k) (by omega))
          have hfit := HJF.out jobs[k] (List.getElem_mem hlt)
          have HGN := Lib.hid (good_next HG.out hlt)
          have b1 : (k : Int) < (jobs.length : Int) := by omega
          have b2 : (0 : Int) ≤ (k : Int) := by omega
          have b3 : (k : Int) ≤ (cj : Int) := by omega
          have b4 : (jobs.length : Int) ≤ (cj : Int) := by omega
          have CFD := Lib.hid (fun (q : Lull wr) => OrdRef.find8 (jobs.take k) jobs[k].id _ q.u (HTK.out.below q.h) (by rw [List.length_take]; omega))
          subst h2c
          clear hjw hat2 e2 hat hc2
          generalize findL (jobs.take k) jobs[k].id = F at *
          generalize jobs[k] = j at *
          have CMY := Lib.hid (fun (q : Lull wr) => JobRef.may7 j q.u hfit)
          unfold jobV jobA at CMY
          have P := Lib.hid (fun (q : Lull wr) => HE.out.below q.h)
          have x0 : ∀ q : Lull wr, _ := fun q => (P.out q).c0
          have x1 : ∀ q : Lull wr, _ := fun q => (P.out q).c1
          have x2 : ∀ q : Lull wr, _ := fun q => (P.out q).c2
          have x3 : ∀ q : Lull wr, _ := fun q => (P.out q).c3
          have x4 : ∀ q : Lull wr, _ := fun q => (P.out q).c4
          have x5 : ∀ q : Lull wr, _ := fun q => (P.out q).c5
          have x6 : ∀ q : Lull wr, _ := fun q => (P.out q).c6
          have x7 : ∀ q : Lull wr, _ := fun q => (P.out q).c7
          have x8 : ∀ q : Lull wr, _ := fun q => (P.out q).c8
          go_upto_region 7 with fail
          cases hm : mayJ j
          · rw [hm] at CMY
            refine wp_region_calm (by kernel_rfl) (by kernel_rfl) ?_
            repeat (first | go_big_quiet_step ((go_at_call 24; exact calm_of (CMY.out _))) | quiet_step ((go_at_call 24; exact calm_of (CMY.out _))))
            refine wpQuiet_nil ?_
            intro w2 hw
            have HB2 := Lib.hid (below_then HB1.out (below_then HB.out (lull_below hw)))
            clear hw x0 x1 x2 x3 x4 x5 x6 x7 x8 P CMY CFD HE
            go_wp2_with fail
            go_ret
            exact ⟨rfl, HB2.out⟩
          · rw [hm] at CMY
            by_cases hF : F < 0
            · have g1 : decide (F ≥ 0) = false := decide_eq_false (by omega)
              have g2 : decide (0 ≤ F) = false := decide_eq_false (by omega)
              refine wp_region_calm (by kernel_rfl) (by kernel_rfl) ?_
              repeat (first | go_big_quiet_step ((first | (go_at_call 24; exact calm_of (CMY.out _)) | (go_at_call 25; exact calm_same (CFD.out _)))) | quiet_step ((first | (go_at_call 24; exact calm_of (CMY.out _)) | (go_at_call 25; exact calm_same (CFD.out _)))))
              refine wpQuiet_nil ?_
              intro w2 hw
              have HB2 := Lib.hid (below_then HB.out (lull_below hw))
              have HG2 := Lib.hid (HGN.out hm hF)
              clear hw x0 x1 x2 x3 x4 x5 x6 x7 x8 P CMY CFD HE
              go_wp2_with fail
              exact ⟨⟨k + 1, by go_num, by omega, HG2, HB2⟩, by simp [intOf]; omega⟩
            · have g1 : decide (F ≥ 0) = true := decide_eq_true (by omega)
              have g2 : decide (0 ≤ F) = true := decide_eq_true (by omega)
              refine wp_region_calm (by kernel_rfl) (by kernel_rfl) ?_
              repeat (first | go_big_quiet_step ((first | (go_at_call 24; exact calm_of (CMY.out _)) | (go_at_call 25; exact calm_same (CFD.out _)))) | quiet_step ((first | (go_at_call 24; exact calm_of (CMY.out _)) | (go_at_call 25; exact calm_same (CFD.out _)))))
              refine wpQuiet_nil ?_
              intro w2 hw
              have HB2 := Lib.hid (below_then HB1.out (below_then HB.out (lull_below hw)))
              clear hw x0 x1 x2 x3 x4 x5 x6 x7 x8 P CMY CFD HE
              go_wp2_with fail
              go_ret
              exact ⟨rfl, HB2.out⟩
        · have e : k = jobs.length := by omega
          subst e
          go_wp2_with fail
          go_meet
          exact ⟨HG, HB⟩
    case rest =>
      obtain ⟨HG, HBq⟩ := hcut
      have HBc := Lib.hid (below_then HB1.out HBq.out)
      have HJ2 := Lib.hid (HJ1.out.below HBq.out)
      have HS2 := Lib.hid (HS1.out.below HBq.out)
      obtain ⟨j0, rest, hjr⟩ : ∃ j0 rest, jobs = j0 :: rest := by
        cases jobs with
        | nil => simp at hj1
        | cons j0 rest => exact ⟨j0, rest, rfl⟩
      have HEQ := Lib.hid hjr
      have h00 : jobs[0] = j0 := by subst hjr; rfl
      have HGU := Lib.hid (good_unlike HG.out)
      have HBA : Hid (∀ x ∈ jobs, Base x) := fun x hx => by
        obtain ⟨i, hi, rfl⟩ := List.mem_iff_getElem.1 hx
        exact may_base (HG.out i hi hi).1
      have hat0 : JobAt wc aj j0 := by
        obtain ⟨A2, c2, h2, _, hat2⟩ := HJ2.out.open_
        injection h2 with h2a
        obtain ⟨a2, e2, hat⟩ := hat2 0 (by omega)
        rw [e2] at h2a
        injection h2a with h2a
        subst h2a
        have e0 : aj.add (0 * 9) = aj := by unfold Addr.add; simp
        rw [e0, h00] at hat
        exact hat
      have HX := Lib.hid (JobBox.new wc j0 39)
      have HBx := Lib.hid (below_box wc (.cells #[.int .i64 j0.id, .string j0.user, .int .i64 j0.width, .int .i64 j0.est, .int .i64 j0.prio, .int .i64 j0.sub, .int .i64 j0.state, .int .i64 j0.start, .int .i64 j0.fin] 39))
      clear HG HB1 HJ1 HS1 HBq hjr h00
      obtain ⟨y, y0, y1, y2, y3, y4, y5, y6, y7, y8⟩ := hat0
      have b0 : (0 : Int) < (jobs.length : Int) := by omega
      have b4 : (jobs.length : Int) ≤ (cj : Int) := by omega
      go_upto_region 10 with fail
      have HB3 := Lib.hid (below_then HBc.out HBx.out)
      have HJ3 := Lib.hid (HJ2.out.below HBx.out)
      have HS3 := Lib.hid (HS2.out.below HBx.out)
      clear y y0 y1 y2 y3 y4 y5 y6 y7 y8 HBc HJ2 HS2 HBx
      generalize hwz : wc.heap.size = wz at *
      clear hwz
      generalize wc.alloc (.cells #[.int .i64 j0.id, .string j0.user, .int .i64 j0.width, .int .i64 j0.est, .int .i64 j0.prio, .int .i64 j0.sub, .int .i64 j0.state, .int .i64 j0.start, .int .i64 j0.fin] 39) = w3 at *
      have HSL := Lib.hid (WinPlain.of_len HOF.out)
      have CF := Lib.hid (fitS s 0 j0.width j0.est _ w3 HS3.out (by have := HSL.out; omega))
      obtain ⟨y, y0, y1, y2, y3, y4, y5, y6, y7, y8, _, _, _, _, _, _, _, _, _⟩ := HX.out
      go_wp2_with fail
      refine CF.out.mono ?_
      rintro e w4 ⟨r, b, rfl, hfi, hb4⟩
      have HFI := Lib.hid hfi
      have HB4 := Lib.hid (below_then HB3.out hb4)
      have HJ4 := Lib.hid (HJ3.out.below hb4)
      have HS4 := Lib.hid (HS3.out.below hb4)
      have HX4 := Lib.hid (HX.out.below hb4)
      clear y y0 y1 y2 y3 y4 y5 y6 y7 y8 hb4 hfi HB3 HJ3 HS3 HX CF
      cases b
      · go_wp2_with fail
        go_ret
        exact ⟨rfl, HB4.out⟩
      · by_cases hr0 : r = 0
        · subst hr0
          go_wp2_with fail
          go_ret
          exact ⟨rfl, HB4.out⟩
        · have d1 : (r == 0) = false := by simpa using hr0
          obtain ⟨hmg, hr1, hroom⟩ : mayG s j0.width j0.est = true ∧ 0 ≤ r ∧ Room s r j0.width j0.est := by
            rcases HFI.out with ⟨_, h1, h2, h3, _⟩ | ⟨h1, _⟩
            · exact ⟨h1, h2, h3⟩
            · cases h1
          obtain ⟨hchk, hw12, he1, he2⟩ := mayG_iff.1 hmg
          have hr2 := hroom.2.1
          have hhd := hroom.1
          have hatn : atN s r = val s r := by
            unfold atN atB
            rw [(chk_iff s).2 hchk, decide_eq_true hhd, decide_eq_true (by omega : r < 4503599627370496)]
            rfl
          have hvr := hchk.val_free hhd
          have hvw : j0.width ≤ val s r := hroom.2.2 r (Int.le_refl _) (by omega)
          have CA := Lib.hid (atS s r _ w4 HS4.out (by have := HSL.out; omega))
          rw [hatn] at CA
          have HRM := Lib.hid (And.intro hchk hhd)
          clear hchk hroom hmg hatn hhd
          generalize hnv : val s r = n at *
          have HNV := Lib.hid hnv
          clear hnv
          generalize atB s r = ab at *
          go_wp2_with fail
          refine CA.out.mono ?_
          rintro e w5 ⟨rfl, hb5⟩
          have HB5 := Lib.hid (below_then HB4.out hb5)
          have HJ5 := Lib.hid (HJ4.out.below hb5)
          have HS5 := Lib.hid (HS4.out.below hb5)
          have HX5 := Lib.hid (HX4.out.below hb5)
          clear hb5 HB4 HJ4 HS4 HX4 CA
          have CD := Lib.hid (addS s (r, r + j0.est) (-j0.width) _ w5 HS5.out (by have := HSL.out; omega))
          unfold spV at CD
          dsimp only at CD
          obtain ⟨y, y0, y1, y2, y3, y4, y5, y6, y7, y8, _, _, _, _, _, _, _, _, _⟩ := HX5.out
          go_wp2_with fail
          refine CD.out.mono ?_
          rintro e w6 ⟨vt, t, rfl, hst, hadd, hb6, _⟩
          have HADD := Lib.hid hadd
          have HB6 := Lib.hid (below_then HB5.out hb6)
          have HJ6 := Lib.hid (HJ5.out.below hb6)
          have HX6 := Lib.hid (HX5.out.below hb6)
          have HS6 := Lib.hid hst
          obtain ⟨At, ct, rfl, _⟩ := hst.open_
          clear y y0 y1 y2 y3 y4 y5 y6 y7 y8 hb6 HB5 HJ5 HX5 HS5 CD hadd hst
          obtain ⟨y, y0, y1, y2, y3, y4, y5, y6, y7, y8, _, _, _, _, _, _, _, _, _⟩ := HX6.out
          have b6 : (1 : Int) ≤ (jobs.length : Int) := by omega
          have b7 : (1 : Int) ≤ (cj : Int) := by omega
          have HCL := Lib.hid (chosen_leaves (rest := rest) HB00.out HOF.out HFI.out (by omega : 0 < r) HADD.out)
          rw [HNV.out] at HCL
          have HTL : Hid (t.length ≤ 130) := Lib.hid (by have h1 := add_len HADD.out; have h2 := HSL.out; omega)
          have hwr : IntKind.i64.wrap (n - j0.width) = n - j0.width := by rw [IntKind.wrap_i64]; omega
          have HJT : Hid (JobsIs rest w6.drew (.slice (if cj = 1 then some aj else some ⟨aj.block, aj.off + 9, none⟩) (jobs.length - 1) (cj - 1))) := Lib.hid (by
            have h1 := HJ6.out.below (Below.refl _ _).drew
            have h2 := HEQ.out
            have h3 : jobs.length = rest.length + 1 := by rw [h2]; rfl
            rw [h2] at h1
            rw [h3]
            exact jobs_tail rfl h1)
          have HRL : Hid (rest.length ≤ 12) := Lib.hid (by have h2 := HEQ.out; have h3 : jobs.length = rest.length + 1 := by rw [h2]; rfl
                                                           omega)
          have HCC := Lib.hid (chooseS t 0 rest ⟨9, r, n - j0.width⟩ _ _ w6.drew (HS6.out.below (Below.refl _ _).drew) (by have := HTL.out; omega) HJT.out (by have := HRL.out; omega) (by decide))
          have HE0 : Hid (errW t 0 ⟨9, r, n - j0.width⟩ = 0) := Lib.hid (by unfold errW; rw [if_neg (by rw [HCL.out.1]; decide)])
          unfold ChooseSays at HCC
          rw [HE0.out] at HCC
          have HCM : Hid (∀ x ∈ chosenW t 0 rest ⟨9, r, n - j0.width⟩, x ∈ rest) := fun x hx => chosen_mem hx
          have HCN : Hid ((chosenW t 0 rest ⟨9, r, n - j0.width⟩).length ≤ 12) := Lib.hid (by have h1 := chosen_len t 0 rest ⟨9, r, n - j0.width⟩; have h2 := HRL.out; omega)
          have HLV := Lib.hid HCL.out.2
          unfold lokV at HCC
          dsimp only at HCC
          clear HCL HE0 HJT HOF HFI HADD HNV HRM
          generalize chosenW t 0 rest ⟨9, r, n - j0.width⟩ = C at *
          have HIC : Hid (idsW C = idsW C) := rfl
          generalize hI : idsW C = I at *
          have HII := Lib.hid hI
          clear hI HIC
          go_upto_region 15 with fail
          go_cut [16, 17] from 88 to 99 (fun o f wc => f = .int .i64 0 ∧ ∃ Au cu, o = .slice Au I.length cu ∧ Hid (IntsAt I wc (.slice Au I.length cu)) ∧ Hid (Below w6.heap.size w6 wc))
          case first =>
            by_cases hcj1 : cj = 1
            · subst hcj1
              have e0 : jobs.length - 1 = 0 := by omega
              rw [if_pos rfl, e0, Nat.sub_self] at HCC
              clear e0
              go_region_with (first | (go_at_call 6; refine HCC.out.mono ?_; rintro e w7 ⟨u, rfl, hi7, hb7⟩; have HI7 := Lib.hid hi7; have HB7 : Hid (Below w6.heap.size w6 w7) := ((Below.refl _ _).drew).trans hb7; clear hi7 hb7 HCC; obtain ⟨Au, cu, hu, _, _⟩ := HI7.out; subst hu))
              all_goals
                go_wp2_with fail
                go_meet
                exact ⟨rfl, Au, cu, rfl, HI7, HB7⟩
            · rw [if_neg hcj1] at HCC
              go_region_with (first | (go_at_call 6; refine HCC.out.mono ?_; rintro e w7 ⟨u, rfl, hi7, hb7⟩; have HI7 := Lib.hid hi7; have HB7 : Hid (Below w6.heap.size w6 w7) := ((Below.refl _ _).drew).trans hb7; clear hi7 hb7 HCC; obtain ⟨Au, cu, hu, _, _⟩ := HI7.out; subst hu))
              all_goals
                go_wp2_with fail
                go_meet
                exact ⟨rfl, Au, cu, rfl, HI7, HB7⟩
          case rest =>
            obtain ⟨rfl, Au, cu, rfl, HI7, HB7⟩ := hcut
            have HBz := Lib.hid (below_then HB6.out HB7.out)
            have HJz := Lib.hid (HJ6.out.below HB7.out)
            have HSz := Lib.hid (HS6.out.below HB7.out)
            have HIL : Hid (I.length = C.length) := Lib.hid (by rw [← HII.out]; simp [idsW])
            have hIb : I.length ≤ 12 := by have := HIL.out; have := HCN.out; omega
            have HWP : Hid (∀ x ∈ C, Base x) := fun x hx => HBA.out x (by rw [HEQ.out]; exact List.mem_cons_of_mem _ (HCM.out x hx))
            have HFM : Hid (∀ x ∈ C, ∃ k : Nat, 1 ≤ k ∧ ∃ h : k < jobs.length, jobs[k] = x ∧ findL jobs x.id = k) := fun x hx => by
              have h1 := HGU.out
              have h2 := HEQ.out
              subst h2
              exact find_mem h1 (HCM.out x hx)
            clear HB6 HJ6 HS6 HX6 HB7 HCC HBA HCM HGU HEQ y y0 y1 y2 y3 y4 y5 y6 y7 y8 b6 b7 hwr
            go_wp2_with fail
            go_loopw [15, 18] (fun o i wr => ∃ (q : Nat) (tq : List Sp) (Aq : Option Addr) (cq : Nat), o = .slice Aq tq.length cq ∧ i = .int .i64 q ∧ q ≤ I.length ∧ Hid (SpansIs tq wr (.slice Aq tq.length cq)) ∧ Hid (WinPlain.Leaves tq (C.drop q)) ∧ Hid (tq.length ≤ 130 + 3 * q) ∧ Hid (Below wc.heap.size wc wr)) (fun _ i _ => I.length - (intOf i).toNat)
            case atStart => exact ⟨0, t, At, ct, rfl, rfl, Nat.zero_le _, HSz.out, HLV.out, HTL.out, Below.refl _ _⟩
            case round =>
              obtain ⟨q, tq, Aq, cq, rfl, rfl, hq, HSq, HLq, HTq, HBq⟩ := hrel
              by_cases hlt : q < I.length
              · have hqC : q < C.length := by have := HIL.out; omega
                obtain ⟨k, hk1, hkl, hjk, hfk⟩ := HFM.out C[q] (List.getElem_mem hqC)
                have hbs := HWP.out C[q] (List.getElem_mem hqC)
                have hic : icell I q = .int .i64 C[q].id := by
                  have h1 := HII.out
                  unfold icell
                  subst h1
                  simp [idsW, List.getD, hqC]
                have hdr := List.drop_eq_getElem_cons hqC
                have hl1 := HLq.out
                rw [hdr] at hl1
                have hpos : ∀ x ∈ C.drop (q + 1), 0 ≤ x.width := fun x hx => by have := (HWP.out x (List.mem_of_mem_drop hx)).w1; omega
                have hok := hl1.ok hpos ⟨hbs.w1, hbs.w2⟩ ⟨hbs.e1, hbs.e2⟩
                have HNX := Lib.hid (fun r h => hl1.next (r := r) hpos ⟨hbs.w1, hbs.w2⟩ ⟨hbs.e1, hbs.e2⟩ h)
                have hJr := HJz.out.below HBq.out
                obtain ⟨A2, c2, h2, hc2, hat2⟩ := hJr.open_
                injection h2 with h2a _ h2c
                obtain ⟨a2, e2, hat⟩ := hat2 k hkl
                rw [e2] at h2a
                injection h2a with h2a
                subst h2a h2c
                rw [hjk] at hat
                have HE := Lib.hid hat
                have CFD := Lib.hid (OrdRef.find8 jobs C[q].id _ wr hJr (by omega))
                rw [hfk] at CFD
                obtain ⟨aI, hAI, hIlt, hIc⟩ := (by obtain ⟨A3, c3, h3, _, hcells⟩ := HI7.out; injection h3 with h3a _ _; subst h3a; exact hcells.at hlt : ∃ a, Au = some a ∧ a.block < wc.heap.size ∧ wc.cell? (a.add q) = some (icell I q))
                subst hAI
                rw [hic] at hIc
                have hIr : wr.cell? (aI.add q) = some (.int .i64 C[q].id) := (HBq.out.cell (by rw [add_block]; exact hIlt)).trans hIc
                have hw1 := hbs.w1
                have hw2 := hbs.w2
                have he1 := hbs.e1
                have he2 := hbs.e2
                clear hl1 hdr hic hpos hJr hat2 e2 hat hc2 hIc hfk hjk hbs
                generalize C[q] = cc at *
                have b1 : (q : Int) < (I.length : Int) := by omega
                have b2 : (0 : Int) ≤ (q : Int) := by omega
                have b3 : (k : Int) < (jobs.length : Int) := by omega
                have b4 : (0 : Int) ≤ (k : Int) := by omega
                have b5 : decide ((k : Int) < 1) = false := decide_eq_false (by omega)
                have b6 : (1 : Int) ≤ (k : Int) := by omega
                have CO := Lib.hid (fun (z : Lull wr) => okS tq 0 cc.width cc.est _ z.u (HSq.out.below z.h) (by have := HTq.out; have := HIL.out; have := HCN.out; omega))
                rw [hok] at CO
                clear hok
                go_wp2_with fail
                refine CFD.out.mono ?_
                rintro e w8 ⟨rfl, rfl⟩
                have P := Lib.hid (fun (z : Lull wr) => HE.out.below z.h)
                have x2 : ∀ z : Lull wr, _ := fun z => (P.out z).c2
                have x3 : ∀ z : Lull wr, _ := fun z => (P.out z).c3
                clear CFD
                go_upto_region 22 with fail
                refine wp_region_calm (by kernel_rfl) (by kernel_rfl) ?_
                repeat (first | go_big_quiet_step ((go_at_call 28; exact calm_of (CO.out _))) | quiet_step ((go_at_call 28; exact calm_of (CO.out _))))
                refine wpQuiet_nil ?_
                intro w9 hw9
                have hb9 := lull_below hw9
                have HE9 := Lib.hid (HE.out.below hb9)
                have HB9 := Lib.hid (below_then HBq.out hb9)
                have HS9 := Lib.hid (HSq.out.below hb9)
                clear hw9 hb9 x2 x3 P CO HE HSq HBq hIr
                have CAD := Lib.hid (addS tq (0, cc.est) (-cc.width) _ w9.drew (HS9.out.below (Below.refl _ _).drew) (by have := HTq.out; have := HIL.out; have := HCN.out; omega))
                unfold spV at CAD
                dsimp only at CAD
                obtain ⟨z, z0, z1, z2, z3, z4, z5, z6, z7, z8⟩ := HE9.out
                have hwn : IntKind.i64.wrap (-cc.width) = -cc.width := by rw [IntKind.wrap_i64]; omega
                go_upto_region 24 with fail
                go_region_with (first | (go_at_call 27; refine CAD.out.mono ?_; rintro e w10 ⟨v10, t10, rfl, hs10, ha10, hb10, _⟩; have HS10 := Lib.hid hs10; have HA10 := Lib.hid ha10; have HB10 : Hid (Below wc.heap.size wc w10) := below_then HB9.out (((Below.refl _ _).drew).trans hb10); clear hs10 ha10 hb10 CAD; obtain ⟨A10, c10, hv10, _⟩ := HS10.out.open_; subst hv10))
                all_goals
                  have HLn := Lib.hid (HNX.out t10 HA10.out)
                  have HTn : Hid (t10.length ≤ 130 + 3 * (q + 1)) := Lib.hid (by have h1 := add_len HA10.out; have h2 := HTq.out; omega)
                  clear z z0 z1 z2 z3 z4 z5 z6 z7 z8
                  go_wp2_with fail
                  exact ⟨⟨q + 1, t10, A10, c10, rfl, by go_num, by omega, HS10, HLn, HTn, HB10⟩, by simp [intOf] <;> omega⟩
              · have HBf := Lib.hid (below_then HBz.out HBq.out)
                go_wp2_with fail
                go_ret
                exact ⟨rfl, HBf.out⟩
  · have d0 : (c != 0) = true := by simpa using hc
    go_wp2_with fail
    go_ret
    exact ⟨rfl, HB1.out⟩
end Go.Proofs.Ytkaepadkdohmpaa.WinWalk
