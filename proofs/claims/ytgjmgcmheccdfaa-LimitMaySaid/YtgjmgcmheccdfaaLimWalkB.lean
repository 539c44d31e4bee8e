/-
  The walks of layer 10's code: first, rest, Left, May.
-/
import Derived.Test.YtgjmgcmheccdfaaLimWalkA
import Derived.Test.YtgjmgcmheccdfaaJobWalkB
import Derived.Deep.RegionHeld3
namespace Go.Proofs.Ytgjmgcmheccdfaa.LimWalk
open Go.RowKit Go.Proofs.Ytgjmgcmheccdfaa.JobPlain Go.Proofs.Ytgjmgcmheccdfaa.ApiPlain Go.Proofs.Ytgjmgcmheccdfaa.LimPlain Go.Proofs.Ytgjmgcmheccdfaa.Mem Go.Proofs.Ytgjmgcmheccdfaa.ApiMem Go.Proofs.Ytgjmgcmheccdfaa.JobMem Go.Proofs.Ytgjmgcmheccdfaa.LimRef
theorem first_some {us : List Use} {s : ByteArray} {k : Nat} (h : NoUse us s k) (hk : k < us.length) (hs : sameU (nthU us k).user s = true) : firstU us s = nthU us k := by unfold firstU; rw [h.some_ hk hs]; rfl
theorem first_none {us : List Use} {s : ByteArray} {k : Nat} (h : NoUse us s k) (hk : us.length ≤ k) : firstU us s = noUse := by unfold firstU; rw [h.none_ hk]; rfl
theorem first_fit {us : List Use} {s : ByteArray} (h : UsesFit us) : UseFit (firstU us s) := by
  unfold firstU
  cases hu : useOf us s with
  | none => exact ⟨by decide, by decide, by decide⟩
  | some z => exact h z (by unfold useOf at hu; exact List.mem_of_find?_eq_some hu)
def UseSays (x : Use) (w : World) (e : Ending) (w' : World) : Prop := e = .returned (useV x) ∧ Below w.heap.size w w'
set_option maxRecDepth 100000 in
set_option maxHeartbeats 3200000 in
theorem first_l (us : List Use) (s : ByteArray) (u : Value) (w : World) (hu : useL.Is us w u) (hul : us.length ≤ 1000) : Calls Try.prog 24 #[u, .string s] w (UseSays (firstU us s) w) := by
  obtain ⟨B, d, rfl, hm, hB⟩ := uses_open hu
  have HBU := Lib.hid hB
  have HZ := Lib.hid (UseBox.new w noUse 41)
  have HB0 := Lib.hid (below_new w (.cells #[.string ⟨#[]⟩, .int .i64 0, .int .i64 0] 41))
  clear hB hu
  go_enter Try.func24, Try.ntmps24
  go_upto_region 1 with fail
  unfold noUse at HZ
  generalize w.alloc (.cells #[.string ⟨#[]⟩, .int .i64 0, .int .i64 0] 41) = W0 at *
  go_wp2_with fail
  go_loopw [9] (fun i wr => ∃ k : Nat, i = .int .i64 k ∧ k ≤ us.length ∧ Hid (NoUse us s k) ∧ Hid (Below W0.heap.size W0 wr)) (fun i _ => us.length - (intOf i).toNat)
  case atStart => exact ⟨0, rfl, Nat.zero_le _, fun i hi => absurd hi (Nat.not_lt_zero _), Below.refl _ _⟩
  case round =>
    obtain ⟨k, rfl, hk, HN, HBL⟩ := hrel
    by_cases hlt : k < us.length
    · obtain ⟨ad, rfl, ⟨p, p0, p1, p2⟩⟩ := uses_nth HBU.out (below_then HB0.out HBL.out) hlt
      have HYES := Lib.hid (fun h => first_some HN.out hlt h)
      have HNX := Lib.hid (fun h => HN.out.next h)
      have i0 : (0 : Int) ≤ (k : Int) := Int.natCast_nonneg _
      have i1 : (k : Int) < (us.length : Int) := by omega
      have HX := Lib.hid (UseBox.new wr (nthU us k) 41)
      have HBX := Lib.hid (below_then HBL.out (below_new wr (.cells #[.string (nthU us k).user, .int .i64 (nthU us k).jobs, .int .i64 (nthU us k).procs] 41)))
      clear HN
      generalize nthU us k = x at *
      go_upto_region 4 with fail
      generalize wr.alloc (.cells #[.string x.user, .int .i64 x.jobs, .int .i64 x.procs] 41) = W1 at *
      clear p p0 p1 p2
      obtain ⟨y, y0, y1, y2, _, _, _⟩ := HX.out
      cases hs : (x.user.toList == s.toList) with
      | true =>
        have HR := Lib.hid (HYES.out hs)
        clear HYES HNX
        obtain ⟨z, z0, z1, z2, z3, z4, z5⟩ := HZ.out.below HBX.out
        go_wp2_with fail
        exact bodyPost_ret (v := useV x) (by simp [results, Try.results24, go_sem, z0, z1, z2, z3, z4, z5, useV]) rfl ⟨by rw [HR.out], (((below_then HB0.out HBX.out).setCell (Nat.le_refl _) _).setCell (Nat.le_refl _) _).setCell (Nat.le_refl _) _⟩
      | false =>
        have HR := Lib.hid (HNX.out hs)
        clear HYES HNX
        go_wp2_with fail
        exact ⟨⟨k + 1, by go_num, by omega, HR.out, HBX.out⟩, by simp [intOf] <;> omega⟩
    · have HR := Lib.hid (first_none HN.out (show us.length ≤ k by omega))
      clear HN
      obtain ⟨z, z0, z1, z2, z3, z4, z5⟩ := HZ.out.below HBL.out
      go_wp2_with fail
      exact bodyPost_ret (v := useV noUse) (by simp [results, Try.results24, go_sem, z0, z1, z2, z3, z4, z5, useV, noUse]) rfl ⟨by rw [HR.out], (((below_then HB0.out HBL.out).setCell (Nat.le_refl _) _).setCell (Nat.le_refl _) _).setCell (Nat.le_refl _) _⟩
theorem rest_l (n u : Int) (w : World) (hn : 0 ≤ n ∧ n ≤ 1000000) (hu : -9223372036854775808 ≤ u ∧ u ≤ 9223372036854775807) : Calls Try.prog 25 #[.int .i64 n, .int .i64 u] w (IntQ (restN n u) w) := by
  obtain ⟨n0, n1⟩ := hn
  obtain ⟨u0, u1⟩ := hu
  by_cases h1 : u < 0
  · have HR : Hid (restN n u = n) := by show _ = _; unfold restN; omega
    have d1 : (if u < 0 then (0 : Int) else u) = 0 := if_pos h1
    go_enter Try.func25, Try.ntmps25
    go_wp2_with fail
    all_goals
      go_ret
      exact ⟨ret_int (by first | rw [HR.out] | (rw [HR.out]; omega)), rfl⟩
  · by_cases h2 : n < u
    · have HR : Hid (restN n u = 0) := by show _ = _; unfold restN; omega
      have h3 : n - u < 0 := by omega
      have wr1 : IntKind.i64.wrap (n - u) = n - u := by rw [IntKind.wrap_i64]; omega
      go_enter Try.func25, Try.ntmps25
      go_wp2_with fail
      all_goals
        go_ret
        exact ⟨ret_int (by first | rw [HR.out] | (rw [HR.out]; omega)), rfl⟩
    · have HR : Hid (restN n u = n - u) := by show _ = _; unfold restN; omega
      have h3 : ¬ n - u < 0 := by omega
      have wr1 : IntKind.i64.wrap (n - u) = n - u := by rw [IntKind.wrap_i64]; omega
      go_enter Try.func25, Try.ntmps25
      go_wp2_with fail
      all_goals
        go_ret
        exact ⟨ret_int (by first | rw [HR.out] | (rw [HR.out]; omega)), rfl⟩
theorem leftP_no {l : List Lim} {us : List Use} {s : ByteArray} (h : checkL l ≠ 0) : leftP l us s = (0, 0) := by unfold leftP; rw [if_neg h]
theorem leftP_none {l : List Lim} {us : List Use} {s : ByteArray} {k : Nat} (h : checkL l = 0) (hf : FindAt l s k k) (ht : thereL l s k = false) : leftP l us s = (100, 256) := by
  unfold leftP
  rw [if_pos h]
  exact left_none (limOf_none fun i hi => there_no (checkL_zero h).2 hf ht hi)
theorem leftP_there {l : List Lim} {us : List Use} {s : ByteArray} {k : Nat} (h : checkL l = 0) (ht : thereL l s k = true) : leftP l us s = (restN (nthL l k).jobs (firstU us s).jobs, restN (nthL l k).procs (firstU us s).procs) := by
  obtain ⟨hk, hs⟩ := there_yes ht
  obtain ⟨_, h1, _, h2, _⟩ := (oneL_iff _).1 (good_is (checkL_zero h).2 hk)
  unfold leftP
  rw [if_pos h]
  exact left_some (limOf_some (checkL_zero h).2 hk hs) h1 h2
set_option maxRecDepth 100000 in
set_option maxHeartbeats 6400000 in
theorem leftS (l : List Lim) (us : List Use) (s : ByteArray) (v u : Value) (w : World) (hv : limL.Is l w v) (hu : useL.Is us w u) (hs : LimsFit l) (hus : UsesFit us) (hl : l.length ≤ 1000) (hul : us.length ≤ 1000) (hz : s.size ≤ 9223372036854775807) : Calls Try.prog 14 #[v, u, .string s] w (TwoSays (leftP l us s) w) := by
  have CC := Lib.hid (checkS l v w hv hs hl)
  have CF : Hid (∀ W, Below w.heap.size w W → Calls Try.prog 24 #[u, .string s] W (UseSays (firstU us s) W)) := fun W hW => first_l us s u W (hu.below hW) hul
  have CP : Hid (checkL l = 0 → ∀ W, Below w.heap.size w W → Calls Try.prog 20 #[v, .string s] W (FindSays l s W)) := fun h W hW => place_l l s v W (hv.below hW) (checkL_zero h).2 hl
  have HFU := Lib.hid (first_fit (s := s) hus)
  obtain ⟨A, c, rfl, hn, hA⟩ := lims_open hv
  obtain ⟨B, d, rfl, hm, _⟩ := uses_open hu
  have HA := Lib.hid hA
  clear hA hv hu hs hus
  by_cases h0 : checkL l = 0
  · have CP := Lib.hid (CP.out h0)
    have HNO := Lib.hid (fun k hf ht => leftP_none (us := us) (s := s) (k := k) h0 hf ht)
    have HYES := Lib.hid (fun k ht => leftP_there (us := us) (s := s) (k := k) h0 ht)
    have HG := Lib.hid (checkL_zero h0).2
    have e0 : ((0 : Int) != 0) = false := by decide
    rw [h0] at CC
    clear h0
    go_enter Try.func14, Try.ntmps14
    go_wp2_with fail
    refine CC.out.mono ?_
    rintro e w1 ⟨rfl, hb1⟩
    have CP := Lib.hid (CP.out w1 hb1)
    have HB1 := Lib.hid hb1
    clear hb1 CC
    go_wp2_with fail
    refine CP.out.mono ?_
    rintro e w2 ⟨k, rfl, hk, hf, hb2⟩
    have HB2 := Lib.hid (below_then HB1.out hb2)
    have HF := Lib.hid hf
    clear hb2 CP hf HB1
    cases ht : thereL l s k with
    | false =>
      have HR := Lib.hid (HNO.out k HF.out ht)
      clear ht HNO HYES
      go_wp2_with fail
      go_ret2
      exact two_of HR.out HB2.out
    | true =>
      have HR := Lib.hid (HYES.out k ht)
      have hkl := (there_yes ht).1
      have CF := Lib.hid (CF.out w2 HB2.out)
      have hone := (oneL_iff _).1 (good_is HG.out hkl)
      obtain ⟨_, o1, o2, o3, o4⟩ := hone
      have C1 := Lib.hid (fun W => rest_l (nthL l k).jobs (firstU us s).jobs W ⟨o1, by omega⟩ HFU.out.f1)
      have C2 := Lib.hid (fun W => rest_l (nthL l k).procs (firstU us s).procs W ⟨o3, by omega⟩ HFU.out.f2)
      have i0 : (0 : Int) ≤ (k : Int) := Int.natCast_nonneg _
      have i1 : (k : Int) < (l.length : Int) := by omega
      clear ht HNO HYES HG
      generalize hx : nthL l k = x at *
      have HX := Lib.hid hx
      clear hx
      generalize firstU us s = f at *
      generalize restN x.jobs f.jobs = N1 at *
      generalize restN x.procs f.procs = N2 at *
      go_wp2_with fail
      refine CF.out.mono ?_
      rintro e w3 ⟨rfl, hb3⟩
      have HY := Lib.hid (UseBox.new w3 f 41)
      have HB3 := Lib.hid (below_then (below_then HB2.out hb3) (below_new w3 (.cells #[.string f.user, .int .i64 f.jobs, .int .i64 f.procs] 41)))
      clear hb3 CF HB2
      unfold useV
      go_upto_region 7 with fail
      generalize w3.alloc (.cells #[.string f.user, .int .i64 f.jobs, .int .i64 f.procs] 41) = W4 at *
      obtain ⟨ad, rfl, hat⟩ := lims_nth HA.out HB3.out hkl
      rw [HX.out] at hat
      obtain ⟨p, p0, p1, p2⟩ := hat
      obtain ⟨y, y0, y1, y2, _, _, _⟩ := HY.out
      have P1 := calm_cell (a := ⟨_, _, none⟩) p p1
      have P2 := calm_cell (a := ⟨_, _, none⟩) p p2
      have Y1 := calm_cell (a := ⟨w3.heap.size, 1, none⟩) y y1
      have Y2 := calm_cell (a := ⟨w3.heap.size, 2, none⟩) y y2
      clear p p0 p1 p2 y y0 y1 y2
      refine wp_region_calm (by kernel_rfl) (by kernel_rfl) ?_
      repeat (first | go_big_quiet_step ((first | (go_at_call_of 25 (Value.int .i64 x.jobs); exact calm_same (v := .int .i64 N1) (C1.out _)) | (go_at_call_of 25 (Value.int .i64 x.procs); exact calm_same (v := .int .i64 N2) (C2.out _)))) | quiet_step ((first | (go_at_call_of 25 (Value.int .i64 x.jobs); exact calm_same (v := .int .i64 N1) (C1.out _)) | (go_at_call_of 25 (Value.int .i64 x.procs); exact calm_same (v := .int .i64 N2) (C2.out _)))))
      refine wpQuiet_nil ?_
      intro w5 hw
      have HB5 := Lib.hid (below_then HB3.out (lull_below hw))
      clear hw P1 P2 Y1 Y2
      go_wp2_with fail
      go_ret2
      exact two_of HR.out HB5.out
  · have HR := Lib.hid (leftP_no (us := us) (s := s) h0)
    have hne : (checkL l != 0) = true := by simpa using h0
    clear h0 CP CF
    generalize checkL l = x at *
    go_enter Try.func14, Try.ntmps14
    go_wp2_with fail
    refine CC.out.mono ?_
    rintro e w1 ⟨rfl, hb1⟩
    go_wp2_with fail
    go_ret2
    exact two_of HR.out hb1
theorem mayl_ways (l : List Lim) (us : List Use) (j : Jb) : (mayJ j = false ∧ mayM l us j = false) ∨ (mayJ j = true ∧ decide (1 ≤ (leftP l us j.user).1) = false ∧ mayM l us j = false) ∨ (mayJ j = true ∧ decide (1 ≤ (leftP l us j.user).1) = true ∧ decide (j.width ≤ (leftP l us j.user).2) = mayM l us j) := by
  unfold mayM leftP
  by_cases h : checkL l = 0
  · rw [if_pos h, decide_eq_true h]
    have e : decide (0 < (leftL l us j.user).1) = decide (1 ≤ (leftL l us j.user).1) := rfl
    rw [e]
    cases mayJ j <;> cases decide (1 ≤ (leftL l us j.user).1) <;> simp
  · rw [if_neg h, decide_eq_false h]
    cases mayJ j
    · exact .inl ⟨rfl, rfl⟩
    · exact .inr (.inl ⟨rfl, rfl, rfl⟩)
set_option maxRecDepth 100000 in
set_option maxHeartbeats 6400000 in
theorem mayS (l : List Lim) (us : List Use) (j : Jb) (v u : Value) (w : World) (hv : limL.Is l w v) (hu : useL.Is us w u) (hs : LimsFit l) (hus : UsesFit us) (hj : Fit j) (hl : l.length ≤ 1000) (hul : us.length ≤ 1000) : Calls Try.prog 15 #[v, u, jobV j] w (BoolL (mayM l us j) w) := by
  have HX := Lib.hid (JobBox.new w j 36)
  have HB0 := Lib.hid (below_new w (.cells #[.int .i64 j.id, .string j.user, .int .i64 j.width, .int .i64 j.est, .int .i64 j.prio, .int .i64 j.sub, .int .i64 j.state, .int .i64 j.start, .int .i64 j.fin] 36))
  have CL : Hid (∀ W, Below w.heap.size w W → Calls Try.prog 14 #[v, u, .string j.user] W (TwoSays (leftP l us j.user) W)) := fun W hW => leftS l us j.user v u W (hv.below hW) (hu.below hW) hs hus hl hul hj.2.2
  have CK := Lib.hid (fun W => JobWalk.check_any j W hj)
  have hways := mayl_ways l us j
  obtain ⟨A, c, rfl, hn, _⟩ := lims_open hv
  obtain ⟨B, d, rfl, hm, _⟩ := uses_open hu
  clear hv hu hs hus hj
  generalize mayM l us j = M at *
  generalize leftP l us j.user = R at *
  obtain ⟨N1, N2⟩ := R
  dsimp only at hways
  unfold jobV jobA at *
  have HW := Lib.hid hways
  clear hways
  go_enter Try.func15, Try.ntmps15
  go_upto_region 1 with fail
  obtain ⟨y, y0, y1, y2, y3, y4, y5, y6, y7, y8, _, _, _, _, _, _, _, _, _⟩ := HX.out
  generalize w.alloc (.cells #[.int .i64 j.id, .string j.user, .int .i64 j.width, .int .i64 j.est, .int .i64 j.prio, .int .i64 j.sub, .int .i64 j.state, .int .i64 j.start, .int .i64 j.fin] 36) = W0 at *
  have CL := Lib.hid (CL.out W0 HB0.out)
  go_wp2_with fail
  refine CL.out.mono ?_
  rintro e w1 ⟨rfl, hb1⟩
  have HB1 := Lib.hid (below_then HB0.out hb1)
  have HX1 := Lib.hid (HX.out.below hb1)
  clear hb1 CL y y0 y1 y2 y3 y4 y5 y6 y7 y8 HX HB0
  obtain ⟨y, y0, y1, y2, y3, y4, y5, y6, y7, y8, _, _, _, _, _, _, _, _, _⟩ := HX1.out
  rcases HW.out with ⟨h1, h2⟩ | ⟨h1, h3, h2⟩ | ⟨h1, h3, h2⟩
  all_goals
    have HM := Lib.hid h2
    have CK2 := Lib.hid (fun W => CK.out W)
    unfold JobWalk.checkN at CK2
    rw [h1] at CK2
    simp only [Bool.false_eq_true, if_false, if_true] at CK2
    clear h1 h2 CK HW
    go_wp2_with fail
    refine (CK2.out _).mono ?_
    rintro e w2 ⟨rfl, hb2⟩
    have HB2 := Lib.hid (below_then HB1.out hb2)
    have HX2 := Lib.hid (HX1.out.below hb2)
    clear hb2 CK2 y y0 y1 y2 y3 y4 y5 y6 y7 y8
    obtain ⟨y, y0, y1, y2, y3, y4, y5, y6, y7, y8, _, _, _, _, _, _, _, _, _⟩ := HX2.out
    go_wp2_with fail
    go_ret
    exact ⟨by first | (rw [HM.out]; done) | (rw [HM.out]; rfl), HB2.out⟩
end Go.Proofs.Ytgjmgcmheccdfaa.LimWalk
