/-
  The walk of the document's answer for layer 10: Set.
-/
import Derived.Test.YtgjmgcmheccdfaaLimRefB
namespace Go.Proofs.Ytgjmgcmheccdfaa.LimRef
open Go.RowKit Go.Proofs.Ytgjmgcmheccdfaa.JobPlain Go.Proofs.Ytgjmgcmheccdfaa.ApiPlain Go.Proofs.Ytgjmgcmheccdfaa.LimPlain Go.Proofs.Ytgjmgcmheccdfaa.Mem Go.Proofs.Ytgjmgcmheccdfaa.ApiMem
theorem setE_check {l : List Lim} {x : Lim} (h : checkL l ≠ 0) : setE l x = checkL l := by unfold setE; rw [if_pos h]
theorem setE_one {l : List Lim} {x : Lim} (h : checkL l = 0) (h2 : oneL x = false) : setE l x = 1 := by unfold setE; rw [if_neg (by omega), if_pos h2]
theorem setE_full {l : List Lim} {x : Lim} (h : checkL l = 0) (h2 : oneL x = true) (h3 : 50 < (setOut l x).length) : setE l x = 4 := by unfold setE; rw [if_neg (by omega), if_neg (by rw [h2]; decide), if_pos h3]
theorem setE_ok {l : List Lim} {x : Lim} (h : checkL l = 0) (h2 : oneL x = true) (h3 : ¬ 50 < (setOut l x).length) : setE l x = 0 := by unfold setE; rw [if_neg (by omega), if_neg (by rw [h2]; decide), if_neg h3]
theorem setR_no {l : List Lim} {x : Lim} (h : setE l x ≠ 0) : setR l x = [] := by unfold setR; rw [if_neg h]
theorem setR_yes {l : List Lim} {x : Lim} (h : setE l x = 0) : setR l x = setOut l x := by unfold setR; rw [if_pos h]
theorem RowAt.more {W w1 w2 : World} {v v2 : Value} {m : List Lim} {n : Nat} {x : Lim} (h : RowAt W w1 v m) (o : Obj) (ho : OwnR 24 3 W.heap.size w2 v2 n (limL.vals m ++ limC x)) (hn : n = m.length + 1) (hb : Below W.heap.size (w1.alloc o) w2) : RowAt W w2 v2 (m ++ [x]) :=
  ⟨ho.cast (by simp [hn]) (limL.snoc _ _).symm, (h.below.alloc h.below.size o).trans hb⟩
theorem RowAt.drewN {W w1 : World} {v : Value} {m : List Lim} (h : RowAt W w1 v m) (q : Nat) : RowAt W (w1.drewN q) v m := ⟨h.own.drewN q, below_drewN h.below q⟩
theorem out_yes {l : List Lim} {x : Lim} (h : (setTo l x l.length).2 = true) : setOut l x = (setTo l x l.length).1 := by unfold setOut; rw [if_pos h]
theorem out_no {l : List Lim} {x : Lim} (h : (setTo l x l.length).2 = false) : setOut l x = (setTo l x l.length).1 ++ [x] := by unfold setOut; rw [if_neg (by rw [h]; decide)]
set_option maxRecDepth 100000 in
set_option maxHeartbeats 12800000 in
theorem set10 (l : List Lim) (x : Lim) (v : Value) (w : World) (hv : limL.Is l w v) (hs : LimsFit l) (hx : LimFit x) (hl : l.length ≤ 1000) : Calls Try.prog 9 #[v, limV x] w (PairSays (setR l x) (setE l x) w) := by
  have HX := Lib.hid (LimBox.new w x 24)
  have HB0 := Lib.hid (below_new w (.cells #[.string x.user, .int .i64 x.jobs, .int .i64 x.procs] 24))
  have CC := Lib.hid (fun W (hb : Below w.heap.size w W) => check10 l v W (hv.below hb) hs hl)
  have CO := Lib.hid (fun W => one10 x W hx)
  obtain ⟨A, c, rfl, hn, hA⟩ := lims_open hv
  have HA := Lib.hid hA
  clear hA hv hs hx
  unfold limV at *
  by_cases h0 : checkL l = 0
  · have HONE := Lib.hid (fun h => setE_one (x := x) h0 h)
    have HFULL := Lib.hid (fun h h2 => setE_full (x := x) h0 h h2)
    have HOK := Lib.hid (fun h h2 => setE_ok (x := x) h0 h h2)
    have HYES := Lib.hid (fun h => setR_yes (l := l) (x := x) h)
    have HNO := Lib.hid (fun h => setR_no (l := l) (x := x) h)
    have e0 : ((0 : Int) != 0) = false := by decide
    rw [h0] at CC
    clear h0
    go_enter Try.func9, Try.ntmps9
    go_upto_region 1 with fail
    generalize w.alloc (.cells #[.string x.user, .int .i64 x.jobs, .int .i64 x.procs] 24) = w0 at *
    go_wp2_with fail
    refine (CC.out _ HB0.out).mono ?_
    rintro e w1 ⟨rfl, hb1⟩
    have HB1 := Lib.hid (below_then HB0.out hb1)
    have HX1 := Lib.hid (HX.out.below hb1)
    obtain ⟨b, b0, b1, b2, _, _, _⟩ := HX1.out
    clear hb1 CC HX HB0
    cases hone : oneL x with
    | false =>
      rw [hone] at CO
      have HE := Lib.hid (HONE.out hone)
      have HZ := Lib.hid (HNO.out (by rw [HONE.out hone]; decide))
      clear hone
      go_wp2_with fail
      refine (CO.out _).mono ?_
      rintro e w2 ⟨rfl, hb2⟩
      have HB2 := Lib.hid (below_then HB1.out hb2)
      clear hb2
      go_wp2_with fail
      go_ret2
      rw [HE.out, HZ.out]
      exact pair_nil rfl HB2.out
    | true =>
      rw [hone] at CO
      have HFULL := Lib.hid (HFULL.out hone)
      have HOK := Lib.hid (HOK.out hone)
      clear hone HONE
      go_wp2_with fail
      refine (CO.out _).mono ?_
      rintro e w2 ⟨rfl, hb2⟩
      have HB2 := Lib.hid (below_then HB1.out hb2)
      have HX2 := Lib.hid (HX1.out.below hb2)
      have HO0 := Lib.hid (OwnR.new w2 24 3)
      clear hb2 CO HB1 HX1 b b0 b1 b2
      go_wp2_with fail
      go_loopw [6, 7, 8] (fun o d i wr => ∃ (k : Nat) (v : Value), v = o ∧ d = .bool (setTo l x k).2 ∧ i = .int .i64 k ∧ k ≤ l.length ∧ Hid (RowAt w2 wr v (setTo l x k).1)) (fun _ _ i _ => l.length - (intOf i).toNat)
      case atStart => exact ⟨0, _, rfl, rfl, rfl, Nat.zero_le _, HO0.out, below_new _ _⟩
      case round =>
        obtain ⟨k, o, hov, rfl, rfl, hk, HR⟩ := hrel
        subst hov
        obtain ⟨g, cg, rfl, _⟩ := HR.out.own.form
        obtain ⟨b, b0, b1, b2, _, _, _⟩ := HX2.out.below HR.out.below
        have hsl := set_len l x k
        by_cases hlt : k < l.length
        · obtain ⟨ad, rfl, hat⟩ := lims_nth HA.out (HB2.out.trans (HR.out.below.mono HB2.out.size)) hlt
          have HYW : Hid (∀ W, Below w2.heap.size w2 W → LimAt W (ad.add (k * 3)) (nthL l k)) := fun W hb => by
            obtain ⟨a2, ea, h⟩ := lims_nth HA.out (HB2.out.trans (hb.mono HB2.out.size)) hlt
            injection ea with ea
            subst ea
            exact h
          have HN := Lib.hid (set_next (x := x) hlt)
          have i0 : (0 : Int) ≤ (k : Int) := Int.natCast_nonneg _
          have i1 : (k : Int) < (l.length : Int) := by omega
          generalize hM2 : setTo l x (k + 1) = M2 at *
          have HM2 := Lib.hid hM2
          clear hM2
          generalize setTo l x k = P at *
          obtain ⟨M, D⟩ := P
          dsimp only at *
          generalize nthL l k = y at *
          obtain ⟨p, p0, p1, p2⟩ := hat
          cases hS : (y.user.toList == x.user.toList) with
          | true =>
            cases D with
            | true =>
              have HV : Hid (M2 = (M, true)) := by have h := HN.out; unfold setStep sameU lessU at h; rw [hS] at h; exact h.trans (by simp)
              clear HN
              go_wp2_with fail
              go_quiet (fail)
              have HR1 : Hid (RowAt w2 (wr.drewN nq) (.slice (some ⟨g, 0, none⟩) M.length cg) M) := HR.out.drewN nq
              generalize wr.drewN nq = w5 at *
              clear b b0 b1 b2 p p0 p1 p2 HR
              obtain ⟨b, b0, b1, b2, _, _, _⟩ := HX2.out.below HR1.out.below
              obtain ⟨p, p0, p1, p2⟩ := HYW.out _ HR1.out.below
              go_wp2_with fail
              go_quiet (fail)
              have HR7 := Lib.hid (HR1.out.drewN nq)
              generalize w5.drewN nq = w7 at *
              clear b b0 b1 b2 p p0 p1 p2
              go_wp2_with fail
              exact ⟨⟨k + 1, _, rfl, by rw [HM2.out, HV.out], by go_num, by omega, by rw [HM2.out, HV.out]; exact HR7.out⟩, by simp [intOf] <;> omega⟩
            | false =>
              cases hL : Go.Op.bytesLess y.user.toList x.user.toList with
              | true =>
                have HV : Hid (M2 = (M, false)) := by have h := HN.out; unfold setStep sameU lessU at h; rw [hS, hL] at h; exact h.trans (by simp)
                clear HN
                go_wp2_with fail
                go_quiet (fail)
                have HR1 : Hid (RowAt w2 (wr.drewN nq) (.slice (some ⟨g, 0, none⟩) M.length cg) M) := HR.out.drewN nq
                generalize wr.drewN nq = w5 at *
                clear b b0 b1 b2 p p0 p1 p2 HR
                obtain ⟨b, b0, b1, b2, _, _, _⟩ := HX2.out.below HR1.out.below
                obtain ⟨p, p0, p1, p2⟩ := HYW.out _ HR1.out.below
                go_wp2_with fail
                go_quiet (fail)
                have HR7 := Lib.hid (HR1.out.drewN nq)
                generalize w5.drewN nq = w7 at *
                clear b b0 b1 b2 p p0 p1 p2
                go_wp2_with fail
                exact ⟨⟨k + 1, _, rfl, by rw [HM2.out, HV.out], by go_num, by omega, by rw [HM2.out, HV.out]; exact HR7.out⟩, by simp [intOf] <;> omega⟩
              | false =>
                have HV : Hid (M2 = ((M ++ [x]), true)) := by have h := HN.out; unfold setStep sameU lessU at h; rw [hS, hL] at h; exact h.trans (by simp)
                clear HN
                go_wp2_with fail
                go_quiet (fail)
                have HR1 : Hid (RowAt w2 (wr.drewN nq) (.slice (some ⟨g, 0, none⟩) M.length cg) M) := HR.out.drewN nq
                generalize wr.drewN nq = w5 at *
                clear b b0 b1 b2 p p0 p1 p2 HR
                obtain ⟨b, b0, b1, b2, _, _, _⟩ := HX2.out.below HR1.out.below
                obtain ⟨p, p0, p1, p2⟩ := HYW.out _ HR1.out.below
                have HOq3a := Lib.hid (HR1.out.own.alloc (.cells #[.string x.user, .int .i64 x.jobs, .int .i64 x.procs] 24))
                go_wp2_with (at_builtin; refine push_raw lim_t rfl (.tmp 36) (.tmp 38) rfl w2.heap.size _ _ _ rfl HOq3a.out ⟨w5.heap.size, 0, none⟩ 1 1 (limC x) rfl rfl ?h1q3a (limC_cell x) ?h2q3a ?_)
                case h1q3a => exact Raw.alloc w5 #[.string x.user, .int .i64 x.jobs, .int .i64 x.procs] 24
                case h2q3a => first | omega | (simp only [List.length_append, List.length_singleton]; omega)
                intro v6 w6 ho6 hb6
                have HR6 : Hid (RowAt w2 w6 v6 (M ++ [x])) := RowAt.more HR1.out _ ho6 rfl hb6
                clear ho6 hb6 HOq3a b b0 b1 b2 p p0 p1 p2
                obtain ⟨g6, cg6, rfl, _⟩ := HR6.out.own.form
                obtain ⟨b, b0, b1, b2, _, _, _⟩ := HX2.out.below HR6.out.below
                obtain ⟨p, p0, p1, p2⟩ := HYW.out _ HR6.out.below
                have hml : (M ++ [x]).length = M.length + 1 := by simp
                generalize M ++ [x] = M1 at *
                go_wp2_with fail
                go_quiet (fail)
                have HR7 := Lib.hid (HR6.out.drewN nq)
                generalize w6.drewN nq = w7 at *
                clear b b0 b1 b2 p p0 p1 p2
                go_wp2_with fail
                exact ⟨⟨k + 1, _, rfl, by rw [HM2.out, HV.out], by go_num, by omega, by rw [HM2.out, HV.out]; exact HR7.out⟩, by simp [intOf] <;> omega⟩
          | false =>
            cases D with
            | true =>
              have HV : Hid (M2 = ((M ++ [y]), true)) := by have h := HN.out; unfold setStep sameU lessU at h; rw [hS] at h; exact h.trans (by simp)
              clear HN
              go_wp2_with fail
              go_quiet (fail)
              have HR1 : Hid (RowAt w2 (wr.drewN nq) (.slice (some ⟨g, 0, none⟩) M.length cg) M) := HR.out.drewN nq
              generalize wr.drewN nq = w5 at *
              clear b b0 b1 b2 p p0 p1 p2 HR
              obtain ⟨b, b0, b1, b2, _, _, _⟩ := HX2.out.below HR1.out.below
              obtain ⟨p, p0, p1, p2⟩ := HYW.out _ HR1.out.below
              go_wp2_with fail
              go_quiet (fail)
              have HR7 := Lib.hid (HR1.out.drewN nq)
              generalize w5.drewN nq = w7 at *
              clear b b0 b1 b2 p p0 p1 p2
              obtain ⟨p, p0, p1, p2⟩ := HYW.out _ HR7.out.below
              have HOq4b := Lib.hid (HR7.out.own.alloc (.cells #[.string y.user, .int .i64 y.jobs, .int .i64 y.procs] 24))
              go_wp2_with (at_builtin; refine push_raw lim_t rfl (.tmp 48) (.tmp 53) rfl w2.heap.size _ _ _ rfl HOq4b.out ⟨w7.heap.size, 0, none⟩ 1 1 (limC y) rfl rfl ?h1q4b (limC_cell y) ?h2q4b ?_)
              case h1q4b => exact Raw.alloc w7 #[.string y.user, .int .i64 y.jobs, .int .i64 y.procs] 24
              case h2q4b => first | omega | (simp only [List.length_append, List.length_singleton]; omega)
              intro v8 w8 ho8 hb8
              have HR8 : Hid (RowAt w2 w8 v8 (M ++ [y])) := RowAt.more HR7.out _ ho8 (by first | rfl | omega) hb8
              clear ho8 hb8
              go_wp2_with fail
              exact ⟨⟨k + 1, _, rfl, by rw [HM2.out, HV.out], by go_num, by omega, by rw [HM2.out, HV.out]; exact HR8.out⟩, by simp [intOf] <;> omega⟩
            | false =>
              cases hL : Go.Op.bytesLess y.user.toList x.user.toList with
              | true =>
                have HV : Hid (M2 = ((M ++ [y]), false)) := by have h := HN.out; unfold setStep sameU lessU at h; rw [hS, hL] at h; exact h.trans (by simp)
                clear HN
                go_wp2_with fail
                go_quiet (fail)
                have HR1 : Hid (RowAt w2 (wr.drewN nq) (.slice (some ⟨g, 0, none⟩) M.length cg) M) := HR.out.drewN nq
                generalize wr.drewN nq = w5 at *
                clear b b0 b1 b2 p p0 p1 p2 HR
                obtain ⟨b, b0, b1, b2, _, _, _⟩ := HX2.out.below HR1.out.below
                obtain ⟨p, p0, p1, p2⟩ := HYW.out _ HR1.out.below
                go_wp2_with fail
                go_quiet (fail)
                have HR7 := Lib.hid (HR1.out.drewN nq)
                generalize w5.drewN nq = w7 at *
                clear b b0 b1 b2 p p0 p1 p2
                obtain ⟨p, p0, p1, p2⟩ := HYW.out _ HR7.out.below
                have HOq5b := Lib.hid (HR7.out.own.alloc (.cells #[.string y.user, .int .i64 y.jobs, .int .i64 y.procs] 24))
                go_wp2_with (at_builtin; refine push_raw lim_t rfl (.tmp 48) (.tmp 53) rfl w2.heap.size _ _ _ rfl HOq5b.out ⟨w7.heap.size, 0, none⟩ 1 1 (limC y) rfl rfl ?h1q5b (limC_cell y) ?h2q5b ?_)
                case h1q5b => exact Raw.alloc w7 #[.string y.user, .int .i64 y.jobs, .int .i64 y.procs] 24
                case h2q5b => first | omega | (simp only [List.length_append, List.length_singleton]; omega)
                intro v8 w8 ho8 hb8
                have HR8 : Hid (RowAt w2 w8 v8 (M ++ [y])) := RowAt.more HR7.out _ ho8 (by first | rfl | omega) hb8
                clear ho8 hb8
                go_wp2_with fail
                exact ⟨⟨k + 1, _, rfl, by rw [HM2.out, HV.out], by go_num, by omega, by rw [HM2.out, HV.out]; exact HR8.out⟩, by simp [intOf] <;> omega⟩
              | false =>
                have HV : Hid (M2 = (((M ++ [x]) ++ [y]), true)) := by have h := HN.out; unfold setStep sameU lessU at h; rw [hS, hL] at h; exact h.trans (by simp)
                clear HN
                go_wp2_with fail
                go_quiet (fail)
                have HR1 : Hid (RowAt w2 (wr.drewN nq) (.slice (some ⟨g, 0, none⟩) M.length cg) M) := HR.out.drewN nq
                generalize wr.drewN nq = w5 at *
                clear b b0 b1 b2 p p0 p1 p2 HR
                obtain ⟨b, b0, b1, b2, _, _, _⟩ := HX2.out.below HR1.out.below
                obtain ⟨p, p0, p1, p2⟩ := HYW.out _ HR1.out.below
                have HOq6a := Lib.hid (HR1.out.own.alloc (.cells #[.string x.user, .int .i64 x.jobs, .int .i64 x.procs] 24))
                go_wp2_with (at_builtin; refine push_raw lim_t rfl (.tmp 36) (.tmp 38) rfl w2.heap.size _ _ _ rfl HOq6a.out ⟨w5.heap.size, 0, none⟩ 1 1 (limC x) rfl rfl ?h1q6a (limC_cell x) ?h2q6a ?_)
                case h1q6a => exact Raw.alloc w5 #[.string x.user, .int .i64 x.jobs, .int .i64 x.procs] 24
                case h2q6a => first | omega | (simp only [List.length_append, List.length_singleton]; omega)
                intro v6 w6 ho6 hb6
                have HR6 : Hid (RowAt w2 w6 v6 (M ++ [x])) := RowAt.more HR1.out _ ho6 rfl hb6
                clear ho6 hb6 HOq6a b b0 b1 b2 p p0 p1 p2
                obtain ⟨g6, cg6, rfl, _⟩ := HR6.out.own.form
                obtain ⟨b, b0, b1, b2, _, _, _⟩ := HX2.out.below HR6.out.below
                obtain ⟨p, p0, p1, p2⟩ := HYW.out _ HR6.out.below
                have hml : (M ++ [x]).length = M.length + 1 := by simp
                generalize M ++ [x] = M1 at *
                go_wp2_with fail
                go_quiet (fail)
                have HR7 := Lib.hid (HR6.out.drewN nq)
                generalize w6.drewN nq = w7 at *
                clear b b0 b1 b2 p p0 p1 p2
                obtain ⟨p, p0, p1, p2⟩ := HYW.out _ HR7.out.below
                have HOq6b := Lib.hid (HR7.out.own.alloc (.cells #[.string y.user, .int .i64 y.jobs, .int .i64 y.procs] 24))
                go_wp2_with (at_builtin; refine push_raw lim_t rfl (.tmp 48) (.tmp 53) rfl w2.heap.size _ _ _ rfl HOq6b.out ⟨w7.heap.size, 0, none⟩ 1 1 (limC y) rfl rfl ?h1q6b (limC_cell y) ?h2q6b ?_)
                case h1q6b => exact Raw.alloc w7 #[.string y.user, .int .i64 y.jobs, .int .i64 y.procs] 24
                case h2q6b => first | omega | (simp only [List.length_append, List.length_singleton]; omega)
                intro v8 w8 ho8 hb8
                have HR8 : Hid (RowAt w2 w8 v8 (M1 ++ [y])) := RowAt.more HR7.out _ ho8 (by first | rfl | omega) hb8
                clear ho8 hb8
                go_wp2_with fail
                exact ⟨⟨k + 1, _, rfl, by rw [HM2.out, HV.out], by go_num, by omega, by rw [HM2.out, HV.out]; exact HR8.out⟩, by simp [intOf] <;> omega⟩
        · obtain rfl : k = l.length := by omega
          have HB := Lib.hid (HB2.out.trans (HR.out.below.mono HB2.out.size))
          have HOY := Lib.hid (fun h => out_yes (l := l) (x := x) h)
          have HON := Lib.hid (fun h => out_no (l := l) (x := x) h)
          generalize setOut l x = SO at *
          generalize setTo l x l.length = P at *
          obtain ⟨M, D⟩ := P
          dsimp only at *
          cases D with
          | true =>
            have hM : SO = M := HOY.out rfl
            subst hM
            clear HOY HON
            by_cases hq : 50 < SO.length
            · have d3 : decide ((50 : Int) < (SO.length : Int)) = true := decide_eq_true (by omega)
              have HE := Lib.hid (HFULL.out hq)
              have HZ := Lib.hid (HNO.out (by rw [HFULL.out hq]; decide))
              clear HFULL HOK HYES HNO
              go_wp2_with fail
              go_ret2
              rw [HE.out, HZ.out]
              exact pair_nil rfl HB.out
            · have d3 : decide ((50 : Int) < (SO.length : Int)) = false := decide_eq_false (by omega)
              have HE := Lib.hid (HOK.out hq)
              have HZ := Lib.hid (HYES.out (HOK.out hq))
              clear HFULL HOK HYES HNO
              go_wp2_with fail
              go_ret2
              rw [HE.out, HZ.out]
              exact ⟨_, rfl, HR.out.is, HB.out⟩
          | false =>
            have hM : SO = M ++ [x] := HON.out rfl
            have HO := Lib.hid (HR.out.own.alloc (.cells #[.string x.user, .int .i64 x.jobs, .int .i64 x.procs] 24))
            clear HOY HON
            go_wp2_with (at_builtin; refine push_raw lim_t rfl (.tmp 57) (.tmp 59) rfl w2.heap.size _ _ _ rfl HO.out ⟨wr.heap.size, 0, none⟩ 1 1 (limC x) rfl rfl ?hz1 (limC_cell x) ?hz2 ?_)
            case hz1 => exact Raw.alloc wr #[.string x.user, .int .i64 x.jobs, .int .i64 x.procs] 24
            case hz2 => omega
            intro v8 w8 ho8 hb8
            have HR8 : Hid (RowAt w2 w8 v8 (M ++ [x])) := RowAt.more HR.out _ ho8 rfl hb8
            have hml : (M ++ [x]).length = M.length + 1 := by simp
            rw [← hM] at HR8 hml
            have HB8 := Lib.hid (HB2.out.trans (HR8.out.below.mono HB2.out.size))
            clear ho8 hb8 hM
            obtain ⟨g8, cg8, rfl, _⟩ := HR8.out.own.form
            by_cases hq : 50 < SO.length
            · have d3 : decide ((50 : Int) < (SO.length : Int)) = true := decide_eq_true (by omega)
              have HE := Lib.hid (HFULL.out hq)
              have HZ := Lib.hid (HNO.out (by rw [HFULL.out hq]; decide))
              clear HFULL HOK HYES HNO hml
              go_wp2_with fail
              go_ret2
              rw [HE.out, HZ.out]
              exact pair_nil rfl HB8.out
            · have d3 : decide ((50 : Int) < (SO.length : Int)) = false := decide_eq_false (by omega)
              have HE := Lib.hid (HOK.out hq)
              have HZ := Lib.hid (HYES.out (HOK.out hq))
              clear HFULL HOK HYES HNO hml
              go_wp2_with fail
              go_ret2
              rw [HE.out, HZ.out]
              exact ⟨_, rfl, HR8.out.is, HB8.out⟩
  · have HE := Lib.hid (setE_check (x := x) h0)
    have HZ := Lib.hid (setR_no (l := l) (x := x) (by rw [setE_check h0]; exact h0))
    have e0 : (checkL l != 0) = true := by simpa using h0
    generalize checkL l = C at *
    go_enter Try.func9, Try.ntmps9
    go_upto_region 1 with fail
    generalize w.alloc (.cells #[.string x.user, .int .i64 x.jobs, .int .i64 x.procs] 24) = w0 at *
    go_wp2_with fail
    refine (CC.out _ HB0.out).mono ?_
    rintro e w1 ⟨rfl, hb1⟩
    have HB1 := Lib.hid (below_then HB0.out hb1)
    clear hb1
    go_wp2_with fail
    refine (CC.out _ HB1.out).mono ?_
    rintro e w2 ⟨rfl, hb2⟩
    have HB2 := Lib.hid (below_then HB1.out hb2)
    clear hb2
    go_wp2_with fail
    go_ret2
    rw [HE.out, HZ.out]
    exact pair_nil rfl HB2.out
end Go.Proofs.Ytgjmgcmheccdfaa.LimRef
