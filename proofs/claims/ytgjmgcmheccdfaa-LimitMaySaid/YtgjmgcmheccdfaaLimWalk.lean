/-
  The walks of layer 10's code: Set, Drop.
-/
import Derived.Test.YtgjmgcmheccdfaaLimWalkB
import Derived.Test.YtgjmgcmheccdfaaLimWalkC
namespace Go.Proofs.Ytgjmgcmheccdfaa.LimWalk
open Go.RowKit Go.Proofs.Ytgjmgcmheccdfaa.JobPlain Go.Proofs.Ytgjmgcmheccdfaa.ApiPlain Go.Proofs.Ytgjmgcmheccdfaa.LimPlain Go.Proofs.Ytgjmgcmheccdfaa.Mem Go.Proofs.Ytgjmgcmheccdfaa.ApiMem Go.Proofs.Ytgjmgcmheccdfaa.LimRef
set_option maxHeartbeats 1600000 in
theorem insert_none (x : Lim) (vb : Nat) (w : World) (hx : OneAt w vb x) :
    Calls Try.prog 21 #[.slice none 0 0, .int .i64 0, .slice (some ⟨vb, 0, none⟩) 1 1] w (RowSays [x] w.heap.size w) := by
  have HX := Lib.hid hx.raw
  have HO := Lib.hid (OwnN.nil (e := 24) (k := 3) (base := w.heap.size) (w := w) (Nat.le_refl _))
  clear hx
  go_enter Try.func21, Try.ntmps21
  go_wp2_with (at_builtin; refine push_own lim_t rfl (.tmp 23) (.tmp 24) rfl w.heap.size _ _ _ rfl HO.out (.slice (some ⟨vb, 0, none⟩) 1 1) 1 (limC x) rfl rfl (.inr ⟨_, _, rfl, HX.out⟩) (limC_cell x) (by omega) ?_)
  intro v' w' ho' hb' _
  have HR : Hid (RowSays [x] w.heap.size w (.returned v') w') := ⟨_, rfl, Lay.Is.own (L := limL) (n := 0 + 1) (ho'.cast rfl (List.append_nil _).symm) (by simp), hb'⟩
  clear ho' hb'
  go_wp2_with fail
  go_ret
  exact HR.out
theorem lims_set (l : List Lim) (k : Nat) (x : Lim) (hk : k < l.length) : (((limL.vals l).set (k * 3) (.string x.user)).set (k * 3 + 1) (.int .i64 x.jobs)).set (k * 3 + 2) (.int .i64 x.procs) = limL.vals (l.set k x) := by
  induction l generalizing k with
  | nil => simp at hk
  | cons y l ih =>
    have e : limL.vals (y :: l) = .string y.user :: .int .i64 y.jobs :: .int .i64 y.procs :: limL.vals l := rfl
    cases k with
    | zero => rw [e]; rfl
    | succ k =>
      have e2 : limL.vals (y :: l.set k x) = .string y.user :: .int .i64 y.jobs :: .int .i64 y.procs :: limL.vals (l.set k x) := rfl
      rw [e, show (k + 1) * 3 = k * 3 + 1 + 1 + 1 by omega, show k * 3 + 1 + 1 + 1 + 1 = k * 3 + 1 + 1 + 1 + 1 from rfl, show k * 3 + 1 + 1 + 1 + 2 = k * 3 + 2 + 1 + 1 + 1 by omega]
      simp only [List.set_cons_succ]
      rw [ih k (by simpa using hk), e2]
theorem ok_there {l : List Lim} {x : Lim} {k : Nat} (h0 : checkL l = 0) (h1 : oneL x = true) (hf : FindAt l x.user k k) (ht : thereL l x.user k = true) : setE l x = 0 ∧ setR l x = l.set k x := by
  obtain ⟨hl, hg⟩ := checkL_zero h0
  have e := set_there hg hf ht
  have h : setE l x = 0 := setE_ok h0 h1 (by rw [e, List.length_set]; omega)
  exact ⟨h, by rw [setR_yes h, e]⟩
theorem ok_full {l : List Lim} {x : Lim} {k : Nat} (h0 : checkL l = 0) (h1 : oneL x = true) (hk : k ≤ l.length) (hf : FindAt l x.user k k) (ht : thereL l x.user k = false) (hl : l.length = 50) : setE l x = 4 ∧ setR l x = [] := by
  obtain ⟨_, hg⟩ := checkL_zero h0
  have e := set_new hg hf hk ht
  have h : setE l x = 4 := setE_full h0 h1 (by rw [e, new_len hk]; omega)
  exact ⟨h, setR_no (by rw [h]; decide)⟩
theorem ok_new {l : List Lim} {x : Lim} {k : Nat} (h0 : checkL l = 0) (h1 : oneL x = true) (hk : k ≤ l.length) (hf : FindAt l x.user k k) (ht : thereL l x.user k = false) (hl : l.length ≠ 50) : setE l x = 0 ∧ setR l x = l.take k ++ x :: l.drop k := by
  obtain ⟨hl2, hg⟩ := checkL_zero h0
  have e := set_new hg hf hk ht
  have h : setE l x = 0 := setE_ok h0 h1 (by rw [e, new_len hk]; omega)
  exact ⟨h, by rw [setR_yes h, e]⟩
theorem one_at (w : World) (x : Lim) : OneAt (w.alloc (.cells #[.string x.user, .int .i64 x.jobs, .int .i64 x.procs] 24)) w.heap.size x := heap_alloc_new w _
set_option maxRecDepth 100000 in
set_option maxHeartbeats 12800000 in
theorem setS (l : List Lim) (x : Lim) (v : Value) (w : World) (hv : limL.Is l w v) (hs : LimsFit l) (hx : LimFit x) (hl : l.length ≤ 1000) : Calls Try.prog 7 #[v, limV x] w (PairSays (setR l x) (setE l x) w) := by
  have HX := Lib.hid (LimBox.new w x 24)
  have HB0 := Lib.hid (below_new w (.cells #[.string x.user, .int .i64 x.jobs, .int .i64 x.procs] 24))
  have CC : Hid (∀ W, Below w.heap.size w W → Calls Try.prog 11 #[v] W (IntL (checkL l) W)) := fun W hb => checkS l v W (hv.below hb) hs hl
  have CO := Lib.hid (fun W => mayBe_l x W hx)
  have CL : Hid (∀ W, Below w.heap.size w W → Calls Try.prog 19 #[v] W (CloneIs l W)) := fun W hb => clone_l l v W (hv.below hb) (by omega)
  have CP : Hid (checkL l = 0 → ∀ W, Below w.heap.size w W → Calls Try.prog 20 #[v, .string x.user] W (FindSays l x.user W)) := fun h W hb => place_l l x.user v W (hv.below hb) (checkL_zero h).2 hl
  obtain ⟨A, c, rfl, hn, _⟩ := lims_open hv
  clear hv hs hx
  unfold limV at *
  by_cases h0 : checkL l = 0
  · have HONE := Lib.hid (fun h => setE_one (x := x) h0 h)
    have HNO := Lib.hid (fun h => setR_no (l := l) (x := x) h)
    have HC := Lib.hid h0
    have CP := Lib.hid (CP.out h0)
    have e0 : ((0 : Int) != 0) = false := by decide
    rw [h0] at CC
    clear h0
    go_enter Try.func7, Try.ntmps7
    go_upto_region 1 with fail
    generalize w.alloc (.cells #[.string x.user, .int .i64 x.jobs, .int .i64 x.procs] 24) = w0 at *
    go_wp2_with fail
    refine (CC.out _ HB0.out).mono ?_
    rintro e w1 ⟨rfl, hb1⟩
    have HB1 := Lib.hid (below_then HB0.out hb1)
    have HX1 := Lib.hid (HX.out.below hb1)
    obtain ⟨b, b0, b1, b2, _, _, _⟩ := HX1.out
    clear hb1 CC HX HB0
    cases hone : oneL x with
    | false =>
      rw [hone] at CO
      have HE := Lib.hid (HONE.out hone)
      have HZ := Lib.hid (HNO.out (by rw [HONE.out hone]; decide))
      clear hone
      go_wp2_with fail
      refine (CO.out _).mono ?_
      rintro e w2 ⟨rfl, hb2⟩
      have HB2 := Lib.hid (below_then HB1.out hb2)
      clear hb2
      go_wp2_with fail
      go_ret2
      rw [HE.out, HZ.out]
      exact pair_nil rfl HB2.out
    | true =>
      rw [hone] at CO
      have HO1 := Lib.hid hone
      clear hone HONE
      go_wp2_with fail
      refine (CO.out _).mono ?_
      rintro e w2 ⟨rfl, hb2⟩
      have HB2 := Lib.hid (below_then HB1.out hb2)
      have HX2 := Lib.hid (HX1.out.below hb2)
      have CL := Lib.hid (CL.out w2 HB2.out)
      clear hb2 CO HB1 HX1 b b0 b1 b2
      go_wp2_with fail
      refine CL.out.mono ?_
      rintro e w3 ⟨v3, rfl, hr, hb3⟩
      have HB3 := Lib.hid (below_then HB2.out hb3)
      have HX3 := Lib.hid (HX2.out.below hb3)
      have CP := Lib.hid (CP.out w3 HB3.out)
      have HRW := Lib.hid hr
      have HS2 := Lib.hid (show w.heap.size ≤ w2.heap.size from HB2.out.size)
      clear hb3 CL HB2 HX2 hr
      obtain ⟨b, b0, b1, b2, _, _, _⟩ := HX3.out
      go_wp2_with fail
      refine CP.out.mono ?_
      rintro e w4 ⟨k, rfl, hk, hf, hb4⟩
      have HB4 := Lib.hid (below_then HB3.out hb4)
      have HX4 := Lib.hid (HX3.out.below hb4)
      have HF := Lib.hid hf
      have HRW4 : Hid ((v3 = .slice none 0 0 ∧ l = []) ∨ OwnR 24 3 w2.heap.size w4 v3 l.length (limL.vals l)) := by
        rcases HRW.out with h | h
        · exact .inl h
        · exact .inr (h.below hb4)
      clear hb4 CP HB3 HX3 hf b b0 b1 b2 HRW
      obtain ⟨b, b0, b1, b2, _, _, _⟩ := HX4.out
      cases ht : thereL l x.user k with
      | true =>
        have HE := Lib.hid (ok_there HC.out HO1.out HF.out ht)
        have hkl := (there_yes ht).1
        have HR4 : Hid (OwnR 24 3 w2.heap.size w4 v3 l.length (limL.vals l)) := by
          rcases HRW4.out with ⟨_, h⟩ | h
          · rw [h] at hkl; simp at hkl
          · exact h
        obtain ⟨g, cg, rfl, g1, g2, g3, g4, g5, g6⟩ := HR4.out.form
        have f0 := g6 (k * 3)
        have f1 := g6 (k * 3 + 1)
        have f2 := g6 (k * 3 + 2)
        have hat := LimAt.of (Lay.at_ (L := limL) g5 hkl)
        obtain ⟨_, c0, c1, c2⟩ := hat
        rw [add_flat] at c0 c1 c2
        have k0 : (0 : Int) ≤ (k : Int) := Int.natCast_nonneg _
        have k1 : (k : Int) < (l.length : Int) := by omega
        have HRES : Hid (PairSays (l.set k x) 0 w (.returned (.tuple #[.slice (some ⟨g, 0, none⟩) l.length cg, .int .i64 0])) (((w4.setCell ⟨g, k * 3, none⟩ (.string x.user)).setCell ⟨g, k * 3 + 1, none⟩ (.int .i64 x.jobs)).setCell ⟨g, k * 3 + 2, none⟩ (.int .i64 x.procs))) := by
          have h := ((HR4.out.set (k * 3) (.string x.user)).set (k * 3 + 1) (.int .i64 x.jobs)).set (k * 3 + 2) (.int .i64 x.procs)
          rw [lims_set l k x hkl] at h
          exact ⟨_, rfl, Lay.Is.own (L := limL) h.toN (by rw [List.length_set]), ((HB4.out.setCell (p := ⟨g, k * 3, none⟩) (Nat.le_trans HS2.out g1) _).setCell (p := ⟨g, k * 3 + 1, none⟩) (Nat.le_trans HS2.out g1) _).setCell (p := ⟨g, k * 3 + 2, none⟩) (Nat.le_trans HS2.out g1) _⟩
        generalize nthL l k = y at *
        clear ht HRW4 HNO HR4 g5 g6
        have c0' : ∃ q, w4.cell? ⟨g, k * 3, none⟩ = some q := ⟨_, c0⟩
        have c1' : ∃ q, w4.cell? ⟨g, k * 3 + 1, none⟩ = some q := ⟨_, c1⟩
        have c2' : ∃ q, w4.cell? ⟨g, k * 3 + 2, none⟩ = some q := ⟨_, c2⟩
        clear c0 c1 c2
        obtain ⟨q0, c0⟩ := c0'
        obtain ⟨q1, c1⟩ := c1'
        obtain ⟨q2, c2⟩ := c2'
        go_wp2_with fail
        go_ret2
        rw [HE.out.1, HE.out.2]
        exact HRES.out
      | false =>
        by_cases h50 : l.length = 50
        · have HE := Lib.hid (ok_full HC.out HO1.out hk HF.out ht h50)
          have d1 : ((l.length : Int) == 50) = true := by rw [beq_iff_eq]; omega
          clear ht HRW4 HNO h50
          go_wp2_with fail
          go_ret2
          rw [HE.out.1, HE.out.2]
          exact pair_nil rfl HB4.out
        · have HE := Lib.hid (ok_new HC.out HO1.out hk HF.out ht h50)
          have d1 : ((l.length : Int) == 50) = false := by rw [beq_eq_false_iff_ne]; omega
          have d2 : ¬ ((l.length : Int) = 50) := by omega
          have HOA := Lib.hid (one_at w4 x)
          have HBA := Lib.hid (below_new w4 (.cells #[.string x.user, .int .i64 x.jobs, .int .i64 x.procs] 24))
          clear ht HNO h50
          rcases HRW4.out with ⟨rfl, rfl⟩ | hr
          · have hk0 : k = 0 := by simpa using hk
            subst hk0
            have CI := Lib.hid (insert_none x w4.heap.size _ HOA.out)
            clear HRW4
            go_wp2_with fail
            refine CI.out.mono ?_
            rintro e w5 ⟨v5, rfl, h5, hb5⟩
            have HRES : Hid (PairSays ([].take 0 ++ x :: [].drop 0) 0 w (.returned (.tuple #[v5, .int .i64 0])) w5) := ⟨_, rfl, h5, below_then (below_then HB4.out HBA.out) hb5⟩
            clear h5 hb5 CI
            go_wp2_with fail
            go_ret2
            rw [HE.out.1, HE.out.2]
            exact HRES.out
          · obtain ⟨g, cg, rfl, g1, g2, g3, g4, g5, g6⟩ := hr.form
            have CI := Lib.hid (insert_l l x w2.heap.size g cg w4.heap.size k _ (hr.alloc _) HOA.out (by omega) hk hl)
            clear HRW4 hr g5 g6
            go_wp2_with fail
            refine CI.out.mono ?_
            rintro e w5 ⟨v5, rfl, h5, hb5⟩
            have HRES : Hid (PairSays (l.take k ++ x :: l.drop k) 0 w (.returned (.tuple #[v5, .int .i64 0])) w5) := ⟨_, rfl, h5, (below_then HB4.out HBA.out).trans (hb5.mono HS2.out)⟩
            clear h5 hb5 CI
            go_wp2_with fail
            go_ret2
            rw [HE.out.1, HE.out.2]
            exact HRES.out
  · have hne : (checkL l != 0) = true := by simpa using h0
    have HE := Lib.hid (setE_check (x := x) h0)
    have HZ := Lib.hid (setR_no (l := l) (x := x) (by rw [setE_check h0]; exact h0))
    clear h0 CP CL CO
    generalize checkL l = q at *
    go_enter Try.func7, Try.ntmps7
    go_upto_region 1 with fail
    generalize w.alloc (.cells #[.string x.user, .int .i64 x.jobs, .int .i64 x.procs] 24) = w0 at *
    go_wp2_with fail
    refine (CC.out _ HB0.out).mono ?_
    rintro e w1 ⟨rfl, hb1⟩
    have HB1 := Lib.hid (below_then HB0.out hb1)
    clear hb1
    go_wp2_with fail
    go_ret2
    rw [HE.out, HZ.out]
    exact pair_nil rfl HB1.out
theorem gone_there {l : List Lim} {s : ByteArray} {k : Nat} (h0 : checkL l = 0) (hf : FindAt l s k k) (ht : thereL l s k = true) : dropE l s = 0 ∧ dropR l s = l.take k ++ l.drop (k + 1) := by
  obtain ⟨_, hg⟩ := checkL_zero h0
  have e := drop_there hg hf ht
  have h : dropE l s = 0 := dropE_ok h0 (by rw [e]; exact drop_less (there_yes ht).1)
  exact ⟨h, by rw [drop_yes h, e]⟩
theorem gone_none {l : List Lim} {s : ByteArray} {k : Nat} (h0 : checkL l = 0) (hf : FindAt l s k k) (ht : thereL l s k = false) : dropE l s = 3 ∧ dropR l s = [] := by
  obtain ⟨_, hg⟩ := checkL_zero h0
  have h : dropE l s = 3 := dropE_none h0 (by rw [drop_gone hg hf ht])
  exact ⟨h, drop_no (by rw [h]; decide)⟩
set_option maxRecDepth 100000 in
set_option maxHeartbeats 6400000 in
theorem dropS (l : List Lim) (s : ByteArray) (v : Value) (w : World) (hv : limL.Is l w v) (hs : LimsFit l) (hl : l.length ≤ 1000) (hz : s.size ≤ 9223372036854775807) : Calls Try.prog 8 #[v, .string s] w (PairSays (dropR l s) (dropE l s) w) := by
  have CC := Lib.hid (checkS l v w hv hs hl)
  have CL : Hid (∀ W, Below w.heap.size w W → Calls Try.prog 19 #[v] W (CloneIs l W)) := fun W hb => clone_l l v W (hv.below hb) (by omega)
  have CP : Hid (checkL l = 0 → ∀ W, Below w.heap.size w W → Calls Try.prog 20 #[v, .string s] W (FindSays l s W)) := fun h W hb => place_l l s v W (hv.below hb) (checkL_zero h).2 hl
  obtain ⟨A, c, rfl, hn, _⟩ := lims_open hv
  clear hv hs
  by_cases h0 : checkL l = 0
  · have HC := Lib.hid h0
    have CP := Lib.hid (CP.out h0)
    have e0 : ((0 : Int) != 0) = false := by decide
    rw [h0] at CC
    clear h0
    go_enter Try.func8, Try.ntmps8
    go_wp2_with fail
    refine CC.out.mono ?_
    rintro e w1 ⟨rfl, hb1⟩
    have HB1 := Lib.hid hb1
    have CP := Lib.hid (CP.out w1 hb1)
    clear hb1 CC
    go_wp2_with fail
    refine CP.out.mono ?_
    rintro e w2 ⟨k, rfl, hk, hf, hb2⟩
    have HB2 := Lib.hid (below_then HB1.out hb2)
    have HF := Lib.hid hf
    clear hb2 CP hf HB1
    cases ht : thereL l s k with
    | false =>
      have HE := Lib.hid (gone_none HC.out HF.out ht)
      clear ht
      go_wp2_with fail
      go_ret2
      rw [HE.out.1, HE.out.2]
      exact pair_nil rfl HB2.out
    | true =>
      have HE := Lib.hid (gone_there HC.out HF.out ht)
      have hkl := (there_yes ht).1
      have CL := Lib.hid (CL.out w2 HB2.out)
      have HS2 := Lib.hid (show w.heap.size ≤ w2.heap.size from HB2.out.size)
      have k0 : (0 : Int) ≤ (k : Int) := Int.natCast_nonneg _
      have k1 : (k : Int) < (l.length : Int) := by omega
      clear ht
      go_wp2_with fail
      refine CL.out.mono ?_
      rintro e w3 ⟨v3, rfl, hr, hb3⟩
      have HB3 := Lib.hid (below_then HB2.out hb3)
      have HR3 : Hid (OwnR 24 3 w2.heap.size w3 v3 l.length (limL.vals l)) := by
        rcases hr with ⟨_, h⟩ | h
        · rw [h] at hkl; simp at hkl
        · exact h
      clear hb3 CL HB2 hr
      obtain ⟨g, cg, rfl, g1, g2, g3, g4, g5, g6⟩ := HR3.out.form
      have CD := Lib.hid (delete_l l w2.heap.size g cg k w3 HR3.out.1 HR3.out.2.2 hkl hl)
      clear HR3 g1 g2 g3 g4 g5 g6
      go_wp2_with fail
      refine CD.out.mono ?_
      rintro e w4 ⟨v4, rfl, h4, hb4⟩
      have HRES : Hid (PairSays (l.take k ++ l.drop (k + 1)) 0 w (.returned (.tuple #[v4, .int .i64 0])) w4) := ⟨_, rfl, h4, HB3.out.trans (hb4.mono HS2.out)⟩
      clear h4 hb4 CD
      go_wp2_with fail
      go_ret2
      rw [HE.out.1, HE.out.2]
      exact HRES.out
  · have hne : (checkL l != 0) = true := by simpa using h0
    have HE := Lib.hid (dropE_check (s := s) h0)
    have HZ := Lib.hid (drop_no (l := l) (s := s) (by rw [dropE_check h0]; exact h0))
    clear h0 CP CL
    generalize checkL l = q at *
    go_enter Try.func8, Try.ntmps8
    go_wp2_with fail
    refine CC.out.mono ?_
    rintro e w1 ⟨rfl, hb1⟩
    go_wp2_with fail
    go_ret2
    rw [HE.out, HZ.out]
    exact pair_nil rfl hb1
end Go.Proofs.Ytgjmgcmheccdfaa.LimWalk
