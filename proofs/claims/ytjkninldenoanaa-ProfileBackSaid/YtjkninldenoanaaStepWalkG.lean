/-
  The walk of layer 4's code: Add.
-/
import Derived.Test.YtjkninldenoanaaStepWalkF
import Derived.Deep.RegionHeld3
namespace Go.Proofs.Ytjkninldenoanaa.StepWalk
open Go.RowKit Go.Proofs.Ytjkninldenoanaa.SpanPlain Go.Proofs.Ytjkninldenoanaa.StepPlain Go.Proofs.Ytjkninldenoanaa.Mem Go.Proofs.Ytjkninldenoanaa.SpanMem Go.Proofs.Ytjkninldenoanaa.StepMem Go.Proofs.Ytjkninldenoanaa.SpanRef Go.Proofs.Ytjkninldenoanaa.StepRef

theorem addp_ways (s : List Sp) (x : Sp) (n : Int) : (chkB s = false ∧ Hid (AddIs s x n [])) ∨ (chkB s = true ∧ mayB x = false ∧ Hid (AddIs s x n [])) ∨ (chkB s = true ∧ mayB x = true ∧ decide (n < -256) = true ∧ Hid (AddIs s x n [])) ∨
    (chkB s = true ∧ mayB x = true ∧ decide (n < -256) = false ∧ decide (256 < n) = true ∧ Hid (AddIs s x n [])) ∨ (chkB s = true ∧ mayB x = true ∧ decide (n < -256) = false ∧ decide (256 < n) = false ∧ Hid (¬ addBad s x n)) := by
  cases h1 : chkB s with
  | false => exact .inl ⟨rfl, .inl ⟨.inl h1, rfl⟩⟩
  | true =>
    cases h2 : mayB x with
    | false => exact .inr (.inl ⟨rfl, rfl, .inl ⟨.inr (.inl h2), rfl⟩⟩)
    | true =>
      by_cases h3 : n < -256
      · exact .inr (.inr (.inl ⟨rfl, rfl, decide_eq_true h3, .inl ⟨.inr (.inr (.inl h3)), rfl⟩⟩))
      · by_cases h4 : 256 < n
        · exact .inr (.inr (.inr (.inl ⟨rfl, rfl, decide_eq_false h3, decide_eq_true h4, .inl ⟨.inr (.inr (.inr h4)), rfl⟩⟩)))
        · exact .inr (.inr (.inr (.inr ⟨rfl, rfl, decide_eq_false h3, decide_eq_false h4, fun h => by
            rcases h with h | h | h | h
            · rw [h1] at h; cases h
            · rw [h2] at h; cases h
            · exact h3 h
            · exact h4 h⟩)))
theorem add_nil {s : List Sp} {x : Sp} {n : Int} (h : AddIs s x n []) {w w' : World} (hb : Below w.heap.size w w') : AddSays s x n w (.returned (.slice none 0 0)) w' := ⟨_, [], rfl, .inl ⟨rfl, rfl⟩, h, hb, NewAt.nil⟩
theorem OwnR.rebase {e : TypeId} {k base base' n : Nat} {w : World} {v : Value} {xs : List Value} (h : OwnR e k base w v n xs) (hb : base' ≤ base) : OwnR e k base' w v n xs := ⟨(OwnN.rebase h.toN hb).1, h.2.1, Nat.le_trans hb h.2.2⟩

theorem svals_set2 (l : List Sp) : ∀ (k : Nat) (z : Int), k < l.length → (svals l).set (k * 2 + 1) (.int .i64 z) = svals (l.set k ((nth l k).1, z)) := by
  induction l with
  | nil => intro k y h; simp at h
  | cons s l ih =>
    intro k z h
    have e : svals (s :: l) = .int .i64 s.1 :: .int .i64 s.2 :: svals l := rfl
    cases k with
    | zero => rfl
    | succ k =>
      have e2 : svals ((s :: l).set (k + 1) ((nth (s :: l) (k + 1)).1, z)) = .int .i64 s.1 :: .int .i64 s.2 :: svals (l.set k ((nth l k).1, z)) := rfl
      rw [e, show (k + 1) * 2 + 1 = k * 2 + 1 + 1 + 1 by omega, List.set_cons_succ, List.set_cons_succ, ih k z (by simpa using h), e2]
/-- How the loop of Add stands. -/
def AddLoop (w : World) (m : List Sp) (f : Int) (x : Sp) (n : Int) (a g cg : Nat) (wr : World) (i : Nat) : Prop :=
  OwnR 62 2 (w.heap.size + 1) wr (.slice (some ⟨g, 0, none⟩) m.length cg) m.length (svals (bump n m a (i - a))) ∧ (∀ j, a ≤ j → j < i → 0 ≤ (nth m j).2 + n ∧ (nth m j).2 + n ≤ 256) ∧ Box2 wr w.heap.size (.int .i64 f) (.int .i64 x.2) ∧ Below w.heap.size w wr
theorem AddLoop.cells {w wr : World} {m : List Sp} {f : Int} {x : Sp} {n : Int} {a g cg i : Nat} (h : AddLoop w m f x n a g cg wr i) (ha : a ≤ i) (hi : i < m.length) :
    wr.cell? ⟨g, i * 2, none⟩ = some (.int .i64 (nth m i).1) ∧ wr.cell? ⟨g, i * 2 + 1, none⟩ = some (.int .i64 (nth m i).2) ∧ wr.frozen? ⟨g, i * 2 + 1, none⟩ = false ∧ g < wr.heap.size ∧ w.heap.size + 1 ≤ g := by
  have e : nth (bump n m a (i - a)) i = nth m i := by rw [bump_at (by omega), if_neg (by omega)]
  have hl : i < (bump n m a (i - a)).length := by rw [bump_len]; exact hi
  obtain ⟨h1, h2, _, h4, h5, h6⟩ := own_cells h.1 hl
  rw [e] at h1 h2
  exact ⟨h1, h2, h4, h5, h6⟩
theorem AddLoop.next {w wr wq : World} {m : List Sp} {f : Int} {x : Sp} {n : Int} {a g cg i q : Nat} (h : AddLoop w m f x n a g cg wr i) (ha : a ≤ i) (hi : i < m.length) (hf : 0 ≤ (nth m i).2 + n ∧ (nth m i).2 + n ≤ 256) (hg : w.heap.size + 1 ≤ g) (hw : wq = wr.drewN q) :
    AddLoop w m f x n a g cg (wq.setCell ⟨g, i * 2 + 1, none⟩ (.int .i64 ((nth m i).2 + n))) (i + 1) := by
  subst hw
  obtain ⟨h1, h2, h3, h4⟩ := h
  have e : nth (bump n m a (i - a)) i = nth m i := by rw [bump_at (by omega), if_neg (by omega)]
  refine ⟨((h1.drewN q).set (i * 2 + 1) (.int .i64 ((nth m i).2 + n))).cast rfl ?_, fun j h5 h6 => ?_, (h3.drewN q).set_other (by show g ≠ w.heap.size; omega) _, (below_drewN h4 q).setCell (p := ⟨g, i * 2 + 1, none⟩) (by show w.heap.size ≤ g; omega) _⟩
  · rw [svals_set2 _ i _ (by rw [bump_len]; exact hi), e, show i + 1 - a = (i - a) + 1 by omega]
    show _ = svals ((bump n m a (i - a)).set (a + (i - a)) ((nth m (a + (i - a))).1, (nth m (a + (i - a))).2 + n))
    rw [show a + (i - a) = i by omega]
  · by_cases h7 : j = i
    · subst h7; exact hf
    · exact h2 j h5 (by omega)
theorem AddLoop.below {w wr wq : World} {m : List Sp} {f : Int} {x : Sp} {n : Int} {a g cg i q : Nat} (h : AddLoop w m f x n a g cg wr i) (hg : w.heap.size + 1 ≤ g) (hw : wq = wr.drewN q) (u : Value) : Below w.heap.size w (wq.setCell ⟨g, i * 2 + 1, none⟩ u) := by
  subst hw
  exact (below_drewN h.2.2.2 q).setCell (p := ⟨g, i * 2 + 1, none⟩) (by show w.heap.size ≤ g; omega) _

set_option maxRecDepth 100000 in
set_option maxHeartbeats 3200000 in
theorem addS (s : List Sp) (x : Sp) (n : Int) (v : Value) (w : World) (hv : SpansIs s w v) (hl : s.length ≤ 1000) : Calls Try.prog 29 #[v, spV x, .int .i64 n] w (AddSays s x n w) := by
  have HB0 := Lib.hid (below_alloc w (.cells #[.int .i64 x.1, .int .i64 x.2] 25))
  have HX0 := Lib.hid (Box2.new w (.int .i64 x.1) (.int .i64 x.2) 25)
  have CC := Lib.hid (checkS s v _ (hv.below HB0.out) hl)
  have CM : Hid (∀ W, Calls Try.prog 41 #[.agg #[.int .i64 x.1, .int .i64 x.2]] W (BoolIs (mayB x) W)) := fun W => mayS x W
  have HV := Lib.hid hv
  obtain ⟨A, c, rfl, hn, hA⟩ := hv.open2
  have HA := Lib.hid hA
  clear hA hv
  unfold spV
  rcases addp_ways s x n with ⟨hc, HR⟩ | ⟨hc, hm, HR⟩ | ⟨hc, hm, h1, HR⟩ | ⟨hc, hm, h1, h2, HR⟩ | ⟨hc, hm, h1, h2, HR⟩
  · rw [hc] at CC
    clear hc
    go_enter Try.func29, Try.ntmps29
    go_wp2_with fail
    refine CC.out.mono ?_
    rintro e w1 ⟨rfl, hb1⟩
    have HB1 := Lib.hid hb1
    clear hb1
    go_wp2_with fail
    go_ret
    exact add_nil HR.out (below_then HB0.out HB1.out)
  all_goals
    rw [hc] at CC
    rw [hm] at CM
    have HC := Lib.hid ((chk_iff s).1 hc)
    clear hc hm
    go_enter Try.func29, Try.ntmps29
    go_wp2_with fail
    refine CC.out.mono ?_
    rintro e w1 ⟨rfl, hb1⟩
    obtain ⟨b0, b1, b2, _, _⟩ := HX0.out.below hb1
    have HB1 := Lib.hid (below_then HB0.out hb1)
    have HX1 := Lib.hid (HX0.out.below hb1)
    clear hb1 HX0 HB0 CC
    go_wp2_with fail
    refine (CM.out _).mono ?_
    rintro e w2 ⟨rfl, hb2⟩
    have HB2 := Lib.hid (below_then HB1.out hb2)
    have HX2 := Lib.hid (HX1.out.below hb2)
    clear hb2 HX1 HB1 b0 b1 b2 CM
  · go_wp2_with fail
    go_ret
    exact add_nil HR.out HB2.out
  · go_wp2_with fail
    go_ret
    exact add_nil HR.out HB2.out
  · go_wp2_with fail
    go_ret
    exact add_nil HR.out HB2.out
  · have hp : 0 < s.length := HC.out.pos
    have hlz : (0 : Int) < (s.length : Int) := by omega
    obtain ⟨ad, rfl, had, c1, _⟩ := pair_zero (HA.out.below HB2.out) hp
    have hh : (spCell s 0).1 = .int .i64 (head s) := rfl
    rw [hh] at c1
    obtain ⟨b0, b1, b2, b3, b4⟩ := HX2.out
    have HMAX : Hid (max x.1 (head s) = max x.1 (head s)) := rfl
    have HEARLY := Lib.hid (fun h => add_early HR.out (x := x) h)
    clear hh
    go_wp2_with fail
    go_region
    have HX3 : Hid (Box2 (w2.setCell ⟨w.heap.size, 0, none⟩ (.int .i64 (max x.1 (head s)))).drew w.heap.size (.int .i64 (max x.1 (head s))) (.int .i64 x.2)) := (HX2.out.set0 (.int .i64 (max x.1 (head s)))).drewN 1
    have HB3 : Hid (Below w.heap.size w (w2.setCell ⟨w.heap.size, 0, none⟩ (.int .i64 (max x.1 (head s)))).drew) := (HB2.out.setCell (p := ⟨w.heap.size, 0, none⟩) (Nat.le_refl _) _).drew
    generalize (w2.setCell ⟨w.heap.size, 0, none⟩ (.int .i64 (max x.1 (head s)))).drew = w3 at *
    clear b0 b1 b2 b3 b4 c1 HX2 HB2 had HMAX
    obtain ⟨b0, b1, b2, _, _⟩ := HX3.out
    obtain ⟨hck, hmx, hn1, hn2⟩ := not_addBad HR.out
    have hft : head s ≤ max x.1 (head s) := by omega
    have HF : Hid (max x.1 (head s) = max x.1 (head s)) := rfl
    by_cases hxf : x.2 ≤ max x.1 (head s)
    · have HI := Lib.hid (HEARLY.out hxf)
      have hxf2 : decide (x.2 ≤ max x.1 (head s)) = true := decide_eq_true hxf
      have CK := Lib.hid (cloneS ad s.length c (svals s) w3 (svals_len s) (by omega) (raw_of (HV.out.below HB3.out)) (svals_cell s))
      generalize max x.1 (head s) = f at *
      clear HEARLY hxf HF hft hck hmx
      go_wp2_with fail
      refine CK.out.mono ?_
      rintro e w4 ⟨v4, rfl, ho4, hb4⟩
      have HO4 := Lib.hid ho4
      have HB4 := Lib.hid (below_then HB3.out hb4)
      clear ho4 hb4 CK
      go_wp2_with fail
      go_ret
      exact ⟨_, s, rfl, OwnR.spans HO4.out rfl, HI.out, HB4.out, NewAt.own HO4.out.toN HB3.out.size⟩
    · have hxf2 : decide (x.2 ≤ max x.1 (head s)) = false := decide_eq_false hxf
      have CC1 : Hid (Calls Try.prog 44 #[.slice (some ad) s.length c, .int .i64 (max x.1 (head s))] w3.drew (CutSays s (max x.1 (head s)) w3.drew)) :=
        cutS s _ _ w3.drew (HV.out.below HB3.out.drew) hck.up hp hft (by omega)
      have CC2 : Hid (∀ W k v, LastIs s (max x.1 (head s)) k → SpansIs (cutL s (max x.1 (head s)) k) W v → Calls Try.prog 44 #[v, .int .i64 x.2] W (CutSays (cutL s (max x.1 (head s)) k) x.2 W)) :=
        fun W k v hk hs => cutS _ _ v W hs (cut_up hck.up hk) (by have := (cut_len (t := max x.1 (head s)) hk.lt).2; omega) (by rw [cut_head hk]; omega) (by have := (cut_len (t := max x.1 (head s)) hk.lt).1; omega)
      have hbx : w.heap.size < w3.heap.size := b0
      generalize hff : max x.1 (head s) = f at *
      have HFF := Lib.hid hff
      clear hff HEARLY HF
      go_wp2_with fail
      go_region_held3 (fun w' => w'.cell? ⟨w.heap.size, 0, none⟩ = some (.int .i64 f) ∧ w'.cell? ⟨w.heap.size, 1, none⟩ = some (.int .i64 x.2))
        (first | go_keep | (go_split_ands; exact ⟨(hb5.cell (p := ⟨w.heap.size, 0, none⟩) (by first | exact hbx | (simp; omega))).trans (by assumption), (hb5.cell (p := ⟨w.heap.size, 1, none⟩) (by first | exact hbx | (simp; omega))).trans (by assumption)⟩) | (go_split_ands; exact ⟨(hb7.cell (p := ⟨w.heap.size, 0, none⟩) (Nat.lt_of_lt_of_le hbx hb5.size)).trans (by assumption), (hb7.cell (p := ⟨w.heap.size, 1, none⟩) (Nat.lt_of_lt_of_le hbx hb5.size)).trans (by assumption)⟩))
        (first | (go_at_call_of 44 (Value.slice (some ad) s.length c); (refine CC1.out.mono ?_; rintro e w5 ⟨v5, k5, rfl, hk5, ho5, hb6⟩; have hb5 := below_of_drew hb6; clear hb6)) | (go_at_call 44; (refine (CC2.out _ _ _ hk5 (OwnR.spans ho5 rfl)).mono ?_; rintro e w6 ⟨v6, k6, rfl, hk6, ho6, hb7⟩)))
      obtain ⟨a, b, hcut, hab, hun⟩ := cuts_is hck hft (by omega) hmx.2.2 hk5 hk6
      have hml := hcut.len
      have hbl := hcut.lt_b
      have hoR : OwnR 62 2 (w.heap.size + 1) w6 v6 _ _ := OwnR.rebase ho6 (Nat.le_trans hbx hb5.size)
      generalize cutL (cutL s f k5) x.2 k6 = m at *
      obtain ⟨g, cg, rfl, _, _, hmc, _, _, _⟩ := hoR.form
      have HB6 := Lib.hid (HB3.out.trans ((below_then hb5 hb7).mono HB3.out.size))
      have HX6 := Lib.hid (HX3.out.below (below_then hb5 hb7))
      have HCUT := Lib.hid hcut
      have HO6 := Lib.hid hoR
      have CL2 := Lib.hid (lastS m f _ w6 (OwnR.spans hoR rfl) hcut.up (by omega) (by rw [hcut.hd]; exact hft) (by omega))
      have HUN := Lib.hid hun
      clear hcut hoR ho5 ho6 hb5 hb7 hk5 hk6 hun CC1 CC2 HB3 HX3 b0 b1 b2
      go_wp2_with fail
      refine CL2.out.mono ?_
      rintro e w7 ⟨k7, rfl, hk7, hb8⟩
      obtain rfl := HUN.out k7 hk7
      have HLA : Hid (AddLoop w m f x n k7 g cg w7 k7) := ⟨by rw [Nat.sub_self]; exact HO6.out.below hb8, fun j h1 h2 => by omega, HX6.out.below hb8, HB6.out.trans (hb8.mono HB6.out.size)⟩
      clear hk7 hb8 CL2 HUN HB6 HX6 HO6
      go_wp2_with fail
      go_loopw [8] (fun o wr => ∃ i : Nat, o = .int .i64 i ∧ k7 ≤ i ∧ i ≤ b ∧ Hid (AddLoop w m f x n k7 g cg wr i)) (fun o _ => b - (intOf o).toNat)
      case atStart => exact ⟨k7, rfl, Nat.le_refl _, by omega, HLA.out⟩
      case round =>
        obtain ⟨i, rfl, hi1, hi2, HL⟩ := hrel
        obtain ⟨c1, c2, c3, c4, c5⟩ := HL.out.cells hi1 (by omega)
        obtain ⟨b0, b1, b2, _, _⟩ := HL.out.2.2.1
        have i0 : (0 : Int) ≤ (i : Int) := Int.natCast_nonneg _
        have i1 : (i : Int) < (m.length : Int) := by omega
        by_cases hlt : i < b
        · have hx2 : decide ((nth m i).1 < x.2) = true := by
            have h3 := HCUT.out.up.lt hlt HCUT.out.lt_b
            have h4 := HCUT.out.at_b
            exact decide_eq_true (by omega)
          obtain ⟨s1, s2⟩ := HCUT.out.snd _ (nth_mem (show i < m.length by omega))
          have CF := Lib.hid (fun W => isFreeS ((nth m i).2 + n) W)
          have HOUT : Hid (¬ (0 ≤ (nth m i).2 + n ∧ (nth m i).2 + n ≤ 256) → AddIs s x n []) := fun h => by
            have hc2 := HCUT.out
            rw [← HFF.out] at hc2
            exact cuts_out HR.out hc2 hi1 hlt h
          have HNX : Hid (∀ q, 0 ≤ (nth m i).2 + n ∧ (nth m i).2 + n ≤ 256 → AddLoop w m f x n k7 g cg ((wr.drewN q).setCell ⟨g, i * 2 + 1, none⟩ (.int .i64 ((nth m i).2 + n))) (i + 1)) := fun q h => HL.out.next hi1 (by omega) h c5 rfl
          have HBN : Hid (∀ q u, Below w.heap.size w ((wr.drewN q).setCell ⟨g, i * 2 + 1, none⟩ u)) := fun q u => HL.out.below c5 rfl u
          generalize nth m i = y at *
          clear HL
          by_cases hr : 0 ≤ y.2 + n ∧ y.2 + n ≤ 256
          · have hfb : freeB (y.2 + n) = true := by unfold freeB; rw [decide_eq_true hr.1, decide_eq_true hr.2]; rfl
            rw [hfb] at CF
            have HN := Lib.hid (fun q => HNX.out q hr)
            clear hfb HNX HOUT
            go_wp2_with fail
            go_quiet (fail)
            go_wp2_with fail
            refine (CF.out _).mono ?_
            rintro e w9 ⟨rfl, rfl⟩
            go_wp2_with fail
            exact ⟨⟨i + 1, by go_num, by omega, by omega, HN.out _⟩, by simp [intOf] <;> omega⟩
          · have hfb : freeB (y.2 + n) = false := by
              unfold freeB
              simp only [Bool.and_eq_false_iff, decide_eq_false_iff_not]
              omega
            rw [hfb] at CF
            have HI := Lib.hid (HOUT.out hr)
            clear hfb HNX HOUT hr
            go_wp2_with fail
            go_quiet (fail)
            go_wp2_with fail
            refine (CF.out _).mono ?_
            rintro e w9 ⟨rfl, rfl⟩
            go_wp2_with fail
            go_ret
            exact add_nil HI.out (HBN.out _ _)
        · obtain rfl : i = b := by omega
          have hx2 : decide ((nth m i).1 < x.2) = false := by
            have h4 := HCUT.out.at_b
            exact decide_eq_false (by omega)
          have HDONE : Hid (AddIs s x n (joinL (bump n m k7 (i - k7)))) := by
            have hc2 := HCUT.out
            rw [← HFF.out] at hc2
            exact cuts_done HR.out hc2 hi1 HL.out.2.1
          have CJ : Hid (∀ q, Calls Try.prog 39 #[.slice (some ⟨g, 0, none⟩) m.length cg] (wr.drewN q) (JoinSays (bump n m k7 (i - k7)) (w.heap.size + 1) (wr.drewN q))) := fun q => by
            have hl := bump_len n m k7 (i - k7)
            have := joinedS (bump n m k7 (i - k7)) (w.heap.size + 1) g cg (wr.drewN q) (by rw [hl]; exact HL.out.1.drewN q) (by rw [hl]; exact hmc) (by rw [hl]; omega)
            rwa [hl] at this
          have HBN : Hid (∀ q, Below w.heap.size w (wr.drewN q)) := fun q => below_drewN HL.out.2.2.2 q
          generalize nth m i = y at *
          clear HL
          go_wp2_with fail
          go_quiet (fail)
          go_wp2_with fail
          refine (CJ.out _).mono ?_
          rintro e w9 ⟨v9, rfl, hs9, hb9, hn9⟩
          have HN9 := Lib.hid (hn9.mono (Nat.le_succ _))
          have HS9 := Lib.hid hs9
          have HB9 := Lib.hid ((HBN.out _).trans (hb9.mono (Nat.le_succ _)))
          clear hs9 hb9 hn9
          go_wp2_with fail
          go_ret
          exact ⟨_, _, rfl, HS9.out, HDONE.out, HB9.out, HN9.out⟩
end Go.Proofs.Ytjkninldenoanaa.StepWalk
