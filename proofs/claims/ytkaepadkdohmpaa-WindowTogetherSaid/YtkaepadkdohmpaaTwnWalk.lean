/-
  The walk of layer 13's Best (Sums: XTwnWalkA, Fits: XTwnWalkF).
-/
import Derived.Test.YtkaepadkdohmpaaTwnWalkA
namespace Go.Proofs.Ytkaepadkdohmpaa.TwnWalk
open Go.RowKit Go.Proofs.Ytkaepadkdohmpaa.SubPlain Go.Proofs.Ytkaepadkdohmpaa.ApiPlain Go.Proofs.Ytkaepadkdohmpaa.TwnPlain Go.Proofs.Ytkaepadkdohmpaa.Mem Go.Proofs.Ytkaepadkdohmpaa.ApiMem Go.Proofs.Ytkaepadkdohmpaa.SubRef Go.Proofs.Ytkaepadkdohmpaa.TwnRef Go.Proofs.Ytkaepadkdohmpaa.SubWalk
theorem room_is {n : Int} (h : roomT n = true) : 0 ≤ n ∧ n ≤ 256 := by
  unfold roomT at h
  rwa [Bool.and_eq_true, decide_eq_true_eq, decide_eq_true_eq] at h
theorem room_no {n : Int} (h : roomT n = false) : n < 0 ∨ 256 < n := by
  unfold roomT at h
  rw [Bool.and_eq_false_iff, decide_eq_false_iff_not, decide_eq_false_iff_not] at h
  omega
theorem fineT_ways (l : List Itm) (room long : Int) : (mayT l = false ∧ badT l room long = true) ∨ (mayT l = true ∧ roomT room = false ∧ badT l room long = true) ∨ (mayT l = true ∧ roomT room = true ∧ roomT long = false ∧ badT l room long = true) ∨
    (mayT l = true ∧ roomT room = true ∧ roomT long = true ∧ badT l room long = false) := by
  unfold badT
  cases hm : mayT l
  · exact .inl ⟨rfl, rfl⟩
  · cases h1 : roomT room
    · refine .inr (.inl ⟨rfl, rfl, ?_⟩)
      rcases room_no h1 with h | h
      · rw [decide_eq_true h]; rfl
      · rw [decide_eq_true h, Bool.or_true]; rfl
    · have r1 := room_is h1
      cases h2 : roomT long
      · refine .inr (.inr (.inl ⟨rfl, rfl, rfl, ?_⟩))
        rcases room_no h2 with h | h
        · rw [decide_eq_true (p := long < 0) h, Bool.or_true]; rfl
        · rw [decide_eq_true (p := 256 < long) h, Bool.or_true]
      · have r2 := room_is h2
        refine .inr (.inr (.inr ⟨rfl, rfl, rfl, ?_⟩))
        rw [decide_eq_false (by omega), decide_eq_false (by omega), decide_eq_false (by omega), decide_eq_false (by omega)]
        rfl
/-- How the second loop stands: the places so far. -/
structure PickT (n : Nat) (w1 : World) (b k : Nat) (v : Value) (wr : World) : Prop where
  own : OwnN 3 1 w1.heap.size wr v (placesTo n b k).length (ivals (placesTo n b k))
  below : Below w1.heap.size w1 wr
theorem PickT.skip {n : Nat} {w1 : World} {b k : Nat} {v : Value} {wr w' : World} (h : PickT n w1 b k v wr) (hb : b.testBit (n - 1 - k) = false) (hw : Below wr.heap.size wr w') : PickT n w1 b (k + 1) v w' := by
  have e : placesTo n b (k + 1) = placesTo n b k := by rw [placesTo_succ, hb]; simp
  exact ⟨by rw [e]; exact h.own.below hw, h.below.trans (hw.mono h.below.size)⟩
theorem PickT.take {n : Nat} {w1 : World} {b k : Nat} {v : Value} {wr : World} (h : PickT n w1 b k v wr) (hb : b.testBit (n - 1 - k) = true) (v' : Value) (w' : World)
    (ho : OwnN 3 1 w1.heap.size w' v' ((placesTo n b k).length + 1) (ivals (placesTo n b k) ++ [.int .i64 k])) (hw : Below w1.heap.size wr w') : PickT n w1 b (k + 1) v' w' := by
  have e : placesTo n b (k + 1) = placesTo n b k ++ [(k : Int)] := by rw [placesTo_succ, hb]; simp
  exact ⟨by rw [e]; exact ho.cast (by simp) (by simp [ivals]), h.below.trans hw⟩
theorem fresh_nil_n (B : Nat) : FreshV B (.slice none 0 0) := fun a n c h => by cases h
set_option maxRecDepth 100000 in
set_option maxHeartbeats 3200000 in
theorem bestTS0 (l : List Itm) (room long : Int) (v : Value) (w : World) (hv : ItmsAt l w v) (hl : l.length ≤ 50) : Calls Try.prog 18 #[v, .int .i64 room, .int .i64 long] w (TBestSays l room long w) := by
  have CM := Lib.hid (may_i l v w hv (by omega))
  have CR := Lib.hid (room_i room)
  have CL := Lib.hid (room_i long)
  have CB := Lib.hid (fun hw R hR w1 (h1 : Below w.heap.size w w1) => behind_n l R v w1 (hv.below h1) hw (by omega) hR)
  have CP := Lib.hid part_i
  obtain ⟨A, c, rfl, hc, hA⟩ := hv
  have HA := Lib.hid hA
  clear hA
  rcases fineT_ways l room long with ⟨h1, h2⟩ | ⟨h1, h3, h2⟩ | ⟨h1, h3, h4, h2⟩ | ⟨h1, h3, h4, h2⟩
  · rw [h1] at CM
    have HX := Lib.hid (badT_l h2)
    clear h1 h2 CB CP
    go_enter Try.func18, Try.ntmps18
    go_wp2_with (go_at_call 33; refine CM.out.mono ?_; rintro e w1 ⟨rfl, hb1⟩)
    go_ret3
    exact ⟨.slice none 0 0, by rw [HX.out.2.1, HX.out.2.2]; rfl, by rw [HX.out.1]; exact IntsAt.nil _, fresh_nil_n _, hb1⟩
  · rw [h1] at CM
    rw [h3] at CR
    have HX := Lib.hid (badT_l h2)
    clear h1 h2 h3 CB CP
    go_enter Try.func18, Try.ntmps18
    go_wp2_with (first | (go_at_call 33; refine CM.out.mono ?_; rintro e w1 ⟨rfl, hb1⟩) | (go_at_call_of 34 (Value.int .i64 room); refine (CR.out _).mono ?_; rintro e w2 ⟨rfl, rfl⟩))
    go_ret3
    exact ⟨.slice none 0 0, by rw [HX.out.2.1, HX.out.2.2]; rfl, by rw [HX.out.1]; exact IntsAt.nil _, fresh_nil_n _, hb1⟩
  · rw [h1] at CM
    rw [h3] at CR
    rw [h4] at CL
    have HX := Lib.hid (badT_l h2)
    clear h1 h2 h3 h4 CB CP
    go_enter Try.func18, Try.ntmps18
    go_wp2_with (first | (go_at_call 33; refine CM.out.mono ?_; rintro e w1 ⟨rfl, hb1⟩) | (go_at_call_of 34 (Value.int .i64 room); refine (CR.out _).mono ?_; rintro e w2 ⟨rfl, rfl⟩) | (go_at_call_of 34 (Value.int .i64 long); refine (CL.out _).mono ?_; rintro e w2 ⟨rfl, rfl⟩))
    go_ret3
    exact ⟨.slice none 0 0, by rw [HX.out.2.1, HX.out.2.2]; rfl, by rw [HX.out.1]; exact IntsAt.nil _, fresh_nil_n _, hb1⟩
  · have r1 := room_is h3
    have r2 := room_is h4
    obtain ⟨R, rfl⟩ : ∃ R : Nat, room = (R : Int) := ⟨room.toNat, by omega⟩
    have HW := Lib.hid (mayT_all h1).1
    have CB1 := Lib.hid (CB.out HW.out R (by omega))
    rw [h1] at CM
    rw [h3] at CR
    rw [h4] at CL
    have HX := Lib.hid (goodT_l h2)
    clear h1 h2 h3 h4 CB
    go_enter Try.func18, Try.ntmps18
    go_wp2_with (first | (go_at_call 33; refine CM.out.mono ?_; rintro e w1 ⟨rfl, hb1⟩; have HB1 := Lib.hid hb1; clear hb1) | (go_at_call_of 34 (Value.int .i64 R); refine (CR.out _).mono ?_; rintro e w2 ⟨rfl, rfl⟩) | (go_at_call_of 34 (Value.int .i64 long); refine (CL.out _).mono ?_; rintro e w2 ⟨rfl, rfl⟩))
    refine (CB1.out w1 HB1.out).mono ?_
    rintro e w2 ⟨g, F, rfl, hF⟩
    have HF := Lib.hid hF
    clear hF CB1 CM CR CL
    go_wp2_with fail
    go_loop [10] (fun t => ∃ m : Nat, t = .int .i64 m ∧ m ≤ R ∧ Hid (∀ i : Nat, m < i → i ≤ R → long < lstF l 0 i)) (fun t => (intOf t).toNat)
    case atStart => exact ⟨R, rfl, Nat.le_refl _, fun i h1 h2 => absurd h1 (by omega)⟩
    case round =>
      obtain ⟨m, rfl, hm, HN⟩ := hrel
      obtain ⟨b, cb, hF0, hcb, hgb, hbl, hraw⟩ := HF.out.rows 0 (Nat.le_refl _) (Nat.zero_le _)
      have hc0 : w2.cell? ⟨g, 0, none⟩ = some (.slice (some ⟨b, 0, none⟩) (R + 1) cb) := by rw [← hF0]; exact HF.out.row.cell (by omega)
      have hc1 : w2.cell? ⟨b, m, none⟩ = some (.int .i64 (lstF l 0 m)) := by
        have := (hraw m _ (nvals_at _ (by omega))).2
        rwa [add_flat] at this
      have m0 : (0 : Int) ≤ (m : Int) := Int.natCast_nonneg _
      have m1 : (m : Int) < (R : Int) + 1 := by omega
      clear hF0 hraw
      by_cases hd : long < lstF l 0 m
      · have hm1 : 1 ≤ m := by
          by_cases e : m = 0
          · subst e
            rw [lstF_zero, lst_zero HW.out] at hd
            omega
          · omega
        have HN2 : Hid (∀ i : Nat, m - 1 < i → i ≤ R → long < lstF l 0 i) := fun i h1 h2 => by
          by_cases e : i = m
          · subst e; exact hd
          · exact HN.out i (by omega) h2
        have d1 : decide (long < lstF l 0 m) = true := decide_eq_true hd
        clear hd HN
        generalize lstF l 0 m = y at *
        go_wp2_with fail
        exact ⟨⟨m - 1, by go_num, by omega, HN2.out⟩, by simp [intOf] <;> omega⟩
      · have d1 : decide (long < lstF l 0 m) = false := decide_eq_false hd
        have hmost : IsMostT l (R : Int) long (m : Int) := ⟨by omega, by omega, by rw [Int.toNat_natCast, ← lstF_zero]; omega, fun i h1 h2 => by rw [← lstF_zero]; exact HN.out i (by omega) (by omega)⟩
        have HM := Lib.hid (mostT_tot HW.out hmost r2.1 r2.2)
        have HQ := Lib.hid (greedyQ_best HW.out hmost r2.1 r2.2)
        clear hd HN hmost
        generalize lstF l 0 m = y at *
        go_wp2_with fail
        clear hc0 hc1 d1
        obtain ⟨s0, hs0⟩ : ∃ s0 : Int × Int, s0 = ((m : Int), long) := ⟨_, rfl⟩
        have e1 : s0.1 = (m : Int) := by rw [hs0]
        have e2 : s0.2 = long := by rw [hs0]
        have HE1 := Lib.hid e1
        have HE2 := Lib.hid e2
        rw [← hs0] at HQ
        have HZ1 : Hid ((leftQ l s0 0).1 = (m : Int)) := Lib.hid (by rw [leftQ_zero]; exact e1)
        have HZ2 : Hid ((leftQ l s0 0).2 = long) := Lib.hid (by rw [leftQ_zero]; exact e2)
        have HBD := Lib.hid (fun k => leftQ_bound HW.out (s := s0) k (by omega) (by omega))
        obtain ⟨B, hB⟩ : ∃ B, B = greedyQ l s0 := ⟨_, rfl⟩
        have HBB := Lib.hid hB
        have HP0 : Hid (PickT l.length w2 B 0 (.slice none 0 0) w2) := ⟨OwnN.nil (Nat.le_refl _), Below.refl _ _⟩
        clear hB hs0 e1 e2
        go_loopw [2, 11, 12, 45] (fun lg p q i wr => ∃ (k : Nat) (u : Value), u = p ∧ i = .int .i64 k ∧ k ≤ l.length ∧ q = .int .i64 (leftQ l s0 k).1 ∧ lg = .int .i64 (leftQ l s0 k).2 ∧ Hid (PickT l.length w2 B k u wr)) (fun _ _ _ i _ => l.length - (intOf i).toNat)
        case atStart => exact ⟨0, _, rfl, rfl, Nat.zero_le _, by rw [HZ1.out], by rw [HZ2.out], HP0.out⟩
        case round =>
          clear HP0 HZ1 HZ2
          obtain ⟨k, u, hu, rfl, hk, rfl, rfl, HP⟩ := hrel
          subst hu
          by_cases hlt : k < l.length
          · obtain ⟨ad, rfl, hat⟩ := HA.out k hlt
            have HBW := Lib.hid (HB1.out.trans ((HF.out.below.trans (HP.out.below.mono HF.out.below.size)).mono HB1.out.size))
            obtain ⟨hla, i1, i2⟩ := hat.below HBW.out
            obtain ⟨b1, c1, hF1, hc1, hgb1, hbl1, hraw1⟩ := HF.out.rows (k + 1) (by omega) (by omega)
            have hx : wideB l[k].width = true := (List.all_eq_true.1 HW.out) _ (by rw [← ws_at hlt]; exact List.getElem_mem _)
            unfold wideB at hx
            rw [Bool.and_eq_true, decide_eq_true_eq, decide_eq_true_eq] at hx
            obtain ⟨x1, x2⟩ := hx
            have hpb := part_bound x1
            have hbit := greedyQ_bit (s := s0) hlt
            have hbd := HBD.out k
            rw [HE1.out, HE2.out] at hbd
            have hls := leftQ_succ (s := s0) hlt
            rw [← HBB.out] at hbit
            unfold takeQ at hbit
            unfold leaveQ takeQ at hls
            have HG1 := Lib.hid ((HF.out.row.cell (i := k + 1) (by omega)).trans (congrArg some hF1))
            have HLF := Lib.hid (lstF_bound HW.out (k + 1))
            have HV := Lib.hid (fun j (hj : j < R + 1) => (hraw1.below HP.out.below j _ (nvals_at (lstF l (k + 1)) hj)))
            have HLQ : Hid (∀ j, lst (l.drop (k + 1)) j = lstF l (k + 1) j) := Lib.hid (fun _ => rfl)
            have hgl : g < wr.heap.size := Nat.lt_of_lt_of_le HF.out.row.lt HP.out.below.size
            have hgr : w2.heap.size ≤ wr.heap.size := HP.out.below.size
            have HG2 : Hid (wr.cell? ⟨g, k + 1, none⟩ = some (.slice (some ⟨b1, 0, none⟩) (R + 1) c1)) := Lib.hid ((HP.out.below.cell (p := ⟨g, k + 1, none⟩) HF.out.row.lt).trans HG1.out)
            have k0 : (0 : Int) ≤ (k : Int) := Int.natCast_nonneg _
            have k1 : (k : Int) < (l.length : Int) := by omega
            have k2 : (k : Int) + 1 < (l.length : Int) + 1 := by omega
            have k3 : ((k : Int) + 1).toNat = k + 1 := by omega
            have k4 : IntKind.i64.wrap ((k : Int) + 1) = (k : Int) + 1 := IntWalk.i64_in _ (by omega)
            have k5 : (0 : Int) ≤ (k : Int) + 1 := by omega
            have HPL := Lib.hid (placesTo_len l.length B k)
            have HOLD := Lib.hid HP.out.own.old
            have HOW := Lib.hid HP.out.own
            have HLS := Lib.hid hls
            have HBIT := Lib.hid hbit
            clear hF1 hraw1 hat hbit hls
            generalize l[k] = y at *
            obtain ⟨x, gl⟩ := y
            dsimp only at i1 i2 x1 x2 hpb HLS HBIT
            have CP1 := Lib.hid (CP.out x gl)
            generalize partI ⟨x, gl⟩ = p at *
            generalize hQ : leftQ l s0 k = Q at *
            have HQQ := Lib.hid hQ
            clear hQ
            obtain ⟨q, lg⟩ := Q
            dsimp only at hbd HLS HBIT
            obtain ⟨⟨q0, q1⟩, g0, g1⟩ := hbd
            have HOW2 := Lib.hid (HOW.out.alloc (.cells #[.int .i64 x, .bool gl] 42))
            obtain ⟨nb, hnb⟩ : ∃ n, n = wr.heap.size := ⟨_, rfl⟩
            have HBX := Lib.hid (ItmBox.new_at hnb.symm ⟨x, gl⟩ 42)
            have HBR := Lib.hid ((Below.refl wr.heap.size wr).alloc (Nat.le_refl _) (.cells #[.int .i64 x, .bool gl] 42))
            rw [← hnb] at HOLD
            go_upto_region 12 with fail
            rw [← hnb]
            clear hnb
            generalize wr.alloc (.cells #[.int .i64 x, .bool gl] 42) = W at *
            have X0 : ∀ z : Lull W, _ := fun z => (HBX.out.below z.h).c0
            have X1 : ∀ z : Lull W, _ := fun z => (HBX.out.below z.h).c1
            have G1 : ∀ z : Lull W, z.u.cell? ⟨g, k + 1, none⟩ = some (.slice (some ⟨b1, 0, none⟩) (R + 1) c1) := fun z => (z.h.cell (p := ⟨g, k + 1, none⟩) (Nat.lt_of_lt_of_le hgl HBR.out.size)).trans ((HBR.out.cell (p := ⟨g, k + 1, none⟩) hgl).trans HG2.out)
            dsimp only at X0 X1
            by_cases hxq : x ≤ q
            · have d1 : decide (x ≤ q) = true := decide_eq_true hxq
              have e3 := HV.out (q - x).toNat (by omega)
              rw [add_flat] at e3
              have V1 : ∀ z : Lull W, z.u.cell? ⟨b1, (q - x).toNat, none⟩ = some (.int .i64 (lstF l (k + 1) (q - x).toNat)) := fun z => (z.h.cell (p := ⟨b1, (q - x).toNat, none⟩) (Nat.lt_of_lt_of_le e3.1 HBR.out.size)).trans ((HBR.out.cell (p := ⟨b1, (q - x).toNat, none⟩) e3.1).trans e3.2)
              have j1 : q - x < (R : Int) + 1 := by omega
              have j2 : 0 ≤ q - x := by omega
              have j3 : IntKind.i64.wrap (q - x) = q - x := IntWalk.i64_in _ (by omega)
              have j4 : IntKind.i64.wrap (lg - p) = lg - p := IntWalk.i64_in _ (by omega)
              rw [HLQ.out, d1, Bool.true_and] at HLS HBIT
              have hyb := HLF.out (q - x).toNat
              clear e3
              generalize lstF l (k + 1) (q - x).toNat = y at *
              by_cases hy : y ≤ lg - p
              · have d2 : decide (y ≤ lg - p) = true := decide_eq_true hy
                rw [d2] at HLS HBIT
                have HTK := Lib.hid (fun a b c d => HP.out.take HBIT.out a b c d)
                refine wp_region_calm (by kernel_rfl) (by kernel_rfl) ?_
                repeat (first | go_big_quiet_step ((go_at_call 36; exact calm_of (CP1.out _))) | quiet_step ((go_at_call 36; exact calm_of (CP1.out _))))
                refine wpQuiet_nil ?_
                intro w5 hw5
                have hb5 := lull_below hw5
                have HBX5 := Lib.hid (HBX.out.below hb5)
                have HB5 := Lib.hid (HBR.out.trans (hb5.mono HBR.out.size))
                have HO5 := Lib.hid ((HOW2.out.below hb5).alloc (.cells #[.int .i64 k] 3))
                clear hw5 hb5 X0 X1 G1 V1 i1 i2 HOW2 HBX
                obtain ⟨A2, c2, rfl⟩ := HO5.out.shape
                go_wp2_with (at_builtin; refine push_own ints_t rfl (.tmp 72) (.tmp 74) rfl w2.heap.size _ _ _ rfl HO5.out _ 1 [.int .i64 k] rfl rfl ?h1a Mem.one_cell ?h1b ?_)
                case h1a => exact raw_at rfl #[.int .i64 k] _
                case h1b => have := HPL.out; omega
                intro v6 w6 ho6 hb6 hg6
                obtain ⟨y0, y1, y2, _, _⟩ := (HBX5.out.alloc (.cells #[.int .i64 k] 3)).grown hg6 HOLD.out
                dsimp only at y1 y2
                have HO6 := Lib.hid ho6
                have HB6 := Lib.hid ((HB5.out.alloc HB5.out.size (.cells #[.int .i64 k] 3)).mono hgr |>.trans hb6)
                clear ho6 hb6 hg6
                go_wp2_with (go_at_call 36; refine (CP1.out _).mono ?_; rintro e w7 ⟨rfl, hb7⟩)
                have HN7 := Lib.hid (HTK.out _ _ (HO6.out.below hb7) (HB6.out.trans (hb7.mono (by have := HB6.out.size; omega))))
                clear HO6 HB6 hb7 HTK
                exact ⟨⟨k + 1, _, rfl, by go_num, by omega, by rw [HLS.out]; rfl, by rw [HLS.out]; rfl, HN7.out⟩, by simp [intOf] <;> omega⟩
              · have d2 : decide (y ≤ lg - p) = false := decide_eq_false hy
                rw [d2] at HLS HBIT
                have HSK := Lib.hid (fun w' h => HP.out.skip (w' := w') HBIT.out h)
                refine wp_region_calm (by kernel_rfl) (by kernel_rfl) ?_
                repeat (first | go_big_quiet_step ((go_at_call 36; exact calm_of (CP1.out _))) | quiet_step ((go_at_call 36; exact calm_of (CP1.out _))))
                refine wpQuiet_nil ?_
                intro w5 hw5
                have hb5 := lull_below hw5
                have HN5 := Lib.hid (HSK.out _ (HBR.out.trans (hb5.mono HBR.out.size)))
                clear hw5 hb5 X0 X1 G1 V1 HSK
                go_wp2_with fail
                exact ⟨⟨k + 1, _, rfl, by go_num, by omega, by rw [HLS.out]; rfl, by rw [HLS.out]; rfl, HN5.out⟩, by simp [intOf] <;> omega⟩
            · have d1 : decide (x ≤ q) = false := decide_eq_false hxq
              rw [d1, Bool.false_and] at HLS HBIT
              have HSK := Lib.hid (fun w' h => HP.out.skip (w' := w') HBIT.out h)
              refine wp_region_calm (by kernel_rfl) (by kernel_rfl) ?_
              repeat (first | go_big_quiet_step (fail) | quiet_step (fail))
              refine wpQuiet_nil ?_
              intro w5 hw5
              have hb5 := lull_below hw5
              have HN5 := Lib.hid (HSK.out _ (HBR.out.trans (hb5.mono HBR.out.size)))
              clear hw5 hb5 X0 X1 G1 HSK
              go_wp2_with fail
              exact ⟨⟨k + 1, _, rfl, by go_num, by omega, by rw [HLS.out]; rfl, by rw [HLS.out]; rfl, HN5.out⟩, by simp [intOf] <;> omega⟩
          · obtain rfl : k = l.length := by omega
            have HI := Lib.hid (IntsAt.own HP.out.own rfl)
            have HFR : Hid (FreshV w.heap.size u) := fun a n d h => by
              rcases HP.out.own.form with ⟨h2, _⟩ | ⟨g3, c3, h2, h3, _⟩
              · rw [h2] at h; cases h
              · rw [h2] at h
                injection h with h
                injection h with h
                subst h
                exact Nat.le_trans (Nat.le_trans HB1.out.size HF.out.below.size) h3
            have HB9 := Lib.hid (HB1.out.trans ((HF.out.below.trans (HP.out.below.mono HF.out.below.size)).mono HB1.out.size))
            have HL9 : Hid (bestLT l (R : Int) long = placesTo l.length B l.length) := Lib.hid (by rw [HX.out.1, ← HQ.out, ← HBB.out]; rfl)
            have HN9 : Hid (bestNT l (R : Int) long = (m : Int)) := Lib.hid (by rw [HX.out.2.1]; exact HM.out)
            clear HP
            go_wp2_with fail
            go_ret3
            exact ⟨_, by rw [HN9.out, HX.out.2.2]; rfl, by rw [HL9.out]; exact HI.out, HFR.out, HB9.out⟩
theorem bestTS (l : List Itm) (room long : Int) (v : Value) (w : World) (hv : ItmsAt l w v) (hf : ItmsFit l) (hl : l.length ≤ 50) (hr : -9223372036854775808 ≤ room ∧ room ≤ 9223372036854775807) (hg : -9223372036854775808 ≤ long ∧ long ≤ 9223372036854775807) : Calls Try.prog 18 #[v, .int .i64 room, .int .i64 long] w (TBestSays l room long w) :=
  bestTS0 l room long v w hv hl
end Go.Proofs.Ytkaepadkdohmpaa.TwnWalk
