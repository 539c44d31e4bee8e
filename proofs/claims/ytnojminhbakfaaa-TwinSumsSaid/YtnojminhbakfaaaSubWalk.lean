/-
  The walks of layer 12's code: Reach, Best (Total: XSubWalkA).
-/
import Derived.Test.YtnojminhbakfaaaSubWalkC
namespace Go.Proofs.Ytnojminhbakfaaa.SubWalk
open Go.RowKit Go.Proofs.Ytnojminhbakfaaa.SubPlain Go.Proofs.Ytnojminhbakfaaa.Mem Go.Proofs.Ytnojminhbakfaaa.SubRef
theorem fine_ways (ws : List Int) (room : Int) : (mayW ws = false ∧ bad ws room = true) ∨ (mayW ws = true ∧ roomB room = false ∧ bad ws room = true) ∨ (mayW ws = true ∧ roomB room = true ∧ bad ws room = false ∧ ws.all wideB = true ∧ ws.length ≤ 64 ∧ 0 ≤ room ∧ room ≤ 256) := by
  unfold bad roomB
  cases hm : mayW ws
  · exact .inl ⟨rfl, rfl⟩
  · unfold mayW at hm
    rw [Bool.and_eq_true, decide_eq_true_eq] at hm
    by_cases h0 : 0 ≤ room
    · by_cases h1 : room ≤ 256
      · refine .inr (.inr ⟨rfl, by rw [decide_eq_true h0, decide_eq_true h1]; rfl, by rw [decide_eq_false (by omega), decide_eq_false (by omega)]; rfl, hm.1, hm.2, h0, h1⟩)
      · exact .inr (.inl ⟨rfl, by rw [decide_eq_false h1, Bool.and_false], by rw [decide_eq_true (p := 256 < room) (by omega), Bool.or_true]⟩)
    · exact .inr (.inl ⟨rfl, by rw [decide_eq_false h0]; rfl, by rw [decide_eq_true (p := room < 0) (by omega)]; rfl⟩)
theorem raw_cells {w : World} {a : Addr} {n : Nat} {f : Nat → Bool} (h : Raw w a (bvals n f)) : Cells w (some a) n (fun i => .bool (f i)) := fun i hi => by
  obtain ⟨h1, h2⟩ := h i _ (bvals_at f hi)
  exact ⟨a, rfl, h1, h2⟩
theorem from_zero (ws : List Int) (i : Nat) : fromB ws 0 i = reachB ws (i : Int) := rfl
theorem fresh_nil (B : Nat) : FreshV B (.slice none 0 0) := fun a n c h => by cases h
/-- How the second loop stands: the places so far, the rows as they were. -/
structure PickAt (ws : List Int) (R : Nat) (w1 : World) (b k : Nat) (v : Value) (wr : World) : Prop where
  own : OwnN 3 1 w1.heap.size wr v (placesTo ws.length b k).length (ivals (placesTo ws.length b k))
  below : Below w1.heap.size w1 wr
theorem PickAt.skip {ws : List Int} {R : Nat} {w1 : World} {b k : Nat} {v : Value} {wr : World} (h : PickAt ws R w1 b k v wr) (hb : b.testBit (ws.length - 1 - k) = false) : PickAt ws R w1 b (k + 1) v wr := by
  have e : placesTo ws.length b (k + 1) = placesTo ws.length b k := by rw [placesTo_succ, hb]; simp
  exact ⟨by rw [e]; exact h.own, h.below⟩
theorem PickAt.take {ws : List Int} {R : Nat} {w1 : World} {b k : Nat} {v : Value} {wr : World} (h : PickAt ws R w1 b k v wr) (hb : b.testBit (ws.length - 1 - k) = true) (v' : Value) (w' : World) (o : Obj)
    (ho : OwnN 3 1 w1.heap.size w' v' ((placesTo ws.length b k).length + 1) (ivals (placesTo ws.length b k) ++ [.int .i64 k])) (hw : Below w1.heap.size (wr.alloc o) w') : PickAt ws R w1 b (k + 1) v' w' := by
  have e : placesTo ws.length b (k + 1) = placesTo ws.length b k ++ [(k : Int)] := by rw [placesTo_succ, hb]; simp
  exact ⟨by rw [e]; exact ho.cast (by simp) (by simp [ivals]), (h.below.alloc h.below.size o).trans hw⟩
set_option maxRecDepth 100000 in
set_option maxHeartbeats 1600000 in
theorem bestS (ws : List Int) (room : Int) (v : Value) (w : World) (hv : IntsAt ws w v) (hf : IntsFit ws) (hl : ws.length ≤ 80) (hr : -9223372036854775808 ≤ room ∧ room ≤ 9223372036854775807) : Calls Try.prog 14 #[v, .int .i64 room] w (BestSays ws room w) := by
  have CM := Lib.hid (may_w ws v w hv (by omega))
  have CR := Lib.hid (room_w room w)
  have CB := Lib.hid (fun hw h64 R hR => behind_b ws R v w hv hw h64 hR)
  obtain ⟨A, c, rfl, hc, hA⟩ := hv
  have HA := Lib.hid hA
  clear hA hf hr
  rcases fine_ways ws room with ⟨h1, h2⟩ | ⟨h1, h3, h2⟩ | ⟨h1, h3, h2, h4, h5, h6, h7⟩
  · rw [h1] at CM
    have HX := Lib.hid h2
    clear h1 h2
    go_enter Try.func14, Try.ntmps14
    go_wp2_with (go_at_call 19; refine CM.out.mono ?_; rintro e w1 ⟨rfl, rfl⟩)
    go_ret3
    exact ⟨.slice none 0 0, by unfold badE bestN; rw [HX.out]; rfl, by unfold bestL; rw [HX.out]; exact IntsAt.nil _, fresh_nil _, Below.refl _ _⟩
  · rw [h1] at CM
    rw [h3] at CR
    have HX := Lib.hid h2
    clear h1 h2 h3
    go_enter Try.func14, Try.ntmps14
    go_wp2_with (first | (go_at_call 19; refine CM.out.mono ?_; rintro e w1 ⟨rfl, rfl⟩) | (go_at_call 20; refine CR.out.mono ?_; rintro e w1 ⟨rfl, rfl⟩))
    go_ret3
    exact ⟨.slice none 0 0, by unfold badE bestN; rw [HX.out]; rfl, by unfold bestL; rw [HX.out]; exact IntsAt.nil _, fresh_nil _, Below.refl _ _⟩
  · obtain ⟨R, rfl⟩ : ∃ R : Nat, room = (R : Int) := ⟨room.toNat, by omega⟩
    have CB1 := Lib.hid (CB.out h4 h5 R (by omega))
    rw [h1] at CM
    rw [h3] at CR
    have HX := Lib.hid h2
    have HW := Lib.hid h4
    clear h1 h2 h3 h4 CB
    go_enter Try.func14, Try.ntmps14
    go_wp2_with (first | (go_at_call 19; refine CM.out.mono ?_; rintro e w1 ⟨rfl, rfl⟩) | (go_at_call 20; refine CR.out.mono ?_; rintro e w1 ⟨rfl, rfl⟩))
    refine CB1.out.mono ?_
    rintro e w1 ⟨g, F, rfl, hF⟩
    have HF := Lib.hid hF
    clear hF CB1
    go_wp2_with fail
    go_loop [8] (fun t => ∃ m : Nat, t = .int .i64 m ∧ m ≤ R ∧ Hid (∀ i : Nat, m < i → i ≤ R → fromB ws 0 i = false)) (fun t => (intOf t).toNat)
    case atStart => exact ⟨R, rfl, Nat.le_refl _, fun i h1 h2 => absurd h1 (by omega)⟩
    case round =>
      obtain ⟨m, rfl, hm, HN⟩ := hrel
      obtain ⟨b, cb, hF0, hcb, hgb, hbl, hraw⟩ := HF.out.rows 0 (Nat.le_refl _) (Nat.zero_le _)
      have hc0 : w1.cell? ⟨g, 0, none⟩ = some (.slice (some ⟨b, 0, none⟩) (R + 1) cb) := by rw [← hF0]; exact HF.out.row.cell (by omega)
      have hc1 : w1.cell? ⟨b, m, none⟩ = some (.bool (fromB ws 0 m)) := by
        have := (hraw m _ (bvals_at _ (by omega))).2
        rwa [add_flat] at this
      have m0 : (0 : Int) ≤ (m : Int) := Int.natCast_nonneg _
      have m1 : (m : Int) < (R : Int) + 1 := by omega
      clear hF0 hraw
      cases hd : fromB ws 0 m
      · have hm1 : 1 ≤ m := by
          by_cases e : m = 0
          · subst e
            have := reach_zero ws
            rw [from_zero] at hd
            rw [show ((0 : Nat) : Int) = 0 from rfl, this] at hd
            cases hd
          · omega
        have HN2 : Hid (∀ i : Nat, m - 1 < i → i ≤ R → fromB ws 0 i = false) := fun i h1 h2 => by
          by_cases e : i = m
          · subst e; exact hd
          · exact HN.out i (by omega) h2
        rw [hd] at hc1
        clear hd HN
        go_wp2_with fail
        exact ⟨⟨m - 1, by go_num, by omega, HN2.out⟩, by simp [intOf] <;> omega⟩
      · rw [hd] at hc1
        have hmost : IsMost ws (R : Int) (m : Int) := ⟨by omega, hd, fun i h1 h2 => by
          have := HN.out i.toNat (by omega) (by omega)
          rw [from_zero, show ((i.toNat : Nat) : Int) = i by omega] at this
          exact this⟩
        have HM := Lib.hid (most_tot HW.out hmost h6)
        clear hd HN hmost
        go_wp2_with fail
        obtain ⟨B, hB⟩ : ∃ B, B = bestB ws (R : Int) := ⟨_, rfl⟩
        have HBB := Lib.hid hB
        have HM2 : Hid (leftTo ws B 0 = (m : Int)) := by rw [HBB.out]; exact HM.out
        have HP0 : Hid (PickAt ws R w1 B 0 (.slice none 0 0) w1) := ⟨OwnN.nil (Nat.le_refl _), Below.refl _ _⟩
        clear hB hc0 hc1
        go_loopw [9, 10, 37] (fun p q i wr => ∃ (k : Nat) (u : Value), u = p ∧ i = .int .i64 k ∧ k ≤ ws.length ∧ q = .int .i64 (leftTo ws B k) ∧ Hid (PickAt ws R w1 B k u wr)) (fun _ _ i _ => ws.length - (intOf i).toNat)
        case atStart => exact ⟨0, _, rfl, rfl, Nat.zero_le _, by rw [HM2.out], HP0.out⟩
        case round =>
          clear HP0
          obtain ⟨k, u, hu, rfl, hk, rfl, HP⟩ := hrel
          subst hu
          by_cases hlt : k < ws.length
          · obtain ⟨ad, rfl, hla, hca⟩ := HA.out.at hlt
            obtain ⟨b1, c1, hF1, hc1, hgb1, hbl1, hraw1⟩ := HF.out.rows (k + 1) (by omega) (by omega)
            have hx : wideB ws[k] = true := (List.all_eq_true.1 HW.out) _ (List.getElem_mem _)
            unfold wideB at hx
            rw [Bool.and_eq_true, decide_eq_true_eq, decide_eq_true_eq] at hx
            obtain ⟨x1, x2⟩ := hx
            have e1 : wr.cell? (ad.add k) = some (.int .i64 ws[k]) := by
              rw [← getD_at hlt]
              exact ((HF.out.below.trans (HP.out.below.mono HF.out.below.size)).cell (by rw [add_block]; exact hla)).trans hca
            have e2 : wr.cell? ⟨g, k + 1, none⟩ = some (.slice (some ⟨b1, 0, none⟩) (R + 1) c1) := by
              rw [← hF1]
              exact (HP.out.below.cell (p := ⟨g, k + 1, none⟩) HF.out.row.lt).trans (HF.out.row.cell (by omega))
            have hbit := best_bit HW.out (room := (R : Int)) h6 hlt
            have hlb := left_bound HW.out (room := (R : Int)) h6 k
            have hls := left_succ (bestB ws (R : Int)) hlt
            rw [← HBB.out] at hbit hlb hls
            have HLS := Lib.hid hls
            have HBIT := Lib.hid hbit
            have hraw2 := hraw1.below HP.out.below
            have k0 : (0 : Int) ≤ (k : Int) := Int.natCast_nonneg _
            have k1 : (k : Int) < (ws.length : Int) := by omega
            have k2 : (k : Int) + 1 < (ws.length : Int) + 1 := by omega
            have k3 : ((k : Int) + 1).toNat = k + 1 := by omega
            have HPL := Lib.hid (placesTo_len ws.length B k)
            have HSK := Lib.hid (fun h => HP.out.skip h)
            have HTK := Lib.hid (fun h => HP.out.take h)
            have HOW := Lib.hid HP.out.own
            clear hca hF1 hraw1 hbit hls HP
            generalize ws[k] = x at *
            generalize leftTo ws B k = q at *
            by_cases hxq : x ≤ q
            · have d1 : decide (x ≤ q) = true := decide_eq_true hxq
              have e3 : wr.cell? ⟨b1, (q - x).toNat, none⟩ = some (.bool (fromB ws (k + 1) (q - x).toNat)) := by
                have := (hraw2 (q - x).toNat _ (bvals_at _ (by omega))).2
                rwa [add_flat] at this
              have k4 : q - x < (R : Int) + 1 := by omega
              have k5 : 0 ≤ q - x := by omega
              have HB2 : Hid (B.testBit (ws.length - 1 - k) = fromB ws (k + 1) (q - x).toNat) := Lib.hid (by rw [HBIT.out, decide_eq_true hxq, Bool.true_and])
              clear hraw2 HBIT
              generalize fromB ws (k + 1) (q - x).toNat = z at *
              cases z
              · have HN := Lib.hid (HSK.out HB2.out)
                have HL2 : Hid (leftTo ws B (k + 1) = q) := Lib.hid (by rw [HLS.out, HB2.out]; simp)
                clear HSK HTK HB2 HLS
                go_wp2_with fail
                exact ⟨⟨k + 1, _, rfl, by go_num, by omega, by rw [HL2.out], HN.out⟩, by simp [intOf] <;> omega⟩
              · have HN := Lib.hid (HTK.out HB2.out)
                have HL2 : Hid (leftTo ws B (k + 1) = q - x) := Lib.hid (by rw [HLS.out, HB2.out]; simp)
                have HO1 := Lib.hid (HOW.out.alloc (.cells #[.int .i64 k] 3))
                clear HSK HTK HB2 HLS HOW
                obtain ⟨A2, c2, rfl⟩ := HO1.out.shape
                go_wp2_with (at_builtin; refine push_own ints_t rfl (.tmp 57) (.tmp 59) rfl w1.heap.size _ _ _ rfl HO1.out _ 1 [.int .i64 k] rfl rfl ?h1a one_cell ?h1b ?_)
                case h1a => exact raw_at (by simp) #[.int .i64 k] _
                case h1b => have := HPL.out; omega
                intro v5 w5 ho5 hb5 hg5
                have HN5 := Lib.hid (HN.out _ _ _ ho5 hb5)
                clear ho5 hb5 hg5 HN
                go_wp2_with fail
                exact ⟨⟨k + 1, _, rfl, by go_num, by omega, by rw [HL2.out], HN5.out⟩, by simp [intOf] <;> omega⟩
            · have d1 : decide (x ≤ q) = false := decide_eq_false hxq
              have HB2 : Hid (B.testBit (ws.length - 1 - k) = false) := Lib.hid (by rw [HBIT.out, decide_eq_false hxq, Bool.false_and])
              have HN := Lib.hid (HSK.out HB2.out)
              have HL2 : Hid (leftTo ws B (k + 1) = q) := Lib.hid (by rw [HLS.out, HB2.out]; simp)
              clear HSK HTK HB2 HLS HBIT hraw2
              go_wp2_with fail
              exact ⟨⟨k + 1, _, rfl, by go_num, by omega, by rw [HL2.out], HN.out⟩, by simp [intOf] <;> omega⟩
          · obtain rfl : k = ws.length := by omega
            have HI := Lib.hid (IntsAt.own HP.out.own rfl)
            have HFR : Hid (FreshV w.heap.size u) := fun a n d h => by
              rcases HP.out.own.form with ⟨h2, _⟩ | ⟨g3, c3, h2, h3, _⟩
              · rw [h2] at h; cases h
              · rw [h2] at h
                injection h with h
                injection h with h
                subst h
                exact Nat.le_trans HF.out.below.size h3
            have HB9 := Lib.hid (HF.out.below.trans (HP.out.below.mono HF.out.below.size))
            have HL9 : Hid (bestL ws (R : Int) = placesTo ws.length B ws.length) := Lib.hid (by unfold bestL; rw [HX.out, if_neg (by decide), ← HBB.out]; rfl)
            have HN9 : Hid (bestN ws (R : Int) = (m : Int)) := Lib.hid (by unfold bestN; rw [HX.out, if_neg (by decide)]; exact HM.out)
            clear HP
            go_wp2_with fail
            go_ret3
            exact ⟨_, by unfold badE; rw [HX.out, HN9.out]; rfl, by rw [HL9.out]; exact HI.out, HFR.out, HB9.out⟩
end Go.Proofs.Ytnojminhbakfaaa.SubWalk
