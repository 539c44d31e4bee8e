/-
  The walks of the statements of layer 12: SubsetReach.
-/
import Derived.Test.YtlbgncjikfdkoaaSubLawB
namespace Go.Proofs.Ytlbgncjikfdkoaa.SubWalk
open Go.RowKit Go.Proofs.Ytlbgncjikfdkoaa.SubPlain Go.Proofs.Ytlbgncjikfdkoaa.Mem Go.Proofs.Ytlbgncjikfdkoaa.SubRef
/-- How the first loop stands: the places so far are places (b), or the last one is none. -/
def PlacesAt (ws ps : List Int) (k : Nat) (b : Bool) (s last : Int) : Prop := (b = true ∧ okTo ws ps k = true ∧ s = sumTo ws ps k ∧ last = lastAt ps k) ∨ (b = false ∧ okP ws ps = false)
theorem PlacesAt.zero (ws ps : List Int) : PlacesAt ws ps 0 (mayW ws) 0 (-1) := by
  cases h : mayW ws
  · refine .inr ⟨rfl, ?_⟩
    cases hp : okP ws ps
    · rfl
    · rw [ok_may hp] at h; cases h
  · exact .inl ⟨rfl, h, rfl, rfl⟩
theorem ok_no {ws ps : List Int} {k : Nat} (hk : k < ps.length) (h : upB ws (lastAt ps k) (ps.getD k 0) = false) : okP ws ps = false := by
  cases hp : okP ws ps
  · rfl
  · have h1 := ok_mono (k := k + 1) (by omega) hp
    unfold okTo at h1
    rw [Bool.and_eq_true, h] at h1
    cases h1.2
theorem PlacesAt.no {ws ps : List Int} {k n : Nat} {s last : Int} (hk : k < ps.length) (h : upB ws (lastAt ps k) (ps.getD k 0) = false) : PlacesAt ws ps n false s last := .inr ⟨rfl, ok_no hk h⟩
theorem PlacesAt.next {ws ps : List Int} {k : Nat} (h0 : okTo ws ps k = true) (h : upB ws (lastAt ps k) (ps.getD k 0) = true) : PlacesAt ws ps (k + 1) true (sumTo ws ps k + wAt ws (ps.getD k 0)) (ps.getD k 0) := by
  refine .inl ⟨rfl, by unfold okTo; rw [h0, h]; rfl, rfl, ?_⟩
  unfold lastAt
  rw [if_neg (by omega), Nat.add_sub_cancel]
theorem PlacesAt.end_ {ws ps : List Int} {k : Nat} {b : Bool} {s last : Int} (h : PlacesAt ws ps k b s last) (hk : k = ps.length ∨ b = false) : b = okP ws ps ∧ (okP ws ps = true → s = sumP ws ps) := by
  rcases h with ⟨rfl, h1, h2, _⟩ | ⟨rfl, h1⟩
  · rcases hk with rfl | hk
    · exact ⟨h1.symm, fun _ => h2⟩
    · cases hk
  · exact ⟨h1.symm, fun h => by rw [h1] at h; cases h⟩
theorem up_ways (ws : List Int) (last p : Int) : (decide (last < p) = false ∧ upB ws last p = false) ∨ (decide (last < p) = true ∧ decide (p < (ws.length : Int)) = false ∧ upB ws last p = false) ∨ (decide (last < p) = true ∧ decide (p < (ws.length : Int)) = true ∧ upB ws last p = true) := by
  unfold upB
  cases decide (last < p) <;> cases decide (p < (ws.length : Int)) <;> simp
theorem two_lens (n m : Nat) : (decide ((80 : Int) < (n : Int)) = true) ∨ (decide ((80 : Int) < (n : Int)) = false ∧ decide ((80 : Int) < (m : Int)) = true) ∨ (decide ((80 : Int) < (n : Int)) = false ∧ decide ((80 : Int) < (m : Int)) = false ∧ n ≤ 80 ∧ m ≤ 80) := by
  by_cases h1 : n ≤ 80
  · by_cases h2 : m ≤ 80
    · exact .inr (.inr ⟨decide_eq_false (by omega), decide_eq_false (by omega), h1, h2⟩)
    · exact .inr (.inl ⟨decide_eq_false (by omega), decide_eq_true (by omega)⟩)
  · exact .inl (decide_eq_true (by omega))
theorem bool_make (W : World) (R : Nat) (h : R ≤ 256) : (Instr.makeSlice 32 (.int .i64 ((R : Int) + 1)) (.int .i64 ((R : Int) + 1))).run Try.prog W = .ok (.slice (some ⟨W.heap.size, 0, none⟩) (R + 1) (R + 1)) (W.alloc (.cells (madeCells #[Value.bool false] (R + 1)) 4)) := by
  have h1 := run_make_row' (P := Try.prog) 32 4 (.bool false) 1 Try.underlying32 (by kernel_rfl) rfl .i64 .i64 (R + 1) (by omega) (by omega) W
  exact h1
theorem places_fit (n b : Nat) (h : n ≤ 80) : IntsFit (placesB n b) := fun x hx => by
  unfold placesB placesTo at hx
  rw [List.mem_map] at hx
  obtain ⟨i, hi, rfl⟩ := hx
  have h1 := List.mem_range.1 (List.mem_filter.1 hi).1
  omega
theorem places_len (n b : Nat) : (placesB n b).length ≤ n := placesTo_len n b n
/-- How the loop over all choices stands: what is there so far, in a row of its own. -/
structure ThereAt (ws : List Int) (R : Nat) (w5 wr : World) (B : Nat) : Prop where
  row : wr.rowIs w5.heap.size 4 (R + 1) (fun i => .bool (thereTo ws B (i : Int)))
  below : Below w5.heap.size w5 wr
theorem ThereAt.zero (ws : List Int) (R : Nat) (w5 : World) : ThereAt ws R w5 (w5.alloc (.cells (madeCells #[Value.bool false] (R + 1)) 4)) 0 :=
  ⟨(World.rowIs_made w5 _ (R + 1) _).congr (fun i _ => rfl), (Below.refl _ _).alloc (Nat.le_refl _) _⟩
theorem ThereAt.out_ {ws : List Int} {R : Nat} {w5 wr : World} {B : Nat} (h : ThereAt ws R w5 wr B) (hk : (R : Int) < tot ws B) : ThereAt ws R w5 wr (B + 1) :=
  ⟨h.row.congr (fun i hi => by
    have e : (tot ws B == (i : Int)) = false := by rw [beq_eq_false_iff_ne]; omega
    rw [there_succ, e, Bool.or_false]), h.below⟩
theorem ThereAt.in_ {ws : List Int} {R K : Nat} {w5 wr : World} {B : Nat} (h : ThereAt ws R w5 wr B) (hk : tot ws B = (K : Int)) : ThereAt ws R w5 (wr.setCell ⟨w5.heap.size, K, none⟩ (.bool true)) (B + 1) :=
  ⟨(h.row.set K _).congr (fun i _ => by
    rw [there_succ, hk]
    by_cases e : i = K
    · subst e; simp
    · have e2 : ((K : Int) == (i : Int)) = false := by rw [beq_eq_false_iff_ne]; omega
      rw [if_neg e, e2, Bool.or_false]), h.below.setCell (Nat.le_refl _) _⟩
set_option maxRecDepth 100000 in
set_option maxHeartbeats 12800000 in
theorem reach_any (ws ps : List Int) (room : Int) (v u : Value) (w : World) (hv : IntsAt ws w v) (hf : IntsFit ws) (hu : IntsAt ps w u) (hg : IntsFit ps) (hr : -9223372036854775808 ≤ room ∧ room ≤ 9223372036854775807) : Calls Try.prog 4 #[v, .int .i64 room, u] w (TrueIs w) := by
  have HAW := Lib.hid (fun W => awake12 W)
  have CR := Lib.hid (fun h => reachS ws room v w hv hf h hr)
  have CB := Lib.hid (fun W (h : IntsAt ws W v) h1 => bestS ws room v W h hf h1 hr)
  have CX := Lib.hid (fun W (h : IntsAt ws W v) h1 (h2 : IntsAt ps W u) h3 => totalS ws ps v u W h hf h1 h2 hg h3)
  have CY := Lib.hid (fun W l x (h : IntsAt ws W v) h1 (h2 : IntsAt l W x) h4 h3 => totalS ws l v x W h hf h1 h2 h4 h3)
  have CM0 := Lib.hid (fun (h80 : ws.length ≤ 80) W (h : IntsAt ws W v) => may12 ws v W h (by omega))
  have CT := Lib.hid (fun b W (h : IntsAt ws W v) h1 h2 h3 => total12 ws b v W h h1 h2 h3)
  have HV := Lib.hid hv
  have HU := Lib.hid hu
  have hlw := two_lens ws.length ps.length
  obtain ⟨A, c, rfl, hc, hA⟩ := hv
  obtain ⟨B, d, rfl, hd, hB⟩ := hu
  have HA := Lib.hid hA
  have HB := Lib.hid hB
  clear hA hB hf hg hr
  unfold ReachSays at CR
  unfold BestSays at CB
  unfold TotalSays at CX CY
  rcases hlw with a1 | ⟨a1, a2⟩ | ⟨a1, a2, n1, n2⟩
  iterate 2
    · go_enter Try.func4, Try.ntmps4
      go_wp2_with (go_at_call 5; refine (HAW.out _).mono ?_; rintro e w1 ⟨rfl, hb1⟩; have HB1 := Lib.hid hb1; clear hb1)
      go_ret
      exact ⟨rfl, HB1.out⟩
  · have CR1 := Lib.hid (CR.out n1)
    have CM := Lib.hid (CM0.out n1)
    clear CR CM0
    go_enter Try.func4, Try.ntmps4
    go_wp2_with fail
    refine CR1.out.mono ?_
    rintro e w1 ⟨r, rfl, hrr, _, hb1⟩
    obtain ⟨RA, rc, rfl, hrc, hRA⟩ := hrr
    have HR := Lib.hid hRA
    have HB1 := Lib.hid hb1
    have CX1 := Lib.hid (CX.out w1 (HV.out.below hb1) n1 (HU.out.below hb1) n2)
    clear hRA hb1 CR1 CX
    go_wp2_with fail
    refine CX1.out.mono ?_
    rintro e w2 ⟨rfl, hb2⟩
    have HR2 := Lib.hid (HR.out.below hb2)
    have HB2 := Lib.hid (below_then HB1.out hb2)
    have CM2 := Lib.hid (CM.out w2 (HV.out.below HB2.out))
    have HA2 := Lib.hid (HA.out.below HB2.out)
    have HBB2 := Lib.hid (HB.out.below HB2.out)
    have hz := PlacesAt.zero ws ps
    have HZ := Lib.hid hz
    clear hz hb2 HR HB1 CX1 CM HA HB
    go_wp2_with fail
    refine CM2.out.mono ?_
    rintro e w3 ⟨rfl, rfl⟩
    go_wp2_with fail
    go_loop [11, 12, 13, 14] (fun s la b i => ∃ (k : Nat) (x y : Int) (q : Bool), k ≤ ps.length ∧ i = .int .i64 k ∧ s = .int .i64 x ∧ la = .int .i64 y ∧ b = .bool q ∧ Hid (PlacesAt ws ps k q x y)) (fun _ _ _ i => ps.length - (intOf i).toNat)
    case atStart => exact ⟨0, 0, -1, mayW ws, Nat.zero_le _, rfl, rfl, rfl, rfl, HZ.out⟩
    case round =>
      clear HZ
      obtain ⟨k, x, y, q, hk, rfl, rfl, rfl, rfl, HP⟩ := hrel
      by_cases hrun : k < ps.length ∧ q = true
      · obtain ⟨hlt, rfl⟩ := hrun
        have i0 : (0 : Int) ≤ (k : Int) := Int.natCast_nonneg _
        have i1 : (k : Int) < (ps.length : Int) := by omega
        have hp := HP.out
        unfold PlacesAt at hp
        rcases hp with ⟨_, hok, rfl, rfl⟩ | ⟨h, _⟩
        case inr => cases h
        have hla := lastAt_bound hok hk
        have hm := ok_may hok
        have hall := (may_all hm).1
        have hsb := sumTo_bound hall ps k
        have hsb2 := sumTo_bound hall ps (k + 1)
        have HALL := Lib.hid hall
        have HNX := Lib.hid (fun h => PlacesAt.next hok h)
        have HNO := Lib.hid (fun (s l : Int) (h : upB ws (lastAt ps k) (ps.getD k 0) = false) => PlacesAt.no (ws := ws) (k := k) (n := k + 1) (s := s) (last := l) hlt h)
        have hsum : sumTo ws ps (k + 1) = sumTo ws ps k + wAt ws (ps.getD k 0) := rfl
        rw [hsum] at hsb2
        obtain ⟨bd, rfl, hb2, hcell⟩ := HBB2.out.at hlt
        have h1 : w2.cell? (bd.add k) = some (.int .i64 ps[k]) := by rw [← getD_at hlt]; exact hcell
        have hway := up_ways ws (lastAt ps k) (ps.getD k 0)
        rw [getD_at hlt] at HNX HNO hsb2 hway
        clear hcell HP hok hm hall hsum
        generalize sumTo ws ps k = X at *
        generalize lastAt ps k = Y at *
        generalize ps[k] = P at *
        rcases hway with ⟨u1, hup⟩ | ⟨u1, u2, hup⟩ | ⟨u1, u2, hup⟩
        · have HN := Lib.hid (HNO.out X Y hup)
          clear hup HNX HNO
          go_wp2_with fail
          exact ⟨⟨k + 1, X, Y, false, by omega, by go_num, rfl, rfl, rfl, by unfold PlacesAt at *; exact HN.out⟩, by simp [intOf] <;> omega⟩
        · have HN := Lib.hid (HNO.out X Y hup)
          clear hup HNX HNO
          go_wp2_with fail
          exact ⟨⟨k + 1, X, Y, false, by omega, by go_num, rfl, rfl, rfl, by unfold PlacesAt at *; exact HN.out⟩, by simp [intOf] <;> omega⟩
        · have HN := Lib.hid (HNX.out hup)
          have hP : ∃ m : Nat, P = (m : Int) ∧ m < ws.length := by
            rw [decide_eq_true_eq] at u1 u2
            exact ⟨P.toNat, by omega, by omega⟩
          obtain ⟨m, rfl, hm⟩ := hP
          obtain ⟨ad, rfl, ha2, hcell⟩ := HA2.out.at hm
          have h2 : w2.cell? (ad.add m) = some (.int .i64 ws[m]) := by rw [← getD_at hm]; exact hcell
          rw [wAt_at hm] at HN hsb2
          have m0 : (0 : Int) ≤ (m : Int) := Int.natCast_nonneg _
          have m1 : (m : Int) < (ws.length : Int) := by omega
          clear hup HNX HNO hcell
          generalize ws[m] = Z at *
          go_wp2_with fail
          exact ⟨⟨k + 1, X + Z, (m : Int), true, by omega, by go_num, rfl, rfl, rfl, by unfold PlacesAt at *; exact HN.out⟩, by simp [intOf] <;> omega⟩
      · have hend := HP.out.end_ (by
          cases q
          · exact .inr rfl
          · exact .inl (by have : ¬ k < ps.length := fun h => hrun ⟨h, rfl⟩
                           omega))
        obtain ⟨hq, hs⟩ := hend
        have hkq : (decide (k < ps.length) = false) ∨ (decide (k < ps.length) = true ∧ q = false) := by
          by_cases h : k < ps.length
          · refine .inr ⟨decide_eq_true h, ?_⟩
            cases q
            · rfl
            · exact absurd ⟨h, rfl⟩ hrun
          · exact .inl (decide_eq_false h)
        have HTN : Hid (totalN ws ps = if okP ws ps = true then sumP ws ps else 0) := rfl
        have HS2 := Lib.hid hs
        have hbw := bad_ways ws room
        clear HP hrun hs
        have hcond : ∃ T : Int, T = totalN ws ps ∧ ((q = true ∧ (T != x) = false) ∨ (q = false ∧ (T != 0) = false)) := by
          refine ⟨_, rfl, ?_⟩
          cases q
          · exact .inr ⟨rfl, by rw [HTN.out, ← hq]; rfl⟩
          · exact .inl ⟨rfl, by rw [HTN.out, ← hq, HS2.out hq.symm]; simp⟩
        obtain ⟨T, hT, hcond⟩ := hcond
        rw [← hT, ← hq] at *
        clear hT HTN HS2 hq
        go_upto_region 7 with fail
        go_cut [54] (fun c wc => c = .bool false ∧ w2 = wc)
        case first =>
          rcases hkq with h1 | ⟨h1, rfl⟩
          all_goals
            go_wp2_with fail
            go_meet
            exact ⟨rfl, rfl⟩
        case rest =>
          obtain ⟨rfl, rfl⟩ := hcut
          clear hkq
          go_upto_region 13 with fail
          go_cut [104] (fun c wc => c = .bool false ∧ w2 = wc)
          case first =>
            rcases hcond with ⟨rfl, h1⟩ | ⟨rfl, h1⟩
            all_goals
              go_wp2_with fail
              go_meet
              exact ⟨rfl, rfl⟩
          case rest =>
            obtain ⟨rfl, rfl⟩ := hcut
            clear hcond
            go_upto_region 15 with fail
            have HBR := Lib.hid HR2.out
            rcases hbw with ⟨m, hbad⟩ | ⟨m, b1, hbad⟩ | ⟨m, b1, b2, hbad⟩ | ⟨m, b1, b2, hbad⟩
            iterate 3
              · obtain ⟨_, _, e3, e4⟩ := bad_l hbad
                rw [e3, e4]
                rw [m] at CM2
                clear CT e3 e4 hbad m HR2 HBR CB CY
                go_wp2_with fail
                refine CM2.out.mono ?_
                rintro e w3 ⟨rfl, rfl⟩
                go_wp2_with fail
                refine (HAW.out _).mono ?_
                rintro e w4 ⟨rfl, hb4⟩
                have HB4 := Lib.hid (below_then HB2.out hb4)
                clear hb4
                go_wp2_with fail
                go_ret
                exact ⟨rfl, HB4.out⟩
            · obtain ⟨e1, e2, e3, e4⟩ := good_l hbad
              have HM := Lib.hid m
              have hR : ∃ R : Nat, room = (R : Int) ∧ R ≤ 256 ∧ (room + 1).toNat = R + 1 := by
                rw [decide_eq_false_iff_not] at b1 b2
                exact ⟨room.toNat, by omega, by omega, by omega⟩
              obtain ⟨R, rfl, hR, eR⟩ := hR
              have HG := Lib.hid (show bad ws (R : Int) = false from hbad)
              rw [e4, eR] at HBR
              rw [e3, e4, eR]
              rw [m] at CM2
              have eN : (((R + 1 : Nat) : Int) != (R : Int) + 1) = false := by simp
              clear HR2 e1 e2 e3 e4 eR hbad m
              go_wp2_with fail
              refine CM2.out.mono ?_
              rintro e w3 ⟨rfl, rfl⟩
              go_upto_region 17 with fail
              have HV2 := Lib.hid (HV.out.below HB2.out)
              have CB2 := Lib.hid (CB.out w2 HV2.out n1)
              have hmay := (may_all HM.out).1
              have HALL := Lib.hid hmay
              have htb := tot_bound hmay (bestB ws (R : Int))
              have hbi := best_is ws (room := (R : Int)) (by omega)
              have hfit := hbi.fits
              have hrt := reach_best ws (room := (R : Int)) (by omega)
              have HRN := Lib.hid (fun i h1 h2 => reach_not (ws := ws) (room := (R : Int)) (i := i) (by omega) h1 h2)
              obtain ⟨e1, e2, e3, _⟩ := good_l HG.out
              obtain ⟨k1, k2⟩ := best_ok HM.out (R : Int)
              have hTN : totalN ws (placesB ws.length (bestB ws (R : Int))) = tot ws (bestB ws (R : Int)) := by unfold totalN; rw [if_pos k1, k2]
              rw [e1, e2, e3] at CB2
              have CY2 := Lib.hid (fun W x (h1 : IntsAt ws W (.slice A ws.length c)) (h2 : IntsAt (placesB ws.length (bestB ws (R : Int))) W x) => CY.out W (placesB ws.length (bestB ws (R : Int))) x h1 n1 h2 (places_fit _ _ n1) (by have := places_len ws.length (bestB ws (R : Int)); omega))
              rw [hTN, k1] at CY2
              clear e1 e2 e3 k1 k2 hTN CB CY HG hbi hmay b1 b2
              generalize placesB ws.length (bestB ws (R : Int)) = L at *
              generalize tot ws (bestB ws (R : Int)) = M at *
              have hMN : ∃ N : Nat, M = (N : Int) ∧ N ≤ R := ⟨M.toNat, by omega, by omega⟩
              obtain ⟨N, rfl, hNR⟩ := hMN
              have HRT := Lib.hid hrt
              clear hrt hfit htb
              have eN2 : ((R : Int) + 1 != (R : Int) + 1) = false := by simp
              go_wp2_with fail
              refine CB2.out.mono ?_
              rintro e w4 ⟨lv, rfl, hl, _, hb4⟩
              have HB4 := Lib.hid (below_then HB2.out hb4)
              have HR4 := Lib.hid (HBR.out.below hb4)
              have HV4 := Lib.hid (HV2.out.below hb4)
              have CY4 := Lib.hid (CY2.out w4 lv HV4.out hl)
              clear hl hb4 HB2 HBR HV2 CB2 CY2 eN eN2
              go_wp2_with fail
              refine CY4.out.mono ?_
              rintro e w5 ⟨rfl, hb5⟩
              have HB5 := Lib.hid (below_then HB4.out hb5)
              have HR5 := Lib.hid (HR4.out.below hb5)
              have HV5 := Lib.hid (HV4.out.below hb5)
              obtain ⟨ra, rfl, hra, hrc2⟩ := HR5.out.at (i := N) (by omega)
              have h1 : w5.cell? (ra.add N) = some (.bool true) := by rw [← HRT.out]; exact hrc2
              have d1 : decide ((N : Int) < 0) = false := decide_eq_false (by omega)
              have d2 : decide ((R : Int) < (N : Int)) = false := decide_eq_false (by omega)
              have d3 : ((N : Int) != (N : Int)) = false := by simp
              have m0 : (0 : Int) ≤ (N : Int) := Int.natCast_nonneg _
              have m1 : N < R + 1 := by omega
              clear hrc2 hb5 HB4 HR4 HV4 CY4 HRT
              go_upto_region 24 with fail
              clear h1 d1 d2 d3
              go_loop [20] (fun i => ∃ k : Nat, N + 1 ≤ k ∧ k ≤ R + 1 ∧ i = .int .i64 k) (fun i => R + 1 - (intOf i).toNat)
              case atStart => exact ⟨N + 1, Nat.le_refl _, by omega, by go_num⟩
              case round =>
                obtain ⟨j, hj1, hj2, rfl⟩ := hrel
                by_cases hlt : j ≤ R
                · obtain ⟨ra2, ea, _, hrc3⟩ := HR5.out.at (i := j) (by omega)
                  injection ea with ea
                  subst ea
                  have h2 : w5.cell? (ra.add j) = some (.bool false) := by rw [← HRN.out (j : Int) (by omega) (by omega)]; exact hrc3
                  have j0 : (0 : Int) ≤ (j : Int) := Int.natCast_nonneg _
                  have j1 : j < R + 1 := by omega
                  have j2 : (j : Int) ≤ (R : Int) := by omega
                  clear hrc3
                  go_wp2_with fail
                  exact ⟨⟨j + 1, by omega, by omega, by go_num⟩, by simp [intOf] <;> omega⟩
                · have d4 : decide ((j : Int) ≤ (R : Int)) = false := decide_eq_false (by omega)
                  by_cases h9 : ws.length ≤ 9
                  · have d5 : decide ((9 : Int) < (ws.length : Int)) = false := decide_eq_false (by omega)
                    have hmk := fun W => bool_make W R hR
                    have hwr : ∃ P : Nat, P = 2 ^ ws.length ∧ wrap64 ((2 : Int) ^ ws.length) = (P : Int) ∧ P ≤ 1152921504606846976 := by
                      have h2 : 2 ^ ws.length ≤ 2 ^ 60 := Nat.pow_le_pow_right (by decide) (by omega)
                      have h3 : ((2 ^ ws.length : Nat) : Int) = (2 : Int) ^ ws.length := by simp
                      have key : ∀ (p : Nat) (q : Int), (p : Int) = q → p ≤ 1152921504606846976 → wrap64 q = (p : Int) := fun p q h h2 => by subst h; exact IntWalk.wrap64_in _ (by omega)
                      exact ⟨_, rfl, key _ _ h3 h2, h2⟩
                    obtain ⟨P, hP, hwr, hP2⟩ := hwr
                    have HP := Lib.hid hP
                    have HT0 := Lib.hid (ThereAt.zero ws R w5)
                    clear hP
                    go_upto_region 32 with fail
                    clear hmk d5
                    generalize hW6 : w5.alloc (.cells (madeCells #[Value.bool false] (R + 1)) 4) = w6 at *
                    clear hW6
                    go_loopw [22] (fun i wr => ∃ Q : Nat, Q ≤ P ∧ i = .int .i64 Q ∧ Hid (ThereAt ws R w5 wr Q)) (fun i _ => P - (intOf i).toNat)
                    case atStart => exact ⟨0, Nat.zero_le _, rfl, HT0.out⟩
                    case round =>
                      obtain ⟨Q, hQ, rfl, HTQ⟩ := hrel
                      clear HT0
                      have q0 : (0 : Int) ≤ (Q : Int) := Int.natCast_nonneg _
                      by_cases hqt : Q < P
                      · have q1 : (Q : Int) < (P : Int) := by omega
                        have htb := tot_bound HALL.out Q
                        have CTQ := Lib.hid (CT.out Q wr (HV5.out.below HTQ.out.below) HALL.out (by omega) (by omega))
                        have hK : ∃ K : Nat, tot ws Q = (K : Int) := ⟨(tot ws Q).toNat, by omega⟩
                        obtain ⟨K, hK⟩ := hK
                        have HK := Lib.hid hK
                        rw [hK] at CTQ
                        have k0 : (0 : Int) ≤ (K : Int) := Int.natCast_nonneg _
                        clear htb hK
                        by_cases hkr : K ≤ R
                        · have k1 : (K : Int) ≤ (R : Int) := by omega
                          have k2 : K < R + 1 := by omega
                          have hc1 : wr.cell? ⟨w5.heap.size, K, none⟩ = some (.bool (thereTo ws Q (K : Int))) := HTQ.out.row.cell (by omega)
                          have hf1 : wr.frozen? ⟨w5.heap.size, K, none⟩ = false := HTQ.out.row.frozen _
                          have hs1 : w5.heap.size < wr.heap.size := HTQ.out.row.lt
                          have HTN := Lib.hid (HTQ.out.in_ HK.out)
                          go_wp2_with fail
                          refine CTQ.out.mono ?_
                          rintro e w7 ⟨rfl, rfl⟩
                          go_wp2_with fail
                          exact ⟨⟨Q + 1, by omega, by go_num, HTN.out⟩, by simp [intOf] <;> omega⟩
                        · have k1 : decide ((K : Int) ≤ (R : Int)) = false := decide_eq_false (by omega)
                          have HTN := Lib.hid (HTQ.out.out_ (by rw [HK.out]; omega))
                          go_wp2_with fail
                          refine CTQ.out.mono ?_
                          rintro e w7 ⟨rfl, rfl⟩
                          go_wp2_with fail
                          exact ⟨⟨Q + 1, by omega, by go_num, HTN.out⟩, by simp [intOf] <;> omega⟩
                      · have q1 : decide ((Q : Int) < (P : Int)) = false := decide_eq_false (by omega)
                        have hQP : Q = 2 ^ ws.length := by have := HP.out; omega
                        have HROW : Hid (wr.rowIs w5.heap.size 4 (R + 1) (fun i => .bool (reachB ws (i : Int)))) := Lib.hid (HTQ.out.row.congr (fun i _ => by rw [hQP]; rfl))
                        have HR7 := Lib.hid (HR5.out.below HTQ.out.below)
                        have HB7 := Lib.hid (below_then HB5.out HTQ.out.below)
                        clear hQP HTQ HP HRN HV5 HR5 HB5 CT
                        go_upto_region 38 with fail
                        clear q1 hwr
                        obtain ⟨wz, rfl⟩ : ∃ wz : World, wz = wr := ⟨_, rfl⟩
                        go_loopw [24] (fun i wr => ∃ k q : Nat, i = .int .i64 k ∧ k ≤ R + 1 ∧ Hid (wr = wz.drewN q)) (fun i _ => R + 1 - (intOf i).toNat)
                        case atStart => exact ⟨0, 0, rfl, Nat.zero_le _, rfl⟩
                        case round =>
                          obtain ⟨s, q, rfl, hs, HQ⟩ := hrel
                          have s0 : (0 : Int) ≤ (s : Int) := Int.natCast_nonneg _
                          by_cases hst : s ≤ R
                          · obtain ⟨ra2, ea, _, hx⟩ := HR7.out.at (i := s) (by omega)
                            injection ea with ea
                            subst ea
                            have p1 : wr.cell? (ra.add s) = some (.bool (reachB ws (s : Int))) := by rw [HQ.out]; exact hx
                            have p2 : wr.cell? ⟨w5.heap.size, s, none⟩ = some (.bool (reachB ws (s : Int))) := by rw [HQ.out]; exact HROW.out.cell (by omega)
                            have s1 : (s : Int) ≤ (R : Int) := by omega
                            have s2 : s < R + 1 := by omega
                            clear hx
                            generalize reachB ws (s : Int) = b at *
                            have hbb : (b != b) = false := by simp
                            go_wp2_with fail
                            go_quiet (fail)
                            have HQ2 : Hid (wr.drewN nq = wz.drewN (q + nq)) := Lib.hid (by rw [HQ.out, World.drewN_drewN])
                            clear p1 p2
                            generalize wr.drewN nq = w8 at *
                            go_wp2_with fail
                            exact ⟨⟨s + 1, q + nq, by go_num, by omega, HQ2.out⟩, by simp [intOf] <;> omega⟩
                          · have s1 : decide ((s : Int) ≤ (R : Int)) = false := decide_eq_false (by omega)
                            have HB8 : Hid (Below w.heap.size w wr) := Lib.hid (by rw [HQ.out]; exact below_drewN HB7.out q)
                            go_wp2_with fail
                            refine (HAW.out _).mono ?_
                            rintro e w9 ⟨rfl, hb9⟩
                            have HB9 := Lib.hid (below_then HB8.out hb9)
                            clear hb9
                            go_wp2_with fail
                            go_ret
                            exact ⟨rfl, HB9.out⟩
                  · have d5 : decide ((9 : Int) < (ws.length : Int)) = true := decide_eq_true (by omega)
                    go_wp2_with fail
                    refine (HAW.out _).mono ?_
                    rintro e w6 ⟨rfl, hb6⟩
                    have HB6 := Lib.hid (below_then HB5.out hb6)
                    clear hb6
                    go_wp2_with fail
                    go_ret
                    exact ⟨rfl, HB6.out⟩
end Go.Proofs.Ytlbgncjikfdkoaa.SubWalk
