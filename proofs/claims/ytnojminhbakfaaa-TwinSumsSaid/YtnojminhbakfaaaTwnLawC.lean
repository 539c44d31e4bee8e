/-
  The walks of the statements of layer 13: TwinSums.
-/
import Derived.Test.YtnojminhbakfaaaTwnLawB
import Derived.Test.YtnojminhbakfaaaSubWalk
namespace Go.Proofs.Ytnojminhbakfaaa.TwnWalk
open Go.RowKit Go.Proofs.Ytnojminhbakfaaa.SubPlain Go.Proofs.Ytnojminhbakfaaa.ApiPlain Go.Proofs.Ytnojminhbakfaaa.TwnPlain Go.Proofs.Ytnojminhbakfaaa.Mem Go.Proofs.Ytnojminhbakfaaa.ApiMem Go.Proofs.Ytnojminhbakfaaa.SubRef Go.Proofs.Ytnojminhbakfaaa.TwnRef Go.Proofs.Ytnojminhbakfaaa.SubWalk
/-- How the first loop stands: the places so far are places (q), or the last one is none. -/
def PlacesT (l : List Itm) (ps : List Int) (k : Nat) (q : Bool) (u v last : Int) : Prop := (q = true ∧ mayT l = true ∧ okTo (wsOf l) ps k = true ∧ u = sumTo (wsOf l) ps k ∧ v = sumTo (lsOf l) ps k ∧ last = lastAt ps k) ∨ (q = false ∧ okT l ps = false)
theorem PlacesT.zero (l : List Itm) (ps : List Int) : PlacesT l ps 0 (mayT l) 0 0 (-1) := by
  cases h : mayT l
  · exact .inr ⟨rfl, by unfold okT; rw [h]; rfl⟩
  · exact .inl ⟨rfl, h, mayT_W h, rfl, rfl, rfl⟩
theorem okP_no {ws ps : List Int} {k : Nat} (hk : k < ps.length) (h : upB ws (lastAt ps k) (ps.getD k 0) = false) : okP ws ps = false := by
  cases hp : okP ws ps
  · rfl
  · have h1 := ok_mono (k := k + 1) (by omega) hp
    unfold okTo at h1
    rw [Bool.and_eq_true, h] at h1
    cases h1.2
theorem PlacesT.next {l : List Itm} {ps : List Int} {k : Nat} (hm : mayT l = true) (h0 : okTo (wsOf l) ps k = true) (h : upB (wsOf l) (lastAt ps k) (ps.getD k 0) = true) : PlacesT l ps (k + 1) true (sumTo (wsOf l) ps k + wAt (wsOf l) (ps.getD k 0)) (sumTo (lsOf l) ps k + wAt (lsOf l) (ps.getD k 0)) (ps.getD k 0) := by
  refine .inl ⟨rfl, hm, by unfold okTo; rw [h0, h]; rfl, rfl, rfl, ?_⟩
  unfold lastAt
  rw [if_neg (by omega), Nat.add_sub_cancel]
/-- What is known behind the first loop. -/
def PlacesEnd (l : List Itm) (ps : List Int) (q : Bool) (u v : Int) : Prop := q = okT l ps ∧ (q = true → u = sumP (wsOf l) ps ∧ v = sumP (lsOf l) ps)
theorem PlacesT.end_ {l : List Itm} {ps : List Int} {k : Nat} {q : Bool} {u v last : Int} (h : PlacesT l ps k q u v last) (hk : k = ps.length ∨ q = false) : PlacesEnd l ps q u v := by
  rcases h with ⟨rfl, hm, h1, h2, h3, _⟩ | ⟨rfl, h1⟩
  · rcases hk with rfl | hk
    · exact ⟨by unfold okT okP; rw [hm, h1]; rfl, fun _ => ⟨h2, h3⟩⟩
    · cases hk
  · exact ⟨h1.symm, fun h => by cases h⟩
theorem PlacesEnd.no {l : List Itm} {ps : List Int} {k : Nat} {u v : Int} (hk : k < ps.length) (h : upB (wsOf l) (lastAt ps k) (ps.getD k 0) = false) : PlacesEnd l ps false u v :=
  ⟨by unfold okT; rw [okP_no hk h, Bool.and_false], fun h => by cases h⟩
theorem upT_ways (l : List Itm) (last p : Int) : (decide (last < p) = false ∧ upB (wsOf l) last p = false) ∨ (decide (last < p) = true ∧ decide (p < (l.length : Int)) = false ∧ upB (wsOf l) last p = false) ∨ (decide (last < p) = true ∧ decide (p < (l.length : Int)) = true ∧ upB (wsOf l) last p = true) := by
  unfold upB
  rw [ws_len]
  cases decide (last < p) <;> cases decide (p < (l.length : Int)) <;> simp
theorem fifty_ways (n m : Nat) : (decide ((50 : Int) < (n : Int)) = true) ∨ (decide ((50 : Int) < (n : Int)) = false ∧ decide ((50 : Int) < (m : Int)) = true) ∨ (decide ((50 : Int) < (n : Int)) = false ∧ decide ((50 : Int) < (m : Int)) = false ∧ n ≤ 50 ∧ m ≤ 50) := by
  by_cases h1 : n ≤ 50
  · by_cases h2 : m ≤ 50
    · exact .inr (.inr ⟨decide_eq_false (by omega), decide_eq_false (by omega), h1, h2⟩)
    · exact .inr (.inl ⟨decide_eq_false (by omega), decide_eq_true (by omega)⟩)
  · exact .inl (decide_eq_true (by omega))
theorem six_ways (a b c d e f : Bool) : (a = false ∧ (a && (b && (c && (d && (e && f))))) = false) ∨ (a = true ∧ b = false ∧ (a && (b && (c && (d && (e && f))))) = false) ∨ (a = true ∧ b = true ∧ c = false ∧ (a && (b && (c && (d && (e && f))))) = false) ∨ (a = true ∧ b = true ∧ c = true ∧ d = false ∧ (a && (b && (c && (d && (e && f))))) = false) ∨
    (a = true ∧ b = true ∧ c = true ∧ d = true ∧ e = false ∧ (a && (b && (c && (d && (e && f))))) = false) ∨ (a = true ∧ b = true ∧ c = true ∧ d = true ∧ e = true ∧ f = false ∧ (a && (b && (c && (d && (e && f))))) = false) ∨ (a = true ∧ b = true ∧ c = true ∧ d = true ∧ e = true ∧ f = true ∧ (a && (b && (c && (d && (e && f))))) = true) := by
  cases a <;> cases b <;> cases c <;> cases d <;> cases e <;> cases f <;> simp
theorem bad_alike {l : List Itm} (h : l.length ≤ 32) (r : Int) : badT l r r = bad (wsOf l) r := by
  unfold badT bad
  rw [mayW_T h]
  cases mayT l <;> cases decide (r < 0) <;> cases decide (256 < r) <;> rfl
theorem alike {l : List Itm} (h : l.length ≤ 32) (r : Int) : bestLT l r r = bestL (wsOf l) r ∧ bestNT l r r = bestN (wsOf l) r ∧ badET l r r = badE (wsOf l) r := by
  have hb := bad_alike h r
  unfold bestLT bestL bestNT bestN badET badE
  rw [hb]
  cases hbb : bad (wsOf l) r
  · have hm : mayT l = true := by
      rw [← mayW_T h]
      rcases bad_ways (wsOf l) r with ⟨_, h2⟩ | ⟨_, _, h2⟩ | ⟨_, _, _, h2⟩ | ⟨h1, _⟩
      · rw [hbb] at h2; cases h2
      · rw [hbb] at h2; cases h2
      · rw [hbb] at h2; cases h2
      · exact h1
    simp only [Bool.false_eq_true, if_false]
    rw [bestI_alike (mayT_all hm).1, ws_len]
    exact ⟨rfl, rfl, trivial⟩
  · simp only [if_true]
    exact ⟨trivial, trivial, trivial⟩
theorem best_len (ws : List Int) (r : Int) : (bestL ws r).length ≤ ws.length := by
  unfold bestL
  split
  · exact Nat.zero_le _
  · exact placesTo_len _ _ _
theorem ws_fit {l : List Itm} (h : ItmsFit l) : IntsFit (wsOf l) := fun x hx => by
  unfold wsOf at hx
  rw [List.mem_map] at hx
  obtain ⟨y, hy, rfl⟩ := hx
  exact h y hy
theorem ws_take {l : List Itm} {k : Nat} (h : k < l.length) : (wsOf l).take (k + 1) = (wsOf l).take k ++ [l[k].width] := by
  rw [List.take_succ_eq_append_getElem (by rw [ws_len]; exact h), ws_at h]
set_option maxRecDepth 100000 in
set_option maxHeartbeats 12800000 in
theorem sumsT_any (l : List Itm) (ps : List Int) (x0 x1 : Int) (v u : Value) (w : World) (hv : ItmsAt l w v) (hf : ItmsFit l) (hu : IntsAt ps w u) (hg : IntsFit ps) (hr : -9223372036854775808 ≤ x0 ∧ x0 ≤ 9223372036854775807) : Calls Try.prog 4 #[v, u, .agg #[.int .i64 x0, .int .i64 x1]] w (TrueIs w) := by
  have HAW := Lib.hid (fun W => awake13 W)
  have CS := Lib.hid (fun W (h : ItmsAt l W v) h1 (h2 : IntsAt ps W u) h3 => sumsS l ps v u W h hf h1 h2 hg h3)
  have CF := Lib.hid (fun W (h : ItmsAt l W v) h1 (h2 : IntsAt ps W u) h3 => fitsS l ps x0 x1 v u W h hf h1 h2 hg h3)
  have CM := Lib.hid (fun W (h : ItmsAt l W v) h1 => may13 l v W h h1)
  have CB := Lib.hid (fun W (h : ItmsAt l W v) h1 => bestTS l x0 x0 v W h hf h1 hr hr)
  have CT := Lib.hid (fun W x (h : IntsAt (wsOf l) W x) h1 => bestS (wsOf l) x0 x W h (ws_fit hf) h1 hr)
  have HV := Lib.hid hv
  have HU := Lib.hid hu
  have HX := Lib.hid (Box2.new w (.int .i64 x0) (.int .i64 x1) 35)
  have HB := Lib.hid (below_fresh w (.cells #[.int .i64 x0, .int .i64 x1] 35))
  have hlw := fifty_ways l.length ps.length
  obtain ⟨A, c, rfl, hc, hA⟩ := hv
  obtain ⟨B, d, rfl, hd, hB⟩ := hu
  have HA := Lib.hid hA
  have HBB := Lib.hid hB
  clear hA hB hf hg hr
  unfold SumsSays at CS
  unfold BoolB at CF
  unfold TBestSays at CB
  unfold BestSays at CT
  rcases hlw with a1 | ⟨a1, a2⟩ | ⟨a1, a2, n1, n2⟩
  iterate 2
    · go_enter Try.func4, Try.ntmps4
      go_upto_region 1 with fail
      generalize w.alloc (.cells #[.int .i64 x0, .int .i64 x1] 35) = w0 at *
      go_wp2_with fail
      refine (HAW.out _).mono ?_
      rintro e w1 ⟨rfl, hb1⟩
      have HB1 := Lib.hid (below_then HB.out hb1)
      clear hb1
      go_wp2_with fail
      go_ret
      exact ⟨rfl, HB1.out⟩
  · go_enter Try.func4, Try.ntmps4
    go_upto_region 1 with fail
    generalize w.alloc (.cells #[.int .i64 x0, .int .i64 x1] 35) = w0 at *
    have CS0 := Lib.hid (CS.out w0 (HV.out.below HB.out) n1 (HU.out.below HB.out) n2)
    clear CS
    go_wp2_with fail
    refine CS0.out.mono ?_
    rintro e w1 ⟨rfl, hb1⟩
    have HB1 := Lib.hid (below_then HB.out hb1)
    have HX1 := Lib.hid (HX.out.below hb1)
    have CM1 := Lib.hid (CM.out w1 (HV.out.below HB1.out) (by omega))
    have HZ := Lib.hid (PlacesT.zero l ps)
    have HA1 : Hid (∀ i (hi : i < l.length), ∃ a, A = some a ∧ ItmAt w1 (a.add (i * 2)) l[i]) := Lib.hid (fun i hi => by
      obtain ⟨a, ea, h1⟩ := HA.out i hi
      exact ⟨a, ea, h1.below HB1.out⟩)
    have HP1 := Lib.hid (HBB.out.below HB1.out)
    clear hb1 HB HX CM CS0 HA HBB
    go_wp2_with fail
    refine CM1.out.mono ?_
    rintro e w2 ⟨rfl, rfl⟩
    generalize mayT l = q0 at *
    go_upto_block 0 with fail
    go_cut [10, 11, 13] (fun c10 c11 c13 wc => ∃ (U V : Int) (q : Bool), c10 = .int .i64 U ∧ c11 = .int .i64 V ∧ c13 = .bool q ∧ Hid (PlacesEnd l ps q U V) ∧ w1 = wc)
    case first =>
      go_wp2_with fail
      go_loop [10, 11, 12, 13, 14] (fun s t la b i => ∃ (k : Nat) (x y z : Int) (q : Bool), k ≤ ps.length ∧ i = .int .i64 k ∧ s = .int .i64 x ∧ t = .int .i64 y ∧ la = .int .i64 z ∧ b = .bool q ∧ Hid (PlacesT l ps k q x y z)) (fun _ _ _ _ i => ps.length - (intOf i).toNat)
      case atStart => exact ⟨0, 0, 0, -1, q0, Nat.zero_le _, rfl, rfl, rfl, rfl, rfl, HZ.out⟩
      case round =>
        clear HZ
        obtain ⟨k, x, y, z, q, hk, rfl, rfl, rfl, rfl, rfl, HP⟩ := hrel
        by_cases hrun : k < ps.length ∧ q = true
        · obtain ⟨hlt, rfl⟩ := hrun
          have i0 : (0 : Int) ≤ (k : Int) := Int.natCast_nonneg _
          have i1 : (k : Int) < (ps.length : Int) := by omega
          have hp := HP.out
          unfold PlacesT at hp
          rcases hp with ⟨_, hm, hok, rfl, rfl, rfl⟩ | ⟨h, _⟩
          case inr => cases h
          have hla := lastAt_bound hok hk
          have hall := (mayT_all hm).1
          have hsb := sumTo_bound hall ps k
          have hsl := sumTo_longs hall ps k
          have HNX := Lib.hid (fun h => PlacesT.next hm hok h)
          have HNO := Lib.hid (fun (s t : Int) (h : upB (wsOf l) (lastAt ps k) (ps.getD k 0) = false) => PlacesEnd.no (u := s) (v := t) hlt h)
          have HWB := Lib.hid (fun p => wAt_bound hall p)
          have HLB := Lib.hid (fun p => wAt_longs hall p)
          obtain ⟨bd, rfl, hb2, hcell⟩ := HP1.out.at hlt
          have h1 : w1.cell? (bd.add k) = some (.int .i64 ps[k]) := by rw [← getD_at hlt]; exact hcell
          have hway := upT_ways l (lastAt ps k) (ps.getD k 0)
          rw [getD_at hlt] at HNX HNO hway
          rw [ws_len] at hla
          clear hcell HP hok hm hall
          generalize sumTo (wsOf l) ps k = X at *
          generalize sumTo (lsOf l) ps k = Y at *
          generalize lastAt ps k = Z at *
          generalize ps[k] = P at *
          rcases hway with ⟨u1, hup⟩ | ⟨u1, u2, hup⟩ | ⟨u1, u2, hup⟩
          · have HN := Lib.hid (HNO.out X Y hup)
            clear hup HNX HNO
            go_wp2_with fail
            go_meet
            exact ⟨X, Y, false, rfl, rfl, rfl, HN.out, rfl⟩
          · have HN := Lib.hid (HNO.out X Y hup)
            clear hup HNX HNO
            go_wp2_with fail
            go_meet
            exact ⟨X, Y, false, rfl, rfl, rfl, HN.out, rfl⟩
          · have HN := Lib.hid (HNX.out hup)
            have hP : ∃ m : Nat, P = (m : Int) ∧ m < l.length := by
              rw [decide_eq_true_eq] at u1 u2
              exact ⟨P.toNat, by omega, by omega⟩
            obtain ⟨m, rfl, hm⟩ := hP
            have hwb := HWB.out (m : Int)
            have hlb := HLB.out (m : Int)
            have e1 : wAt (wsOf l) (m : Int) = l[m].width := by rw [wAt_at (by rw [ws_len]; exact hm), ws_at hm]
            have e2 : wAt (lsOf l) (m : Int) = if l[m].long = true then l[m].width else 0 := by rw [wAt_at (by rw [ls_len]; exact hm), ls_at hm]
            rw [e1] at HN hwb
            rw [e2] at HN hlb
            obtain ⟨ad, rfl, ⟨ha, g1, g2⟩⟩ := HA1.out m hm
            have m0 : (0 : Int) ≤ (m : Int) := Int.natCast_nonneg _
            have m1 : (m : Int) < (l.length : Int) := by omega
            clear hup HNX HNO e1 e2
            generalize l[m] = yy at *
            obtain ⟨W, G⟩ := yy
            dsimp only at g1 g2 HN hwb hlb
            cases G
            · have HN2 : Hid (PlacesT l ps (k + 1) true (X + W) Y (m : Int)) := Lib.hid (by have := HN.out; rw [if_neg (by decide), Int.add_zero] at this; exact this)
              clear hlb
              go_wp2_with fail
              exact ⟨⟨k + 1, X + W, Y, (m : Int), true, by omega, by go_num, rfl, rfl, rfl, rfl, HN2.out⟩, by simp [intOf] <;> omega⟩
            · have HN2 : Hid (PlacesT l ps (k + 1) true (X + W) (Y + W) (m : Int)) := Lib.hid (by have := HN.out; rw [if_pos rfl] at this; exact this)
              clear hlb
              go_wp2_with fail
              exact ⟨⟨k + 1, X + W, Y + W, (m : Int), true, by omega, by go_num, rfl, rfl, rfl, rfl, HN2.out⟩, by simp [intOf] <;> omega⟩
        · have HE := Lib.hid (HP.out.end_ (by
            cases q
            · exact .inr rfl
            · exact .inl (by have : ¬ k < ps.length := fun h => hrun ⟨h, rfl⟩
                             omega)))
          have hkq : (decide (k < ps.length) = false) ∨ (decide (k < ps.length) = true ∧ q = false) := by
            by_cases h : k < ps.length
            · refine .inr ⟨decide_eq_true h, ?_⟩
              cases q
              · rfl
              · exact absurd ⟨h, rfl⟩ hrun
            · exact .inl (decide_eq_false h)
          clear HP hrun
          rcases hkq with h1 | ⟨h1, rfl⟩
          all_goals
            go_wp2_with fail
            go_meet
            exact ⟨x, y, _, rfl, rfl, rfl, HE.out, rfl⟩
    case rest =>
      obtain ⟨U, V, q, rfl, rfl, rfl, HE, rfl⟩ := hcut
      clear HZ
      have hAB : ∃ SA SB : Int, SA = sumA l ps ∧ SB = sumB l ps ∧ Hid ((q = true ∧ SA = U ∧ SB = V) ∨ (q = false ∧ SA = 0 ∧ SB = 0)) := by
        obtain ⟨hq, huv⟩ := HE.out
        refine ⟨_, _, rfl, rfl, ?_⟩
        unfold sumA sumB
        rw [← hq]
        cases q
        · exact .inr ⟨rfl, rfl, rfl⟩
        · exact .inl ⟨rfl, (huv rfl).1.symm, (huv rfl).2.symm⟩
      obtain ⟨SA, SB, hSA, hSB, HAB⟩ := hAB
      have hqo := HE.out.1
      rw [← hSA, ← hSB, ← hqo]
      clear hSA hSB hqo
      go_upto_region 14 with fail
      obtain ⟨y, y0, y1, _, _⟩ := HX1.out
      go_cut [15] (fun c wc => c = .bool (fitsT l ps x0 x1) ∧ w1 = wc)
      case first =>
        obtain ⟨hq, huv⟩ := HE.out
        cases q
        · have HFT : Hid (fitsT l ps x0 x1 = false) := Lib.hid (by unfold fitsT; rw [← hq]; rfl)
          clear hq huv
          go_wp2_with fail
          go_meet
          exact ⟨by rw [HFT.out], rfl⟩
        · obtain ⟨hU, hV⟩ := huv rfl
          have HFT : Hid (fitsT l ps x0 x1 = (decide (0 ≤ x0) && (decide (x0 ≤ 256) && (decide (0 ≤ x1) && (decide (x1 ≤ 256) && (decide (U ≤ x0) && decide (V ≤ x1))))))) := Lib.hid (by unfold fitsT; rw [← hq, hU, hV]; rfl)
          clear hq huv hU hV
          rcases six_ways (decide (0 ≤ x0)) (decide (x0 ≤ 256)) (decide (0 ≤ x1)) (decide (x1 ≤ 256)) (decide (U ≤ x0)) (decide (V ≤ x1)) with ⟨k1, hw⟩ | ⟨k1, k2, hw⟩ | ⟨k1, k2, k3, hw⟩ | ⟨k1, k2, k3, k4, hw⟩ | ⟨k1, k2, k3, k4, k5, hw⟩ | ⟨k1, k2, k3, k4, k5, k6, hw⟩ | ⟨k1, k2, k3, k4, k5, k6, hw⟩
          all_goals
            have HFW := Lib.hid (HFT.out.trans hw)
            clear hw HFT
            go_wp2_with fail
            go_meet
            exact ⟨by rw [HFW.out], rfl⟩
      case rest =>
        obtain ⟨rfl, rfl⟩ := hcut
        go_upto_region 15 with fail
        go_cut [162] (fun c wc => c = .bool false ∧ Below w1.heap.size w1 wc)
        case first =>
          have CF1 := Lib.hid (CF.out w1 (HV.out.below HB1.out) n1 (HU.out.below HB1.out) n2)
          clear CF CB CT HE
          generalize fitsT l ps x0 x1 = F at *
          have eF : (F != F) = false := by simp
          have eU : (U != U) = false := by simp
          have eV : (V != V) = false := by simp
          rcases HAB.out with ⟨rfl, rfl, rfl⟩ | ⟨rfl, rfl, rfl⟩
          all_goals
            go_wp2_with fail
            refine CF1.out.mono ?_
            rintro e w2 ⟨rfl, hb2⟩
            have HB2 := Lib.hid hb2
            clear hb2
            go_wp2_with fail
            go_meet
            exact ⟨rfl, HB2.out⟩
        case rest =>
          obtain ⟨rfl, hb2⟩ := hcut
          obtain ⟨w2, rfl⟩ : ∃ W : World, W = wc := ⟨_, rfl⟩
          have HB2 := Lib.hid (below_then HB1.out hb2)
          have HX2 := Lib.hid (HX1.out.below hb2)
          have HA2 : Hid (∀ W, Below w2.heap.size w2 W → ∀ i (hi : i < l.length), ∃ a, A = some a ∧ ItmAt W (a.add (i * 2)) l[i]) := Lib.hid (fun W hb i hi => by
            obtain ⟨a, ea, h1⟩ := HA1.out i hi
            exact ⟨a, ea, (h1.below hb2).below hb⟩)
          have HO0 := Lib.hid (OwnR.new w2 3 1)
          clear hb2 y y0 y1 HX1 HE CF HA1 HAB HP1 HB1
          go_wp2_with fail
          go_loopw [16, 17] (fun o i wr => ∃ (k : Nat) (z : Value), z = o ∧ i = .int .i64 k ∧ k ≤ l.length ∧ Hid (RowI w2 wr z ((wsOf l).take k))) (fun _ i _ => l.length - (intOf i).toNat)
          case atStart => exact ⟨0, _, rfl, rfl, Nat.zero_le _, HO0.out, (Below.refl _ _).alloc (Nat.le_refl _) _⟩
          case round =>
            clear HO0
            obtain ⟨k, o, hov, rfl, hk, HR⟩ := hrel
            subst hov
            obtain ⟨g, cg, rfl, _⟩ := HR.out.own.form
            have k0 : (0 : Int) ≤ (k : Int) := Int.natCast_nonneg _
            by_cases hlt : k < l.length
            · obtain ⟨ad, rfl, ⟨ha, g1, g2⟩⟩ := HA2.out wr HR.out.below k hlt
              have HN := Lib.hid (ws_take hlt)
              have hml : ((wsOf l).take k).length ≤ k := List.length_take_le _ _
              have k1 : (k : Int) < (l.length : Int) := by omega
              generalize hM2 : (wsOf l).take (k + 1) = M2 at *
              have HM2 := Lib.hid hM2
              clear hM2 g2 CB CT
              generalize (wsOf l).take k = M at *
              generalize l[k] = yy at *
              obtain ⟨W, G⟩ := yy
              dsimp only at g1 HN
              have HO := Lib.hid (HR.out.own.alloc (.cells #[.int .i64 W] 3))
              go_wp2_with (at_builtin; refine push_raw ints_t rfl (.tmp 170) (.tmp 176) rfl w2.heap.size _ _ _ rfl HO.out ⟨wr.heap.size, 0, none⟩ 1 1 [.int .i64 W] rfl rfl ?ha1 one_cell ?ha2 ?_)
              case ha1 => exact Raw.alloc wr #[.int .i64 W] 3
              case ha2 => omega
              intro v7 w7 ho7 hb7
              have HW7 : Hid (RowI w2 w7 v7 (M ++ [W])) := RowI.more HR.out _ ho7 rfl hb7
              clear ho7 hb7
              go_wp2_with fail
              exact ⟨⟨k + 1, _, rfl, by go_num, by omega, by rw [HM2.out, HN.out]; exact HW7.out⟩, by simp [intOf] <;> omega⟩
            · have he : (wsOf l).take k = wsOf l := List.take_of_length_le (by rw [ws_len]; omega)
              rw [he] at HR
              rw [he]
              have hwl := ws_len l
              rw [hwl] at HR
              rw [hwl]
              have d1 : decide ((k : Int) < (l.length : Int)) = false := decide_eq_false (by omega)
              have HBr := Lib.hid (below_then HB2.out HR.out.below)
              have HXr := Lib.hid (HX2.out.below HR.out.below)
              obtain ⟨y, y0, y1, _, _⟩ := HXr.out
              clear he hwl
              have hway : (decide (60 < x0) = true) ∨ (decide (60 < x0) = false ∧ decide ((32 : Int) < (l.length : Int)) = true) ∨ (decide (60 < x0) = false ∧ decide ((32 : Int) < (l.length : Int)) = false ∧ l.length ≤ 32) := by
                by_cases h1 : 60 < x0
                · exact .inl (decide_eq_true h1)
                · by_cases h2 : l.length ≤ 32
                  · exact .inr (.inr ⟨decide_eq_false h1, decide_eq_false (by omega), h2⟩)
                  · exact .inr (.inl ⟨decide_eq_false h1, decide_eq_true (by omega)⟩)
              rcases hway with c1 | ⟨c1, c2⟩ | ⟨c1, c2, h32⟩
              iterate 2
                · go_wp2_with fail
                  refine (HAW.out _).mono ?_
                  rintro e w8 ⟨rfl, hb⟩
                  have HB8 := Lib.hid (below_then HBr.out hb)
                  clear hb
                  go_wp2_with fail
                  go_ret
                  exact ⟨rfl, HB8.out⟩
              · have HXf := Lib.hid (fun W (hb : Below wr.heap.size wr W) => HXr.out.below hb)
                have HIs := Lib.hid HR.out.is
                have CB8 := Lib.hid (CB.out wr (HV.out.below HBr.out) n1)
                have CT8 := Lib.hid (fun W x (h : IntsAt (wsOf l) W x) => CT.out W x h (by rw [ws_len]; omega))
                obtain ⟨e1, e2, e3⟩ := alike h32 x0
                rw [e1, e2, e3] at CB8
                have hbl := best_len (wsOf l) x0
                rw [ws_len] at hbl
                have CS8 := Lib.hid (fun W a b (h1 : IntsAt (bestL (wsOf l) x0) W a) (h2 : IntsAt (bestL (wsOf l) x0) W b) => same1 _ a b W h1 h2 (by omega))
                clear CB CT e1 e2 e3 hbl HR HX2 HA2 HB2
                generalize bestL (wsOf l) x0 = L at *
                generalize bestN (wsOf l) x0 = N at *
                generalize badE (wsOf l) x0 = E at *
                have eE : (E == E) = true := by simp
                have eN : (N == N) = true := by simp
                go_wp2_with fail
                refine CB8.out.mono ?_
                rintro e w8 ⟨p8, rfl, hp8, _, hb8⟩
                have HB8 := Lib.hid (below_then HBr.out hb8)
                have HP8 := Lib.hid hp8
                obtain ⟨A8, c8, rfl, _, _⟩ := hp8
                have CT9 := Lib.hid (CT8.out w8 _ (HIs.out.below hb8))
                have hx8 := HXf.out w8 hb8
                clear hb8 y y0 y1 HBr HXr HXf HIs CT8 CB8
                obtain ⟨y, y0, y1, _, _⟩ := hx8
                go_wp2_with fail
                refine CT9.out.mono ?_
                rintro e w9 ⟨p9, rfl, hp9, _, hb9⟩
                have HB9 := Lib.hid (below_then HB8.out hb9)
                have CS9 := Lib.hid (CS8.out w9 _ _ (HP8.out.below hb9) hp9)
                obtain ⟨A9, c9, rfl, _, _⟩ := hp9
                clear hb9 CT9 CS8 HP8 y y0 y1
                go_wp2_with fail
                refine CS9.out.mono ?_
                rintro e w10 ⟨rfl, n10, rfl⟩
                have HB10 := Lib.hid (below_drewN HB9.out n10)
                generalize w9.drewN n10 = w11 at *
                clear CS9
                go_wp2_with fail
                refine (HAW.out _).mono ?_
                rintro e w12 ⟨rfl, hb⟩
                have HB12 := Lib.hid (below_then HB10.out hb)
                clear hb
                go_wp2_with fail
                go_ret
                exact ⟨rfl, HB12.out⟩
end Go.Proofs.Ytnojminhbakfaaa.TwnWalk
