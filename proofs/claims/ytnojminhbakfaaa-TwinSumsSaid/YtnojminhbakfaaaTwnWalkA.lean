/-
  The walks of layer 13's code: the library's slices.IndexFunc and slices.ContainsFunc at items; mayBe, isRoom, longPart, Sums, Fits.
-/
import Derived.Test.YtnojminhbakfaaaTwnSay
import Derived.Test.YtnojminhbakfaaaTwnWay
import Derived.Test.YtnojminhbakfaaaSubWalkA
import Derived.Shelf.Abstract
import Derived.Deep.RegionHeld3
namespace Go.Proofs.Ytnojminhbakfaaa.TwnWalk
open Go.RowKit Go.Proofs.Ytnojminhbakfaaa.SubPlain Go.Proofs.Ytnojminhbakfaaa.ApiPlain Go.Proofs.Ytnojminhbakfaaa.TwnPlain Go.Proofs.Ytnojminhbakfaaa.Mem Go.Proofs.Ytnojminhbakfaaa.ApiMem Go.Proofs.Ytnojminhbakfaaa.SubRef Go.Proofs.Ytnojminhbakfaaa.TwnRef Go.Proofs.Ytnojminhbakfaaa.SubWalk
def NumB (n : Int) (w : World) (e : Ending) (w' : World) : Prop := e = .returned (.int .i64 n) ∧ Below w.heap.size w w'
set_option maxHeartbeats 800000 in
theorem part_i (x : Int) (g : Bool) (w : World) : Calls Try.prog 18 #[.agg #[.int .i64 x, .bool g]] w (NumB (partI ⟨x, g⟩) w) := by
  obtain ⟨n, hn⟩ : ∃ n, n = w.heap.size := ⟨_, rfl⟩
  have HBX := Lib.hid (ItmBox.new_at hn.symm ⟨x, g⟩ 39)
  have HBB := Lib.hid ((Below.refl w.heap.size w).alloc (Nat.le_refl _) (.cells #[.int .i64 x, .bool g] 39))
  cases g
  all_goals
    go_enter Try.func18, Try.ntmps18
    go_upto_region 1 with fail
    rw [← hn]
    clear hn
    generalize w.alloc (.cells #[.int .i64 x, .bool _] 39) = W at *
    obtain ⟨b0, b1, b2, b3, b4⟩ := HBX.out
    dsimp only at b1 b2
    go_wp2_with fail
    go_ret
    exact ⟨rfl, HBB.out⟩
set_option maxHeartbeats 800000 in
theorem wide_fn_i (x : Int) (g : Bool) (w : World) : Calls Try.prog 23 #[.agg #[.int .i64 x, .bool g]] w (BoolB (!wideB x) w) := by
  obtain ⟨n, hn⟩ : ∃ n, n = w.heap.size := ⟨_, rfl⟩
  have HBX := Lib.hid (ItmBox.new_at hn.symm ⟨x, g⟩ 39)
  have HBB := Lib.hid ((Below.refl w.heap.size w).alloc (Nat.le_refl _) (.cells #[.int .i64 x, .bool g] 39))
  rcases wide_ways x with ⟨a1, a2⟩ | ⟨a1, a3, a2⟩ | ⟨a1, a3, a2⟩
  all_goals
    have HR := Lib.hid a2
    clear a2
    go_enter Try.func23, Try.ntmps23
    go_upto_region 1 with fail
    rw [← hn]
    clear hn
    generalize w.alloc (.cells #[.int .i64 x, .bool g] 39) = W at *
    obtain ⟨b0, b1, b2, b3, b4⟩ := HBX.out
    dsimp only at b1 b2
    go_wp2_with fail
    go_ret
    exact ⟨by rw [HR.out]; rfl, HBB.out⟩
/-- A place of an item that may not be, or -1. -/
def FirstT (l : List Itm) (w : World) (e : Ending) (w' : World) : Prop := ∃ n : Int, e = .returned (.int .i64 n) ∧ decide (0 ≤ n) = !((wsOf l).all wideB) ∧ Below w.heap.size w w'
theorem all_not_i {l : List Itm} {k : Nat} (hk : k < l.length) (hx : wideB l[k].width = false) : (wsOf l).all wideB = false := by
  rw [List.all_eq_false]
  exact ⟨l[k].width, by rw [← ws_at hk]; exact List.getElem_mem _, by rw [hx]; decide⟩
set_option maxHeartbeats 1600000 in
theorem index_i (l : List Itm) (v : Value) (w : World) (hv : ItmsAt l w v) (hl : l.length ≤ 100000) : Calls Try.prog 29 #[v, .func (.func 23) #[] #[]] w (FirstT l w) := by
  obtain ⟨A, c, rfl, hc, hA⟩ := hv
  have HA := Lib.hid hA
  have HC := Lib.hid wide_fn_i
  have eg : ∀ args w, (callFunc 23 args).run Try.prog w = .ok (.enter 23 args) w := enters_of Try.func23 (by kernel_rfl) rfl
  clear hA
  go_enter Try.func29, Try.ntmps29
  go_wp2_with fail
  go_loopw [8] (fun i wr => ∃ k : Nat, k ≤ l.length ∧ i = .int .i64 k ∧ Hid (Below w.heap.size w wr) ∧ Hid (WideTo (wsOf l) k)) (fun i _ => l.length - (intOf i).toNat)
  case atStart => exact ⟨0, Nat.zero_le _, rfl, Below.refl _ _, WideTo.zero _⟩
  case round =>
    obtain ⟨k, hk, rfl, HB, HD⟩ := hrel
    by_cases hlt : k < l.length
    · obtain ⟨ad, rfl, hat⟩ := HA.out k hlt
      obtain ⟨hb2, h1, h2⟩ := hat.below HB.out
      have HNX : Hid (wideB l[k].width = true → WideTo (wsOf l) (k + 1)) := Lib.hid (fun h => HD.out.succ (by rw [ws_len]; exact hlt) (by rw [wsd_at hlt]; exact h))
      have HNO := Lib.hid (fun h => all_not_i hlt h)
      have hlt2 : (k : Int) < (l.length : Int) := by omega
      have i0 : (0 : Int) ≤ (k : Int) := Int.natCast_nonneg _
      clear hat
      generalize l[k] = y at *
      obtain ⟨x, g⟩ := y
      dsimp only at h1 h2 HNX HNO
      have CX := Lib.hid (HC.out x g wr)
      cases hd : wideB x
      · rw [hd] at CX
        have HR := Lib.hid (HNO.out hd)
        clear hd
        go_wp2_with (go_at_fn 23; refine CX.out.mono ?_; rintro e w1 ⟨rfl, hb1⟩)
        go_ret
        exact ⟨_, rfl, by rw [HR.out]; exact decide_eq_true i0, below_then HB.out hb1⟩
      · rw [hd] at CX
        have HR := Lib.hid (HNX.out hd)
        clear hd
        go_wp2_with (go_at_fn 23; refine CX.out.mono ?_; rintro e w1 ⟨rfl, hb1⟩)
        exact ⟨⟨k + 1, by omega, by go_num, below_then HB.out hb1, HR.out⟩, by simp [intOf] <;> omega⟩
    · have HR := Lib.hid (HD.out.all (by rw [ws_len]; omega))
      go_wp2_with fail
      go_ret
      exact ⟨-1, rfl, by rw [HR.out]; rfl, HB.out⟩
set_option maxHeartbeats 800000 in
theorem contains_i (l : List Itm) (v : Value) (w : World) (hv : ItmsAt l w v) (hl : l.length ≤ 100000) : Calls Try.prog 22 #[v, .func (.func 23) #[] #[]] w (BoolB (!((wsOf l).all wideB)) w) := by
  have CI := Lib.hid (index_i l v w hv hl)
  clear hv
  go_enter Try.func22, Try.ntmps22
  go_wp2_with (go_at_call 29; refine CI.out.mono ?_; rintro e w1 ⟨n, rfl, hn, hb1⟩; have HN := Lib.hid hn; clear hn)
  go_ret
  exact ⟨by rw [← HN.out]; rfl, hb1⟩
set_option maxHeartbeats 800000 in
theorem may_i (l : List Itm) (v : Value) (w : World) (hv : ItmsAt l w v) (hl : l.length ≤ 100000) : Calls Try.prog 15 #[v] w (BoolB (mayT l) w) := by
  have CI := Lib.hid (contains_i l v w hv hl)
  have HM : Hid (mayT l = ((wsOf l).all wideB && decide (l.length ≤ 32))) := rfl
  obtain ⟨A, c, rfl, hc, hA⟩ := hv
  clear hA
  generalize (wsOf l).all wideB = b at *
  by_cases h64 : l.length ≤ 32
  · have d1 : decide ((l.length : Int) ≤ 32) = true := decide_eq_true (by omega)
    have HR : Hid (mayT l = b) := Lib.hid (by rw [HM.out, decide_eq_true h64, Bool.and_true])
    cases b
    all_goals
      go_enter Try.func15, Try.ntmps15
      go_wp2_with (go_at_call 22; refine CI.out.mono ?_; rintro e w1 ⟨rfl, hb1⟩)
      go_ret
      exact ⟨by rw [HR.out]; rfl, hb1⟩
  · have d1 : decide ((l.length : Int) ≤ 32) = false := decide_eq_false (by omega)
    have HR : Hid (mayT l = false) := Lib.hid (by rw [HM.out, decide_eq_false h64, Bool.and_false])
    go_enter Try.func15, Try.ntmps15
    go_wp2_with fail
    go_ret
    exact ⟨by rw [HR.out]; rfl, Below.refl _ _⟩
def roomT (n : Int) : Bool := decide (0 ≤ n) && decide (n ≤ 256)
set_option maxHeartbeats 800000 in
theorem room_i (n : Int) (w : World) : Calls Try.prog 16 #[.int .i64 n] w (BoolQ (roomT n) w) := by
  have HR : Hid (roomT n = (decide (0 ≤ n) && decide (n ≤ 256))) := rfl
  by_cases h0 : 0 ≤ n
  · by_cases h1 : n ≤ 256
    · have HV : Hid (roomT n = true) := Lib.hid (by rw [HR.out, decide_eq_true h0, decide_eq_true h1]; rfl)
      go_enter Try.func16, Try.ntmps16
      go_wp2_with fail
      go_ret
      exact ⟨by rw [HV.out]; rfl, rfl⟩
    · have HV : Hid (roomT n = false) := Lib.hid (by rw [HR.out, decide_eq_true h0, decide_eq_false h1]; rfl)
      go_enter Try.func16, Try.ntmps16
      go_wp2_with fail
      go_ret
      exact ⟨by rw [HV.out]; rfl, rfl⟩
  · have HV : Hid (roomT n = false) := Lib.hid (by rw [HR.out, decide_eq_false h0]; rfl)
    go_enter Try.func16, Try.ntmps16
    go_wp2_with fail
    go_ret
    exact ⟨by rw [HV.out]; rfl, rfl⟩
theorem wAt_ls {l : List Itm} {m : Nat} (h : m < l.length) : wAt (lsOf l) (m : Int) = partI l[m] := by
  unfold wAt
  rw [Int.toNat_natCast, List.getD_eq_getElem?_getD, List.getElem?_eq_getElem (by rw [ls_len]; exact h), Option.getD_some, ls_at h]; rfl
theorem wAt_ws {l : List Itm} {m : Nat} (h : m < l.length) : wAt (wsOf l) (m : Int) = l[m].width := by
  unfold wAt
  rw [Int.toNat_natCast, wsd_at h]
theorem okT_okP {l : List Itm} {ps : List Int} (h : okP (wsOf l) ps = false) : okT l ps = false := by unfold okT; rw [h, Bool.and_false]
theorem sum_no {l : List Itm} {ps : List Int} (h : okT l ps = false) : sumA l ps = 0 ∧ sumB l ps = 0 := by
  unfold sumA sumB
  rw [h]
  exact ⟨rfl, rfl⟩
set_option maxHeartbeats 1600000 in
theorem sumsS (l : List Itm) (ps : List Int) (v u : Value) (w : World) (hv : ItmsAt l w v) (hf : ItmsFit l) (hl : l.length ≤ 50) (hu : IntsAt ps w u) (hg : IntsFit ps) (hm : ps.length ≤ 50) : Calls Try.prog 12 #[v, u] w (SumsSays l ps w) := by
  have CM := Lib.hid (may_i l v w hv (by omega))
  obtain ⟨A, c, rfl, hc, hA⟩ := hv
  obtain ⟨B, c2, rfl, hc2, hB⟩ := hu
  have HA := Lib.hid hA
  have HB := Lib.hid hB
  have CP := Lib.hid part_i
  clear hA hB
  cases hd : mayT l with
  | false =>
    have HO : Hid (okT l ps = false) := Lib.hid (by unfold okT; rw [hd]; rfl)
    rw [hd] at CM
    clear hd
    go_enter Try.func12, Try.ntmps12
    go_wp2_with (go_at_call 15; refine CM.out.mono ?_; rintro e w1 ⟨rfl, hb1⟩)
    go_ret3
    exact ⟨by rw [HO.out, (sum_no HO.out).1, (sum_no HO.out).2]; rfl, hb1⟩
  | true =>
    have HW : Hid ((wsOf l).all wideB = true) := Lib.hid (mayT_all hd).1
    have HMT := Lib.hid hd
    have H0 : Hid (okTo (wsOf l) ps 0 = true) := Lib.hid (mayT_W hd)
    rw [hd] at CM
    clear hd
    go_enter Try.func12, Try.ntmps12
    go_wp2_with (go_at_call 15; refine CM.out.mono ?_; rintro e w1 ⟨rfl, hb1⟩; have HB1 := Lib.hid hb1; clear hb1)
    go_loopw [4, 5, 7, 15] (fun t s q i wr => ∃ k : Nat, k ≤ ps.length ∧ i = .int .i64 k ∧ t = .int .i64 (sumTo (wsOf l) ps k) ∧ s = .int .i64 (sumTo (lsOf l) ps k) ∧ q = .int .i64 (lastAt ps k) ∧ Hid (okTo (wsOf l) ps k = true) ∧ Hid (Below w.heap.size w wr)) (fun _ _ _ i _ => ps.length - (intOf i).toNat)
    case atStart => exact ⟨0, Nat.zero_le _, rfl, rfl, rfl, rfl, H0, HB1⟩
    case round =>
      obtain ⟨k, hk, rfl, rfl, rfl, rfl, HK, HBR⟩ := hrel
      have hsb := sumTo_bound HW.out ps k
      have hsl := sumTo_longs HW.out ps k
      have hlb := lastAt_bound HK.out hk
      rw [ws_len] at hlb
      by_cases hlt : k < ps.length
      · obtain ⟨bd, rfl, hlb2, hcb⟩ := (HB.out.below HBR.out).at hlt
        have h1 : wr.cell? (bd.add k) = some (.int .i64 (ps.getD k 0)) := hcb
        have HNO := Lib.hid (fun h => okT_okP (ok_not (ws := wsOf l) hlt h))
        have HNX := Lib.hid (fun h => ok_next HK.out h)
        have HLN := Lib.hid (last_next ps k)
        have HSN : Hid (sumTo (wsOf l) ps (k + 1) = sumTo (wsOf l) ps k + wAt (wsOf l) (ps.getD k 0)) := rfl
        have HSL : Hid (sumTo (lsOf l) ps (k + 1) = sumTo (lsOf l) ps k + wAt (lsOf l) (ps.getD k 0)) := rfl
        have hlt2 : (k : Int) < (ps.length : Int) := by omega
        have i0 : (0 : Int) ≤ (k : Int) := Int.natCast_nonneg _
        have hw := step_ways (wsOf l) (lastAt ps k) (ps.getD k 0)
        rw [ws_len] at hw
        clear hcb HK
        generalize ps.getD k 0 = p at *
        generalize lastAt ps k = q at *
        generalize sumTo (wsOf l) ps k = t at *
        generalize sumTo (lsOf l) ps k = s at *
        rcases hw with ⟨a1, a2⟩ | ⟨a1, a3, a2⟩ | ⟨a1, a3, a2⟩
        · have HR := Lib.hid (HNO.out a2)
          clear a2 HNX HNO
          go_wp2_with fail
          go_ret3
          exact ⟨by rw [HR.out, (sum_no HR.out).1, (sum_no HR.out).2]; rfl, HBR.out⟩
        · have HR := Lib.hid (HNO.out a2)
          clear a2 HNX HNO
          go_wp2_with fail
          go_ret3
          exact ⟨by rw [HR.out, (sum_no HR.out).1, (sum_no HR.out).2]; rfl, HBR.out⟩
        · have HR := Lib.hid (HNX.out a2)
          have p1 : q < p := by have := of_decide_eq_false a1; omega
          have p2 : p < (l.length : Int) := by have := of_decide_eq_false a3; omega
          obtain ⟨m, rfl⟩ : ∃ m : Nat, p = (m : Int) := ⟨p.toNat, by omega⟩
          have hmlt : m < l.length := by omega
          obtain ⟨ad, rfl, hat⟩ := HA.out m hmlt
          obtain ⟨hb2, g1, g2⟩ := hat.below HBR.out
          have hx : wideB l[m].width = true := (List.all_eq_true.1 HW.out) _ (by rw [← ws_at hmlt]; exact List.getElem_mem _)
          unfold wideB at hx
          rw [Bool.and_eq_true, decide_eq_true_eq, decide_eq_true_eq] at hx
          obtain ⟨x1, x2⟩ := hx
          have HP2 := Lib.hid (wAt_ls hmlt)
          have HP1 := Lib.hid (wAt_ws hmlt)
          have hpb := part_bound x1
          have m0 : (0 : Int) ≤ (m : Int) := Int.natCast_nonneg _
          clear a2 HNX HNO hat
          generalize l[m] = y at *
          obtain ⟨x, g⟩ := y
          dsimp only at g1 g2 x1 x2 hpb HP1
          have C1 := Lib.hid (CP.out x g wr)
          generalize partI ⟨x, g⟩ = z at *
          go_wp2_with (go_at_call 18; refine C1.out.mono ?_; rintro e w5 ⟨rfl, hb5⟩)
          exact ⟨⟨k + 1, by omega, by go_num, by rw [HSN.out, HP1.out], by rw [HSL.out, HP2.out], by rw [HLN.out], HR, below_then HBR.out hb5⟩, by simp [intOf] <;> omega⟩
      · have HR : Hid (okT l ps = true) := Lib.hid (by unfold okT okP; rw [HMT.out, show ps.length = k by omega]; exact HK.out)
        have HS1 : Hid (sumA l ps = sumTo (wsOf l) ps k) := Lib.hid (by unfold sumA; rw [HR.out, if_pos rfl]; unfold sumP; rw [show ps.length = k by omega])
        have HS2 : Hid (sumB l ps = sumTo (lsOf l) ps k) := Lib.hid (by unfold sumB; rw [HR.out, if_pos rfl]; unfold sumP; rw [show ps.length = k by omega])
        clear HK
        go_wp2_with fail
        go_ret3
        exact ⟨by rw [HR.out, HS1.out, HS2.out]; rfl, HBR.out⟩
end Go.Proofs.Ytnojminhbakfaaa.TwnWalk
