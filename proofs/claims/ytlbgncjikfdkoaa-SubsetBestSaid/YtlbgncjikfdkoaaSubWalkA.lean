/-
  The walks of layer 12's code: the library's slices.IndexFunc and slices.ContainsFunc at widths; mayBe, isRoom, Total.
-/
import Derived.Test.YtlbgncjikfdkoaaSubSay
import Derived.Test.YtlbgncjikfdkoaaSubWay
import Derived.Shelf.Abstract
namespace Go.Proofs.Ytlbgncjikfdkoaa.SubWalk
open Go.RowKit Go.Proofs.Ytlbgncjikfdkoaa.SubPlain Go.Proofs.Ytlbgncjikfdkoaa.Mem Go.Proofs.Ytlbgncjikfdkoaa.SubRef
set_option maxHeartbeats 800000 in
theorem wide_fn (x : Int) (w : World) : Calls Try.prog 18 #[.int .i64 x] w (BoolQ (!wideB x) w) := by
  rcases wide_ways x with ⟨a1, a2⟩ | ⟨a1, a3, a2⟩ | ⟨a1, a3, a2⟩
  all_goals
    have HR := Lib.hid a2
    clear a2
    go_enter Try.func18, Try.ntmps18
    go_wp2_with fail
    go_ret
    exact ⟨by rw [HR.out]; rfl, rfl⟩
/-- A place of a width that may not be, or -1. -/
def FirstIs (ws : List Int) (w : World) (e : Ending) (w' : World) : Prop := ∃ n : Int, e = .returned (.int .i64 n) ∧ decide (0 ≤ n) = !(ws.all wideB) ∧ w = w'
theorem all_not {ws : List Int} {k : Nat} (hk : k < ws.length) (hx : wideB (ws.getD k 0) = false) : ws.all wideB = false := by
  rw [List.all_eq_false]
  exact ⟨ws[k], List.getElem_mem _, by rw [← getD_at hk, hx]; decide⟩
set_option maxHeartbeats 800000 in
theorem index_w (ws : List Int) (v : Value) (w : World) (hv : IntsAt ws w v) (hl : ws.length ≤ 100000) : Calls Try.prog 20 #[v, .func (.func 18) #[] #[]] w (FirstIs ws w) := by
  obtain ⟨A, c, rfl, hc, hA⟩ := hv
  have HA := Lib.hid hA
  have HC := Lib.hid wide_fn
  have eg : ∀ args w, (callFunc 18 args).run Try.prog w = .ok (.enter 18 args) w := enters_of Try.func18 (by kernel_rfl) rfl
  clear hA
  go_enter Try.func20, Try.ntmps20
  go_wp2_with fail
  go_loop [8] (fun i => ∃ k : Nat, k ≤ ws.length ∧ i = .int .i64 k ∧ Hid (WideTo ws k)) (fun i => ws.length - (intOf i).toNat)
  case atStart => exact ⟨0, Nat.zero_le _, rfl, WideTo.zero ws⟩
  case round =>
    obtain ⟨k, hk, rfl, HD⟩ := hrel
    by_cases hlt : k < ws.length
    · obtain ⟨ad, rfl, hb, hcell⟩ := HA.out.at hlt
      have h1 : w.cell? (ad.add k) = some (.int .i64 (ws.getD k 0)) := hcell
      have HNX := Lib.hid (fun h => HD.out.succ hlt h)
      have HNO := Lib.hid (fun h => all_not hlt h)
      have hlt2 : (k : Int) < (ws.length : Int) := by omega
      have i0 : (0 : Int) ≤ (k : Int) := Int.natCast_nonneg _
      clear hcell
      generalize ws.getD k 0 = x at *
      have CX := Lib.hid (HC.out x w)
      cases hd : wideB x
      · rw [hd] at CX
        have HR := Lib.hid (HNO.out hd)
        clear hd
        go_wp2_with (go_at_fn 18; refine CX.out.mono ?_; rintro e w1 ⟨rfl, rfl⟩)
        go_ret
        exact ⟨_, rfl, by rw [HR.out]; exact decide_eq_true i0, rfl⟩
      · rw [hd] at CX
        have HR := Lib.hid (HNX.out hd)
        clear hd
        go_wp2_with (go_at_fn 18; refine CX.out.mono ?_; rintro e w1 ⟨rfl, rfl⟩)
        exact ⟨⟨k + 1, by omega, by go_num, HR.out⟩, by simp [intOf] <;> omega⟩
    · have HR := Lib.hid (HD.out.all (by omega))
      go_wp2_with fail
      go_ret
      exact ⟨-1, rfl, by rw [HR.out]; rfl, rfl⟩
set_option maxHeartbeats 800000 in
theorem contains_w (ws : List Int) (v : Value) (w : World) (hv : IntsAt ws w v) (hl : ws.length ≤ 100000) : Calls Try.prog 17 #[v, .func (.func 18) #[] #[]] w (BoolQ (!(ws.all wideB)) w) := by
  have CI := Lib.hid (index_w ws v w hv hl)
  clear hv
  go_enter Try.func17, Try.ntmps17
  go_wp2_with (go_at_call 20; refine CI.out.mono ?_; rintro e w1 ⟨n, rfl, hn, rfl⟩; have HN := Lib.hid hn; clear hn)
  go_ret
  exact ⟨by rw [← HN.out]; rfl, rfl⟩
set_option maxHeartbeats 800000 in
theorem may_w (ws : List Int) (v : Value) (w : World) (hv : IntsAt ws w v) (hl : ws.length ≤ 100000) : Calls Try.prog 14 #[v] w (BoolQ (mayW ws) w) := by
  have CI := Lib.hid (contains_w ws v w hv hl)
  have HM : Hid (mayW ws = (ws.all wideB && decide (ws.length ≤ 64))) := rfl
  obtain ⟨A, c, rfl, hc, hA⟩ := hv
  clear hA
  generalize ws.all wideB = b at *
  by_cases h64 : ws.length ≤ 64
  · have d1 : decide ((ws.length : Int) ≤ 64) = true := decide_eq_true (by omega)
    have HR : Hid (mayW ws = b) := Lib.hid (by rw [HM.out, decide_eq_true h64, Bool.and_true])
    cases b
    all_goals
      go_enter Try.func14, Try.ntmps14
      go_wp2_with (go_at_call 17; refine CI.out.mono ?_; rintro e w1 ⟨rfl, rfl⟩)
      go_ret
      exact ⟨by rw [HR.out]; rfl, rfl⟩
  · have d1 : decide ((ws.length : Int) ≤ 64) = false := decide_eq_false (by omega)
    have HR : Hid (mayW ws = false) := Lib.hid (by rw [HM.out, decide_eq_false h64, Bool.and_false])
    go_enter Try.func14, Try.ntmps14
    go_wp2_with fail
    go_ret
    exact ⟨by rw [HR.out]; rfl, rfl⟩
def roomB (n : Int) : Bool := decide (0 ≤ n) && decide (n ≤ 256)
set_option maxHeartbeats 800000 in
theorem room_w (n : Int) (w : World) : Calls Try.prog 15 #[.int .i64 n] w (BoolQ (roomB n) w) := by
  have HR : Hid (roomB n = (decide (0 ≤ n) && decide (n ≤ 256))) := rfl
  by_cases h0 : 0 ≤ n
  · by_cases h1 : n ≤ 256
    · have HV : Hid (roomB n = true) := Lib.hid (by rw [HR.out, decide_eq_true h0, decide_eq_true h1]; rfl)
      go_enter Try.func15, Try.ntmps15
      go_wp2_with fail
      go_ret
      exact ⟨by rw [HV.out]; rfl, rfl⟩
    · have HV : Hid (roomB n = false) := Lib.hid (by rw [HR.out, decide_eq_true h0, decide_eq_false h1]; rfl)
      go_enter Try.func15, Try.ntmps15
      go_wp2_with fail
      go_ret
      exact ⟨by rw [HV.out]; rfl, rfl⟩
  · have HV : Hid (roomB n = false) := Lib.hid (by rw [HR.out, decide_eq_false h0]; rfl)
    go_enter Try.func15, Try.ntmps15
    go_wp2_with fail
    go_ret
    exact ⟨by rw [HV.out]; rfl, rfl⟩
/-- Where the places so far are places, and what comes of the next one. -/
theorem ok_not {ws ps : List Int} {k : Nat} (hk : k < ps.length) (h : upB ws (lastAt ps k) (ps.getD k 0) = false) : okP ws ps = false := by
  cases ho : okP ws ps
  · rfl
  · have := ok_mono (k := k + 1) (by omega) ho
    unfold okTo at this
    rw [h, Bool.and_false] at this
    cases this
theorem ok_next {ws ps : List Int} {k : Nat} (h : okTo ws ps k = true) (h2 : upB ws (lastAt ps k) (ps.getD k 0) = true) : okTo ws ps (k + 1) = true := by unfold okTo; rw [h, h2]; rfl
theorem last_next (ps : List Int) (k : Nat) : lastAt ps (k + 1) = ps.getD k 0 := by unfold lastAt; rw [if_neg (by omega)]; rfl
theorem step_ways (ws : List Int) (last p : Int) : (decide (p ≤ last) = true ∧ upB ws last p = false) ∨ (decide (p ≤ last) = false ∧ decide ((ws.length : Int) ≤ p) = true ∧ upB ws last p = false) ∨ (decide (p ≤ last) = false ∧ decide ((ws.length : Int) ≤ p) = false ∧ upB ws last p = true) := by
  unfold upB
  by_cases h1 : p ≤ last
  · exact .inl ⟨decide_eq_true h1, by rw [decide_eq_false (by omega)]; rfl⟩
  · by_cases h2 : (ws.length : Int) ≤ p
    · exact .inr (.inl ⟨decide_eq_false h1, decide_eq_true h2, by rw [decide_eq_false (p := p < _) (by omega), Bool.and_false]⟩)
    · exact .inr (.inr ⟨decide_eq_false h1, decide_eq_false h2, by rw [decide_eq_true (by omega), decide_eq_true (by omega)]; rfl⟩)
set_option maxHeartbeats 1600000 in
theorem totalS (ws ps : List Int) (v u : Value) (w : World) (hv : IntsAt ws w v) (hf : IntsFit ws) (hl : ws.length ≤ 80) (hu : IntsAt ps w u) (hg : IntsFit ps) (hm : ps.length ≤ 80) : Calls Try.prog 13 #[v, u] w (TotalSays ws ps w) := by
  have CM := Lib.hid (may_w ws v w hv (by omega))
  obtain ⟨A, c, rfl, hc, hA⟩ := hv
  obtain ⟨B, c2, rfl, hc2, hB⟩ := hu
  have HA := Lib.hid hA
  have HB := Lib.hid hB
  clear hA hB
  cases hd : mayW ws with
  | false =>
    have HO : Hid (okP ws ps = false) := Lib.hid (by cases h : okP ws ps; rfl; rw [ok_may h] at hd; cases hd)
    rw [hd] at CM
    clear hd
    go_enter Try.func13, Try.ntmps13
    go_wp2_with (go_at_call 14; refine CM.out.mono ?_; rintro e w1 ⟨rfl, rfl⟩)
    go_ret2
    exact ⟨by unfold totalN; rw [HO.out]; rfl, Below.refl _ _⟩
  | true =>
    have HW : Hid (ws.all wideB = true) := Lib.hid (by unfold mayW at hd; rw [Bool.and_eq_true] at hd; exact hd.1)
    have H0 : Hid (okTo ws ps 0 = true) := Lib.hid hd
    rw [hd] at CM
    clear hd
    go_enter Try.func13, Try.ntmps13
    go_wp2_with (go_at_call 14; refine CM.out.mono ?_; rintro e w1 ⟨rfl, rfl⟩)
    go_loop [6, 7, 15] (fun t q i => ∃ k : Nat, k ≤ ps.length ∧ i = .int .i64 k ∧ t = .int .i64 (sumTo ws ps k) ∧ q = .int .i64 (lastAt ps k) ∧ Hid (okTo ws ps k = true)) (fun _ _ i => ps.length - (intOf i).toNat)
    case atStart => exact ⟨0, Nat.zero_le _, rfl, rfl, rfl, H0⟩
    case round =>
      obtain ⟨k, hk, rfl, rfl, rfl, HK⟩ := hrel
      have hsb := sumTo_bound HW.out ps k
      have hlb := lastAt_bound HK.out hk
      by_cases hlt : k < ps.length
      · obtain ⟨bd, rfl, hlb2, hcb⟩ := HB.out.at hlt
        have h1 : w.cell? (bd.add k) = some (.int .i64 (ps.getD k 0)) := hcb
        have HNO := Lib.hid (fun h => ok_not (ws := ws) hlt h)
        have HNX := Lib.hid (fun h => ok_next HK.out h)
        have HLN := Lib.hid (last_next ps k)
        have HSN : Hid (sumTo ws ps (k + 1) = sumTo ws ps k + wAt ws (ps.getD k 0)) := rfl
        have hlt2 : (k : Int) < (ps.length : Int) := by omega
        have i0 : (0 : Int) ≤ (k : Int) := Int.natCast_nonneg _
        have hw := step_ways ws (lastAt ps k) (ps.getD k 0)
        clear hcb HK
        generalize ps.getD k 0 = p at *
        generalize lastAt ps k = q at *
        generalize sumTo ws ps k = t at *
        rcases hw with ⟨a1, a2⟩ | ⟨a1, a3, a2⟩ | ⟨a1, a3, a2⟩
        · have HR := Lib.hid (HNO.out a2)
          clear a2 HNX HNO
          go_wp2_with fail
          go_ret2
          exact ⟨by unfold totalN; rw [HR.out]; rfl, Below.refl _ _⟩
        · have HR := Lib.hid (HNO.out a2)
          clear a2 HNX HNO
          go_wp2_with fail
          go_ret2
          exact ⟨by unfold totalN; rw [HR.out]; rfl, Below.refl _ _⟩
        · have HR := Lib.hid (HNX.out a2)
          have p1 : q < p := by have := of_decide_eq_false a1; omega
          have p2 : p < (ws.length : Int) := by have := of_decide_eq_false a3; omega
          obtain ⟨m, rfl⟩ : ∃ m : Nat, p = (m : Int) := ⟨p.toNat, by omega⟩
          have hmlt : m < ws.length := by omega
          obtain ⟨ad, rfl, hla, hca⟩ := HA.out.at hmlt
          have h2 : w.cell? (ad.add m) = some (.int .i64 (wAt ws (m : Int))) := by rw [wAt_at hmlt, ← getD_at hmlt]; exact hca
          have hwb := wAt_bound HW.out (m : Int)
          have m0 : (0 : Int) ≤ (m : Int) := Int.natCast_nonneg _
          clear a2 HNX HNO hca
          generalize wAt ws (m : Int) = x at *
          go_wp2_with fail
          exact ⟨⟨k + 1, by omega, by go_num, by rw [HSN.out], by rw [HLN.out], HR⟩, by simp [intOf] <;> omega⟩
      · have HR : Hid (okP ws ps = true) := Lib.hid (by unfold okP; rw [show ps.length = k by omega]; exact HK.out)
        have HS : Hid (sumP ws ps = sumTo ws ps k) := Lib.hid (by unfold sumP; rw [show ps.length = k by omega])
        clear HK
        go_wp2_with fail
        go_ret2
        exact ⟨by unfold totalN; rw [HR.out, if_pos rfl, HS.out]; rfl, Below.refl _ _⟩
end Go.Proofs.Ytlbgncjikfdkoaa.SubWalk
