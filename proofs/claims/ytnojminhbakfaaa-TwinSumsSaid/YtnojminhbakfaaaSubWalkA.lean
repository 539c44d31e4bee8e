/-
  The walks of layer 12's code: the library's slices.IndexFunc and slices.ContainsFunc at widths; mayBe, isRoom, Total.
-/
import Derived.Test.YtnojminhbakfaaaSubSay
import Derived.Test.YtnojminhbakfaaaSubWay
import Derived.Shelf.Abstract
namespace Go.Proofs.Ytnojminhbakfaaa.SubWalk
open Go.RowKit Go.Proofs.Ytnojminhbakfaaa.SubPlain Go.Proofs.Ytnojminhbakfaaa.Mem Go.Proofs.Ytnojminhbakfaaa.SubRef
set_option maxHeartbeats 800000 in
theorem wide_fn (x : Int) (w : World) : Calls Try.prog 27 #[.int .i64 x] w (BoolQ (!wideB x) w) := by
  rcases wide_ways x with ⟨a1, a2⟩ | ⟨a1, a3, a2⟩ | ⟨a1, a3, a2⟩
  all_goals
    have HR := Lib.hid a2
    clear a2
    go_enter Try.func27, Try.ntmps27
    go_wp2_with fail
    go_ret
    exact ⟨by rw [HR.out]; rfl, rfl⟩
/-- A place of a width that may not be, or -1. -/
def FirstIs (ws : List Int) (w : World) (e : Ending) (w' : World) : Prop := ∃ n : Int, e = .returned (.int .i64 n) ∧ decide (0 ≤ n) = !(ws.all wideB) ∧ w = w'
theorem all_not {ws : List Int} {k : Nat} (hk : k < ws.length) (hx : wideB (ws.getD k 0) = false) : ws.all wideB = false := by
  rw [List.all_eq_false]
  exact ⟨ws[k], List.getElem_mem _, by rw [← getD_at hk, hx]; decide⟩
set_option maxHeartbeats 800000 in
theorem index_w (ws : List Int) (v : Value) (w : World) (hv : IntsAt ws w v) (hl : ws.length ≤ 100000) : Calls Try.prog 32 #[v, .func (.func 27) #[] #[]] w (FirstIs ws w) := by
  obtain ⟨A, c, rfl, hc, hA⟩ := hv
  have HA := Lib.hid hA
  have HC := Lib.hid wide_fn
  have eg : ∀ args w, (callFunc 27 args).run Try.prog w = .ok (.enter 27 args) w := enters_of Try.func27 (by kernel_rfl) rfl
  clear hA
  go_enter Try.func32, Try.ntmps32
  go_wp2_with fail
  go_loop [8] (fun i => ∃ k : Nat, k ≤ ws.length ∧ i = .int .i64 k ∧ Hid (WideTo ws k)) (fun i => ws.length - (intOf i).toNat)
  case atStart => exact ⟨0, Nat.zero_le _, rfl, WideTo.zero ws⟩
  case round =>
    obtain ⟨k, hk, rfl, HD⟩ := hrel
    by_cases hlt : k < ws.length
    · obtain ⟨ad, rfl, hb, hcell⟩ := HA.out.at hlt
      have h1 : w.cell? (ad.add k) = some (.int .i64 (ws.getD k 0)) := hcell
      have HNX := Lib.hid (fun h => HD.out.succ hlt h)
      have HNO := Lib.hid (fun h => all_not hlt h)
      have hlt2 : (k : Int) < (ws.length : Int) := by omega
      have i0 : (0 : Int) ≤ (k : Int) := Int.natCast_nonneg _
      clear hcell
      generalize ws.getD k 0 = x at *
      have CX := Lib.hid (HC.out x w)
      cases hd : wideB x
      · rw [hd] at CX
        have HR := Lib.hid (HNO.out hd)
        clear hd
        go_wp2_with (go_at_fn 27; refine CX.out.mono ?_; rintro e w1 ⟨rfl, rfl⟩)
        go_ret
        exact ⟨_, rfl, by rw [HR.out]; exact decide_eq_true i0, rfl⟩
      · rw [hd] at CX
        have HR := Lib.hid (HNX.out hd)
        clear hd
        go_wp2_with (go_at_fn 27; refine CX.out.mono ?_; rintro e w1 ⟨rfl, rfl⟩)
        exact ⟨⟨k + 1, by omega, by go_num, HR.out⟩, by simp [intOf] <;> omega⟩
    · have HR := Lib.hid (HD.out.all (by omega))
      go_wp2_with fail
      go_ret
      exact ⟨-1, rfl, by rw [HR.out]; rfl, rfl⟩
set_option maxHeartbeats 800000 in
theorem contains_w (ws : List Int) (v : Value) (w : World) (hv : IntsAt ws w v) (hl : ws.length ≤ 100000) : Calls Try.prog 26 #[v, .func (.func 27) #[] #[]] w (BoolQ (!(ws.all wideB)) w) := by
  have CI := Lib.hid (index_w ws v w hv hl)
  clear hv
  go_enter Try.func26, Try.ntmps26
  go_wp2_with (go_at_call 32; refine CI.out.mono ?_; rintro e w1 ⟨n, rfl, hn, rfl⟩; have HN := Lib.hid hn; clear hn)
  go_ret
  exact ⟨by rw [← HN.out]; rfl, rfl⟩
set_option maxHeartbeats 800000 in
theorem may_w (ws : List Int) (v : Value) (w : World) (hv : IntsAt ws w v) (hl : ws.length ≤ 100000) : Calls Try.prog 19 #[v] w (BoolQ (mayW ws) w) := by
  have CI := Lib.hid (contains_w ws v w hv hl)
  have HM : Hid (mayW ws = (ws.all wideB && decide (ws.length ≤ 64))) := rfl
  obtain ⟨A, c, rfl, hc, hA⟩ := hv
  clear hA
  generalize ws.all wideB = b at *
  by_cases h64 : ws.length ≤ 64
  · have d1 : decide ((ws.length : Int) ≤ 64) = true := decide_eq_true (by omega)
    have HR : Hid (mayW ws = b) := Lib.hid (by rw [HM.out, decide_eq_true h64, Bool.and_true])
    cases b
    all_goals
      go_enter Try.func19, Try.ntmps19
      go_wp2_with (go_at_call 26; refine CI.out.mono ?_; rintro e w1 ⟨rfl, rfl⟩)
      go_ret
      exact ⟨by rw [HR.out]; rfl, rfl⟩
  · have d1 : decide ((ws.length : Int) ≤ 64) = false := decide_eq_false (by omega)
    have HR : Hid (mayW ws = false) := Lib.hid (by rw [HM.out, decide_eq_false h64, Bool.and_false])
    go_enter Try.func19, Try.ntmps19
    go_wp2_with fail
    go_ret
    exact ⟨by rw [HR.out]; rfl, rfl⟩
def roomB (n : Int) : Bool := decide (0 ≤ n) && decide (n ≤ 256)
set_option maxHeartbeats 800000 in
theorem room_w (n : Int) (w : World) : Calls Try.prog 20 #[.int .i64 n] w (BoolQ (roomB n) w) := by
  have HR : Hid (roomB n = (decide (0 ≤ n) && decide (n ≤ 256))) := rfl
  by_cases h0 : 0 ≤ n
  · by_cases h1 : n ≤ 256
    · have HV : Hid (roomB n = true) := Lib.hid (by rw [HR.out, decide_eq_true h0, decide_eq_true h1]; rfl)
      go_enter Try.func20, Try.ntmps20
      go_wp2_with fail
      go_ret
      exact ⟨by rw [HV.out]; rfl, rfl⟩
    · have HV : Hid (roomB n = false) := Lib.hid (by rw [HR.out, decide_eq_true h0, decide_eq_false h1]; rfl)
      go_enter Try.func20, Try.ntmps20
      go_wp2_with fail
      go_ret
      exact ⟨by rw [HV.out]; rfl, rfl⟩
  · have HV : Hid (roomB n = false) := Lib.hid (by rw [HR.out, decide_eq_false h0]; rfl)
    go_enter Try.func20, Try.ntmps20
    go_wp2_with fail
    go_ret
    exact ⟨by rw [HV.out]; rfl, rfl⟩
/-- Where the places so far are places, and what comes of the next one. -/
theorem ok_not {ws ps : List Int} {k : Nat} (hk : k < ps.length) (h : upB ws (lastAt ps k) (ps.getD k 0) = false) : okP ws ps = false := by
  cases ho : okP ws ps
  · rfl
  · have := ok_mono (k := k + 1) (by omega) ho
    unfold okTo at this
    rw [h, Bool.and_false] at this
    cases this
theorem ok_next {ws ps : List Int} {k : Nat} (h : okTo ws ps k = true) (h2 : upB ws (lastAt ps k) (ps.getD k 0) = true) : okTo ws ps (k + 1) = true := by unfold okTo; rw [h, h2]; rfl
theorem last_next (ps : List Int) (k : Nat) : lastAt ps (k + 1) = ps.getD k 0 := by unfold lastAt; rw [if_neg (by omega)]; rfl
theorem step_ways (ws : List Int) (last p : Int) : (decide (p ≤ last) = true ∧ upB ws last p = false) ∨ (decide (p ≤ last) = false ∧ decide ((ws.length : Int) ≤ p) = true ∧ upB ws last p = false) ∨ (decide (p ≤ last) = false ∧ decide ((ws.length : Int) ≤ p) = false ∧ upB ws last p = true) := by
  unfold upB
  by_cases h1 : p ≤ last
  · exact .inl ⟨decide_eq_true h1, by rw [decide_eq_false (by omega)]; rfl⟩
  · by_cases h2 : (ws.length : Int) ≤ p
    · exact .inr (.inl ⟨decide_eq_false h1, decide_eq_true h2, by rw [decide_eq_false (p := p < _) (by omega), Bool.and_false]⟩)
    · exact .inr (.inr ⟨decide_eq_false h1, decide_eq_false h2, by rw [decide_eq_true (by omega), decide_eq_true (by omega)]; rfl⟩)
end Go.Proofs.Ytnojminhbakfaaa.SubWalk
