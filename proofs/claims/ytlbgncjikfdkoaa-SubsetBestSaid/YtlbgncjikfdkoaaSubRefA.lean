/-
  The walks of the document's answers for layer 12: May, Total.
-/
import Derived.Test.YtlbgncjikfdkoaaRows
import Derived.Test.YtlbgncjikfdkoaaInts
import Derived.Test.YtlbgncjikfdkoaaSubPlain
import Derived.WalkKit
import Derived.WalkSpells
import Derived.WalkLawsBesides
import Derived.LoopTactic
import Derived.Deep.CutBlock
import Derived.Deep.DeepCutAuto
namespace Go.Proofs.Ytlbgncjikfdkoaa.SubRef
open Go.RowKit Go.Proofs.Ytlbgncjikfdkoaa.SubPlain Go.Proofs.Ytlbgncjikfdkoaa.Mem
def BoolQ (b : Bool) (w : World) (e : Ending) (w' : World) : Prop := e = .returned (.bool b) ∧ w = w'
def IntQ (n : Int) (w : World) (e : Ending) (w' : World) : Prop := e = .returned (.int .i64 n) ∧ w = w'
theorem wide_ways (x : Int) : (decide (x < 1) = true ∧ wideB x = false) ∨ (decide (x < 1) = false ∧ decide (256 < x) = true ∧ wideB x = false) ∨ (decide (x < 1) = false ∧ decide (256 < x) = false ∧ wideB x = true) := by
  unfold wideB
  by_cases h1 : x < 1
  · exact .inl ⟨decide_eq_true h1, by rw [decide_eq_false (by omega)]; rfl⟩
  · by_cases h2 : 256 < x
    · exact .inr (.inl ⟨decide_eq_false h1, decide_eq_true h2, by rw [decide_eq_false (p := x ≤ 256) (by omega), Bool.and_false]⟩)
    · exact .inr (.inr ⟨decide_eq_false h1, decide_eq_false h2, by rw [decide_eq_true (by omega), decide_eq_true (by omega)]; rfl⟩)
theorem getD_at {l : List Int} {k : Nat} (h : k < l.length) : l.getD k 0 = l[k] := by simp [List.getD, h]
theorem wAt_at {ws : List Int} {m : Nat} (h : m < ws.length) : wAt ws (m : Int) = ws[m] := by unfold wAt; rw [Int.toNat_natCast, getD_at h]
/-- The first k are widths. -/
def WideTo (ws : List Int) (k : Nat) : Prop := (ws.take k).all wideB = true
theorem WideTo.zero (ws : List Int) : WideTo ws 0 := by unfold WideTo; simp
theorem WideTo.succ {ws : List Int} {k : Nat} (h : WideTo ws k) (hk : k < ws.length) (hx : wideB (ws.getD k 0) = true) : WideTo ws (k + 1) := by
  unfold WideTo at *
  rw [List.take_succ_eq_append_getElem hk, List.all_append, h, ← getD_at hk]
  simpa using hx
theorem WideTo.all {ws : List Int} {k : Nat} (h : WideTo ws k) (hk : ws.length ≤ k) : ws.all wideB = true := by
  unfold WideTo at h
  rwa [List.take_of_length_le hk] at h
theorem may_no {ws : List Int} {k : Nat} (hk : k < ws.length) (hx : wideB (ws.getD k 0) = false) : mayW ws = false := by
  unfold mayW
  have : ws.all wideB = false := by
    rw [List.all_eq_false]
    exact ⟨ws[k], List.getElem_mem _, by rw [← getD_at hk, hx]; decide⟩
  rw [this]; rfl
theorem may_end {ws : List Int} (h : ws.all wideB = true) : mayW ws = decide (ws.length ≤ 64) := by unfold mayW; rw [h]; rfl
set_option maxHeartbeats 800000 in
theorem may12 (ws : List Int) (v : Value) (w : World) (hv : IntsAt ws w v) (hl : ws.length ≤ 9223372036854775807) : Calls Try.prog 7 #[v] w (BoolQ (mayW ws) w) := by
  obtain ⟨A, c, rfl, hc, hA⟩ := hv
  have HA := Lib.hid hA
  clear hA
  go_enter Try.func7, Try.ntmps7
  go_wp2_with fail
  go_loop [3] (fun i => ∃ k : Nat, k ≤ ws.length ∧ i = .int .i64 k ∧ Hid (WideTo ws k)) (fun i => ws.length - (intOf i).toNat)
  case atStart => exact ⟨0, Nat.zero_le _, rfl, WideTo.zero ws⟩
  case round =>
    obtain ⟨k, hk, rfl, HD⟩ := hrel
    by_cases hlt : k < ws.length
    · obtain ⟨ad, rfl, hb, hcell⟩ := HA.out.at hlt
      have h1 : w.cell? (ad.add k) = some (.int .i64 (ws.getD k 0)) := hcell
      have HNX := Lib.hid (fun h => HD.out.succ hlt h)
      have HNO := Lib.hid (fun h => may_no hlt h)
      have i0 : (0 : Int) ≤ (k : Int) := Int.natCast_nonneg _
      have i1 : (k : Int) < (ws.length : Int) := by omega
      clear hcell
      generalize ws.getD k 0 = x at *
      rcases wide_ways x with ⟨a1, a2⟩ | ⟨a1, a3, a2⟩ | ⟨a1, a3, a2⟩
      all_goals
        have HR := Lib.hid a2
        clear a2
        go_wp2_with fail
        first
          | exact ⟨⟨k + 1, by omega, by go_num, HNX.out HR.out⟩, by simp [intOf] <;> omega⟩
          | (go_ret; exact ⟨by rw [HNO.out HR.out]; rfl, rfl⟩)
    · have hm := may_end (HD.out.all (by omega))
      have HM := Lib.hid hm
      clear hm
      by_cases h64 : ws.length ≤ 64
      · have d1 : decide ((ws.length : Int) ≤ 64) = true := decide_eq_true (by omega)
        have HR : Hid (mayW ws = true) := Lib.hid (HM.out.trans (decide_eq_true h64))
        go_wp2_with fail
        go_ret
        exact ⟨by rw [HR.out]; rfl, rfl⟩
      · have d1 : decide ((ws.length : Int) ≤ 64) = false := decide_eq_false (by omega)
        have HR : Hid (mayW ws = false) := Lib.hid (HM.out.trans (decide_eq_false h64))
        go_wp2_with fail
        go_ret
        exact ⟨by rw [HR.out]; rfl, rfl⟩
theorem bit_is (b m : Nat) : (((b : Int) / 2 ^ m).tmod 2 == 1) = b.testBit m := by
  have h1 : (b : Int) / 2 ^ m = ((b / 2 ^ m : Nat) : Int) := by simp
  have h2 : ((b / 2 ^ m : Nat) : Int).tmod 2 = ((b / 2 ^ m % 2 : Nat) : Int) := by
    rw [Int.tmod_eq_emod_of_nonneg (Int.natCast_nonneg _)]; simp
  rw [h1, h2, Nat.testBit_eq_decide_div_mod_eq, Bool.eq_iff_iff, beq_iff_eq, decide_eq_true_eq]
  omega
set_option maxHeartbeats 800000 in
theorem total12 (ws : List Int) (b : Nat) (v : Value) (w : World) (hv : IntsAt ws w v) (hw : ws.all wideB = true) (hl : ws.length ≤ 62) (hb : b < 4611686018427387904) : Calls Try.prog 9 #[v, .int .i64 b] w (IntQ (tot ws b) w) := by
  obtain ⟨A, c, rfl, hc, hA⟩ := hv
  have HA := Lib.hid hA
  have HW := Lib.hid hw
  clear hA hw
  go_enter Try.func9, Try.ntmps9
  go_wp2_with fail
  go_loop [5, 6] (fun n i => ∃ k : Nat, k ≤ ws.length ∧ i = .int .i64 k ∧ n = .int .i64 (totTo ws b k)) (fun _ i => ws.length - (intOf i).toNat)
  case atStart => exact ⟨0, Nat.zero_le _, rfl, by rw [totTo_zero]⟩
  case round =>
    obtain ⟨k, hk, rfl, rfl⟩ := hrel
    have hbd := totTo_bound HW.out b k hk
    by_cases hlt : k < ws.length
    · obtain ⟨ad, rfl, hb2, hcell⟩ := HA.out.at hlt
      have h1 : w.cell? (ad.add k) = some (.int .i64 ws[k]) := by rw [← getD_at hlt]; exact hcell
      have i0 : (0 : Int) ≤ (k : Int) := Int.natCast_nonneg _
      have i1 : (k : Int) < (ws.length : Int) := by omega
      have hx : wideB ws[k] = true := (List.all_eq_true.1 HW.out) _ (List.getElem_mem _)
      unfold wideB at hx
      rw [Bool.and_eq_true, decide_eq_true_eq, decide_eq_true_eq] at hx
      obtain ⟨x1, x2⟩ := hx
      have HS := Lib.hid (totTo_succ b hlt)
      have hbit := bit_is b (ws.length - 1 - k)
      clear hcell
      generalize ws[k] = x at *
      generalize totTo ws b k = T at *
      cases hd : b.testBit (ws.length - 1 - k)
      · rw [hd] at hbit HS
        clear hd
        go_wp2_with fail
        exact ⟨⟨k + 1, by omega, by go_num, by rw [HS.out]; simp⟩, by simp [intOf] <;> omega⟩
      · rw [hd] at hbit HS
        clear hd
        go_wp2_with fail
        exact ⟨⟨k + 1, by omega, by go_num, by rw [HS.out]; simp⟩, by simp [intOf] <;> omega⟩
    · go_wp2_with fail
      go_ret
      exact ⟨by rw [totTo_all ws b (by omega)]; rfl, rfl⟩
end Go.Proofs.Ytlbgncjikfdkoaa.SubRef
