/-
  The walks of the document's answers for layer 13: May, Sums.
-/
import Derived.Test.YtnojminhbakfaaaSubRefC
import Derived.Test.YtnojminhbakfaaaApiMem
import Derived.Test.YtnojminhbakfaaaTwnPlain
namespace Go.Proofs.Ytnojminhbakfaaa.TwnRef
open Go.RowKit Go.Proofs.Ytnojminhbakfaaa.SubPlain Go.Proofs.Ytnojminhbakfaaa.ApiPlain Go.Proofs.Ytnojminhbakfaaa.TwnPlain Go.Proofs.Ytnojminhbakfaaa.Mem Go.Proofs.Ytnojminhbakfaaa.ApiMem Go.Proofs.Ytnojminhbakfaaa.SubRef
/-- Items in memory. -/
def ItmsAt (l : List Itm) (w : World) (v : Value) : Prop := ∃ A c, v = .slice A l.length c ∧ l.length ≤ c ∧ ∀ i (hi : i < l.length), ∃ a, A = some a ∧ ItmAt w (a.add (i * 2)) l[i]
theorem ItmsAt.below {l : List Itm} {w w' : World} {v : Value} (h : ItmsAt l w v) (hb : Below w.heap.size w w') : ItmsAt l w' v := by
  obtain ⟨A, c, e, hc, hA⟩ := h
  exact ⟨A, c, e, hc, fun i hi => by
    obtain ⟨a, ea, h1⟩ := hA i hi
    exact ⟨a, ea, h1.below hb⟩⟩
theorem ItmsAt.of {l : List Itm} {w : World} {v : Value} (h : itmL.Is l w v) : ItmsAt l w v := itms_open h
theorem wsd_at {l : List Itm} {k : Nat} (h : k < l.length) : (wsOf l).getD k 0 = l[k].width := by rw [getD_at (by rw [ws_len]; exact h), ws_at h]
theorem may_end_T {l : List Itm} (h : (wsOf l).all wideB = true) : mayT l = decide (l.length ≤ 32) := by unfold mayT; rw [h]; rfl
theorem mayT_no {l : List Itm} {k : Nat} (hk : k < l.length) (hx : wideB l[k].width = false) : mayT l = false := by
  unfold mayT
  have : (wsOf l).all wideB = false := by
    rw [List.all_eq_false]
    exact ⟨l[k].width, by rw [← ws_at hk]; exact List.getElem_mem _, by rw [hx]; decide⟩
  rw [this]; rfl
set_option maxHeartbeats 800000 in
theorem may13 (l : List Itm) (v : Value) (w : World) (hv : ItmsAt l w v) (hl : l.length ≤ 100000) : Calls Try.prog 7 #[v] w (BoolQ (mayT l) w) := by
  obtain ⟨A, c, rfl, hc, hA⟩ := hv
  have HA := Lib.hid hA
  clear hA
  go_enter Try.func7, Try.ntmps7
  go_wp2_with fail
  go_loop [3] (fun i => ∃ k : Nat, k ≤ l.length ∧ i = .int .i64 k ∧ Hid (WideTo (wsOf l) k)) (fun i => l.length - (intOf i).toNat)
  case atStart => exact ⟨0, Nat.zero_le _, rfl, WideTo.zero _⟩
  case round =>
    obtain ⟨k, hk, rfl, HD⟩ := hrel
    by_cases hlt : k < l.length
    · obtain ⟨ad, rfl, ⟨hb, h1, h2⟩⟩ := HA.out k hlt
      have HNX := Lib.hid (fun (h : wideB l[k].width = true) => HD.out.succ (by rw [ws_len]; exact hlt) (by rw [wsd_at hlt]; exact h))
      have HNO := Lib.hid (fun h => mayT_no hlt h)
      have i0 : (0 : Int) ≤ (k : Int) := Int.natCast_nonneg _
      have i1 : (k : Int) < (l.length : Int) := by omega
      clear h2
      generalize l[k] = y at *
      obtain ⟨x, g⟩ := y
      dsimp only at h1 HNX HNO
      rcases wide_ways x with ⟨a1, a2⟩ | ⟨a1, a3, a2⟩ | ⟨a1, a3, a2⟩
      all_goals
        have HR := Lib.hid a2
        clear a2
        go_wp2_with fail
        first
          | exact ⟨⟨k + 1, by omega, by go_num, HNX.out HR.out⟩, by simp [intOf] <;> omega⟩
          | (go_ret; exact ⟨by rw [HNO.out HR.out]; rfl, rfl⟩)
    · have HM := Lib.hid (may_end_T (HD.out.all (by rw [ws_len]; omega)))
      by_cases h32 : l.length ≤ 32
      · have d1 : decide ((l.length : Int) ≤ 32) = true := decide_eq_true (by omega)
        have HR : Hid (mayT l = true) := Lib.hid (HM.out.trans (decide_eq_true h32))
        go_wp2_with fail
        go_ret
        exact ⟨by rw [HR.out]; rfl, rfl⟩
      · have d1 : decide ((l.length : Int) ≤ 32) = false := decide_eq_false (by omega)
        have HR : Hid (mayT l = false) := Lib.hid (HM.out.trans (decide_eq_false h32))
        go_wp2_with fail
        go_ret
        exact ⟨by rw [HR.out]; rfl, rfl⟩
def TwoQ (a b : Int) (w : World) (e : Ending) (w' : World) : Prop := e = .returned (.tuple #[.int .i64 a, .int .i64 b]) ∧ w = w'
set_option maxHeartbeats 1600000 in
theorem sums13 (l : List Itm) (b : Nat) (v : Value) (w : World) (hv : ItmsAt l w v) (hw : (wsOf l).all wideB = true) (hl : l.length ≤ 62) (hb : b < 4611686018427387904) : Calls Try.prog 9 #[v, .int .i64 b] w (TwoQ (tot (wsOf l) b) (tot (lsOf l) b) w) := by
  obtain ⟨A, c, rfl, hc, hA⟩ := hv
  have HA := Lib.hid hA
  have HW := Lib.hid hw
  clear hA hw
  go_enter Try.func9, Try.ntmps9
  go_wp2_with fail
  go_loop [6, 7, 8] (fun n m i => ∃ k : Nat, k ≤ l.length ∧ i = .int .i64 k ∧ n = .int .i64 (totTo (wsOf l) b k) ∧ m = .int .i64 (totTo (lsOf l) b k)) (fun _ _ i => l.length - (intOf i).toNat)
  case atStart => exact ⟨0, Nat.zero_le _, rfl, by rw [totTo_zero], by rw [totTo_zero]⟩
  case round =>
    obtain ⟨k, hk, rfl, rfl, rfl⟩ := hrel
    have hbd := totTo_bound HW.out b k (by rw [ws_len]; exact hk)
    have hbl := longTo_bound HW.out b k hk
    by_cases hlt : k < l.length
    · obtain ⟨ad, rfl, ⟨hb2, h1, h2⟩⟩ := HA.out k hlt
      have i0 : (0 : Int) ≤ (k : Int) := Int.natCast_nonneg _
      have i1 : (k : Int) < (l.length : Int) := by omega
      have hx : wideB l[k].width = true := (List.all_eq_true.1 HW.out) _ (by rw [← ws_at hlt]; exact List.getElem_mem _)
      unfold wideB at hx
      rw [Bool.and_eq_true, decide_eq_true_eq, decide_eq_true_eq] at hx
      obtain ⟨x1, x2⟩ := hx
      have HS := Lib.hid (totTo_succ b (show k < (wsOf l).length by rw [ws_len]; exact hlt))
      have HT := Lib.hid (totTo_succ b (show k < (lsOf l).length by rw [ls_len]; exact hlt))
      rw [ws_at hlt, ws_len] at HS
      rw [ls_at hlt, ls_len] at HT
      have hbit := bit_is b (l.length - 1 - k)
      generalize l[k] = y at *
      obtain ⟨x, g⟩ := y
      dsimp only at h1 h2 x1 x2 HS HT
      generalize totTo (wsOf l) b k = S at *
      generalize totTo (lsOf l) b k = T at *
      cases hd : b.testBit (l.length - 1 - k)
      · rw [hd] at hbit HS HT
        clear hd
        go_wp2_with fail
        exact ⟨⟨k + 1, by omega, by go_num, by rw [HS.out]; simp, by rw [HT.out]; simp⟩, by simp [intOf] <;> omega⟩
      · rw [hd] at hbit HS HT
        clear hd
        cases g
        all_goals
          go_wp2_with fail
          exact ⟨⟨k + 1, by omega, by go_num, by rw [HS.out]; simp, by rw [HT.out]; simp⟩, by simp [intOf] <;> omega⟩
    · go_wp2_with fail
      go_ret2
      exact ⟨by rw [totTo_all _ b (by rw [ws_len]; omega), totTo_all _ b (by rw [ls_len]; omega)]; rfl, rfl⟩
end Go.Proofs.Ytnojminhbakfaaa.TwnRef
