/-
  The walks of the document's answers for layer 6: May, Ok.
-/
import Derived.Test.YtalopnkdnlkdoaaGapPlain
import Derived.Test.YtalopnkdnlkdoaaStepRefK
import Derived.Test.YtalopnkdnlkdoaaStepRefE
namespace Go.Proofs.Ytalopnkdnlkdoaa.GapRef
open Go.RowKit Go.Proofs.Ytalopnkdnlkdoaa.SpanPlain Go.Proofs.Ytalopnkdnlkdoaa.StepPlain Go.Proofs.Ytalopnkdnlkdoaa.GapPlain Go.Proofs.Ytalopnkdnlkdoaa.Mem Go.Proofs.Ytalopnkdnlkdoaa.SpanMem Go.Proofs.Ytalopnkdnlkdoaa.StepMem Go.Proofs.Ytalopnkdnlkdoaa.SpanRef Go.Proofs.Ytalopnkdnlkdoaa.StepRef
theorem mayg_ways (s : List Sp) (w n : Int) : (mayG s w n = false ∧ chkB s = false) ∨ (mayG s w n = false ∧ chkB s = true ∧ decide (1 ≤ w) = false) ∨ (mayG s w n = false ∧ chkB s = true ∧ decide (1 ≤ w) = true ∧ decide (w ≤ 256) = false) ∨
    (mayG s w n = false ∧ chkB s = true ∧ decide (1 ≤ w) = true ∧ decide (w ≤ 256) = true ∧ decide (1 ≤ n) = false) ∨ (mayG s w n = false ∧ chkB s = true ∧ decide (1 ≤ w) = true ∧ decide (w ≤ 256) = true ∧ decide (1 ≤ n) = true ∧ decide (n ≤ 1099511627776) = false) ∨
    (mayG s w n = true ∧ chkB s = true ∧ decide (1 ≤ w) = true ∧ decide (w ≤ 256) = true ∧ decide (1 ≤ n) = true ∧ decide (n ≤ 1099511627776) = true) := by
  unfold mayG
  cases chkB s <;> cases decide (1 ≤ w) <;> cases decide (w ≤ 256) <;> cases decide (1 ≤ n) <;> cases decide (n ≤ 1099511627776) <;> simp
set_option maxHeartbeats 1600000 in
theorem may6 (s : List Sp) (a n : Int) (v : Value) (w : World) (hv : SpansIs s w v) (hl : s.length ≤ 9000) : Calls Try.prog 8 #[v, .int .i64 a, .int .i64 n] w (BoolIs (mayG s a n) w) := by
  have CC := Lib.hid (check4 s v w hv hl)
  have hw := mayg_ways s a n
  clear hv
  rcases hw with ⟨hm, hc⟩ | ⟨hm, hc, h1⟩ | ⟨hm, hc, h1, h2⟩ | ⟨hm, hc, h1, h2, h3⟩ | ⟨hm, hc, h1, h2, h3, h4⟩ | ⟨hm, hc, h1, h2, h3, h4⟩
  all_goals
    rw [hc] at CC
    rw [hm]
    clear hm hc
    go_enter Try.func8, Try.ntmps8
    go_wp2_with fail
    refine CC.out.mono ?_
    rintro e w1 ⟨rfl, q, rfl⟩
    go_wp2_with fail
    go_ret
    exact ⟨rfl, below_drewN (Below.refl _ _) q⟩
theorem roomb_ways (s : List Sp) (a w n : Int) : (roomB s a w n = false ∧ decide (head s ≤ a) = false) ∨ (roomB s a w n = false ∧ decide (head s ≤ a) = true ∧ decide (a ≤ 1125899906842624) = false) ∨
    (decide (head s ≤ a) = true ∧ decide (a ≤ 1125899906842624) = true ∧ roomB s a w n = decide (w ≤ minTo s (a, a + n) s.length)) := by
  unfold roomB
  cases decide (head s ≤ a) <;> cases decide (a ≤ 1125899906842624) <;> simp
set_option maxHeartbeats 1600000 in
theorem ok6 (s : List Sp) (a m n : Int) (v : Value) (w : World) (hv : SpansIs s w v) (hl : s.length ≤ 9000) (hc : Chk s) (hn1 : 1 ≤ n) (hn2 : n ≤ 1099511627776) :
    Calls Try.prog 13 #[v, .int .i64 a, .int .i64 m, .int .i64 n] w (BoolIs (roomB s a m n) w) := by
  have CM := Lib.hid (min4 s (a, a + n) v w hv hl)
  obtain ⟨A, c, rfl, hA⟩ := hv.open_
  obtain ⟨ad, rfl, had, c1, _⟩ := pair_zero hA hc.pos
  have hh : (spCell s 0).1 = .int .i64 (head s) := rfl
  rw [hh] at c1
  have hlz : (0 : Int) < (s.length : Int) := by have := hc.pos; omega
  have hlo := hc.lo
  have hw := roomb_ways s a m n
  unfold spV at CM
  dsimp only at CM
  clear hv hA hh hc
  generalize head s = h at *
  rcases hw with ⟨hr, h1⟩ | ⟨hr, h1, h2⟩ | ⟨h1, h2, hr⟩
  · rw [hr]
    clear hr CM
    go_enter Try.func13, Try.ntmps13
    go_wp2_with fail
    go_ret
    exact ⟨rfl, Below.refl _ _⟩
  · rw [hr]
    clear hr CM
    go_enter Try.func13, Try.ntmps13
    go_wp2_with fail
    go_ret
    exact ⟨rfl, Below.refl _ _⟩
  · have a1 := of_decide_eq_true h1
    have a2 := of_decide_eq_true h2
    generalize minTo s (a, a + n) s.length = x at *
    generalize roomB s a m n = R at *
    subst hr
    cases hx : decide (m ≤ x)
    all_goals
      go_enter Try.func13, Try.ntmps13
      go_wp2_with fail
      refine CM.out.mono ?_
      rintro e w1 ⟨rfl, hb1⟩
      have HB1 := Lib.hid hb1
      clear hb1
      go_wp2_with fail
      go_ret
      exact ⟨rfl, HB1.out⟩
end Go.Proofs.Ytalopnkdnlkdoaa.GapRef
