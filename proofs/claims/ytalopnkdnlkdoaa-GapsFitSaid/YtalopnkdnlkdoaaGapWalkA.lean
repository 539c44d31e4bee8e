/-
  The walks of layer 6's code: mayBeWide, mayBeLong, end, Widest, Ok.
-/
import Derived.Test.YtalopnkdnlkdoaaGapSay
import Derived.Test.YtalopnkdnlkdoaaGapPlainW
import Derived.Test.YtalopnkdnlkdoaaStepWalkD
namespace Go.Proofs.Ytalopnkdnlkdoaa.GapWalk
open Go.RowKit Go.Proofs.Ytalopnkdnlkdoaa.SpanPlain Go.Proofs.Ytalopnkdnlkdoaa.StepPlain Go.Proofs.Ytalopnkdnlkdoaa.GapPlain Go.Proofs.Ytalopnkdnlkdoaa.Mem Go.Proofs.Ytalopnkdnlkdoaa.SpanMem Go.Proofs.Ytalopnkdnlkdoaa.StepMem Go.Proofs.Ytalopnkdnlkdoaa.SpanRef Go.Proofs.Ytalopnkdnlkdoaa.StepRef Go.Proofs.Ytalopnkdnlkdoaa.GapRef
def BoolW (b : Bool) (w : World) (e : Ending) (w' : World) : Prop := e = .returned (.bool b) ∧ w = w'
def IntW (n : Int) (w : World) (e : Ending) (w' : World) : Prop := e = .returned (.int .i64 n) ∧ w = w'
def widthB (m : Int) : Bool := decide (1 ≤ m) && decide (m ≤ 256)
def lengthB (n : Int) : Bool := decide (1 ≤ n) && decide (n ≤ 1099511627776)
theorem widthB_iff (m : Int) : widthB m = true ↔ 1 ≤ m ∧ m ≤ 256 := by unfold widthB; simp
theorem lengthB_iff (n : Int) : lengthB n = true ↔ 1 ≤ n ∧ n ≤ 1099511627776 := by unfold lengthB; simp
theorem isWideS (t : Int) (w : World) : Calls Try.prog 22 #[.int .i64 t] w (BoolW (widthB t) w) := by
  have hw : (widthB t = true ∧ decide (1 ≤ t) = true ∧ decide (t ≤ 256) = true) ∨ (widthB t = false ∧ decide (1 ≤ t) = false) ∨ (widthB t = false ∧ decide (1 ≤ t) = true ∧ decide (t ≤ 256) = false) := by
    unfold widthB
    by_cases h1 : 1 ≤ t <;> by_cases h2 : t ≤ 256 <;> simp [h1, h2]
  generalize widthB t = B at *
  rcases hw with ⟨rfl, h1, h2⟩ | ⟨rfl, h1⟩ | ⟨rfl, h1, h2⟩
  all_goals
    go_enter Try.func22, Try.ntmps22
    go_wp2_with fail
    go_ret
    exact ⟨rfl, rfl⟩
theorem isLongS (t : Int) (w : World) : Calls Try.prog 20 #[.int .i64 t] w (BoolW (lengthB t) w) := by
  have hw : (lengthB t = true ∧ decide (1 ≤ t) = true ∧ decide (t ≤ 1099511627776) = true) ∨ (lengthB t = false ∧ decide (1 ≤ t) = false) ∨ (lengthB t = false ∧ decide (1 ≤ t) = true ∧ decide (t ≤ 1099511627776) = false) := by
    unfold lengthB
    by_cases h1 : 1 ≤ t <;> by_cases h2 : t ≤ 1099511627776 <;> simp [h1, h2]
  generalize lengthB t = B at *
  rcases hw with ⟨rfl, h1, h2⟩ | ⟨rfl, h1⟩ | ⟨rfl, h1, h2⟩
  all_goals
    go_enter Try.func20, Try.ntmps20
    go_wp2_with fail
    go_ret
    exact ⟨rfl, rfl⟩
/-- Up to when a step goes on. -/
def endN (s : List Sp) (k : Nat) : Int := if k + 1 < s.length then (nth s (k + 1)).1 else 4503599627370496
set_option maxRecDepth 100000 in
theorem endS (s : List Sp) (k : Nat) (v : Value) (w : World) (hv : SpansIs s w v) (hk : k < s.length) (hl : s.length ≤ 1000) : Calls Try.prog 27 #[v, .int .i64 k] w (IntW (endN s k) w) := by
  obtain ⟨A, c, rfl, hA⟩ := hv.open_
  have HA := Lib.hid hA
  clear hA hv
  unfold endN
  by_cases hnx : k + 1 < s.length
  · obtain ⟨ad2, rfl, had2, c3, _⟩ := HA.out (k + 1) hnx
    have e3 : (spCell s (k + 1)).1 = .int .i64 (nth s (k + 1)).1 := rfl
    rw [e3] at c3
    rw [if_pos hnx]
    have d1 : decide ((k : Int) + 1 < (s.length : Int)) = true := decide_eq_true (by omega)
    have i1 : (0 : Int) ≤ (k : Int) + 1 := by omega
    have i2 : (k : Int) + 1 < (s.length : Int) := by omega
    have i3 : ((k : Int) + 1).toNat = k + 1 := by omega
    clear e3
    generalize nth s (k + 1) = z at *
    go_enter Try.func27, Try.ntmps27
    go_wp2_with fail
    go_ret
    exact ⟨rfl, rfl⟩
  · rw [if_neg hnx]
    have d1 : decide ((k : Int) + 1 < (s.length : Int)) = false := decide_eq_false (by omega)
    go_enter Try.func27, Try.ntmps27
    go_wp2_with fail
    go_ret
    exact ⟨rfl, rfl⟩
set_option maxRecDepth 100000 in
set_option maxHeartbeats 1600000 in
theorem wideS (s : List Sp) (a n : Int) (v : Value) (w : World) (hv : SpansIs s w v) (hl : s.length ≤ 1000) : Calls Try.prog 11 #[v, .int .i64 a, .int .i64 n] w (WideSays s a n w) := by
  have CL := Lib.hid (fun W => isLongS n W)
  have HNO := Lib.hid (fun h => wide_no (s := s) (a := a) (n := n) h)
  cases hb : lengthB n with
  | false =>
    rw [hb] at CL
    have HN := Lib.hid (HNO.out (.inl (fun h => by rw [(lengthB_iff n).2 h] at hb; cases hb)))
    clear hb HNO hv
    go_enter Try.func11, Try.ntmps11
    go_wp2_with (go_at_call 20; refine (CL.out _).mono ?_; rintro e w1 ⟨rfl, rfl⟩)
    go_ret
    exact ⟨0, rfl, HN.out, Below.refl _ _⟩
  | true =>
    rw [hb] at CL
    have hn := (lengthB_iff n).1 hb
    clear hb
    by_cases ha : 1125899906842624 < a
    · have d1 : decide ((1125899906842624 : Int) < a) = true := decide_eq_true ha
      have HN := Lib.hid (HNO.out (.inr ha))
      clear HNO hv
      go_enter Try.func11, Try.ntmps11
      go_wp2_with (go_at_call 20; refine (CL.out _).mono ?_; rintro e w1 ⟨rfl, rfl⟩)
      go_ret
      exact ⟨0, rfl, HN.out, Below.refl _ _⟩
    · have d1 : decide ((1125899906842624 : Int) < a) = false := decide_eq_false ha
      obtain ⟨b, hb⟩ : ∃ b, b = IntKind.i64.wrap (a + n) := ⟨_, rfl⟩
      have HY := Lib.hid (fun k h => wide_yes (s := s) (a := a) (n := n) (b := b) (k := k) hn (by omega) (fun h0 => by rw [hb, IntKind.wrap_i64]; omega) h)
      have CM := Lib.hid (StepWalk.minS s (a, b) v w hv hl)
      unfold spV at CM
      dsimp only at CM
      have hb2 : IntKind.i64.wrap (a + n) = b := hb.symm
      clear hb hv HNO ha hn
      go_enter Try.func11, Try.ntmps11
      go_wp2_with (go_at_call 20; refine (CL.out _).mono ?_; rintro e w1 ⟨rfl, rfl⟩)
      refine CM.out.mono ?_
      rintro e w2 ⟨k, rfl, hk, hb⟩
      have HK := Lib.hid (HY.out k hk)
      have HB := Lib.hid hb
      clear hk hb HY
      go_wp2_with fail
      go_ret
      exact ⟨k, rfl, HK.out, HB.out⟩
set_option maxHeartbeats 1600000 in
theorem okS (s : List Sp) (a m n : Int) (v : Value) (w : World) (hv : SpansIs s w v) (hl : s.length ≤ 1000) : Calls Try.prog 10 #[v, .int .i64 a, .int .i64 m, .int .i64 n] w (BoolIs (okG s a m n) w) := by
  have CW := Lib.hid (fun W => isWideS m W)
  have CM := Lib.hid (wideS s a n v w hv hl)
  clear hv
  cases hb : widthB m with
  | false =>
    rw [hb] at CW
    rw [ok_not (fun h => by rw [(widthB_iff m).2 h] at hb; cases hb)]
    clear hb CM
    go_enter Try.func10, Try.ntmps10
    go_wp2_with (go_at_call 22; refine (CW.out _).mono ?_; rintro e w1 ⟨rfl, rfl⟩)
    go_ret
    exact ⟨rfl, Below.refl _ _⟩
  | true =>
    rw [hb] at CW
    have HO := Lib.hid (fun k h => ok_wide (s := s) (a := a) (m := m) (n := n) (k := k) h ((widthB_iff m).1 hb).1 ((widthB_iff m).1 hb).2)
    clear hb
    generalize hG : okG s a m n = G at *
    have HG := Lib.hid hG
    clear hG
    go_enter Try.func10, Try.ntmps10
    go_wp2_with (go_at_call 22; refine (CW.out _).mono ?_; rintro e w1 ⟨rfl, rfl⟩)
    refine CM.out.mono ?_
    rintro e w2 ⟨k, rfl, hk, hb⟩
    have HK := Lib.hid (HO.out k hk)
    have HB := Lib.hid hb
    clear hk hb HO
    cases hd : decide (m ≤ k)
    all_goals
      go_wp2_with fail
      go_ret
      exact ⟨by have h := HK.out; rw [hd] at h; rw [h]; rfl, HB.out⟩
end Go.Proofs.Ytalopnkdnlkdoaa.GapWalk
