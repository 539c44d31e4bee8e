/-
  The walks of the document's answers for layer 6: May, Ok. The walk of the document's answer for layer 6: Fit. The walk of the document's answer for layer 6: All. What layer 6's functions answer: the posts that the law texts name; the example of the statements.
-/
import Derived.Test.YtkaepadkdohmpaaGapPlain
import Derived.Test.YtkaepadkdohmpaaStepRef0
import Derived.Test.YtkaepadkdohmpaaSpanRef0
import Derived.Test.YtkaepadkdohmpaaSpanPlain
namespace Go.Proofs.Ytkaepadkdohmpaa.GapRef
open Go.RowKit Go.Proofs.Ytkaepadkdohmpaa.SpanPlain Go.Proofs.Ytkaepadkdohmpaa.StepPlain Go.Proofs.Ytkaepadkdohmpaa.GapPlain Go.Proofs.Ytkaepadkdohmpaa.Mem Go.Proofs.Ytkaepadkdohmpaa.SpanMem Go.Proofs.Ytkaepadkdohmpaa.StepMem Go.Proofs.Ytkaepadkdohmpaa.SpanRef Go.Proofs.Ytkaepadkdohmpaa.StepRef
theorem mayg_ways (s : List Sp) (w n : Int) : (mayG s w n = false ∧ chkB s = false) ∨ (mayG s w n = false ∧ chkB s = true ∧ decide (1 ≤ w) = false) ∨ (mayG s w n = false ∧ chkB s = true ∧ decide (1 ≤ w) = true ∧ decide (w ≤ 256) = false) ∨
    (mayG s w n = false ∧ chkB s = true ∧ decide (1 ≤ w) = true ∧ decide (w ≤ 256) = true ∧ decide (1 ≤ n) = false) ∨ (mayG s w n = false ∧ chkB s = true ∧ decide (1 ≤ w) = true ∧ decide (w ≤ 256) = true ∧ decide (1 ≤ n) = true ∧ decide (n ≤ 1099511627776) = false) ∨
    (mayG s w n = true ∧ chkB s = true ∧ decide (1 ≤ w) = true ∧ decide (w ≤ 256) = true ∧ decide (1 ≤ n) = true ∧ decide (n ≤ 1099511627776) = true) := by
  unfold mayG
  cases chkB s <;> cases decide (1 ≤ w) <;> cases decide (w ≤ 256) <;> cases decide (1 ≤ n) <;> cases decide (n ≤ 1099511627776) <;> simp
set_option maxHeartbeats 1600000 in
theorem may6 (s : List Sp) (a n : Int) (v : Value) (w : World) (hv : SpansIs s w v) (hl : s.length ≤ 9000) : Calls Try.prog 20 #[v, .int .i64 a, .int .i64 n] w (BoolIs (mayG s a n) w) := by
  have CC := Lib.hid (check4 s v w hv hl)
  have hw := mayg_ways s a n
  clear hv
  rcases hw with ⟨hm, hc⟩ | ⟨hm, hc, h1⟩ | ⟨hm, hc, h1, h2⟩ | ⟨hm, hc, h1, h2, h3⟩ | ⟨hm, hc, h1, h2, h3, h4⟩ | ⟨hm, hc, h1, h2, h3, h4⟩
  all_goals
    rw [hc] at CC
    rw [hm]
    clear hm hc
    go_enter Try.func20, Try.ntmps20
    go_wp2_with fail
    refine CC.out.mono ?_
    rintro e w1 ⟨rfl, q, rfl⟩
    go_wp2_with fail
    go_ret
    exact ⟨rfl, below_drewN (Below.refl _ _) q⟩
theorem roomb_ways (s : List Sp) (a w n : Int) : (roomB s a w n = false ∧ decide (head s ≤ a) = false) ∨ (roomB s a w n = false ∧ decide (head s ≤ a) = true ∧ decide (a ≤ 1125899906842624) = false) ∨
    (decide (head s ≤ a) = true ∧ decide (a ≤ 1125899906842624) = true ∧ roomB s a w n = decide (w ≤ minTo s (a, a + n) s.length)) := by
  unfold roomB
  cases decide (head s ≤ a) <;> cases decide (a ≤ 1125899906842624) <;> simp
set_option maxHeartbeats 1600000 in
theorem ok6 (s : List Sp) (a m n : Int) (v : Value) (w : World) (hv : SpansIs s w v) (hl : s.length ≤ 9000) (hc : Chk s) (hn1 : 1 ≤ n) (hn2 : n ≤ 1099511627776) :
    Calls Try.prog 21 #[v, .int .i64 a, .int .i64 m, .int .i64 n] w (BoolIs (roomB s a m n) w) := by
  have CM := Lib.hid (min4 s (a, a + n) v w hv hl)
  obtain ⟨A, c, rfl, hA⟩ := hv.open_
  obtain ⟨ad, rfl, had, c1, _⟩ := pair_zero hA hc.pos
  have hh : (spCell s 0).1 = .int .i64 (head s) := rfl
  rw [hh] at c1
  have hlz : (0 : Int) < (s.length : Int) := by have := hc.pos; omega
  have hlo := hc.lo
  have hw := roomb_ways s a m n
  unfold spV at CM
  dsimp only at CM
  clear hv hA hh hc
  generalize head s = h at *
  rcases hw with ⟨hr, h1⟩ | ⟨hr, h1, h2⟩ | ⟨h1, h2, hr⟩
  · rw [hr]
    clear hr CM
    go_enter Try.func21, Try.ntmps21
    go_wp2_with fail
    go_ret
    exact ⟨rfl, Below.refl _ _⟩
  · rw [hr]
    clear hr CM
    go_enter Try.func21, Try.ntmps21
    go_wp2_with fail
    go_ret
    exact ⟨rfl, Below.refl _ _⟩
  · have a1 := of_decide_eq_true h1
    have a2 := of_decide_eq_true h2
    generalize minTo s (a, a + n) s.length = x at *
    generalize roomB s a m n = R at *
    subst hr
    cases hx : decide (m ≤ x)
    all_goals
      go_enter Try.func21, Try.ntmps21
      go_wp2_with fail
      refine CM.out.mono ?_
      rintro e w1 ⟨rfl, hb1⟩
      have HB1 := Lib.hid hb1
      clear hb1
      go_wp2_with fail
      go_ret
      exact ⟨rfl, HB1.out⟩
end Go.Proofs.Ytkaepadkdohmpaa.GapRef
namespace Go.Proofs.Ytkaepadkdohmpaa.GapRef
open Go.RowKit Go.Proofs.Ytkaepadkdohmpaa.SpanPlain Go.Proofs.Ytkaepadkdohmpaa.StepPlain Go.Proofs.Ytkaepadkdohmpaa.GapPlain Go.Proofs.Ytkaepadkdohmpaa.Mem Go.Proofs.Ytkaepadkdohmpaa.SpanMem Go.Proofs.Ytkaepadkdohmpaa.StepMem Go.Proofs.Ytkaepadkdohmpaa.SpanRef Go.Proofs.Ytkaepadkdohmpaa.StepRef
theorem drop_at {s : List Sp} {k : Nat} (h : k < s.length) : s.drop k = nth s k :: s.drop (k + 1) := by unfold nth; rw [getSp h, List.drop_eq_getElem_cons h]
theorem fit_ways (s : List Sp) (f w n : Int) : (decide ((1125899906842624 : Int) < max f (head s)) = true ∧ fitL s f w n = -1) ∨ (decide ((1125899906842624 : Int) < max f (head s)) = false ∧ roomB s (max f (head s)) w n = true ∧ fitL s f w n = max f (head s)) ∨
    (decide ((1125899906842624 : Int) < max f (head s)) = false ∧ roomB s (max f (head s)) w n = false ∧ fitL s f w n = fitStep s (max f (head s)) w n s) := by
  unfold fitL
  by_cases h1 : 1125899906842624 < max f (head s)
  · exact .inl ⟨decide_eq_true h1, if_pos h1⟩
  · rw [if_neg h1]
    cases h2 : roomB s (max f (head s)) w n with
    | true => exact .inr (.inl ⟨decide_eq_false h1, rfl, if_pos rfl⟩)
    | false => exact .inr (.inr ⟨decide_eq_false h1, rfl, if_neg (by simp)⟩)
theorem step_ways (s : List Sp) (f w n : Int) {k : Nat} (h : k < s.length) : (decide (f < (nth s k).1) = false ∧ Hid (fitStep s f w n (s.drop k) = fitStep s f w n (s.drop (k + 1)))) ∨ (decide (f < (nth s k).1) = true ∧ roomB s (nth s k).1 w n = false ∧ Hid (fitStep s f w n (s.drop k) = fitStep s f w n (s.drop (k + 1)))) ∨
    (decide (f < (nth s k).1) = true ∧ roomB s (nth s k).1 w n = true ∧ Hid (fitStep s f w n (s.drop k) = (nth s k).1)) := by
  rw [drop_at h]
  generalize nth s k = y
  by_cases h1 : f < y.1
  · cases h2 : roomB s y.1 w n with
    | false => exact .inr (.inl ⟨decide_eq_true h1, rfl, if_neg (fun h3 => by rw [h2] at h3; cases h3.2)⟩)
    | true => exact .inr (.inr ⟨decide_eq_true h1, rfl, if_pos ⟨h1, h2⟩⟩)
  · exact .inl ⟨decide_eq_false h1, if_neg (fun h3 => h1 h3.1)⟩
theorem ret_is {k : IntKind} {a b : Int} (h : a = b) : Ending.returned (.int k a) = .returned (.int k b) := by rw [h]
def IntA (n : Int) (w : World) (e : Ending) (w' : World) : Prop := e = .returned (.int .i64 n) ∧ Below w.heap.size w w'
end Go.Proofs.Ytkaepadkdohmpaa.GapRef
namespace Go.Proofs.Ytkaepadkdohmpaa.GapRef
open Go.RowKit Go.Proofs.Ytkaepadkdohmpaa.SpanPlain Go.Proofs.Ytkaepadkdohmpaa.StepPlain Go.Proofs.Ytkaepadkdohmpaa.GapPlain Go.Proofs.Ytkaepadkdohmpaa.Mem Go.Proofs.Ytkaepadkdohmpaa.SpanMem Go.Proofs.Ytkaepadkdohmpaa.StepMem Go.Proofs.Ytkaepadkdohmpaa.SpanRef Go.Proofs.Ytkaepadkdohmpaa.StepRef
/-- What All answers. -/
def CoverSays (s : List Sp) (m : Int) (w : World) (e : Ending) (w' : World) : Prop := ∃ v c, e = .returned v ∧ SpansIs c w' v ∧ AllIs s m c ∧ c.length ≤ s.length ∧ Below w.heap.size w w'
def CoverLoop (s : List Sp) (m : Int) (w wr : World) (v : Value) (k : Nat) : Prop := OwnN 70 2 w.heap.size wr v (gapsTo s m k).length (svals (gapsTo s m k)) ∧ Below w.heap.size w wr
theorem gap_ways (s : List Sp) (m : Int) {k : Nat} (hk : k < s.length) : (decide (m ≤ (nth s k).2) = false ∧ Hid (gapsTo s m (k + 1) = gapsTo s m k)) ∨ (decide (m ≤ (nth s k).2) = true ∧ k + 1 < s.length ∧ Hid (gapsTo s m (k + 1) = gapsTo s m k ++ [((nth s k).1, (nth s (k + 1)).1)])) ∨
    (decide (m ≤ (nth s k).2) = true ∧ k + 1 = s.length ∧ Hid (gapsTo s m (k + 1) = gapsTo s m k ++ [((nth s k).1, 4503599627370496)])) := by
  rw [gaps_next]
  unfold gapSp
  by_cases h1 : m ≤ (nth s k).2
  · rw [if_pos h1]
    by_cases h2 : k + 1 < s.length
    · rw [if_pos h2]; exact .inr (.inl ⟨decide_eq_true h1, h2, rfl⟩)
    · rw [if_neg h2]; exact .inr (.inr ⟨decide_eq_true h1, by omega, rfl⟩)
  · rw [if_neg h1, List.append_nil]; exact .inl ⟨decide_eq_false h1, rfl⟩
end Go.Proofs.Ytkaepadkdohmpaa.GapRef
namespace Go.Proofs.Ytkaepadkdohmpaa.GapWalk
open Go.RowKit Go.Proofs.Ytkaepadkdohmpaa.SpanPlain Go.Proofs.Ytkaepadkdohmpaa.StepPlain Go.Proofs.Ytkaepadkdohmpaa.GapPlain Go.Proofs.Ytkaepadkdohmpaa.Mem Go.Proofs.Ytkaepadkdohmpaa.SpanMem Go.Proofs.Ytkaepadkdohmpaa.StepMem Go.Proofs.Ytkaepadkdohmpaa.SpanRef Go.Proofs.Ytkaepadkdohmpaa.StepRef Go.Proofs.Ytkaepadkdohmpaa.GapRef
def TrueIs (w : World) (e : Ending) (w' : World) : Prop := e = .returned (.bool true) ∧ Below w.heap.size w w'
def FitSays (s : List Sp) (f m n : Int) (w : World) (e : Ending) (w' : World) : Prop := ∃ r b, e = .returned (.tuple #[.int .i64 r, .bool b]) ∧ FitIs s f m n r b ∧ Below w.heap.size w w'
def AllTells (s : List Sp) (m : Int) (w : World) (e : Ending) (w' : World) : Prop := ∃ v c, e = .returned v ∧ SpansIs c w' v ∧ AllSays s m c ∧ Below w.heap.size w w'
def WideSays (s : List Sp) (a n : Int) (w : World) (e : Ending) (w' : World) : Prop := ∃ m, e = .returned (.int .i64 m) ∧ WideIs s a n m ∧ Below w.heap.size w w'
def LongSays (s : List Sp) (a m : Int) (w : World) (e : Ending) (w' : World) : Prop := ∃ k, e = .returned (.int .i64 k) ∧ LongIs s a m k ∧ Below w.heap.size w w'
def exG : List Sp := [(0, 5), (2, 2), (4, 5)]
theorem ex_may : mayG exG 3 3 = true := by decide
theorem ex_fit {r : Int} {b : Bool} (h : FitIs exG 0 3 3 r b) : r = 4 ∧ b = true := by
  have h1 := (fit_spec (f := 0) ex_may).1 (by decide)
  obtain ⟨h2, h3⟩ := h.unique h1
  exact ⟨h2.trans (by decide), h3⟩
theorem ex_ok : okG exG 0 3 2 = true := by decide
theorem ex_wide {m : Int} (h : WideIs exG 1 5 m) : m = 2 := (h.unique (wide_is (by decide) (by decide) (by decide))).trans (by decide)
theorem ex_long {m : Int} (h : LongIs exG 1 3 m) : m = 1 := by
  refine h.unique (.inl ⟨by decide, by decide, by decide, fun t h1 h2 => ?_, by decide⟩)
  obtain rfl : t = 1 := by omega
  decide
end Go.Proofs.Ytkaepadkdohmpaa.GapWalk
