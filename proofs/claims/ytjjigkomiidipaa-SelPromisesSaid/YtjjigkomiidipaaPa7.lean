/-
  What the theorem uses of the texts below it.
-/
import Derived.Below
import Derived.Laws.OwnMore
import Derived.Deep.Draws
import Derived.Deep.OwnRows
import Derived.Lib.Hide
import Derived.OwnWalk
import Derived.Deep.QuietTactic
import Derived.BigQuiet
import Derived.Lib.SliceRun
import Derived.Test.YtjjigkomiidipaaRows
import Derived.WalkKit
import Derived.WalkSpells
import Derived.WalkLawsBesides
import Derived.Laws.StructEq
import Derived.LoopTactic
import Derived.Deep.CutBlock
import Derived.Deep.DeepCutAuto
import Derived.Deep.RegionHeld3
import Derived.ArgAppend
import Derived.Deep.RegionLaw
import Derived.Shelf.Small.Bits
import Derived.Shelf.Small.Wraps
import Derived.Shelf.Strconv.Itoa0
import Derived.Shelf.Bits.Mul64
import Derived.Test.YtjjigkomiidipaaProg
import Derived.Lib.ItoaNum
import Derived.Laws.Bits64b
import Derived.Deep.LoopGhost
import Derived.Shelf.SlSortCmp.NoneTotal
import Derived.Shelf.SlicesG.Cmp
import Derived.Lib.OwnBridge
import Derived.Lib.AppendIntMem
import Derived.BigRegion
import Derived.Test.YtjjigkomiidipaaPa6
namespace Go.Proofs.Ytjjigkomiidipaa.GapWalk
open Go.RowKit Go.Proofs.Ytjjigkomiidipaa.SpanPlain Go.Proofs.Ytjjigkomiidipaa.StepPlain Go.Proofs.Ytjjigkomiidipaa.GapPlain Go.Proofs.Ytjjigkomiidipaa.Mem Go.Proofs.Ytjjigkomiidipaa.SpanMem Go.Proofs.Ytjjigkomiidipaa.StepMem Go.Proofs.Ytjjigkomiidipaa.SpanRef Go.Proofs.Ytjjigkomiidipaa.StepRef Go.Proofs.Ytjjigkomiidipaa.GapRef
def BoolW (b : Bool) (w : World) (e : Ending) (w' : World) : Prop := e = .returned (.bool b) ∧ w = w'
def IntW (n : Int) (w : World) (e : Ending) (w' : World) : Prop := e = .returned (.int .i64 n) ∧ w = w'
def widthB (m : Int) : Bool := decide (1 ≤ m) && decide (m ≤ 256)
def lengthB (n : Int) : Bool := decide (1 ≤ n) && decide (n ≤ 1099511627776)
theorem widthB_iff (m : Int) : widthB m = true ↔ 1 ≤ m ∧ m ≤ 256 := by unfold widthB; simp
theorem lengthB_iff (n : Int) : lengthB n = true ↔ 1 ≤ n ∧ n ≤ 1099511627776 := by unfold lengthB; simp
theorem isWideS (t : Int) (w : World) : Calls Try.prog 40 #[.int .i64 t] w (BoolW (widthB t) w) := by
  have hw : (widthB t = true ∧ decide (1 ≤ t) = true ∧ decide (t ≤ 256) = true) ∨ (widthB t = false ∧ decide (1 ≤ t) = false) ∨ (widthB t = false ∧ decide (1 ≤ t) = true ∧ decide (t ≤ 256) = false) := by
    unfold widthB
    by_cases h1 : 1 ≤ t <;> by_cases h2 : t ≤ 256 <;> simp [h1, h2]
  generalize widthB t = B at *
  rcases hw with ⟨rfl, h1, h2⟩ | ⟨rfl, h1⟩ | ⟨rfl, h1, h2⟩
  all_goals
    go_enter Try.func40, Try.ntmps40
    go_wp2_with fail
    go_ret
    exact ⟨rfl, rfl⟩
theorem isLongS (t : Int) (w : World) : Calls Try.prog 46 #[.int .i64 t] w (BoolW (lengthB t) w) := by
  have hw : (lengthB t = true ∧ decide (1 ≤ t) = true ∧ decide (t ≤ 1099511627776) = true) ∨ (lengthB t = false ∧ decide (1 ≤ t) = false) ∨ (lengthB t = false ∧ decide (1 ≤ t) = true ∧ decide (t ≤ 1099511627776) = false) := by
    unfold lengthB
    by_cases h1 : 1 ≤ t <;> by_cases h2 : t ≤ 1099511627776 <;> simp [h1, h2]
  generalize lengthB t = B at *
  rcases hw with ⟨rfl, h1, h2⟩ | ⟨rfl, h1⟩ | ⟨rfl, h1, h2⟩
  all_goals
    go_enter Try.func46, Try.ntmps46
    go_wp2_with fail
    go_ret
    exact ⟨rfl, rfl⟩
/-- Up to when a step goes on. -/
def endN (s : List Sp) (k : Nat) : Int := if k + 1 < s.length then (nth s (k + 1)).1 else 4503599627370496
set_option maxRecDepth 100000 in
theorem endS (s : List Sp) (k : Nat) (v : Value) (w : World) (hv : SpansIs s w v) (hk : k < s.length) (hl : s.length ≤ 1000) : Calls Try.prog 56 #[v, .int .i64 k] w (IntW (endN s k) w) := by
  obtain ⟨A, c, rfl, hA⟩ := hv.open_
  have HA := Lib.hid hA
  clear hA hv
  unfold endN
  by_cases hnx : k + 1 < s.length
  · obtain ⟨ad2, rfl, had2, c3, _⟩ := HA.out (k + 1) hnx
    have e3 : (spCell s (k + 1)).1 = .int .i64 (nth s (k + 1)).1 := rfl
    rw [e3] at c3
    rw [if_pos hnx]
    have d1 : decide ((k : Int) + 1 < (s.length : Int)) = true := decide_eq_true (by omega)
    have i1 : (0 : Int) ≤ (k : Int) + 1 := by omega
    have i2 : (k : Int) + 1 < (s.length : Int) := by omega
    have i3 : ((k : Int) + 1).toNat = k + 1 := by omega
    clear e3
    generalize nth s (k + 1) = z at *
    go_enter Try.func56, Try.ntmps56
    go_wp2_with fail
    go_ret
    exact ⟨rfl, rfl⟩
  · rw [if_neg hnx]
    have d1 : decide ((k : Int) + 1 < (s.length : Int)) = false := decide_eq_false (by omega)
    go_enter Try.func56, Try.ntmps56
    go_wp2_with fail
    go_ret
    exact ⟨rfl, rfl⟩
set_option maxRecDepth 100000 in
set_option maxHeartbeats 1600000 in
theorem wideS (s : List Sp) (a n : Int) (v : Value) (w : World) (hv : SpansIs s w v) (hl : s.length ≤ 1000) : Calls Try.prog 41 #[v, .int .i64 a, .int .i64 n] w (WideSays s a n w) := by
  have CL := Lib.hid (fun W => isLongS n W)
  have HNO := Lib.hid (fun h => wide_no (s := s) (a := a) (n := n) h)
  cases hb : lengthB n with
  | false =>
    rw [hb] at CL
    have HN := Lib.hid (HNO.out (.inl (fun h => by rw [(lengthB_iff n).2 h] at hb; cases hb)))
    clear hb HNO hv
    go_enter Try.func41, Try.ntmps41
    go_wp2_with (go_at_call 46; refine (CL.out _).mono ?_; rintro e w1 ⟨rfl, rfl⟩)
    go_ret
    exact ⟨0, rfl, HN.out, Below.refl _ _⟩
  | true =>
    rw [hb] at CL
    have hn := (lengthB_iff n).1 hb
    clear hb
    by_cases ha : 1125899906842624 < a
    · have d1 : decide ((1125899906842624 : Int) < a) = true := decide_eq_true ha
      have HN := Lib.hid (HNO.out (.inr ha))
      clear HNO hv
      go_enter Try.func41, Try.ntmps41
      go_wp2_with (go_at_call 46; refine (CL.out _).mono ?_; rintro e w1 ⟨rfl, rfl⟩)
      go_ret
      exact ⟨0, rfl, HN.out, Below.refl _ _⟩
    · have d1 : decide ((1125899906842624 : Int) < a) = false := decide_eq_false ha
      obtain ⟨b, hb⟩ : ∃ b, b = IntKind.i64.wrap (a + n) := ⟨_, rfl⟩
      have HY := Lib.hid (fun k h => wide_yes (s := s) (a := a) (n := n) (b := b) (k := k) hn (by omega) (fun h0 => by rw [hb, IntKind.wrap_i64]; omega) h)
      have CM := Lib.hid (StepWalk.minS s (a, b) v w hv hl)
      unfold spV at CM
      dsimp only at CM
      have hb2 : IntKind.i64.wrap (a + n) = b := hb.symm
      clear hb hv HNO ha hn
      go_enter Try.func41, Try.ntmps41
      go_wp2_with (go_at_call 46; refine (CL.out _).mono ?_; rintro e w1 ⟨rfl, rfl⟩)
      refine CM.out.mono ?_
      rintro e w2 ⟨k, rfl, hk, hb⟩
      have HK := Lib.hid (HY.out k hk)
      have HB := Lib.hid hb
      clear hk hb HY
      go_wp2_with fail
      go_ret
      exact ⟨k, rfl, HK.out, HB.out⟩
set_option maxHeartbeats 1600000 in
theorem okS (s : List Sp) (a m n : Int) (v : Value) (w : World) (hv : SpansIs s w v) (hl : s.length ≤ 1000) : Calls Try.prog 30 #[v, .int .i64 a, .int .i64 m, .int .i64 n] w (BoolIs (okG s a m n) w) := by
  have CW := Lib.hid (fun W => isWideS m W)
  have CM := Lib.hid (wideS s a n v w hv hl)
  clear hv
  cases hb : widthB m with
  | false =>
    rw [hb] at CW
    rw [ok_not (fun h => by rw [(widthB_iff m).2 h] at hb; cases hb)]
    clear hb CM
    go_enter Try.func30, Try.ntmps30
    go_wp2_with (go_at_call 40; refine (CW.out _).mono ?_; rintro e w1 ⟨rfl, rfl⟩)
    go_ret
    exact ⟨rfl, Below.refl _ _⟩
  | true =>
    rw [hb] at CW
    have HO := Lib.hid (fun k h => ok_wide (s := s) (a := a) (m := m) (n := n) (k := k) h ((widthB_iff m).1 hb).1 ((widthB_iff m).1 hb).2)
    clear hb
    generalize hG : okG s a m n = G at *
    have HG := Lib.hid hG
    clear hG
    go_enter Try.func30, Try.ntmps30
    go_wp2_with (go_at_call 40; refine (CW.out _).mono ?_; rintro e w1 ⟨rfl, rfl⟩)
    refine CM.out.mono ?_
    rintro e w2 ⟨k, rfl, hk, hb⟩
    have HK := Lib.hid (HO.out k hk)
    have HB := Lib.hid hb
    clear hk hb HO
    cases hd : decide (m ≤ k)
    all_goals
      go_wp2_with fail
      go_ret
      exact ⟨by have h := HK.out; rw [hd] at h; rw [h]; rfl, HB.out⟩
end Go.Proofs.Ytjjigkomiidipaa.GapWalk
namespace Go.Proofs.Ytjjigkomiidipaa.GapWalk
open Go.RowKit Go.Proofs.Ytjjigkomiidipaa.SpanPlain Go.Proofs.Ytjjigkomiidipaa.StepPlain Go.Proofs.Ytjjigkomiidipaa.GapPlain Go.Proofs.Ytjjigkomiidipaa.Mem Go.Proofs.Ytjjigkomiidipaa.SpanMem Go.Proofs.Ytjjigkomiidipaa.StepMem Go.Proofs.Ytjjigkomiidipaa.SpanRef Go.Proofs.Ytjjigkomiidipaa.StepRef Go.Proofs.Ytjjigkomiidipaa.GapRef
theorem all_ways (s : List Sp) (m : Int) : (chkB s = false ∧ Hid (AllSays s m [])) ∨ (chkB s = true ∧ widthB m = false ∧ Hid (AllSays s m [])) ∨ (chkB s = true ∧ widthB m = true ∧ Hid (mayG s m 1 = true)) := by
  have e : mayG s m 1 = (chkB s && widthB m) := by unfold mayG widthB; cases chkB s <;> simp
  unfold AllSays
  rw [e]
  cases chkB s with
  | false => exact .inl ⟨rfl, .inr ⟨rfl, rfl⟩⟩
  | true =>
    cases widthB m with
    | false => exact .inr (.inl ⟨rfl, rfl, .inr ⟨rfl, rfl⟩⟩)
    | true => exact .inr (.inr ⟨rfl, rfl, rfl⟩)
theorem gapw_ways (s : List Sp) (m : Int) (k : Nat) : (decide (m ≤ (nth s k).2) = false ∧ Hid (gapsTo s m (k + 1) = gapsTo s m k)) ∨ (decide (m ≤ (nth s k).2) = true ∧ Hid (gapsTo s m (k + 1) = gapsTo s m k ++ [((nth s k).1, endN s k)])) := by
  rw [gaps_next]
  unfold gapSp endN
  by_cases h1 : m ≤ (nth s k).2
  · rw [if_pos h1]; exact .inr ⟨decide_eq_true h1, rfl⟩
  · rw [if_neg h1, List.append_nil]; exact .inl ⟨decide_eq_false h1, rfl⟩
def AllLoop (s : List Sp) (m : Int) (w wr : World) (v : Value) (k : Nat) : Prop := OwnN 73 2 w.heap.size wr v (gapsTo s m k).length (svals (gapsTo s m k)) ∧ Below w.heap.size w wr
/-- A box laid behind a row of one's own is kept where the row grows. -/
theorem box_kept {e : TypeId} {k base n : Nat} {wr W w6 : World} {o : Value} {xs : List Value} (h : OwnN e k base wr o n xs) (hw : wr.heap.size < W.heap.size) (hg : W.grownBy w6 o.ownBlock) {j : Nat} {u : Value} (hu : W.cell? ⟨wr.heap.size, j, none⟩ = some u) : w6.cell? ⟨wr.heap.size, j, none⟩ = some u :=
  (World.cell?_of_block (a := ⟨wr.heap.size, j, none⟩) (hg.block wr.heap.size hw (fun e => by have := (h.1.lt _ e.symm).2; omega))).trans hu
/-- All, with how long its answer is. -/
def AllLong (s : List Sp) (m : Int) (w : World) (e : Ending) (w' : World) : Prop := ∃ v c, e = .returned v ∧ SpansIs c w' v ∧ AllSays s m c ∧ Below w.heap.size w w' ∧ c.length ≤ 1000
set_option maxRecDepth 100000 in
set_option maxHeartbeats 3200000 in
theorem allL (s : List Sp) (m : Int) (v : Value) (w : World) (hv : SpansIs s w v) (hl : s.length ≤ 1000) : Calls Try.prog 47 #[v, .int .i64 m] w (AllLong s m w) := by
  have CC := Lib.hid (StepWalk.checkS s v w hv hl)
  have CW := Lib.hid (fun W => isWideS m W)
  have HV := Lib.hid hv
  obtain ⟨A, c, rfl, hA⟩ := hv.open_
  have HA := Lib.hid hA
  clear hv hA
  rcases all_ways s m with ⟨h1, HN⟩ | ⟨h1, h2, HN⟩ | ⟨h1, h2, HM⟩
  · rw [h1] at CC
    clear h1
    go_enter Try.func47, Try.ntmps47
    go_wp2_with fail
    refine CC.out.mono ?_
    rintro e w1 ⟨rfl, hb1⟩
    have HB1 := Lib.hid hb1
    clear hb1
    go_wp2_with fail
    go_ret
    exact ⟨_, [], rfl, .inl ⟨rfl, rfl⟩, HN.out, HB1.out, by simp⟩
  · rw [h1] at CC
    rw [h2] at CW
    clear h1 h2
    go_enter Try.func47, Try.ntmps47
    go_wp2_with fail
    refine CC.out.mono ?_
    rintro e w1 ⟨rfl, hb1⟩
    have HB1 := Lib.hid hb1
    clear hb1
    go_wp2_with (go_at_call 40; refine (CW.out _).mono ?_; rintro e w1 ⟨rfl, rfl⟩)
    go_ret
    exact ⟨_, [], rfl, .inl ⟨rfl, rfl⟩, HN.out, HB1.out, by simp⟩
  · rw [h1] at CC
    rw [h2] at CW
    have HC := Lib.hid ((chk_iff s).1 h1)
    clear h1 h2
    go_enter Try.func47, Try.ntmps47
    go_wp2_with fail
    refine CC.out.mono ?_
    rintro e w1 ⟨rfl, hb1⟩
    have HB1 := Lib.hid hb1
    clear hb1 CC
    go_wp2_with (go_at_call 40; refine (CW.out _).mono ?_; rintro e w1 ⟨rfl, rfl⟩)
    go_loopw [5, 18] (fun o i wr => ∃ (k : Nat) (v : Value), v = o ∧ i = .int .i64 k ∧ k ≤ s.length ∧ Hid (AllLoop s m w1 wr v k)) (fun _ i _ => s.length - (intOf i).toNat)
    case atStart => exact ⟨0, _, rfl, rfl, Nat.zero_le _, OwnN.nil (Nat.le_refl _), Below.refl _ _⟩
    case round =>
      obtain ⟨k, o, hov, rfl, hk, HL⟩ := hrel
      subst hov
      obtain ⟨hown, hbl⟩ := HL.out
      by_cases hlt : k < s.length
      · obtain ⟨ad, rfl, had, c1, c2⟩ := (HA.out.below (below_then HB1.out hbl)) k hlt
        have e1 : (spCell s k).1 = .int .i64 (nth s k).1 := rfl
        have e2 : (spCell s k).2 = .int .i64 (nth s k).2 := rfl
        rw [e1] at c1
        rw [e2] at c2
        have hgl := gaps_len s m k
        have i0 : (0 : Int) ≤ (k : Int) := Int.natCast_nonneg _
        have hlt2 : (k : Int) < (s.length : Int) := by omega
        have HOW := Lib.hid hown
        have HBL := Lib.hid hbl
        unfold AllLoop
        clear hown hbl HL e1 e2
        rcases gapw_ways s m k with ⟨h1, HX⟩ | ⟨h1, HX⟩
        · generalize nth s k = y at *
          go_wp2_with fail
          exact ⟨⟨k + 1, _, rfl, by go_num, by omega, by rw [HX.out]; exact HOW.out.alloc _, HBL.out.alloc HBL.out.size _⟩, by simp [intOf] <;> omega⟩
        · generalize nth s k = y at *
          have CE := Lib.hid (endS s k (.slice (some ad) s.length c) (wr.alloc (.cells #[.int .i64 y.1, .int .i64 y.2] 40)).drew (HV.out.below (((below_then HB1.out HBL.out).alloc (below_then HB1.out HBL.out).size _).drew)) hlt hl)
          have HO1 := Lib.hid ((HOW.out.alloc (.cells #[.int .i64 y.1, .int .i64 y.2] 40)).drewN 1)
          generalize endN s k = z at *
          have HO2 := Lib.hid (HO1.out.alloc (.cells #[.int .i64 y.1, .int .i64 z] 73))
          have HB2 := Lib.hid ((HBL.out.alloc HBL.out.size (.cells #[.int .i64 y.1, .int .i64 y.2] 40)).drew)
          have HX0 := Box2.new wr (.int .i64 y.1) (.int .i64 y.2) 40
          obtain ⟨x0, x1, x2, _, _⟩ := HX0
          go_upto_region 8 with fail
          go_region_held3 (fun w' => w'.cell? ⟨wr.heap.size, 0, none⟩ = some (.int .i64 y.1))
            (first | go_keep | exact box_kept HOW.out (by simp; omega) hg6 (by assumption))
            (first
              | (go_at_call_of 56 (Value.slice (some ad) s.length c); refine CE.out.mono ?_; rintro e w2 ⟨rfl, rfl⟩)
              | (refine step_own spans_t (by rfl) (.tmp 27) (.tmp 34) (by rfl) w1.heap.size _ _ _ (by rfl) HO2.out _ 1 [.int .i64 y.1, .int .i64 z] (by rfl) (by rfl) (raw_at (by simp) #[.int .i64 y.1, .int .i64 z] _) two_cells (by omega) ?_; intro v6 w6 ho6 hb6 hg6))
          all_goals
            go_wp2_with fail
            exact ⟨⟨k + 1, _, rfl, by go_num, by omega, by rw [HX.out, svals_snoc]; exact ho6.cast (by simp) rfl, (HB2.out.alloc HB2.out.size _).trans hb6⟩, by simp [intOf] <;> omega⟩
      · obtain rfl : k = s.length := by omega
        have hgl := gaps_len s m s.length
        have hsp : SpansIs (gapsTo s m s.length) wr o := spans_of_own hown rfl
        have HALL := Lib.hid (fun c h => all_of_less (s := s) (c := c) HC.out (w := m) h)
        have CL := Lib.hid (SpanWalk.cover_is (gapsTo s m s.length) o wr hsp (by omega))
        have HBL := Lib.hid (below_then HB1.out hbl)
        clear hown hbl HL hsp
        generalize gapsTo s m s.length = l at *
        go_wp2_with fail
        refine CL.out.mono ?_
        rintro e w2 ⟨v2, c2, rfl, hs2, hl2, hb2, _⟩
        have HS := Lib.hid hs2
        have HAL := Lib.hid (HALL.out c2 hl2)
        have HB2 := Lib.hid (below_then HBL.out hb2)
        have hcl := cov_len hl2
        simp only [List.length_nil, Nat.add_zero] at hcl
        clear hs2 hl2 hb2 CL
        go_wp2_with fail
        go_ret
        exact ⟨_, c2, rfl, HS.out, .inl ⟨HM.out, HAL.out⟩, HB2.out, by omega⟩
end Go.Proofs.Ytjjigkomiidipaa.GapWalk
namespace Go.Proofs.Ytjjigkomiidipaa.GapWalk
open Go.RowKit Go.Proofs.Ytjjigkomiidipaa.SpanPlain Go.Proofs.Ytjjigkomiidipaa.StepPlain Go.Proofs.Ytjjigkomiidipaa.GapPlain Go.Proofs.Ytjjigkomiidipaa.Mem Go.Proofs.Ytjjigkomiidipaa.SpanMem Go.Proofs.Ytjjigkomiidipaa.StepMem Go.Proofs.Ytjjigkomiidipaa.SpanRef Go.Proofs.Ytjjigkomiidipaa.StepRef Go.Proofs.Ytjjigkomiidipaa.GapRef
set_option maxRecDepth 100000 in
set_option maxHeartbeats 3200000 in
theorem fitS (s : List Sp) (f m n : Int) (v : Value) (w : World) (hv : SpansIs s w v) (hl : s.length ≤ 1000) : Calls Try.prog 33 #[v, .int .i64 f, .int .i64 m, .int .i64 n] w (FitSays s f m n w) := by
  have CL := Lib.hid (fun W => isLongS n W)
  have CA := Lib.hid (allL s m v w hv hl)
  clear hv
  cases hb : lengthB n with
  | false =>
    rw [hb] at CL
    have HN := Lib.hid (fit_short s f m n (fun h => by rw [(lengthB_iff n).2 h] at hb; cases hb))
    clear hb CA
    go_enter Try.func33, Try.ntmps33
    go_wp2_with (go_at_call 46; refine (CL.out _).mono ?_; rintro e w1 ⟨rfl, rfl⟩)
    go_ret2
    exact ⟨0, false, rfl, HN.out, Below.refl _ _⟩
  | true =>
    rw [hb] at CL
    have hn := (lengthB_iff n).1 hb
    clear hb
    go_enter Try.func33, Try.ntmps33
    go_wp2_with (go_at_call 46; refine (CL.out _).mono ?_; rintro e w1 ⟨rfl, rfl⟩)
    refine CA.out.mono ?_
    rintro e w1 ⟨vc, c, rfl, hc, hof, hb1, hcl⟩
    obtain ⟨A, cc, rfl, hA⟩ := hc.open_
    have HA := Lib.hid hA
    have HO := Lib.hid hof
    have HB1 := Lib.hid hb1
    clear hc hA hof hb1 CA CL
    go_wp2_with fail
    go_loopw [20] (fun i wr => ∃ k : Nat, i = .int .i64 k ∧ k ≤ c.length ∧ Hid (NoFit c f n k ∧ Below w1.heap.size w1 wr)) (fun i _ => c.length - (intOf i).toNat)
    case atStart => exact ⟨0, rfl, Nat.zero_le _, fit_start _ _ _, Below.refl _ _⟩
    case round =>
      obtain ⟨k, rfl, hk, HL⟩ := hrel
      obtain ⟨hf, hbl⟩ := HL.out
      have HBL := Lib.hid hbl
      by_cases hlt : k < c.length
      · obtain ⟨ad, rfl, had, c1, c2⟩ := (HA.out.below hbl) k hlt
        have e1 : (spCell c k).1 = .int .i64 (nth c k).1 := rfl
        have e2 : (spCell c k).2 = .int .i64 (nth c k).2 := rfl
        rw [e1] at c1
        rw [e2] at c2
        have i0 : (0 : Int) ≤ (k : Int) := Int.natCast_nonneg _
        have hlt2 : (k : Int) < (c.length : Int) := by omega
        have hw := fit_ways2 s c f m n hn.1 hn.2 HO.out hlt hf
        clear hf hbl HL e1 e2
        generalize nth c k = x at *
        have HX := Lib.hid (Box2.new wr (.int .i64 x.1) (.int .i64 x.2) 73)
        have HB2 := Lib.hid (HBL.out.alloc HBL.out.size (.cells #[.int .i64 x.1, .int .i64 x.2] 73))
        have HB3 := Lib.hid (below_then HB1.out HB2.out)
        obtain ⟨x0, x1, x2, _, _⟩ := HX.out
        rcases hw with ⟨g2, HR⟩ | ⟨g2, wr1, g3, HR⟩ | ⟨g2, wr1, g3, HR⟩
        · go_wp2_with fail
          go_ret2
          exact ⟨0, false, rfl, HR.out, HB3.out⟩
        · go_wp2_with fail
          go_ret2
          exact ⟨_, true, rfl, HR.out, HB3.out⟩
        · go_wp2_with fail
          exact ⟨⟨k + 1, by go_num, by omega, HR.out, HB2.out⟩, by simp [intOf] <;> omega⟩
      · have HD := Lib.hid (fit_done hn.1 hn.2 HO.out (Nat.le_of_not_lt hlt) hf)
        clear hf hbl HL
        go_wp2_with fail
        go_ret2
        exact ⟨0, false, rfl, HD.out, below_then HB1.out HBL.out⟩
end Go.Proofs.Ytjjigkomiidipaa.GapWalk
namespace Go.Proofs.Ytjjigkomiidipaa.ShaWalk
open Go.RowKit Go.Proofs.Ytjjigkomiidipaa.SpanPlain Go.Proofs.Ytjjigkomiidipaa.StepPlain Go.Proofs.Ytjjigkomiidipaa.GapPlain Go.Proofs.Ytjjigkomiidipaa.JobPlain Go.Proofs.Ytjjigkomiidipaa.ShaPlain Go.Proofs.Ytjjigkomiidipaa.Mem Go.Proofs.Ytjjigkomiidipaa.SpanMem Go.Proofs.Ytjjigkomiidipaa.StepMem Go.Proofs.Ytjjigkomiidipaa.JobMem Go.Proofs.Ytjjigkomiidipaa.OrdMem Go.Proofs.Ytjjigkomiidipaa.SpanRef Go.Proofs.Ytjjigkomiidipaa.StepRef Go.Proofs.Ytjjigkomiidipaa.GapRef Go.Proofs.Ytjjigkomiidipaa.ShaRef
open Go.Proofs.Ytjjigkomiidipaa.StepWalk (atB atN NewAt AddSays PairIs)
def RunIs (a : Int) (j : Jb) (w : World) (e : Ending) (w' : World) : Prop := e = .returned (.agg #[.int .i64 a, .int .i64 (a + j.est)]) ∧ Below w.heap.size w w'
set_option maxHeartbeats 1600000 in
theorem run_i (a : Int) (j : Jb) (w : World) (ha : 0 ≤ a ∧ a ≤ 1125899906842624) (he : 1 ≤ j.est ∧ j.est ≤ 1099511627776) : Calls Try.prog 32 #[.int .i64 a, jobV j] w (RunIs a j w) := by
  have HX := Lib.hid (JobBox.new w j 23)
  have HB := Lib.hid (box_s w (.cells #[.int .i64 j.id, .string j.user, .int .i64 j.width, .int .i64 j.est, .int .i64 j.prio, .int .i64 j.sub, .int .i64 j.state, .int .i64 j.start, .int .i64 j.fin] 23))
  have hsz : (w.alloc (.cells #[.int .i64 j.id, .string j.user, .int .i64 j.width, .int .i64 j.est, .int .i64 j.prio, .int .i64 j.sub, .int .i64 j.state, .int .i64 j.start, .int .i64 j.fin] 23)).heap.size = w.heap.size + 1 := by simp
  unfold jobV jobA
  go_enter Try.func32, Try.ntmps32
  go_upto_region 1 with fail
  generalize w.alloc (.cells #[.int .i64 j.id, .string j.user, .int .i64 j.width, .int .i64 j.est, .int .i64 j.prio, .int .i64 j.sub, .int .i64 j.state, .int .i64 j.start, .int .i64 j.fin] 23) = W0 at *
  obtain ⟨y, y0, y1, y2, y3, y4, y5, y6, y7, y8, _, _, _, _, _, _, _, _, _⟩ := HX.out.alloc (.cells #[.int .i64 0, .int .i64 0] 73)
  have hz := Box2.new W0 (.int .i64 0) (.int .i64 0) 73
  rw [hsz] at hz
  have HZ := Lib.hid hz
  have HB0 := Lib.hid (thenS HB.out (box_s W0 (.cells #[.int .i64 0, .int .i64 0] 73)))
  clear hz hsz
  generalize W0.alloc (.cells #[.int .i64 0, .int .i64 0] 73) = W1 at *
  obtain ⟨b0, b1, b2, b3, b4⟩ := HZ.out
  go_wp2_with fail
  have HB2 : Hid (Below w.heap.size w ((W1.setCell ⟨w.heap.size + 1, 0, none⟩ (.int .i64 a)).setCell ⟨w.heap.size + 1, 1, none⟩ (.int .i64 (a + j.est)))) := (HB0.out.setCell (p := ⟨w.heap.size + 1, 0, none⟩) (by simp) _).setCell (p := ⟨w.heap.size + 1, 1, none⟩) (by simp) _
  have HZ2 := Lib.hid ((HZ.out.set0 (.int .i64 a)).set1 (.int .i64 (a + j.est)))
  obtain ⟨c0, c1, c2, c3, c4⟩ := HZ2.out
  exact bodyPost_ret (v := .agg #[.int .i64 a, .int .i64 (a + j.est)]) (by simp [results, Try.results32, go_sem, c0, c1, c2, c3, c4]) rfl ⟨rfl, HB2.out⟩
def LaySaysN (s : List Sp) (a : Int) (j : Jb) (w : World) (e : Ending) (w' : World) : Prop := ∃ v r b, e = .returned (.tuple #[v, .bool b]) ∧ SpansIs r w' v ∧ LayIs s a j r b ∧ Below w.heap.size w w' ∧ NewAt w.heap.size v
/-- A job's cells, kept. -/
theorem keep_job {w w' : World} {n : Nat} {a0 a1 a2 a3 a4 a5 a6 a7 a8 : Value} (hb : Below w.heap.size w w') (hl : n < w.heap.size) (h0 : w.cell? ⟨n, 0, none⟩ = some a0) (h1 : w.cell? ⟨n, 1, none⟩ = some a1) (h2 : w.cell? ⟨n, 2, none⟩ = some a2) (h3 : w.cell? ⟨n, 3, none⟩ = some a3) (h4 : w.cell? ⟨n, 4, none⟩ = some a4) (h5 : w.cell? ⟨n, 5, none⟩ = some a5) (h6 : w.cell? ⟨n, 6, none⟩ = some a6) (h7 : w.cell? ⟨n, 7, none⟩ = some a7) (h8 : w.cell? ⟨n, 8, none⟩ = some a8) :
    w'.cell? ⟨n, 0, none⟩ = some a0 ∧ w'.cell? ⟨n, 1, none⟩ = some a1 ∧ w'.cell? ⟨n, 2, none⟩ = some a2 ∧ w'.cell? ⟨n, 3, none⟩ = some a3 ∧ w'.cell? ⟨n, 4, none⟩ = some a4 ∧ w'.cell? ⟨n, 5, none⟩ = some a5 ∧ w'.cell? ⟨n, 6, none⟩ = some a6 ∧ w'.cell? ⟨n, 7, none⟩ = some a7 ∧ w'.cell? ⟨n, 8, none⟩ = some a8 ∧ n < w'.heap.size :=
  ⟨(hb.cell (p := ⟨n, 0, none⟩) hl).trans h0, (hb.cell (p := ⟨n, 1, none⟩) hl).trans h1, (hb.cell (p := ⟨n, 2, none⟩) hl).trans h2, (hb.cell (p := ⟨n, 3, none⟩) hl).trans h3, (hb.cell (p := ⟨n, 4, none⟩) hl).trans h4, (hb.cell (p := ⟨n, 5, none⟩) hl).trans h5, (hb.cell (p := ⟨n, 6, none⟩) hl).trans h6, (hb.cell (p := ⟨n, 7, none⟩) hl).trans h7, (hb.cell (p := ⟨n, 8, none⟩) hl).trans h8, Nat.lt_of_lt_of_le hl hb.size⟩
set_option maxHeartbeats 1600000 in
theorem ofShS (s : List Sp) (now : Int) (j : Jb) (v : Value) (w : World) (hv : SpansIs s w v) (hl : s.length ≤ 1000) : Calls Try.prog 23 #[v, .int .i64 now, jobV j] w (ShSays s now j w) := by
  have HX := Lib.hid (JobBox.new w j 23)
  have HB := Lib.hid (box_s w (.cells #[.int .i64 j.id, .string j.user, .int .i64 j.width, .int .i64 j.est, .int .i64 j.prio, .int .i64 j.sub, .int .i64 j.state, .int .i64 j.start, .int .i64 j.fin] 23))
  have CF := Lib.hid (GapWalk.fitS s now j.width j.est v _ (hv.below HB.out) hl)
  have CA : Hid (∀ W r, Below w.heap.size w W → Calls Try.prog 34 #[v, .int .i64 r] W (PairIs (atN s r) (atB s r) W)) := fun W r hW => StepWalk.atS s r v W (hv.below hW) hl
  have HV : Hid (∀ r, FitIs s now j.width j.est r true → atN s r = val s r ∧ (0 ≤ r ∧ r ≤ 1125899906842624) ∧ (0 ≤ val s r ∧ val s r ≤ 256) ∧ (1 ≤ j.width ∧ j.width ≤ 256)) := fun r h => by
    obtain ⟨h1, h2, h3, h4, h5, h6, _⟩ := room_may (fit_ok h)
    refine ⟨?_, ⟨h5, h6⟩, h1.val_free h4, h2⟩
    unfold atN atB
    rw [(chk_iff s).2 h1, decide_eq_true h4, decide_eq_true (show r < 4503599627370496 by omega)]
    rfl
  obtain ⟨A, c, rfl, _⟩ := hv.open_
  clear hv
  unfold jobV jobA
  go_enter Try.func23, Try.ntmps23
  go_upto_region 1 with fail
  generalize w.alloc (.cells #[.int .i64 j.id, .string j.user, .int .i64 j.width, .int .i64 j.est, .int .i64 j.prio, .int .i64 j.sub, .int .i64 j.state, .int .i64 j.start, .int .i64 j.fin] 23) = W0 at *
  obtain ⟨y, y0, y1, y2, y3, y4, y5, y6, y7, y8, _, _, _, _, _, _, _, _, _⟩ := HX.out
  go_wp2_with fail
  refine CF.out.mono ?_
  rintro e w1 ⟨r, b, rfl, hf, hb1⟩
  have HB1 := Lib.hid (thenS HB.out hb1)
  obtain ⟨z, z0, z1, z2, z3, z4, z5, z6, z7, z8, _, _, _, _, _, _, _, _, _⟩ := HX.out.below hb1
  have HF := Lib.hid hf
  clear hb1 hf CF y y0 y1 y2 y3 y4 y5 y6 y7 y8
  cases b with
  | false =>
    go_wp2_with fail
    go_ret3
    refine ⟨0, 0, false, rfl, ⟨?_, rfl⟩, HB1.out⟩
    rcases HF.out with ⟨h, _⟩ | ⟨_, rfl, h⟩
    · cases h
    · exact .inr ⟨rfl, rfl, h⟩
  | true =>
    obtain ⟨e1, hr, hvr, hww⟩ := HV.out r HF.out
    have C1 := Lib.hid (CA.out w1 r HB1.out)
    rw [e1] at C1
    have hsub : IntKind.i64.wrap (val s r - j.width) = val s r - j.width := by rw [IntKind.wrap_i64]; omega
    have HSH : Hid (ShIs s now j r (val s r - j.width) true) := ⟨HF.out, rfl⟩
    have HX1 : Hid (w.heap.size < w1.heap.size) := z
    clear e1 HV CA HF z z0 z1 z3 z4 z5 z6 z7 z8
    generalize val s r = fr at *
    go_wp2_with fail
    refine C1.out.mono ?_
    rintro e w2 ⟨rfl, hb2⟩
    have q2 := (hb2.cell (p := ⟨w.heap.size, 2, none⟩) HX1.out).trans z2
    have HB2 := Lib.hid (thenS HB1.out hb2)
    clear hb2 z2 C1
    go_wp2_with fail
    go_quiet (fail)
    go_wp2_with fail
    go_ret3
    exact ⟨r, fr - j.width, true, rfl, HSH.out, below_drewN HB2.out _⟩
set_option maxHeartbeats 3200000 in
theorem layN (s : List Sp) (a : Int) (j : Jb) (v : Value) (w : World) (hv : SpansIs s w v) (hl : s.length ≤ 1000) : Calls Try.prog 22 #[v, .int .i64 a, jobV j] w (LaySaysN s a j w) := by
  have HX := Lib.hid (JobBox.new w j 23)
  have HB := Lib.hid (box_s w (.cells #[.int .i64 j.id, .string j.user, .int .i64 j.width, .int .i64 j.est, .int .i64 j.prio, .int .i64 j.sub, .int .i64 j.state, .int .i64 j.start, .int .i64 j.fin] 23))
  have CO := Lib.hid (GapWalk.okS s a j.width j.est v _ (hv.below HB.out) hl)
  have CA : Hid (∀ W, Below w.heap.size w W → Calls Try.prog 31 #[v, spV (runS a j), .int .i64 (-j.width)] W (AddSays s (runS a j) (-j.width) W)) := fun W hW => StepWalk.addS s (runS a j) (-j.width) v W (hv.below hW) hl
  have HM := Lib.hid (fun h => room_may (s := s) (a := a) (j := j) h)
  obtain ⟨A, c, rfl, _⟩ := hv.open_
  clear hv
  unfold jobV jobA
  cases hok : okG s a j.width j.est with
  | false =>
    rw [hok] at CO
    have HLY : Hid (LayIs s a j [] false) := .inr ⟨hok, rfl, rfl⟩
    clear hok HM CA
    go_enter Try.func22, Try.ntmps22
    go_upto_region 1 with fail
    generalize w.alloc (.cells #[.int .i64 j.id, .string j.user, .int .i64 j.width, .int .i64 j.est, .int .i64 j.prio, .int .i64 j.sub, .int .i64 j.state, .int .i64 j.start, .int .i64 j.fin] 23) = W0 at *
    obtain ⟨y, y0, y1, y2, y3, y4, y5, y6, y7, y8, _, _, _, _, _, _, _, _, _⟩ := HX.out
    go_wp2_with fail
    refine CO.out.mono ?_
    rintro e w1 ⟨rfl, hb1⟩
    have HB1 := Lib.hid (thenS HB.out hb1)
    clear hb1
    go_wp2_with fail
    go_ret2
    exact ⟨_, [], false, rfl, .inl ⟨rfl, rfl⟩, HLY.out, HB1.out, NewAt.nil⟩
  | true =>
    obtain ⟨_, hww, hee, _, h0, hmt, _, _, _⟩ := HM.out hok
    rw [hok] at CO
    have HLY : Hid (∀ r, AddIs s (runS a j) (-j.width) r → LayIs s a j r true) := fun r h => .inl ⟨hok, rfl, h⟩
    have CR := Lib.hid (fun W => run_i a j W ⟨h0, hmt⟩ hee)
    have hneg : IntKind.i64.wrap (-j.width) = -j.width := by rw [IntKind.wrap_i64]; omega
    unfold jobV jobA at CR
    unfold spV runS at CA
    dsimp only at CA
    clear hok HM h0 hmt hee hww
    go_enter Try.func22, Try.ntmps22
    go_upto_region 1 with fail
    generalize w.alloc (.cells #[.int .i64 j.id, .string j.user, .int .i64 j.width, .int .i64 j.est, .int .i64 j.prio, .int .i64 j.sub, .int .i64 j.state, .int .i64 j.start, .int .i64 j.fin] 23) = W0 at *
    obtain ⟨y, y0, y1, y2, y3, y4, y5, y6, y7, y8, _, _, _, _, _, _, _, _, _⟩ := HX.out
    go_wp2_with fail
    refine CO.out.mono ?_
    rintro e w1 ⟨rfl, hb1⟩
    have HB1 := Lib.hid (thenS HB.out hb1)
    obtain ⟨z, z0, z1, z2, z3, z4, z5, z6, z7, z8, _, _, _, _, _, _, _, _, _⟩ := HX.out.below hb1
    clear hb1 CO y y0 y1 y2 y3 y4 y5 y6 y7 y8
    go_wp2_with fail
    go_region_held3 (fun w' => w'.cell? ⟨w.heap.size, 0, none⟩ = some (.int .i64 j.id) ∧ w'.cell? ⟨w.heap.size, 1, none⟩ = some (.string j.user) ∧ w'.cell? ⟨w.heap.size, 2, none⟩ = some (.int .i64 j.width) ∧ w'.cell? ⟨w.heap.size, 3, none⟩ = some (.int .i64 j.est) ∧ w'.cell? ⟨w.heap.size, 4, none⟩ = some (.int .i64 j.prio) ∧ w'.cell? ⟨w.heap.size, 5, none⟩ = some (.int .i64 j.sub) ∧ w'.cell? ⟨w.heap.size, 6, none⟩ = some (.int .i64 j.state) ∧ w'.cell? ⟨w.heap.size, 7, none⟩ = some (.int .i64 j.start) ∧ w'.cell? ⟨w.heap.size, 8, none⟩ = some (.int .i64 j.fin) ∧ w.heap.size < w'.heap.size)
      (first | go_keep | (go_split_ands; exact keep_job (by assumption) (by assumption) (by assumption) (by assumption) (by assumption) (by assumption) (by assumption) (by assumption) (by assumption) (by assumption) (by assumption)))
      (first
        | (go_at_call 32; refine (CR.out _).mono ?_; rintro e w2 ⟨rfl, hb2⟩)
        | (go_at_call 31; refine (CA.out _ (thenS HB1.out (below_of_drew hb2))).mono ?_; rintro e w3 ⟨v3, r3, rfl, hs3, ha3, hb3, hn3⟩))
    have hb23 := thenS (thenS HB1.out (below_of_drew hb2)) hb3
    have hnew : NewAt w.heap.size v3 := hn3.mono (thenS HB1.out (below_of_drew hb2)).size
    have HS := Lib.hid hs3
    have HA := Lib.hid (HLY.out _ ha3)
    have HBB := Lib.hid hb23
    have HNW := Lib.hid hnew
    clear hs3 ha3 hb3 hb2 hb23 hn3 hnew CR CA HLY z z0 z1 z2 z3 z4 z5 z6 z7 z8
    go_wp2_with fail
    go_ret2
    exact ⟨_, r3, true, rfl, HS.out, HA.out, HBB.out, HNW.out⟩
end Go.Proofs.Ytjjigkomiidipaa.ShaWalk
namespace Go.Proofs.Ytjjigkomiidipaa.PasWalk
open Go.RowKit Go.Proofs.Ytjjigkomiidipaa.SpanPlain Go.Proofs.Ytjjigkomiidipaa.StepPlain Go.Proofs.Ytjjigkomiidipaa.GapPlain Go.Proofs.Ytjjigkomiidipaa.JobPlain Go.Proofs.Ytjjigkomiidipaa.OrdPlain Go.Proofs.Ytjjigkomiidipaa.ApiPlain Go.Proofs.Ytjjigkomiidipaa.ShaPlain Go.Proofs.Ytjjigkomiidipaa.SlaPlain Go.Proofs.Ytjjigkomiidipaa.TogPlain Go.Proofs.Ytjjigkomiidipaa.PasPlain Go.Proofs.Ytjjigkomiidipaa.Mem Go.Proofs.Ytjjigkomiidipaa.SpanMem Go.Proofs.Ytjjigkomiidipaa.StepMem Go.Proofs.Ytjjigkomiidipaa.JobMem Go.Proofs.Ytjjigkomiidipaa.OrdMem Go.Proofs.Ytjjigkomiidipaa.ApiMem Go.Proofs.Ytjjigkomiidipaa.SpanRef Go.Proofs.Ytjjigkomiidipaa.StepRef Go.Proofs.Ytjjigkomiidipaa.GapRef Go.Proofs.Ytjjigkomiidipaa.ShaRef Go.Proofs.Ytjjigkomiidipaa.SlaRef
open Go.Proofs.Ytjjigkomiidipaa.StepWalk (NewAt)
open Go.Proofs.Ytjjigkomiidipaa.MulWalk (PlanSays)
open Go.Proofs.Ytjjigkomiidipaa.MulRef (IntM)
open Go.Proofs.Ytjjigkomiidipaa.ShaWalk (LaySaysN ShSays)
set_option maxHeartbeats 1200000 in
theorem check_e (s : List Sp) (now : Int) (js : List Jb) (v u : Value) (w : World) (hv : SpansIs s w v) (hl : s.length ≤ 1000) (hu : JobsIs js w u) : Calls Try.prog 21 #[v, .int .i64 now, u] w (IntM (c16 s now js.length) w) := by
  have CK := Lib.hid (StepWalk.checkS s v w hv hl)
  obtain ⟨A, c, rfl, hn, hA⟩ := hv.open2
  obtain ⟨B, d, rfl, _⟩ := hu.open_
  have HA := Lib.hid hA
  have HP : Hid (chkB s = true → 0 < s.length) := fun h => ((chk_iff s).1 h).pos
  clear hv hu hA
  rcases c16_ways s now js.length with ⟨hc, h1⟩ | ⟨hc, g1, h1⟩ | ⟨hc, g1, g2, h1⟩ | ⟨hc, g1, g2, g3, h1⟩ | ⟨hc, g1, g2, g3, h1⟩
  · rw [hc] at CK
    have H1 := Lib.hid h1
    clear h1 hc
    go_enter Try.func21, Try.ntmps21
    go_wp2_with fail
    refine CK.out.mono ?_
    rintro e w1 ⟨rfl, hb⟩
    have HB := Lib.hid hb
    clear hb
    go_wp2_with fail
    go_ret
    exact ⟨by rw [H1.out]; rfl, HB.out⟩
  all_goals
    rw [hc] at CK
    have H1 := Lib.hid h1
    have hp := HP.out hc
    obtain ⟨ad, rfl, had, x1, x2⟩ := pair_zero HA.out hp
    have hh : (spCell s 0).1 = .int .i64 (head s) := rfl
    rw [hh] at x1
    have HX := Lib.hid x1
    have hp2 : (0 : Int) < (s.length : Int) := by omega
    clear h1 hc hh x1 x2
    go_enter Try.func21, Try.ntmps21
    go_wp2_with fail
    refine CK.out.mono ?_
    rintro e w1 ⟨rfl, hb⟩
    have HB := Lib.hid hb
    have x1 := (hb.cell had).trans HX.out
    clear hb
    go_wp2_with fail
    go_ret
    exact ⟨by rw [H1.out]; rfl, HB.out⟩
/-- What is so in each round: x is the pass of the first k jobs; b: is a head still asked for? -/
def EasLoop (s : List Sp) (now : Int) (js : List Jb) (head : Bool) (w : World) (N k : Nat) (x : Pas) (b : Bool) (sv av bv : Value) (wr : World) : Prop :=
  x = (js.take k).foldl (easyOne now head) (Pas.new s) ∧ x.s.length ≤ s.length + 3 * k ∧ (b = true ↔ head = true ∧ x.Q = []) ∧ PasAt x w N sv av bv wr ∧ NewAt (N + 1) sv
section
variable {s : List Sp} {now : Int} {js : List Jb} {head : Bool} {w : World} {N k : Nat} {x : Pas} {b : Bool} {sv av bv sv' av' bv' : Value} {wr w' : World}
theorem EasLoop.start (hn : 0 ≤ now) (h : EasLoop s now js head w N k x b sv av bv wr) (hk : k < js.length) (hok : okG x.s now js[k].width js[k].est = true) (hm : PasAt (startP now x js[k]) w N sv' av' bv' w') (hnw : NewAt (N + 1) sv') : EasLoop s now js head w N (k + 1) (startP now x js[k]) b sv' av' bv' w' := by
  refine ⟨?_, ?_, h.2.2.1, hm, hnw⟩
  · rw [fold_next _ _ hk, ← h.1, easyOne, if_pos (ok_fit hn hok)]
  · have := layL_len hok
    have := h.2.1
    show (layL x.s now js[k]).length ≤ _
    omega
theorem EasLoop.pass (h : EasLoop s now js head w N k x b sv av bv wr) (hk : k < js.length) (hf : fitF x.s now js[k] ≠ now) (hb : b = false ∨ fitF x.s now js[k] = -1) (hn : 0 ≤ now) (hm : PasAt x w N sv' av' bv' w') (hnw : NewAt (N + 1) sv') : EasLoop s now js head w N (k + 1) x b sv' av' bv' w' := by
  refine ⟨?_, Nat.le_trans h.2.1 (by omega), h.2.2.1, hm, hnw⟩
  rw [fold_next _ _ hk, ← h.1, easyOne, if_neg hf, if_neg]
  rintro ⟨h1, h2⟩
  rcases hb with hb | hb
  · have := h.2.2.1.2 h2
    rw [hb] at this
    cases this
  · omega
theorem EasLoop.prom {a : Int} (h : EasLoop s now js head w N k x true sv av bv wr) (hk : k < js.length) (hf : fitF x.s now js[k] = a) (ha : now < a) (hok : okG x.s a js[k].width js[k].est = true) (hm : PasAt (promP x a js[k]) w N sv' av' bv' w') (hnw : NewAt (N + 1) sv') : EasLoop s now js head w N (k + 1) (promP x a js[k]) false sv' av' bv' w' := by
  have hh := h.2.2.1.1 rfl
  refine ⟨?_, ?_, ⟨(fun h => by cases h), (fun h => by simp [promP] at h)⟩, hm, hnw⟩
  · rw [fold_next _ _ hk, ← h.1, easyOne, if_neg (by omega), if_pos ⟨by omega, hh⟩, hf]
  · have := layL_len hok
    have := h.2.1
    show (layL x.s a js[k]).length ≤ _
    omega
end
set_option maxRecDepth 100000 in
set_option maxHeartbeats 1200000 in
theorem pass_e (s : List Sp) (now : Int) (js : List Jb) (head : Bool) (v u : Value) (w : World) (hv : SpansIs s w v) (hu : JobsIs js w u) (hs : s.length + 3 * js.length ≤ 1000) : Calls Try.prog 24 #[v, .int .i64 now, u, .bool head] w (PlanSaysN (c16 s now js.length) (easyP s now js head) w) := by
  have CE := Lib.hid (fun W (hW : Below w.heap.size w W) => check_e s now js v u W (hv.below hW) (by omega) (hu.below hW))
  have HV := Lib.hid hv
  obtain ⟨B, d, rfl, _, hB⟩ := hu.open_
  have HJB := Lib.hid hB
  have HR0 := Lib.hid (Box2.new w (.slice none 0 0) (.slice none 0 0) 44)
  have HB0 := Lib.hid (box_s w (.cells #[.slice none 0 0, .slice none 0 0] 44))
  have hsz : (w.alloc (.cells #[.slice none 0 0, .slice none 0 0] 44)).heap.size = w.heap.size + 1 := by simp
  by_cases h0 : c16 s now js.length = 0
  · have hc : chkB s = true ∧ 0 ≤ now := by
      unfold c16 at h0
      split at h0
      · rename_i h
        have := ((chk_iff s).1 h.1).lo
        exact ⟨h.1, by omega⟩
      · omega
    have HN0 := Lib.hid hc.2
    have hp : 0 < s.length := ((chk_iff s).1 hc.1).pos
    obtain ⟨A, c, rfl, hn, hA⟩ := hv.open2
    obtain ⟨ad, rfl, _, _, _⟩ := pair_zero hA hp
    have CK : Hid (∀ W, Below w.heap.size w W → Calls Try.prog 35 #[.slice (some ad) s.length c] W (StepWalk.CloneIs s.length (svals s) W)) := fun W hW => StepWalk.cloneS ad s.length c (svals s) W (svals_len s) (by omega) (StepWalk.raw_of (HV.out.below hW)) (svals_cell s)
    rw [h0] at CE ⊢
    clear hv hu hB hc hA h0
    go_enter Try.func24, Try.ntmps24
    go_upto_region 1 with fail
    generalize w.alloc (.cells #[.slice none 0 0, .slice none 0 0] 44) = W0 at *
    go_wp2_with fail
    refine (CE.out W0 HB0.out).mono ?_
    rintro e w1 ⟨rfl, hb1⟩
    have HR1 := Lib.hid (HR0.out.below hb1)
    have HB1 := Lib.hid (thenS HB0.out hb1)
    have hs1 : w.heap.size + 1 ≤ w1.heap.size := by rw [← hsz]; exact hb1.size
    have HX1 := Lib.hid (Box2.new w1 (.slice none 0 0) (.slice none 0 0) 44)
    have HR2 := Lib.hid (HR1.out.alloc (.cells #[.slice none 0 0, .slice none 0 0] 44))
    have HB2 := Lib.hid (thenS HB1.out (box_s w1 (.cells #[.slice none 0 0, .slice none 0 0] 44)))
    have HSZ : Hid ((w1.alloc (.cells #[.slice none 0 0, .slice none 0 0] 44)).heap.size = w1.heap.size + 1) := by show _ = _; simp
    have HLT : Hid (w.heap.size < w1.heap.size) := by show _ < _; omega
    clear hb1 HR0 HB0 CE hsz hs1 HR1 HB1
    go_upto_region 5 with fail
    have CK1 := Lib.hid (CK.out _ HB2.out)
    generalize hN : w1.heap.size = N at *
    clear hN
    generalize w1.alloc (.cells #[.slice none 0 0, .slice none 0 0] 44) = W2 at *
    clear CK
    go_wp2_with fail
    refine CK1.out.mono ?_
    rintro e w2 ⟨v2, rfl, ho2, hb2⟩
    have HL0 : Hid (EasLoop s now js head w N 0 (Pas.new s) head v2 (.slice none 0 0) (.slice none 0 0) w2) :=
      ⟨rfl, Nat.le_refl _, ⟨fun h => ⟨h, rfl⟩, fun h => h.1⟩, PasAt.begin (OwnR.spans ho2 rfl) (fun a m c e _ => by have := NewAt.own ho2.toN (Nat.le_of_eq HSZ.out.symm) a m c e; have := HLT.out; omega) (HX1.out.below hb2) (HR2.out.below hb2) HLT.out (thenS HB2.out hb2), NewAt.own ho2.toN (Nat.le_of_eq HSZ.out.symm)⟩
    clear ho2 hb2 CK1 HX1 HR2 HB2 HSZ HLT HV
    go_wp2_with fail
    go_loopw [3, 13, 33] (fun hv sv i wr => ∃ (k : Nat) (x : Pas) (b : Bool) (av bv : Value), i = .int .i64 k ∧ hv = .bool b ∧ k ≤ js.length ∧ Hid (EasLoop s now js head w N k x b sv av bv wr)) (fun _ _ i _ => js.length - (intOf i).toNat)
    case atStart => exact ⟨0, _, head, _, _, rfl, rfl, Nat.zero_le _, HL0.out⟩
    case round =>
      obtain ⟨k, x, b, av, bv, rfl, rfl, hk, HL⟩ := hrel
      by_cases hlt : k < js.length
      · obtain ⟨bd, rfl, hat⟩ := HJB.out k hlt
        have HP := Lib.hid HL.out.2.2.2.1
        have HNW := Lib.hid HL.out.2.2.2.2
        obtain ⟨y, y0, y1, y2, y3, y4, y5, y6, y7, y8⟩ := hat.below HP.out.bel
        have hlt2 : (k : Int) < (js.length : Int) := by omega
        have i0 : (0 : Int) ≤ (k : Int) := Int.natCast_nonneg _
        have HLEN : Hid (x.s.length ≤ 1000) := by show _ ≤ _; have := HL.out.2.1; omega
        have hstl : x.st.length ≤ 1000 ∧ x.P.length ≤ 1000 := by
          have h1 := HL.out.1
          have h2 : ∀ (l : List Jb) (z : Pas), (l.foldl (easyOne now head) z).R.length + (l.foldl (easyOne now head) z).Q.length ≤ z.R.length + z.Q.length + l.length := by
            intro l
            induction l with
            | nil => intro z; simp
            | cons q l ih =>
              intro z
              have h3 := ih (easyOne now head z q)
              have h4 : (easyOne now head z q).R.length + (easyOne now head z q).Q.length ≤ z.R.length + z.Q.length + 1 := by
                unfold easyOne startP promP
                split
                · simp; omega
                · split
                  · simp; omega
                  · omega
              simp only [List.foldl_cons, List.length_cons]
              omega
          have h5 := h2 (js.take k) (Pas.new s)
          rw [← h1] at h5
          rw [List.length_take] at h5
          simp only [Pas.new, List.length_nil] at h5
          rw [st_len, P_len]
          omega
        have HSTART := Lib.hid (fun sv' av' bv' w' h m q => HL.out.start (sv' := sv') (av' := av') (bv' := bv') (w' := w') HN0.out hlt h m q)
        have HPASS := Lib.hid (fun sv' av' bv' w' h1 h2 m q => HL.out.pass (sv' := sv') (av' := av') (bv' := bv') (w' := w') hlt h1 h2 HN0.out m q)
        have HPROM : Hid (b = true → ∀ a sv' av' bv' w', fitF x.s now js[k] = a → now < a → okG x.s a js[k].width js[k].est = true → PasAt (promP x a js[k]) w N sv' av' bv' w' → NewAt (N + 1) sv' → EasLoop s now js head w N (k + 1) (promP x a js[k]) false sv' av' bv' w') := fun hb a sv' av' bv' w' h1 h2 h3 m q => by
          subst hb
          exact HL.out.prom hlt h1 h2 h3 m q
        obtain ⟨j, hj2⟩ : ∃ j, j = js[k] := ⟨_, rfl⟩
        rw [← hj2] at y0 y1 y2 y3 y4 y5 y6 y7 y8 HSTART HPASS HPROM
        have hkl : k ≤ 1000 := by omega
        have HX := Lib.hid (JobBox.new wr j 23)
        have HP1 := Lib.hid (HP.out.alloc (.cells #[.int .i64 j.id, .string j.user, .int .i64 j.width, .int .i64 j.est, .int .i64 j.prio, .int .i64 j.sub, .int .i64 j.state, .int .i64 j.start, .int .i64 j.fin] 23))
        have hjb : ∃ J, J = wr.heap.size := ⟨_, rfl⟩
        obtain ⟨J, hJ⟩ := hjb
        have HJA : Hid (∀ b', bv.ownBlock = some b' → b' < J) := fun b' q => by rw [hJ]; exact (HP.out.prms.block_lt q).2
        have HJN : Hid (N < J) := by show N < J; rw [hJ]; exact HP.out.box.lt
        obtain ⟨A2, c2, hsv, _⟩ := HP.out.st.open_
        obtain ⟨A3, c3, hav⟩ := HP.out.rows.shape
        obtain ⟨A4, c4, hbv⟩ := HP.out.prms.shape
        subst hsv
        subst hav
        subst hbv
        clear hj2 hat HL HP
        go_upto_region 9 with fail
        generalize wr.alloc (.cells #[.int .i64 j.id, .string j.user, .int .i64 j.width, .int .i64 j.est, .int .i64 j.prio, .int .i64 j.sub, .int .i64 j.state, .int .i64 j.start, .int .i64 j.fin] 23) = W1 at *
        rw [← hJ] at HX ⊢
        clear hJ y y0 y1 y2 y3 y4 y5 y6 y7 y8
        obtain ⟨y, y0, y1, y2, y3, y4, y5, y6, y7, y8, _, _, _, _, _, _, _, _, _⟩ := HX.out
        have CL := Lib.hid (ShaWalk.layN x.s now j _ W1 HP1.out.st HLEN.out)
        unfold jobV jobA at CL
        go_wp2_with fail
        refine CL.out.mono ?_
        rintro e w3 ⟨v3, r3, b3, rfl, hs3, hly3, hb3, hn3⟩
        have HX3 := Lib.hid (HX.out.below hb3)
        clear CL y y0 y1 y2 y3 y4 y5 y6 y7 y8
        rcases hly3 with ⟨hok, rfl, hadd⟩ | ⟨hok, rfl, rfl⟩
        · obtain rfl := layL_of hok hadd
          have HP3 := Lib.hid (HP1.out.steps hb3 hs3 hn3)
          have HNW3 : Hid (NewAt (N + 1) v3) := hn3.mono HP1.out.box.lt
          obtain ⟨Ar, cr, hv3, _⟩ := hs3.open_
          subst hv3
          have HP4 := Lib.hid (HP3.out.alloc (.cells #[.int .i64 j.id] 3))
          have HO4 : Hid (OwnN 3 1 (w.heap.size + 1) (w3.alloc (.cells #[.int .i64 j.id] 3)) (.slice A3 x.st.length c3) x.st.length (ivals x.st)) := HP4.out.rows
          obtain ⟨q9, q0, q1, _, _⟩ := HP3.out.box
          obtain ⟨y, y0, _, _, _, _, _, _, _, _, _, _, _, _, _, _, _, _, _⟩ := HX3.out
          clear hs3 hadd hb3 hn3 HP1 HX HX3 HPASS HPROM
          go_wp2_with (at_builtin; refine push_sep ints_t rfl (.tmp 46) (.tmp 49) rfl (w.heap.size + 1) _ _ _ rfl HO4.out ⟨w3.heap.size, 0, none⟩ 1 1 [.int .i64 j.id] rfl rfl ?a1 Mem.one_cell ?a2 ?_)
          case a1 => exact Raw.alloc w3 _ _
          case a2 => omega
          intro A5 c5 w4 ho4 hb4 hg4 hs4
          obtain ⟨e9, e0, e1, ef0, ef1⟩ := HP4.out.boxA hg4
          have HN4 := Lib.hid (HSTART.out _ _ _ _ hok (HP4.out.start ho4 hb4 hg4 hs4) HNW3.out)
          clear ho4 hb4 hg4 hs4 HP4 HP3 HO4 HSTART q9 q0 q1 y y0 hok
          go_wp2_with fail
          exact ⟨⟨k + 1, startP now x j, b, _, _, by go_num, rfl, by omega, HN4.out⟩, by simp [intOf] <;> omega⟩
        · have HP3 := Lib.hid (HP1.out.below hb3)
          obtain ⟨Ar, cr, hv3, _⟩ := hs3.open_
          subst hv3
          have HNF := Lib.hid (no_fit HN0.out hok)
          have HNO := Lib.hid hok
          clear hs3 hb3 hn3 HP1 HX hok HSTART
          cases b with
          | false =>
            have HN4 := Lib.hid (HPASS.out _ _ _ _ HNF.out (.inl rfl) HP3.out HNW.out)
            clear HPASS HPROM HP3 HX3
            go_wp2_with fail
            exact ⟨⟨k + 1, x, false, _, _, by go_num, rfl, by omega, HN4.out⟩, by simp [intOf] <;> omega⟩
          | true =>
            have CO := Lib.hid (ShaWalk.ofShS x.s now j _ w3 HP3.out.st HLEN.out)
            unfold jobV jobA at CO
            obtain ⟨y, y0, y1, y2, y3, y4, y5, y6, y7, y8, _, _, _, _, _, _, _, _, _⟩ := HX3.out
            go_wp2_with fail
            refine CO.out.mono ?_
            rintro e w5 ⟨a, p, b5, rfl, hsh, hb5⟩
            have HP5 := Lib.hid (HP3.out.below hb5)
            have HX5 := Lib.hid (HX3.out.below hb5)
            have HSH := Lib.hid hsh.1
            clear hb5 hsh CO HP3 HX3 y y0 y1 y2 y3 y4 y5 y6 y7 y8
            cases b5 with
            | false =>
              have HN4 := Lib.hid (HPASS.out _ _ _ _ HNF.out (.inr (sh_no HSH.out)) HP5.out HNW.out)
              clear HPASS HPROM HP5 HX5 HSH
              go_wp2_with fail
              exact ⟨⟨k + 1, x, true, _, _, by go_num, rfl, by omega, HN4.out⟩, by simp [intOf] <;> omega⟩
            | true =>
              have HLATE := Lib.hid (sh_late HSH.out HNO.out)
              have HP6 := Lib.hid (HP5.out.alloc (.cells #[.int .i64 j.id, .int .i64 a, .int .i64 0] 48))
              have HO6 := Lib.hid HP6.out.prms
              obtain ⟨q9, q0, q1, _, _⟩ := HP5.out.box
              obtain ⟨y, y0, _, _, _, _, _, _, _, _, _, _, _, _, _, _, _, _, _⟩ := HX5.out
              clear HPASS HP5
              go_wp2_with (at_builtin; refine push_sep prm_t rfl (.tmp 66) (.tmp 71) rfl (w.heap.size + 1) _ _ _ rfl HO6.out ⟨w5.heap.size, 0, none⟩ 1 1 (prmC ⟨j.id, a, 0⟩) rfl rfl ?b1 (prmC_cell _) ?b2 ?_)
              case b1 => exact Raw.alloc w5 _ _
              case b2 => omega
              intro A5 c5 w4 ho4 hb4 hg4 hs4
              obtain ⟨e9, e0, e1, ef0, ef1⟩ := HP6.out.boxB hg4
              have HP7 := Lib.hid (HP6.out.prom (q := (a, j)) (O := x.O ++ [(a, j)]) ho4 hb4 hg4 hs4)
              have HX7 : Hid (JobBox (w4.setCell ⟨N, 1, none⟩ (.slice A5 (x.P.length + 1) c5)) J j) := by
                have hJ1 := HX5.out.lt
                have hJ2 : J < w4.heap.size := Nat.lt_of_lt_of_le (by simp; omega) hg4.size
                refine HX5.out.of_block (by simp [World.setCell]; exact hJ2) ?_
                refine (Below.heap_setCell _ ⟨N, 1, none⟩ _ J (by show J ≠ N; have := HJN.out; omega)).trans ((hg4.block J (by simp; omega) (fun q => ?_)).trans (heap_alloc_old w5 _ hJ1))
                have := HJA.out _ q.symm
                omega
              clear ho4 hb4 hg4 hs4 HP6 HO6 q9 q0 q1 y y0 HX5
              go_upto_region 17 with fail
              clear e9 e0 e1 ef0 ef1
              generalize w4.setCell ⟨N, 1, none⟩ (.slice A5 (x.P.length + 1) c5) = w6 at *
              have CL := Lib.hid (ShaWalk.layN x.s a j _ w6 HP7.out.st HLEN.out)
              unfold jobV jobA at CL
              obtain ⟨y, y0, y1, y2, y3, y4, y5, y6, y7, y8, _, _, _, _, _, _, _, _, _⟩ := HX7.out
              go_wp2_with fail
              refine CL.out.mono ?_
              rintro e w7 ⟨v7, r7, b7, rfl, hs7, hly7, hb7, hn7⟩
              rcases hly7 with ⟨hok, rfl, hadd⟩ | ⟨hok, _, _⟩
              · obtain rfl := layL_of hok hadd
                have HN7 := Lib.hid (HPROM.out (by trivial) a _ _ _ _ (sh_yes HSH.out) HLATE.out.1 hok (HP7.out.steps hb7 hs7 hn7) (hn7.mono HP7.out.box.lt))
                obtain ⟨Ar, cr, hv7, _⟩ := hs7.open_
                subst hv7
                clear hs7 hok hadd hb7 hn7 HP7 HX7 HPROM CL y y0 y1 y2 y3 y4 y5 y6 y7 y8
                go_wp2_with fail
                exact ⟨⟨k + 1, promP x a j, false, _, _, by go_num, rfl, by omega, HN7.out⟩, by simp [intOf] <;> omega⟩
              · rw [HLATE.out.2] at hok
                cases hok
      · obtain rfl : k = js.length := by omega
        have HE : Hid (x = easyP s now js head) := by
          show _ = _
          rw [HL.out.1, List.take_length]; rfl
        have HP := Lib.hid HL.out.2.2.2.1
        have HNW := Lib.hid HL.out.2.2.2.2
        obtain ⟨A2, c2, hsv, _⟩ := HP.out.st.open_
        obtain ⟨A3, c3, hav⟩ := HP.out.rows.shape
        obtain ⟨A4, c4, hbv⟩ := HP.out.prms.shape
        subst hsv
        subst hav
        subst hbv
        have HD := Lib.hid (HP.out.done rfl)
        have HNE : Hid (NewAt (w.heap.size + 1) (.slice A2 x.s.length c2)) := HNW.out.mono (by have := HP.out.lt; omega)
        obtain ⟨y, y0, y1, _, _⟩ := HP.out.box
        obtain ⟨z, z0, z1, zf0, zf1⟩ := HP.out.ret
        clear HL HP
        go_wp2_with fail
        obtain ⟨r, r0, r1, _, _⟩ := HD.out.box
        rw [← HE.out]
        generalize (wr.setCell ⟨w.heap.size, 0, none⟩ (.slice A3 x.st.length c3)).setCell ⟨w.heap.size, 1, none⟩ (.slice A4 x.P.length c4) = w8 at *
        exact bodyPost_ret (v := .tuple #[.agg #[.slice A3 x.st.length c3, .slice A4 x.P.length c4], .slice A2 x.s.length c2, .int .i64 0]) (by simp [results, Try.results24, go_sem, r0, r1]) rfl (says_ok HD.out HNE.out)
  · have hne : (c16 s now js.length != 0) = true := by simpa using h0
    have HNE := Lib.hid h0
    generalize c16 s now js.length = C at *
    obtain ⟨A, c, rfl, _⟩ := hv.open_
    clear hv hu hB h0 HV HJB
    go_enter Try.func24, Try.ntmps24
    go_upto_region 1 with fail
    generalize w.alloc (.cells #[.slice none 0 0, .slice none 0 0] 44) = W0 at *
    go_wp2_with fail
    refine (CE.out W0 HB0.out).mono ?_
    rintro e w1 ⟨rfl, hb1⟩
    obtain ⟨z, z0, z1, zf0, zf1⟩ := HR0.out.below hb1
    have HB8 := Lib.hid (((thenS HB0.out hb1).setCell (p := ⟨w.heap.size, 0, none⟩) (Nat.le_refl _) (.slice none 0 0)).setCell (p := ⟨w.heap.size, 1, none⟩) (Nat.le_refl _) (.slice none 0 0))
    have HR8 := Lib.hid (((HR0.out.below hb1).set0 (.slice none 0 0)).set1 (.slice none 0 0))
    clear hb1 HB0 HR0 CE
    go_wp2_with fail
    obtain ⟨r, r0, r1, _, _⟩ := HR8.out
    generalize (w1.setCell ⟨w.heap.size, 0, none⟩ (.slice none 0 0)).setCell ⟨w.heap.size, 1, none⟩ (.slice none 0 0) = w8 at *
    exact bodyPost_ret (v := .tuple #[.agg #[.slice none 0 0, .slice none 0 0], .slice none 0 0, .int .i64 C]) (by simp [results, Try.results24, go_sem, r0, r1]) rfl (says_no HNE.out HB8.out)
end Go.Proofs.Ytjjigkomiidipaa.PasWalk
namespace Go.Proofs.Ytjjigkomiidipaa.WinPlain
open Go.Proofs.Ytjjigkomiidipaa.SpanPlain Go.Proofs.Ytjjigkomiidipaa.StepPlain Go.Proofs.Ytjjigkomiidipaa.GapPlain Go.Proofs.Ytjjigkomiidipaa.JobPlain Go.Proofs.Ytjjigkomiidipaa.OrdPlain Go.Proofs.Ytjjigkomiidipaa.SubPlain Go.Proofs.Ytjjigkomiidipaa.ApiPlain Go.Proofs.Ytjjigkomiidipaa.TwnPlain
/-- How much of these is needed at a time. -/
def cover : List Jb → Int → Int
  | [], _ => 0
  | j :: l, t => (if t < j.est then j.width else 0) + cover l t
theorem cover_pos : ∀ {l : List Jb} {t : Int}, (∀ j ∈ l, 0 ≤ j.width) → 0 ≤ cover l t
  | [], _, _ => Int.le_refl _
  | j :: l, t, h => by
    have h1 := h j (by simp)
    have h2 := cover_pos (l := l) (t := t) fun x hx => h x (by simp [hx])
    unfold cover
    split <;> omega
/-- What is left for those that are still to come. -/
structure Leaves (t : List Sp) (l : List Jb) : Prop where
  chk : Chk t
  head : head t = 0
  room : ∀ u, 0 ≤ u → cover l u ≤ val t u
theorem Leaves.ok {t : List Sp} {j : Jb} {l : List Jb} (h : Leaves t (j :: l)) (hl : ∀ x ∈ l, 0 ≤ x.width) (hw : 1 ≤ j.width ∧ j.width ≤ 256) (he : 1 ≤ j.est ∧ j.est ≤ 1099511627776) : okG t 0 j.width j.est = true := by
  refine okG_iff.2 ⟨mayG_iff.2 ⟨h.chk, hw, he.1, he.2⟩, by rw [h.head]; exact Int.le_refl _, by omega, fun u h1 h2 => ?_⟩
  have h3 := h.room u h1
  have h4 := cover_pos (t := u) hl
  unfold cover at h3
  rw [if_pos (by omega)] at h3
  omega
end Go.Proofs.Ytjjigkomiidipaa.WinPlain
namespace Go.Proofs.Ytjjigkomiidipaa.PlaPlain
open Go.Proofs.Ytjjigkomiidipaa.SpanPlain Go.Proofs.Ytjjigkomiidipaa.StepPlain Go.Proofs.Ytjjigkomiidipaa.GapPlain Go.Proofs.Ytjjigkomiidipaa.JobPlain Go.Proofs.Ytjjigkomiidipaa.OrdPlain Go.Proofs.Ytjjigkomiidipaa.ApiPlain Go.Proofs.Ytjjigkomiidipaa.ShaPlain Go.Proofs.Ytjjigkomiidipaa.SlaPlain Go.Proofs.Ytjjigkomiidipaa.TogPlain Go.Proofs.Ytjjigkomiidipaa.PasPlain Go.Proofs.Ytjjigkomiidipaa.MulPlain Go.Proofs.Ytjjigkomiidipaa.TwnPlain Go.Proofs.Ytjjigkomiidipaa.WinPlain
/-- A step of a pass: one job is laid, or none. -/
structure StepP (s : List Sp) (now : Int) (p : Jb → Bool) (f : Pas → Jb → Pas) : Prop where
  ok : ∀ x j, PasOk s now x → PasOk s now (f x j)
  not : ∀ x j, p j = false → f x j = x
  took : ∀ x j, (f x j).O = x.O ∨ ∃ a, (f x j).O = x.O ++ [(a, j)]
section
variable {s : List Sp} {now : Int} {p : Jb → Bool} {f : Pas → Jb → Pas}
theorem StepP.fold_ok (h : StepP s now p f) : ∀ (l : List Jb) (x : Pas), PasOk s now x → PasOk s now (l.foldl f x)
  | [], _, hx => hx
  | j :: l, x, hx => h.fold_ok l _ (h.ok x j hx)
theorem StepP.fold_once (h : StepP s now p f) : ∀ (l : List Jb) (x : Pas), ∃ r, ((l.foldl f x).O.map (·.2) ++ r).Perm (x.O.map (·.2) ++ l.filter p)
  | [], x => ⟨[], by simp⟩
  | j :: l, x => by
    rw [List.foldl_cons, List.filter_cons]
    obtain ⟨r, hr⟩ := h.fold_once l (f x j)
    cases hp : p j with
    | false =>
      rw [h.not x j hp] at hr ⊢
      exact ⟨r, by simpa using hr⟩
    | true =>
      rw [if_pos rfl]
      rcases h.took x j with e | ⟨a, e⟩
      · rw [e] at hr
        refine ⟨r ++ [j], ?_⟩
        rw [← List.append_assoc]
        refine (hr.append_right [j]).trans ?_
        rw [List.append_assoc]
        exact List.Perm.append_left _ (List.perm_append_singleton _ _)
      · rw [e] at hr
        refine ⟨r, hr.trans ?_⟩
        rw [List.map_append, List.append_assoc]
        exact List.Perm.refl _
end
/-- Each job is laid once at most. -/
def Once (js : List Jb) (x : Pas) : Prop := ∃ r, (x.O.map (·.2) ++ r).Perm js
theorem Once.mem {js : List Jb} {x : Pas} (h : Once js x) : ∀ q ∈ x.O, q.2 ∈ js := fun q hq => by
  obtain ⟨r, hr⟩ := h
  exact hr.mem_iff.1 (List.mem_append.2 (.inl (List.mem_map.2 ⟨q, hq, rfl⟩)))
theorem Once.len {js : List Jb} {x : Pas} (h : Once js x) : x.O.length ≤ js.length := by
  obtain ⟨r, hr⟩ := h
  have := hr.length_eq
  simp at this
  omega
theorem step_any {s : List Sp} {now : Int} (hn : 0 ≤ now) (q : Pas → Jb → Bool) {x : Pas} {j : Jb} (hx : PasOk s now x) :
    PasOk s now (if fitF x.s now j = now then startP now x j else if now < fitF x.s now j ∧ q x j = true then promP x (fitF x.s now j) j else x) := by
  rcases fit_ways (x := x) (now := now) (j := j) hn with ⟨h1, h2⟩ | ⟨h1, h2⟩ | ⟨_, h1, h2⟩
  · rw [if_pos h1]; exact hx.start h2
  · rw [if_neg (by omega)]
    split
    · exact hx.prom h2 h1
    · exact hx
  · rw [if_neg h1, if_neg (by omega)]; exact hx
theorem took_any {now : Int} (q : Pas → Jb → Bool) (x : Pas) (j : Jb) : (if fitF x.s now j = now then startP now x j else if now < fitF x.s now j ∧ q x j = true then promP x (fitF x.s now j) j else x).O = x.O ∨
    ∃ a, (if fitF x.s now j = now then startP now x j else if now < fitF x.s now j ∧ q x j = true then promP x (fitF x.s now j) j else x).O = x.O ++ [(a, j)] := by
  split
  · exact .inr ⟨now, rfl⟩
  · split
    · exact .inr ⟨_, rfl⟩
    · exact .inl rfl
/-- The selective pass. -/
def selOneQ (now : Int) (who promise : Bool) (x : Pas) (j : Jb) : Pas :=
  if who = false then x else if fitF x.s now j = now then startP now x j else if now < fitF x.s now j ∧ promise = true then promP x (fitF x.s now j) j else x
def selQ (s : List Sp) (now num den : Int) (js : List Jb) : Pas :=
  js.foldl (fun x j => selOneQ now (!SelPlain.overJ j now num den) false x j) (js.foldl (fun x j => selOneQ now (SelPlain.overJ j now num den) true x j) (Pas.new s))
theorem sel_step {s : List Sp} {now : Int} {p : Jb → Bool} {promise : Bool} (hn : 0 ≤ now) : StepP s now p (fun x j => selOneQ now (p j) promise x j) := by
  refine ⟨fun x j hx => ?_, fun x j h => ?_, fun x j => ?_⟩
  · show PasOk s now (selOneQ now (p j) promise x j)
    unfold selOneQ
    split
    · exact hx
    · exact step_any hn (fun _ _ => promise) hx
  · show selOneQ now (p j) promise x j = x
    unfold selOneQ
    rw [if_pos h]
  · show (selOneQ now (p j) promise x j).O = x.O ∨ ∃ a, (selOneQ now (p j) promise x j).O = x.O ++ [(a, j)]
    unfold selOneQ
    split
    · exact .inl rfl
    · exact took_any (fun _ _ => promise) x j
def toSel (x : Pas) : SelPlain.Sel := ⟨x.s, x.st, x.P⟩
theorem sel_sim (now : Int) (who promise : Bool) (x : Pas) (j : Jb) : toSel (selOneQ now who promise x j) = SelPlain.selOne now who promise (toSel x) j := by
  unfold selOneQ SelPlain.selOne
  split
  · rfl
  · show toSel _ = (if fitF x.s now j = now then _ else if now < fitF x.s now j ∧ promise = true then _ else _)
    split
    · unfold toSel; rw [st_start, P_start]; rfl
    · split
      · unfold toSel; rw [st_prom, P_prom]; rfl
      · rfl
theorem sel_first (now num den : Int) : ∀ (l : List Jb) (x : Pas), toSel (l.foldl (fun x j => selOneQ now (SelPlain.overJ j now num den) true x j) x) = SelPlain.selFirst now num den (toSel x) l
  | [], _ => rfl
  | j :: l, x => by
    rw [List.foldl_cons, sel_first now num den l, sel_sim]
    rfl
theorem sel_then (now num den : Int) : ∀ (l : List Jb) (x : Pas), toSel (l.foldl (fun x j => selOneQ now (!SelPlain.overJ j now num den) false x j) x) = SelPlain.selThen now num den (toSel x) l
  | [], _ => rfl
  | j :: l, x => by
    rw [List.foldl_cons, sel_then now num den l, sel_sim]
    rfl
theorem sel_is (s : List Sp) (now num den : Int) (js : List Jb) : toSel (selQ s now num den js) = SelPlain.selP s now num den js := by
  unfold selQ SelPlain.selP
  rw [sel_then, sel_first]
  rfl
end Go.Proofs.Ytjjigkomiidipaa.PlaPlain
namespace Go.Proofs.Ytjjigkomiidipaa.PasWalk
open Go.RowKit Go.Proofs.Ytjjigkomiidipaa.SpanPlain Go.Proofs.Ytjjigkomiidipaa.StepPlain Go.Proofs.Ytjjigkomiidipaa.GapPlain Go.Proofs.Ytjjigkomiidipaa.JobPlain Go.Proofs.Ytjjigkomiidipaa.OrdPlain Go.Proofs.Ytjjigkomiidipaa.ApiPlain Go.Proofs.Ytjjigkomiidipaa.ShaPlain Go.Proofs.Ytjjigkomiidipaa.SlaPlain Go.Proofs.Ytjjigkomiidipaa.TogPlain Go.Proofs.Ytjjigkomiidipaa.PasPlain Go.Proofs.Ytjjigkomiidipaa.Mem Go.Proofs.Ytjjigkomiidipaa.SpanMem Go.Proofs.Ytjjigkomiidipaa.StepMem Go.Proofs.Ytjjigkomiidipaa.JobMem Go.Proofs.Ytjjigkomiidipaa.OrdMem Go.Proofs.Ytjjigkomiidipaa.ApiMem Go.Proofs.Ytjjigkomiidipaa.SpanRef Go.Proofs.Ytjjigkomiidipaa.StepRef Go.Proofs.Ytjjigkomiidipaa.GapRef Go.Proofs.Ytjjigkomiidipaa.ShaRef Go.Proofs.Ytjjigkomiidipaa.SlaRef Go.Proofs.Ytjjigkomiidipaa.PlaPlain
open Go.Proofs.Ytjjigkomiidipaa.StepWalk (NewAt)
open Go.Proofs.Ytjjigkomiidipaa.SelPlain (overJ)
open Go.Proofs.Ytjjigkomiidipaa.SelRef (mayT BoolQ)
open Go.Proofs.Ytjjigkomiidipaa.SelWalk (codeS overF PassSays)
open Go.Proofs.Ytjjigkomiidipaa.ShaWalk (LaySaysN ShSays)
def restJ (now num den : Int) (js : List Jb) : List Jb := js.filter fun j => !overJ j now num den
theorem then_easy (now num den : Int) : ∀ (js : List Jb) (x y : Pas) (R0 : List Jb), x.s = y.s → x.R = R0 ++ y.R →
    (js.foldl (fun x j => selOneQ now (!overJ j now num den) false x j) x).s = ((restJ now num den js).foldl (easyOne now false) y).s ∧
    (js.foldl (fun x j => selOneQ now (!overJ j now num den) false x j) x).R = R0 ++ ((restJ now num den js).foldl (easyOne now false) y).R ∧
    (js.foldl (fun x j => selOneQ now (!overJ j now num den) false x j) x).Q = x.Q
  | [], x, y, R0, h1, h2 => ⟨h1, h2, rfl⟩
  | j :: js, x, y, R0, h1, h2 => by
    unfold restJ
    rw [List.foldl_cons]
    cases ho : overJ j now num den with
    | true =>
      rw [List.filter_cons_of_neg (by simp [ho]), show selOneQ now (!true) false x j = x from rfl]
      exact then_easy now num den js x y R0 h1 h2
    | false =>
      rw [List.filter_cons_of_pos (by simp [ho]), List.foldl_cons]
      have e1 : selOneQ now (!false) false x j = if fitF x.s now j = now then startP now x j else x := by
        unfold selOneQ
        rw [if_neg (by simp)]
        split
        · rfl
        · rw [if_neg (by simp)]
      have e2 : easyOne now false y j = if fitF y.s now j = now then startP now y j else y := by
        unfold easyOne
        split
        · rfl
        · rw [if_neg (by simp)]
      rw [e1, e2, ← h1]
      by_cases hf : fitF x.s now j = now
      · rw [if_pos hf, if_pos hf]
        obtain ⟨g1, g2, g3⟩ := then_easy now num den js (startP now x j) (startP now y j) R0 (by show layL x.s now j = layL y.s now j; rw [h1]) (by show x.R ++ [j] = R0 ++ (y.R ++ [j]); rw [h2, List.append_assoc])
        exact ⟨g1, g2, g3.trans rfl⟩
      · rw [if_neg hf, if_neg hf]
        exact then_easy now num den js x y R0 h1 h2
def firstQ (s : List Sp) (now num den : Int) (js : List Jb) : Pas := js.foldl (fun x j => selOneQ now (overJ j now num den) true x j) (Pas.new s)
theorem sel_then_easy {s : List Sp} {now num den : Int} {js : List Jb} {x : Pas} {m : List Jb} (hx : x = firstQ s now num den js) (hm : m = restJ now num den js) :
    (selQ s now num den js).s = (easyP x.s now m false).s ∧ (selQ s now num den js).st = x.st ++ (easyP x.s now m false).st ∧ (selQ s now num den js).P = x.P := by
  subst hx hm
  obtain ⟨h1, h2, h3⟩ := then_easy now num den js (firstQ s now num den js) (Pas.new (firstQ s now num den js).s) (firstQ s now num den js).R rfl (by simp [Pas.new])
  refine ⟨h1, ?_, ?_⟩
  · unfold Pas.st easyP
    rw [← List.map_append, ← h2]
    rfl
  · unfold Pas.P
    rw [← h3]
    rfl
structure SelAt (x : Pas) (m : List Jb) (w : World) (N : Nat) (sv av bv ov : Value) (wr : World) : Prop where
  pas : PasAt x w N sv av bv wr
  oth : OwnN 23 9 (w.heap.size + 1) wr ov m.length (jvals m)
  oN : ov.ownBlock ≠ some N
  oa : ∀ b, ov.ownBlock = some b → av.ownBlock ≠ some b
  ob : ∀ b, ov.ownBlock = some b → bv.ownBlock ≠ some b
  off : OffN x.s.length sv ov
section
variable {x : Pas} {m : List Jb} {w : World} {N : Nat} {sv av bv ov : Value} {wr w' : World}
theorem PasAt.rowS {row : Option Nat} (h : PasAt x w N sv av bv wr) (hb : Below (w.heap.size + 1) wr w') (hg : wr.grownBy w' row) (hN : row ≠ some N) (hW : row ≠ some w.heap.size) (ha : ∀ b, row = some b → av.ownBlock ≠ some b) (hbv : ∀ b, row = some b → bv.ownBlock ≠ some b)
    (hs : ∀ a m c, sv = .slice (some a) m c → 0 < x.s.length → row ≠ some a.block) : PasAt x w N sv av bv w' := by
  have h1 : ∀ v : Value, (∀ b, row = some b → v.ownBlock ≠ some b) → v.ownBlock = none ∨ v.ownBlock ≠ row := fun v hv => by
    cases q : v.ownBlock with
    | none => exact .inl rfl
    | some b => exact .inr fun e => hv b e.symm q
  exact ⟨spans_kept h.st hg.size fun a m c e hp => hg.block a.block (spans_lt h.st a m c e hp) (fun q => hs a m c e hp q.symm), h.rows.kept hg (h1 _ ha), h.prms.kept hg (h1 _ hbv), h.noA, h.noB, h.apart, h.offA, h.offB, h.away,
    h.box.grown hg hN, h.ret.grown hg hW, h.lt, h.bel.trans (hb.mono (by omega))⟩
theorem nextS {v v' : Value} {b : Nat} (hn : NextTo wr v v') (h : v.ownBlock ≠ some b) (hb : b < wr.heap.size) : v'.ownBlock ≠ some b := by
  rcases hn with hn | ⟨c, hn, hc⟩
  · rw [hn]; exact h
  · rw [hn]; intro q; injection q with q; omega
theorem SelAt.below (h : SelAt x m w N sv av bv ov wr) (hb : Below wr.heap.size wr w') : SelAt x m w N sv av bv ov w' :=
  ⟨h.pas.below hb, h.oth.below hb, h.oN, h.oa, h.ob, h.off⟩
theorem SelAt.alloc (h : SelAt x m w N sv av bv ov wr) (o : Obj) : SelAt x m w N sv av bv ov (wr.alloc o) := h.below ((Below.refl _ _).alloc (Nat.le_refl _) o)
theorem SelAt.steps {r : List Sp} {v : Value} (h : SelAt x m w N sv av bv ov wr) (hb : Below wr.heap.size wr w') (hs : SpansIs r w' v) (hn : NewAt wr.heap.size v) : SelAt ⟨r, x.Q, x.R, x.O⟩ m w N v av bv ov w' :=
  ⟨h.pas.steps hb hs hn, h.oth.below hb, h.oN, h.oa, h.ob, OffN.fresh hn h.oth⟩
theorem SelAt.start {j : Jb} {O : List (Int × Jb)} {A4 : Option Addr} {c4 : Nat} {w4 : World} (h : SelAt x m w N sv av bv ov wr) (ho : OwnN 3 1 (w.heap.size + 1) w4 (.slice A4 (x.st.length + 1) c4) (x.st.length + 1) (ivals x.st ++ [.int .i64 j.id]))
    (hb : Below (w.heap.size + 1) wr w4) (hg : wr.grownBy w4 av.ownBlock) (hn : NextTo wr av (.slice A4 (x.st.length + 1) c4)) : SelAt ⟨x.s, x.Q, x.R ++ [j], O⟩ m w N sv (.slice A4 (x.st.length + 1) c4) bv ov (w4.setCell ⟨N, 0, none⟩ (.slice A4 (x.st.length + 1) c4)) := by
  refine ⟨h.pas.start ho hb hg hn, ?_, h.oN, fun b q => nextS hn (h.oa b q) (h.oth.block_lt q).2, h.ob, h.off⟩
  refine (h.oth.kept hg ?_).set_apart (p := ⟨N, 0, none⟩) h.oN _
  cases q : ov.ownBlock with
  | none => exact .inl rfl
  | some b => exact .inr fun e => h.oa b q e.symm
theorem SelAt.prom {q : Int × Jb} {O : List (Int × Jb)} {A4 : Option Addr} {c4 : Nat} {w4 : World} (h : SelAt x m w N sv av bv ov wr) (ho : OwnN 48 3 (w.heap.size + 1) w4 (.slice A4 (x.P.length + 1) c4) (x.P.length + 1) (prmL.vals x.P ++ prmC (prmQ q)))
    (hb : Below (w.heap.size + 1) wr w4) (hg : wr.grownBy w4 bv.ownBlock) (hn : NextTo wr bv (.slice A4 (x.P.length + 1) c4)) : SelAt ⟨x.s, x.Q ++ [q], x.R, O⟩ m w N sv av (.slice A4 (x.P.length + 1) c4) ov (w4.setCell ⟨N, 1, none⟩ (.slice A4 (x.P.length + 1) c4)) := by
  refine ⟨h.pas.prom ho hb hg hn, ?_, h.oN, h.oa, fun b q => nextS hn (h.ob b q) (h.oth.block_lt q).2, h.off⟩
  refine (h.oth.kept hg ?_).set_apart (p := ⟨N, 1, none⟩) h.oN _
  cases q : ov.ownBlock with
  | none => exact .inl rfl
  | some b => exact .inr fun e => h.ob b q e.symm
theorem SelAt.other {j : Jb} {A4 : Option Addr} {c4 : Nat} {w4 : World} (h : SelAt x m w N sv av bv ov wr) (ho : OwnN 23 9 (w.heap.size + 1) w4 (.slice A4 (m.length + 1) c4) (m.length + 1) (jvals m ++ jobC j))
    (hb : Below (w.heap.size + 1) wr w4) (hg : wr.grownBy w4 ov.ownBlock) (hn : NextTo wr ov (.slice A4 (m.length + 1) c4)) : SelAt x (m ++ [j]) w N sv av bv (.slice A4 (m.length + 1) c4) w4 := by
  have hl := h.pas.box.lt
  have hn2 : ∀ (v : Value), (∀ b, v.ownBlock = some b → b < wr.heap.size) → (∀ b, ov.ownBlock = some b → v.ownBlock ≠ some b) → ∀ b, (Value.slice A4 (m.length + 1) c4).ownBlock = some b → v.ownBlock ≠ some b := fun v h1 h2 b q => by
    rcases hn with hn | ⟨c, hn, hc⟩
    · exact h2 b (hn ▸ q)
    · rw [hn] at q
      injection q with q
      intro e
      have := h1 b e
      omega
  refine ⟨h.pas.rowS hb hg h.oN (fun q => by have := (h.oth.block_lt q).1; omega) h.oa h.ob (fun a m c e hp => h.off a m c e hp), ho.cast (by simp) (by simp [jvals]), nextS hn h.oN hl, hn2 av (fun b q => (h.pas.rows.block_lt q).2) h.oa, hn2 bv (fun b q => (h.pas.prms.block_lt q).2) h.ob, ?_⟩
  exact OffN.next h.off (spans_lt h.pas.st) hn
end
theorem jobs_of_own {base n : Nat} {w : World} {v : Value} {l : List Jb} {e : TypeId} (h : OwnN e 9 base w v n (jvals l)) (hn : n = l.length) : JobsIs l w v := by
  rcases h.form with ⟨h1, h2, _⟩ | ⟨g, c, hv, _, _, hc, _, hr, _, _⟩
  · refine .inl ⟨h1, ?_⟩
    cases l with
    | nil => rfl
    | cons a l => simp at hn; omega
  · subst hn
    exact .inr ⟨_, c, hv, hr, hc⟩
/-- What is so in each round: x is the first round's pass of the first k jobs, m those of them that are not over the threshold. -/
structure SelLoop (s : List Sp) (now num den : Int) (js : List Jb) (w : World) (N k : Nat) (x : Pas) (m : List Jb) (sv av bv ov : Value) (wr : World) : Prop where
  is : x = firstQ s now num den (js.take k)
  rest : m = restJ now num den (js.take k)
  len : x.s.length ≤ s.length + 3 * (x.R.length + x.Q.length)
  num : x.R.length + x.Q.length + m.length ≤ k
  mem : SelAt x m w N sv av bv ov wr
section
variable {s : List Sp} {now num den : Int} {js : List Jb} {w : World} {N k : Nat} {x : Pas} {m : List Jb} {sv av bv ov sv' av' bv' ov' : Value} {wr w' : World}
theorem first_next (hk : k < js.length) : firstQ s now num den (js.take (k + 1)) = selOneQ now (overJ js[k] now num den) true (firstQ s now num den (js.take k)) js[k] := by
  unfold firstQ
  rw [fold_next _ _ hk]
theorem rest_next (hk : k < js.length) : restJ now num den (js.take (k + 1)) = restJ now num den (js.take k) ++ if overJ js[k] now num den = true then [] else [js[k]] := by
  unfold restJ
  rw [List.take_succ_eq_append_getElem hk, List.filter_append]
  cases ho : overJ js[k] now num den with
  | true => simp [ho]
  | false => simp [ho]
theorem SelLoop.other (h : SelLoop s now num den js w N k x m sv av bv ov wr) (hk : k < js.length) (ho : overJ js[k] now num den = false) (hm : SelAt x (m ++ [js[k]]) w N sv' av' bv' ov' w') : SelLoop s now num den js w N (k + 1) x (m ++ [js[k]]) sv' av' bv' ov' w' := by
  refine ⟨?_, ?_, h.len, ?_, hm⟩
  · rw [first_next hk, ← h.is, ho]; rfl
  · rw [rest_next hk, ← h.rest, ho]; rfl
  · have := h.num; simp; omega
theorem SelLoop.start (h : SelLoop s now num den js w N k x m sv av bv ov wr) (hk : k < js.length) (ho : overJ js[k] now num den = true) (hn : 0 ≤ now) (hok : okG x.s now js[k].width js[k].est = true) (hm : SelAt (startP now x js[k]) m w N sv' av' bv' ov' w') : SelLoop s now num den js w N (k + 1) (startP now x js[k]) m sv' av' bv' ov' w' := by
  refine ⟨?_, ?_, ?_, ?_, hm⟩
  · rw [first_next hk, ← h.is, ho]
    unfold selOneQ
    rw [if_neg (by simp), if_pos (ok_fit hn hok)]
  · rw [rest_next hk, ← h.rest, ho]; simp
  · have := layL_len hok
    have := h.len
    show (layL x.s now js[k]).length ≤ s.length + 3 * ((x.R ++ [js[k]]).length + x.Q.length)
    rw [List.length_append, List.length_singleton]
    omega
  · have := h.num
    simp [startP]
    omega
theorem SelLoop.pass (h : SelLoop s now num den js w N k x m sv av bv ov wr) (hk : k < js.length) (ho : overJ js[k] now num den = true) (hn : 0 ≤ now) (hf : fitF x.s now js[k] = -1) (hm : SelAt x m w N sv' av' bv' ov' w') : SelLoop s now num den js w N (k + 1) x m sv' av' bv' ov' w' := by
  refine ⟨?_, ?_, h.len, Nat.le_succ_of_le h.num, hm⟩
  · rw [first_next hk, ← h.is, ho]
    unfold selOneQ
    rw [if_neg (by simp), if_neg (by omega), if_neg (fun g => by have := g.1; omega)]
  · rw [rest_next hk, ← h.rest, ho]; simp
theorem SelLoop.prom {a : Int} (h : SelLoop s now num den js w N k x m sv av bv ov wr) (hk : k < js.length) (ho : overJ js[k] now num den = true) (hf : fitF x.s now js[k] = a) (ha : now < a) (hok : okG x.s a js[k].width js[k].est = true) (hm : SelAt (promP x a js[k]) m w N sv' av' bv' ov' w') : SelLoop s now num den js w N (k + 1) (promP x a js[k]) m sv' av' bv' ov' w' := by
  refine ⟨?_, ?_, ?_, ?_, hm⟩
  · rw [first_next hk, ← h.is, ho]
    unfold selOneQ
    rw [if_neg (by simp), if_neg (by omega), if_pos ⟨by omega, rfl⟩, hf]
  · rw [rest_next hk, ← h.rest, ho]; simp
  · have := layL_len hok
    have := h.len
    show (layL x.s a js[k]).length ≤ s.length + 3 * (x.R.length + (x.Q ++ [(a, js[k])]).length)
    rw [List.length_append, List.length_singleton]
    omega
  · have := h.num
    simp [promP]
    omega
end
theorem c16_yes {s : List Sp} {now : Int} {n : Nat} (h : c16 s now n = 0) : chkB s = true ∧ head s ≤ now ∧ (0 ≤ now ∧ now ≤ 1125899906842624) ∧ n ≤ 100 := by
  unfold c16 at h
  split at h
  · rename_i g
    have := ((chk_iff s).1 g.1).lo
    split at h
    · omega
    · exact ⟨g.1, g.2.1, ⟨by omega, g.2.2⟩, by omega⟩
  · omega
theorem first_chk {s : List Sp} {now num den : Int} (hn : 0 ≤ now) (hc : Chk s) (js : List Jb) : Chk (firstQ s now num den js).s ∧ head (firstQ s now num den js).s = head s :=
  ((sel_step (p := fun j => overJ j now num den) (promise := true) hn).fold_ok js _ (PasOk.new hc)).chk
theorem overF_is {j : Jb} {now num den : Int} (h0 : 0 ≤ now) (h1 : now ≤ 1125899906842624) (hm : mayT num den = true) : overF j now num den = overJ j now num den := by
  unfold overF
  rw [hm, decide_eq_true h0, decide_eq_true h1]
  rfl
end Go.Proofs.Ytjjigkomiidipaa.PasWalk
