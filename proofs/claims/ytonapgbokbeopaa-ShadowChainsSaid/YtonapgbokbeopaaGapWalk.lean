/-
  The walks of layer 6's code: mayBeWide, mayBeLong, end, Widest, Ok. The walk of layer 6's code: All. The walks of layer 6's code: Fit, Longest.
-/
import Derived.Test.YtonapgbokbeopaaGapRefA
import Derived.Test.YtonapgbokbeopaaGapPlain
import Derived.Test.YtonapgbokbeopaaStepWalkD
import Derived.Test.YtonapgbokbeopaaSpanWalkA
namespace Go.Proofs.Ytonapgbokbeopaa.GapWalk
open Go.RowKit Go.Proofs.Ytonapgbokbeopaa.SpanPlain Go.Proofs.Ytonapgbokbeopaa.StepPlain Go.Proofs.Ytonapgbokbeopaa.GapPlain Go.Proofs.Ytonapgbokbeopaa.Mem Go.Proofs.Ytonapgbokbeopaa.SpanMem Go.Proofs.Ytonapgbokbeopaa.StepMem Go.Proofs.Ytonapgbokbeopaa.SpanRef Go.Proofs.Ytonapgbokbeopaa.StepRef Go.Proofs.Ytonapgbokbeopaa.GapRef
def BoolW (b : Bool) (w : World) (e : Ending) (w' : World) : Prop := e = .returned (.bool b) ∧ w = w'
def IntW (n : Int) (w : World) (e : Ending) (w' : World) : Prop := e = .returned (.int .i64 n) ∧ w = w'
def widthB (m : Int) : Bool := decide (1 ≤ m) && decide (m ≤ 256)
def lengthB (n : Int) : Bool := decide (1 ≤ n) && decide (n ≤ 1099511627776)
theorem widthB_iff (m : Int) : widthB m = true ↔ 1 ≤ m ∧ m ≤ 256 := by unfold widthB; simp
theorem lengthB_iff (n : Int) : lengthB n = true ↔ 1 ≤ n ∧ n ≤ 1099511627776 := by unfold lengthB; simp
theorem isWideS (t : Int) (w : World) : Calls Try.prog 36 #[.int .i64 t] w (BoolW (widthB t) w) := by
  have hw : (widthB t = true ∧ decide (1 ≤ t) = true ∧ decide (t ≤ 256) = true) ∨ (widthB t = false ∧ decide (1 ≤ t) = false) ∨ (widthB t = false ∧ decide (1 ≤ t) = true ∧ decide (t ≤ 256) = false) := by
    unfold widthB
    by_cases h1 : 1 ≤ t <;> by_cases h2 : t ≤ 256 <;> simp [h1, h2]
  generalize widthB t = B at *
  rcases hw with ⟨rfl, h1, h2⟩ | ⟨rfl, h1⟩ | ⟨rfl, h1, h2⟩
  all_goals
    go_enter Try.func36, Try.ntmps36
    go_wp2_with fail
    go_ret
    exact ⟨rfl, rfl⟩
theorem isLongS (t : Int) (w : World) : Calls Try.prog 33 #[.int .i64 t] w (BoolW (lengthB t) w) := by
  have hw : (lengthB t = true ∧ decide (1 ≤ t) = true ∧ decide (t ≤ 1099511627776) = true) ∨ (lengthB t = false ∧ decide (1 ≤ t) = false) ∨ (lengthB t = false ∧ decide (1 ≤ t) = true ∧ decide (t ≤ 1099511627776) = false) := by
    unfold lengthB
    by_cases h1 : 1 ≤ t <;> by_cases h2 : t ≤ 1099511627776 <;> simp [h1, h2]
  generalize lengthB t = B at *
  rcases hw with ⟨rfl, h1, h2⟩ | ⟨rfl, h1⟩ | ⟨rfl, h1, h2⟩
  all_goals
    go_enter Try.func33, Try.ntmps33
    go_wp2_with fail
    go_ret
    exact ⟨rfl, rfl⟩
/-- Up to when a step goes on. -/
def endN (s : List Sp) (k : Nat) : Int := if k + 1 < s.length then (nth s (k + 1)).1 else 4503599627370496
set_option maxRecDepth 100000 in
theorem endS (s : List Sp) (k : Nat) (v : Value) (w : World) (hv : SpansIs s w v) (hk : k < s.length) (hl : s.length ≤ 1000) : Calls Try.prog 46 #[v, .int .i64 k] w (IntW (endN s k) w) := by
  obtain ⟨A, c, rfl, hA⟩ := hv.open_
  have HA := Lib.hid hA
  clear hA hv
  unfold endN
  by_cases hnx : k + 1 < s.length
  · obtain ⟨ad2, rfl, had2, c3, _⟩ := HA.out (k + 1) hnx
    have e3 : (spCell s (k + 1)).1 = .int .i64 (nth s (k + 1)).1 := rfl
    rw [e3] at c3
    rw [if_pos hnx]
    have d1 : decide ((k : Int) + 1 < (s.length : Int)) = true := decide_eq_true (by omega)
    have i1 : (0 : Int) ≤ (k : Int) + 1 := by omega
    have i2 : (k : Int) + 1 < (s.length : Int) := by omega
    have i3 : ((k : Int) + 1).toNat = k + 1 := by omega
    clear e3
    generalize nth s (k + 1) = z at *
    go_enter Try.func46, Try.ntmps46
    go_wp2_with fail
    go_ret
    exact ⟨rfl, rfl⟩
  · rw [if_neg hnx]
    have d1 : decide ((k : Int) + 1 < (s.length : Int)) = false := decide_eq_false (by omega)
    go_enter Try.func46, Try.ntmps46
    go_wp2_with fail
    go_ret
    exact ⟨rfl, rfl⟩
set_option maxRecDepth 100000 in
set_option maxHeartbeats 1600000 in
theorem wideS (s : List Sp) (a n : Int) (v : Value) (w : World) (hv : SpansIs s w v) (hl : s.length ≤ 1000) : Calls Try.prog 37 #[v, .int .i64 a, .int .i64 n] w (WideSays s a n w) := by
  have CL := Lib.hid (fun W => isLongS n W)
  have HNO := Lib.hid (fun h => wide_no (s := s) (a := a) (n := n) h)
  cases hb : lengthB n with
  | false =>
    rw [hb] at CL
    have HN := Lib.hid (HNO.out (.inl (fun h => by rw [(lengthB_iff n).2 h] at hb; cases hb)))
    clear hb HNO hv
    go_enter Try.func37, Try.ntmps37
    go_wp2_with (go_at_call 33; refine (CL.out _).mono ?_; rintro e w1 ⟨rfl, rfl⟩)
    go_ret
    exact ⟨0, rfl, HN.out, Below.refl _ _⟩
  | true =>
    rw [hb] at CL
    have hn := (lengthB_iff n).1 hb
    clear hb
    by_cases ha : 1125899906842624 < a
    · have d1 : decide ((1125899906842624 : Int) < a) = true := decide_eq_true ha
      have HN := Lib.hid (HNO.out (.inr ha))
      clear HNO hv
      go_enter Try.func37, Try.ntmps37
      go_wp2_with (go_at_call 33; refine (CL.out _).mono ?_; rintro e w1 ⟨rfl, rfl⟩)
      go_ret
      exact ⟨0, rfl, HN.out, Below.refl _ _⟩
    · have d1 : decide ((1125899906842624 : Int) < a) = false := decide_eq_false ha
      obtain ⟨b, hb⟩ : ∃ b, b = IntKind.i64.wrap (a + n) := ⟨_, rfl⟩
      have HY := Lib.hid (fun k h => wide_yes (s := s) (a := a) (n := n) (b := b) (k := k) hn (by omega) (fun h0 => by rw [hb, IntKind.wrap_i64]; omega) h)
      have CM := Lib.hid (StepWalk.minS s (a, b) v w hv hl)
      unfold spV at CM
      dsimp only at CM
      have hb2 : IntKind.i64.wrap (a + n) = b := hb.symm
      clear hb hv HNO ha hn
      go_enter Try.func37, Try.ntmps37
      go_wp2_with (go_at_call 33; refine (CL.out _).mono ?_; rintro e w1 ⟨rfl, rfl⟩)
      refine CM.out.mono ?_
      rintro e w2 ⟨k, rfl, hk, hb⟩
      have HK := Lib.hid (HY.out k hk)
      have HB := Lib.hid hb
      clear hk hb HY
      go_wp2_with fail
      go_ret
      exact ⟨k, rfl, HK.out, HB.out⟩
set_option maxHeartbeats 1600000 in
theorem okS (s : List Sp) (a m n : Int) (v : Value) (w : World) (hv : SpansIs s w v) (hl : s.length ≤ 1000) : Calls Try.prog 24 #[v, .int .i64 a, .int .i64 m, .int .i64 n] w (BoolIs (okG s a m n) w) := by
  have CW := Lib.hid (fun W => isWideS m W)
  have CM := Lib.hid (wideS s a n v w hv hl)
  clear hv
  cases hb : widthB m with
  | false =>
    rw [hb] at CW
    rw [ok_not (fun h => by rw [(widthB_iff m).2 h] at hb; cases hb)]
    clear hb CM
    go_enter Try.func24, Try.ntmps24
    go_wp2_with (go_at_call 36; refine (CW.out _).mono ?_; rintro e w1 ⟨rfl, rfl⟩)
    go_ret
    exact ⟨rfl, Below.refl _ _⟩
  | true =>
    rw [hb] at CW
    have HO := Lib.hid (fun k h => ok_wide (s := s) (a := a) (m := m) (n := n) (k := k) h ((widthB_iff m).1 hb).1 ((widthB_iff m).1 hb).2)
    clear hb
    generalize hG : okG s a m n = G at *
    have HG := Lib.hid hG
    clear hG
    go_enter Try.func24, Try.ntmps24
    go_wp2_with (go_at_call 36; refine (CW.out _).mono ?_; rintro e w1 ⟨rfl, rfl⟩)
    refine CM.out.mono ?_
    rintro e w2 ⟨k, rfl, hk, hb⟩
    have HK := Lib.hid (HO.out k hk)
    have HB := Lib.hid hb
    clear hk hb HO
    cases hd : decide (m ≤ k)
    all_goals
      go_wp2_with fail
      go_ret
      exact ⟨by have h := HK.out; rw [hd] at h; rw [h]; rfl, HB.out⟩
end Go.Proofs.Ytonapgbokbeopaa.GapWalk
namespace Go.Proofs.Ytonapgbokbeopaa.GapWalk
open Go.RowKit Go.Proofs.Ytonapgbokbeopaa.SpanPlain Go.Proofs.Ytonapgbokbeopaa.StepPlain Go.Proofs.Ytonapgbokbeopaa.GapPlain Go.Proofs.Ytonapgbokbeopaa.Mem Go.Proofs.Ytonapgbokbeopaa.SpanMem Go.Proofs.Ytonapgbokbeopaa.StepMem Go.Proofs.Ytonapgbokbeopaa.SpanRef Go.Proofs.Ytonapgbokbeopaa.StepRef Go.Proofs.Ytonapgbokbeopaa.GapRef
theorem all_ways (s : List Sp) (m : Int) : (chkB s = false ∧ Hid (AllSays s m [])) ∨ (chkB s = true ∧ widthB m = false ∧ Hid (AllSays s m [])) ∨ (chkB s = true ∧ widthB m = true ∧ Hid (mayG s m 1 = true)) := by
  have e : mayG s m 1 = (chkB s && widthB m) := by unfold mayG widthB; cases chkB s <;> simp
  unfold AllSays
  rw [e]
  cases chkB s with
  | false => exact .inl ⟨rfl, .inr ⟨rfl, rfl⟩⟩
  | true =>
    cases widthB m with
    | false => exact .inr (.inl ⟨rfl, rfl, .inr ⟨rfl, rfl⟩⟩)
    | true => exact .inr (.inr ⟨rfl, rfl, rfl⟩)
theorem gapw_ways (s : List Sp) (m : Int) (k : Nat) : (decide (m ≤ (nth s k).2) = false ∧ Hid (gapsTo s m (k + 1) = gapsTo s m k)) ∨ (decide (m ≤ (nth s k).2) = true ∧ Hid (gapsTo s m (k + 1) = gapsTo s m k ++ [((nth s k).1, endN s k)])) := by
  rw [gaps_next]
  unfold gapSp endN
  by_cases h1 : m ≤ (nth s k).2
  · rw [if_pos h1]; exact .inr ⟨decide_eq_true h1, rfl⟩
  · rw [if_neg h1, List.append_nil]; exact .inl ⟨decide_eq_false h1, rfl⟩
def AllLoop (s : List Sp) (m : Int) (w wr : World) (v : Value) (k : Nat) : Prop := OwnN 40 2 w.heap.size wr v (gapsTo s m k).length (svals (gapsTo s m k)) ∧ Below w.heap.size w wr
/-- A box laid behind a row of one's own is kept where the row grows. -/
theorem box_kept {e : TypeId} {k base n : Nat} {wr W w6 : World} {o : Value} {xs : List Value} (h : OwnN e k base wr o n xs) (hw : wr.heap.size < W.heap.size) (hg : W.grownBy w6 o.ownBlock) {j : Nat} {u : Value} (hu : W.cell? ⟨wr.heap.size, j, none⟩ = some u) : w6.cell? ⟨wr.heap.size, j, none⟩ = some u :=
  (World.cell?_of_block (a := ⟨wr.heap.size, j, none⟩) (hg.block wr.heap.size hw (fun e => by have := (h.1.lt _ e.symm).2; omega))).trans hu
/-- All, with how long its answer is. -/
def AllLong (s : List Sp) (m : Int) (w : World) (e : Ending) (w' : World) : Prop := ∃ v c, e = .returned v ∧ SpansIs c w' v ∧ AllSays s m c ∧ Below w.heap.size w w' ∧ c.length ≤ 1000
set_option maxRecDepth 100000 in
set_option maxHeartbeats 3200000 in
theorem allL (s : List Sp) (m : Int) (v : Value) (w : World) (hv : SpansIs s w v) (hl : s.length ≤ 1000) : Calls Try.prog 34 #[v, .int .i64 m] w (AllLong s m w) := by
  have CC := Lib.hid (StepWalk.checkS s v w hv hl)
  have CW := Lib.hid (fun W => isWideS m W)
  have HV := Lib.hid hv
  obtain ⟨A, c, rfl, hA⟩ := hv.open_
  have HA := Lib.hid hA
  clear hv hA
  rcases all_ways s m with ⟨h1, HN⟩ | ⟨h1, h2, HN⟩ | ⟨h1, h2, HM⟩
  · rw [h1] at CC
    clear h1
    go_enter Try.func34, Try.ntmps34
    go_wp2_with fail
    refine CC.out.mono ?_
    rintro e w1 ⟨rfl, hb1⟩
    have HB1 := Lib.hid hb1
    clear hb1
    go_wp2_with fail
    go_ret
    exact ⟨_, [], rfl, .inl ⟨rfl, rfl⟩, HN.out, HB1.out, by simp⟩
  · rw [h1] at CC
    rw [h2] at CW
    clear h1 h2
    go_enter Try.func34, Try.ntmps34
    go_wp2_with fail
    refine CC.out.mono ?_
    rintro e w1 ⟨rfl, hb1⟩
    have HB1 := Lib.hid hb1
    clear hb1
    go_wp2_with (go_at_call 36; refine (CW.out _).mono ?_; rintro e w1 ⟨rfl, rfl⟩)
    go_ret
    exact ⟨_, [], rfl, .inl ⟨rfl, rfl⟩, HN.out, HB1.out, by simp⟩
  · rw [h1] at CC
    rw [h2] at CW
    have HC := Lib.hid ((chk_iff s).1 h1)
    clear h1 h2
    go_enter Try.func34, Try.ntmps34
    go_wp2_with fail
    refine CC.out.mono ?_
    rintro e w1 ⟨rfl, hb1⟩
    have HB1 := Lib.hid hb1
    clear hb1 CC
    go_wp2_with (go_at_call 36; refine (CW.out _).mono ?_; rintro e w1 ⟨rfl, rfl⟩)
    go_loopw [5, 18] (fun o i wr => ∃ (k : Nat) (v : Value), v = o ∧ i = .int .i64 k ∧ k ≤ s.length ∧ Hid (AllLoop s m w1 wr v k)) (fun _ i _ => s.length - (intOf i).toNat)
    case atStart => exact ⟨0, _, rfl, rfl, Nat.zero_le _, OwnN.nil (Nat.le_refl _), Below.refl _ _⟩
    case round =>
      obtain ⟨k, o, hov, rfl, hk, HL⟩ := hrel
      subst hov
      obtain ⟨hown, hbl⟩ := HL.out
      by_cases hlt : k < s.length
      · obtain ⟨ad, rfl, had, c1, c2⟩ := (HA.out.below (below_then HB1.out hbl)) k hlt
        have e1 : (spCell s k).1 = .int .i64 (nth s k).1 := rfl
        have e2 : (spCell s k).2 = .int .i64 (nth s k).2 := rfl
        rw [e1] at c1
        rw [e2] at c2
        have hgl := gaps_len s m k
        have i0 : (0 : Int) ≤ (k : Int) := Int.natCast_nonneg _
        have hlt2 : (k : Int) < (s.length : Int) := by omega
        have HOW := Lib.hid hown
        have HBL := Lib.hid hbl
        unfold AllLoop
        clear hown hbl HL e1 e2
        rcases gapw_ways s m k with ⟨h1, HX⟩ | ⟨h1, HX⟩
        · generalize nth s k = y at *
          go_wp2_with fail
          exact ⟨⟨k + 1, _, rfl, by go_num, by omega, by rw [HX.out]; exact HOW.out.alloc _, HBL.out.alloc HBL.out.size _⟩, by simp [intOf] <;> omega⟩
        · generalize nth s k = y at *
          have CE := Lib.hid (endS s k (.slice (some ad) s.length c) (wr.alloc (.cells #[.int .i64 y.1, .int .i64 y.2] 42)).drew (HV.out.below (((below_then HB1.out HBL.out).alloc (below_then HB1.out HBL.out).size _).drew)) hlt hl)
          have HO1 := Lib.hid ((HOW.out.alloc (.cells #[.int .i64 y.1, .int .i64 y.2] 42)).drewN 1)
          generalize endN s k = z at *
          have HO2 := Lib.hid (HO1.out.alloc (.cells #[.int .i64 y.1, .int .i64 z] 40))
          have HB2 := Lib.hid ((HBL.out.alloc HBL.out.size (.cells #[.int .i64 y.1, .int .i64 y.2] 42)).drew)
          have HX0 := Box2.new wr (.int .i64 y.1) (.int .i64 y.2) 42
          obtain ⟨x0, x1, x2, _, _⟩ := HX0
          go_upto_region 8 with fail
          go_region_held3 (fun w' => w'.cell? ⟨wr.heap.size, 0, none⟩ = some (.int .i64 y.1))
            (first | go_keep | exact box_kept HOW.out (by simp; omega) hg6 (by assumption))
            (first
              | (go_at_call_of 46 (Value.slice (some ad) s.length c); refine CE.out.mono ?_; rintro e w2 ⟨rfl, rfl⟩)
              | (refine step_own spans_t (by rfl) (.tmp 27) (.tmp 34) (by rfl) w1.heap.size _ _ _ (by rfl) HO2.out _ 1 [.int .i64 y.1, .int .i64 z] (by rfl) (by rfl) (raw_at (by simp) #[.int .i64 y.1, .int .i64 z] _) two_cells (by omega) ?_; intro v6 w6 ho6 hb6 hg6))
          all_goals
            go_wp2_with fail
            exact ⟨⟨k + 1, _, rfl, by go_num, by omega, by rw [HX.out, svals_snoc]; exact ho6.cast (by simp) rfl, (HB2.out.alloc HB2.out.size _).trans hb6⟩, by simp [intOf] <;> omega⟩
      · obtain rfl : k = s.length := by omega
        have hgl := gaps_len s m s.length
        have hsp : SpansIs (gapsTo s m s.length) wr o := spans_of_own hown rfl
        have HALL := Lib.hid (fun c h => all_of_less (s := s) (c := c) HC.out (w := m) h)
        have CL := Lib.hid (SpanWalk.cover_is (gapsTo s m s.length) o wr hsp (by omega))
        have HBL := Lib.hid (below_then HB1.out hbl)
        clear hown hbl HL hsp
        generalize gapsTo s m s.length = l at *
        go_wp2_with fail
        refine CL.out.mono ?_
        rintro e w2 ⟨v2, c2, rfl, hs2, hl2, hb2, _⟩
        have HS := Lib.hid hs2
        have HAL := Lib.hid (HALL.out c2 hl2)
        have HB2 := Lib.hid (below_then HBL.out hb2)
        have hcl := cov_len hl2
        simp only [List.length_nil, Nat.add_zero] at hcl
        clear hs2 hl2 hb2 CL
        go_wp2_with fail
        go_ret
        exact ⟨_, c2, rfl, HS.out, .inl ⟨HM.out, HAL.out⟩, HB2.out, by omega⟩
theorem allS (s : List Sp) (m : Int) (v : Value) (w : World) (hv : SpansIs s w v) (hl : s.length ≤ 1000) : Calls Try.prog 34 #[v, .int .i64 m] w (AllTells s m w) :=
  (allL s m v w hv hl).mono fun _ _ ⟨v, c, h1, h2, h3, h4, _⟩ => ⟨v, c, h1, h2, h3, h4⟩
end Go.Proofs.Ytonapgbokbeopaa.GapWalk
namespace Go.Proofs.Ytonapgbokbeopaa.GapWalk
open Go.RowKit Go.Proofs.Ytonapgbokbeopaa.SpanPlain Go.Proofs.Ytonapgbokbeopaa.StepPlain Go.Proofs.Ytonapgbokbeopaa.GapPlain Go.Proofs.Ytonapgbokbeopaa.Mem Go.Proofs.Ytonapgbokbeopaa.SpanMem Go.Proofs.Ytonapgbokbeopaa.StepMem Go.Proofs.Ytonapgbokbeopaa.SpanRef Go.Proofs.Ytonapgbokbeopaa.StepRef Go.Proofs.Ytonapgbokbeopaa.GapRef
set_option maxRecDepth 100000 in
set_option maxHeartbeats 3200000 in
theorem fitS (s : List Sp) (f m n : Int) (v : Value) (w : World) (hv : SpansIs s w v) (hl : s.length ≤ 1000) : Calls Try.prog 20 #[v, .int .i64 f, .int .i64 m, .int .i64 n] w (FitSays s f m n w) := by
  have CL := Lib.hid (fun W => isLongS n W)
  have CA := Lib.hid (allL s m v w hv hl)
  clear hv
  cases hb : lengthB n with
  | false =>
    rw [hb] at CL
    have HN := Lib.hid (fit_short s f m n (fun h => by rw [(lengthB_iff n).2 h] at hb; cases hb))
    clear hb CA
    go_enter Try.func20, Try.ntmps20
    go_wp2_with (go_at_call 33; refine (CL.out _).mono ?_; rintro e w1 ⟨rfl, rfl⟩)
    go_ret2
    exact ⟨0, false, rfl, HN.out, Below.refl _ _⟩
  | true =>
    rw [hb] at CL
    have hn := (lengthB_iff n).1 hb
    clear hb
    go_enter Try.func20, Try.ntmps20
    go_wp2_with (go_at_call 33; refine (CL.out _).mono ?_; rintro e w1 ⟨rfl, rfl⟩)
    refine CA.out.mono ?_
    rintro e w1 ⟨vc, c, rfl, hc, hof, hb1, hcl⟩
    obtain ⟨A, cc, rfl, hA⟩ := hc.open_
    have HA := Lib.hid hA
    have HO := Lib.hid hof
    have HB1 := Lib.hid hb1
    clear hc hA hof hb1 CA CL
    go_wp2_with fail
    go_loopw [20] (fun i wr => ∃ k : Nat, i = .int .i64 k ∧ k ≤ c.length ∧ Hid (NoFit c f n k ∧ Below w1.heap.size w1 wr)) (fun i _ => c.length - (intOf i).toNat)
    case atStart => exact ⟨0, rfl, Nat.zero_le _, fit_start _ _ _, Below.refl _ _⟩
    case round =>
      obtain ⟨k, rfl, hk, HL⟩ := hrel
      obtain ⟨hf, hbl⟩ := HL.out
      have HBL := Lib.hid hbl
      by_cases hlt : k < c.length
      · obtain ⟨ad, rfl, had, c1, c2⟩ := (HA.out.below hbl) k hlt
        have e1 : (spCell c k).1 = .int .i64 (nth c k).1 := rfl
        have e2 : (spCell c k).2 = .int .i64 (nth c k).2 := rfl
        rw [e1] at c1
        rw [e2] at c2
        have i0 : (0 : Int) ≤ (k : Int) := Int.natCast_nonneg _
        have hlt2 : (k : Int) < (c.length : Int) := by omega
        have hw := fit_ways2 s c f m n hn.1 hn.2 HO.out hlt hf
        clear hf hbl HL e1 e2
        generalize nth c k = x at *
        have HX := Lib.hid (Box2.new wr (.int .i64 x.1) (.int .i64 x.2) 40)
        have HB2 := Lib.hid (HBL.out.alloc HBL.out.size (.cells #[.int .i64 x.1, .int .i64 x.2] 40))
        have HB3 := Lib.hid (below_then HB1.out HB2.out)
        obtain ⟨x0, x1, x2, _, _⟩ := HX.out
        rcases hw with ⟨g2, HR⟩ | ⟨g2, wr1, g3, HR⟩ | ⟨g2, wr1, g3, HR⟩
        · go_wp2_with fail
          go_ret2
          exact ⟨0, false, rfl, HR.out, HB3.out⟩
        · go_wp2_with fail
          go_ret2
          exact ⟨_, true, rfl, HR.out, HB3.out⟩
        · go_wp2_with fail
          exact ⟨⟨k + 1, by go_num, by omega, HR.out, HB2.out⟩, by simp [intOf] <;> omega⟩
      · have HD := Lib.hid (fit_done hn.1 hn.2 HO.out (Nat.le_of_not_lt hlt) hf)
        clear hf hbl HL
        go_wp2_with fail
        go_ret2
        exact ⟨0, false, rfl, HD.out, below_then HB1.out HBL.out⟩
end Go.Proofs.Ytonapgbokbeopaa.GapWalk
