/-
  The walk of layer 6's code: All.
-/
import Derived.Test.YtalopnkdnlkdoaaGapWalkA
import Derived.Test.YtalopnkdnlkdoaaSpanWalkF
namespace Go.Proofs.Ytalopnkdnlkdoaa.GapWalk
open Go.RowKit Go.Proofs.Ytalopnkdnlkdoaa.SpanPlain Go.Proofs.Ytalopnkdnlkdoaa.StepPlain Go.Proofs.Ytalopnkdnlkdoaa.GapPlain Go.Proofs.Ytalopnkdnlkdoaa.Mem Go.Proofs.Ytalopnkdnlkdoaa.SpanMem Go.Proofs.Ytalopnkdnlkdoaa.StepMem Go.Proofs.Ytalopnkdnlkdoaa.SpanRef Go.Proofs.Ytalopnkdnlkdoaa.StepRef Go.Proofs.Ytalopnkdnlkdoaa.GapRef
theorem all_ways (s : List Sp) (m : Int) : (chkB s = false ∧ Hid (AllSays s m [])) ∨ (chkB s = true ∧ widthB m = false ∧ Hid (AllSays s m [])) ∨ (chkB s = true ∧ widthB m = true ∧ Hid (mayG s m 1 = true)) := by
  have e : mayG s m 1 = (chkB s && widthB m) := by unfold mayG widthB; cases chkB s <;> simp
  unfold AllSays
  rw [e]
  cases chkB s with
  | false => exact .inl ⟨rfl, .inr ⟨rfl, rfl⟩⟩
  | true =>
    cases widthB m with
    | false => exact .inr (.inl ⟨rfl, rfl, .inr ⟨rfl, rfl⟩⟩)
    | true => exact .inr (.inr ⟨rfl, rfl, rfl⟩)
theorem gapw_ways (s : List Sp) (m : Int) (k : Nat) : (decide (m ≤ (nth s k).2) = false ∧ Hid (gapsTo s m (k + 1) = gapsTo s m k)) ∨ (decide (m ≤ (nth s k).2) = true ∧ Hid (gapsTo s m (k + 1) = gapsTo s m k ++ [((nth s k).1, endN s k)])) := by
  rw [gaps_next]
  unfold gapSp endN
  by_cases h1 : m ≤ (nth s k).2
  · rw [if_pos h1]; exact .inr ⟨decide_eq_true h1, rfl⟩
  · rw [if_neg h1, List.append_nil]; exact .inl ⟨decide_eq_false h1, rfl⟩
def AllLoop (s : List Sp) (m : Int) (w wr : World) (v : Value) (k : Nat) : Prop := OwnN 36 2 w.heap.size wr v (gapsTo s m k).length (svals (gapsTo s m k)) ∧ Below w.heap.size w wr
/-- A box laid behind a row of one's own is kept where the row grows. -/
theorem box_kept {e : TypeId} {k base n : Nat} {wr W w6 : World} {o : Value} {xs : List Value} (h : OwnN e k base wr o n xs) (hw : wr.heap.size < W.heap.size) (hg : W.grownBy w6 o.ownBlock) {j : Nat} {u : Value} (hu : W.cell? ⟨wr.heap.size, j, none⟩ = some u) : w6.cell? ⟨wr.heap.size, j, none⟩ = some u :=
  (World.cell?_of_block (a := ⟨wr.heap.size, j, none⟩) (hg.block wr.heap.size hw (fun e => by have := (h.1.lt _ e.symm).2; omega))).trans hu
/-- All, with how long its answer is. -/
def AllLong (s : List Sp) (m : Int) (w : World) (e : Ending) (w' : World) : Prop := ∃ v c, e = .returned v ∧ SpansIs c w' v ∧ AllSays s m c ∧ Below w.heap.size w w' ∧ c.length ≤ 1000
set_option maxRecDepth 100000 in
set_option maxHeartbeats 3200000 in
theorem allL (s : List Sp) (m : Int) (v : Value) (w : World) (hv : SpansIs s w v) (hl : s.length ≤ 1000) : Calls Try.prog 16 #[v, .int .i64 m] w (AllLong s m w) := by
  have CC := Lib.hid (StepWalk.checkS s v w hv hl)
  have CW := Lib.hid (fun W => isWideS m W)
  have HV := Lib.hid hv
  obtain ⟨A, c, rfl, hA⟩ := hv.open_
  have HA := Lib.hid hA
  clear hv hA
  rcases all_ways s m with ⟨h1, HN⟩ | ⟨h1, h2, HN⟩ | ⟨h1, h2, HM⟩
  · rw [h1] at CC
    clear h1
    go_enter Try.func16, Try.ntmps16
    go_wp2_with fail
    refine CC.out.mono ?_
    rintro e w1 ⟨rfl, hb1⟩
    have HB1 := Lib.hid hb1
    clear hb1
    go_wp2_with fail
    go_ret
    exact ⟨_, [], rfl, .inl ⟨rfl, rfl⟩, HN.out, HB1.out, by simp⟩
  · rw [h1] at CC
    rw [h2] at CW
    clear h1 h2
    go_enter Try.func16, Try.ntmps16
    go_wp2_with fail
    refine CC.out.mono ?_
    rintro e w1 ⟨rfl, hb1⟩
    have HB1 := Lib.hid hb1
    clear hb1
    go_wp2_with (go_at_call 22; refine (CW.out _).mono ?_; rintro e w1 ⟨rfl, rfl⟩)
    go_ret
    exact ⟨_, [], rfl, .inl ⟨rfl, rfl⟩, HN.out, HB1.out, by simp⟩
  · rw [h1] at CC
    rw [h2] at CW
    have HC := Lib.hid ((chk_iff s).1 h1)
    clear h1 h2
    go_enter Try.func16, Try.ntmps16
    go_wp2_with fail
    refine CC.out.mono ?_
    rintro e w1 ⟨rfl, hb1⟩
    have HB1 := Lib.hid hb1
    clear hb1 CC
    go_wp2_with (go_at_call 22; refine (CW.out _).mono ?_; rintro e w1 ⟨rfl, rfl⟩)
    go_loopw [5, 18] (fun o i wr => ∃ (k : Nat) (v : Value), v = o ∧ i = .int .i64 k ∧ k ≤ s.length ∧ Hid (AllLoop s m w1 wr v k)) (fun _ i _ => s.length - (intOf i).toNat)
    case atStart => exact ⟨0, _, rfl, rfl, Nat.zero_le _, OwnN.nil (Nat.le_refl _), Below.refl _ _⟩
    case round =>
      obtain ⟨k, o, hov, rfl, hk, HL⟩ := hrel
      subst hov
      obtain ⟨hown, hbl⟩ := HL.out
      by_cases hlt : k < s.length
      · obtain ⟨ad, rfl, had, c1, c2⟩ := (HA.out.below (below_then HB1.out hbl)) k hlt
        have e1 : (spCell s k).1 = .int .i64 (nth s k).1 := rfl
        have e2 : (spCell s k).2 = .int .i64 (nth s k).2 := rfl
        rw [e1] at c1
        rw [e2] at c2
        have hgl := gaps_len s m k
        have i0 : (0 : Int) ≤ (k : Int) := Int.natCast_nonneg _
        have hlt2 : (k : Int) < (s.length : Int) := by omega
        have HOW := Lib.hid hown
        have HBL := Lib.hid hbl
        unfold AllLoop
        clear hown hbl HL e1 e2
        rcases gapw_ways s m k with ⟨h1, HX⟩ | ⟨h1, HX⟩
        · generalize nth s k = y at *
          go_wp2_with fail
          exact ⟨⟨k + 1, _, rfl, by go_num, by omega, by rw [HX.out]; exact HOW.out.alloc _, HBL.out.alloc HBL.out.size _⟩, by simp [intOf] <;> omega⟩
        · generalize nth s k = y at *
          have CE := Lib.hid (endS s k (.slice (some ad) s.length c) (wr.alloc (.cells #[.int .i64 y.1, .int .i64 y.2] 31)).drew (HV.out.below (((below_then HB1.out HBL.out).alloc (below_then HB1.out HBL.out).size _).drew)) hlt hl)
          have HO1 := Lib.hid ((HOW.out.alloc (.cells #[.int .i64 y.1, .int .i64 y.2] 31)).drewN 1)
          generalize endN s k = z at *
          have HO2 := Lib.hid (HO1.out.alloc (.cells #[.int .i64 y.1, .int .i64 z] 36))
          have HB2 := Lib.hid ((HBL.out.alloc HBL.out.size (.cells #[.int .i64 y.1, .int .i64 y.2] 31)).drew)
          have HX0 := Box2.new wr (.int .i64 y.1) (.int .i64 y.2) 31
          obtain ⟨x0, x1, x2, _, _⟩ := HX0
          go_upto_region 8 with fail
          go_region_held3 (fun w' => w'.cell? ⟨wr.heap.size, 0, none⟩ = some (.int .i64 y.1))
            (first | go_keep | exact box_kept HOW.out (by simp; omega) hg6 (by assumption))
            (first
              | (go_at_call_of 27 (Value.slice (some ad) s.length c); refine CE.out.mono ?_; rintro e w2 ⟨rfl, rfl⟩)
              | (refine step_own spans_t (by rfl) (.tmp 27) (.tmp 34) (by rfl) w1.heap.size _ _ _ (by rfl) HO2.out _ 1 [.int .i64 y.1, .int .i64 z] (by rfl) (by rfl) (raw_at (by simp) #[.int .i64 y.1, .int .i64 z] _) two_cells (by omega) ?_; intro v6 w6 ho6 hb6 hg6))
          all_goals
            go_wp2_with fail
            exact ⟨⟨k + 1, _, rfl, by go_num, by omega, by rw [HX.out, svals_snoc]; exact ho6.cast (by simp) rfl, (HB2.out.alloc HB2.out.size _).trans hb6⟩, by simp [intOf] <;> omega⟩
      · obtain rfl : k = s.length := by omega
        have hgl := gaps_len s m s.length
        have hsp : SpansIs (gapsTo s m s.length) wr o := spans_of_own hown rfl
        have HALL := Lib.hid (fun c h => all_of_less (s := s) (c := c) HC.out (w := m) h)
        have CL := Lib.hid (SpanWalk.cover_is (gapsTo s m s.length) o wr hsp (by omega))
        have HBL := Lib.hid (below_then HB1.out hbl)
        clear hown hbl HL hsp
        generalize gapsTo s m s.length = l at *
        go_wp2_with fail
        refine CL.out.mono ?_
        rintro e w2 ⟨v2, c2, rfl, hs2, hl2, hb2, _⟩
        have HS := Lib.hid hs2
        have HAL := Lib.hid (HALL.out c2 hl2)
        have HB2 := Lib.hid (below_then HBL.out hb2)
        have hcl := cov_len hl2
        simp only [List.length_nil, Nat.add_zero] at hcl
        clear hs2 hl2 hb2 CL
        go_wp2_with fail
        go_ret
        exact ⟨_, c2, rfl, HS.out, .inl ⟨HM.out, HAL.out⟩, HB2.out, by omega⟩
theorem allS (s : List Sp) (m : Int) (v : Value) (w : World) (hv : SpansIs s w v) (hl : s.length ≤ 1000) : Calls Try.prog 16 #[v, .int .i64 m] w (AllTells s m w) :=
  (allL s m v w hv hl).mono fun _ _ ⟨v, c, h1, h2, h3, h4, _⟩ => ⟨v, c, h1, h2, h3, h4⟩
end Go.Proofs.Ytalopnkdnlkdoaa.GapWalk
