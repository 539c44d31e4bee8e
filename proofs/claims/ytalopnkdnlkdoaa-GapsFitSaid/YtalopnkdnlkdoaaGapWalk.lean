/-
  The walks of layer 6's code: Fit, Longest.
-/
import Derived.Test.YtalopnkdnlkdoaaGapWalkB
namespace Go.Proofs.Ytalopnkdnlkdoaa.GapWalk
open Go.RowKit Go.Proofs.Ytalopnkdnlkdoaa.SpanPlain Go.Proofs.Ytalopnkdnlkdoaa.StepPlain Go.Proofs.Ytalopnkdnlkdoaa.GapPlain Go.Proofs.Ytalopnkdnlkdoaa.Mem Go.Proofs.Ytalopnkdnlkdoaa.SpanMem Go.Proofs.Ytalopnkdnlkdoaa.StepMem Go.Proofs.Ytalopnkdnlkdoaa.SpanRef Go.Proofs.Ytalopnkdnlkdoaa.StepRef Go.Proofs.Ytalopnkdnlkdoaa.GapRef
set_option maxRecDepth 100000 in
set_option maxHeartbeats 3200000 in
theorem longS (s : List Sp) (a m : Int) (v : Value) (w : World) (hv : SpansIs s w v) (hl : s.length ≤ 1000) : Calls Try.prog 12 #[v, .int .i64 a, .int .i64 m] w (LongSays s a m w) := by
  have CA := Lib.hid (allL s m v w hv hl)
  clear hv
  go_enter Try.func12, Try.ntmps12
  go_wp2_with fail
  refine CA.out.mono ?_
  rintro e w1 ⟨vc, c, rfl, hc, hof, hb1, hcl⟩
  obtain ⟨A, cc, rfl, hA⟩ := hc.open_
  have HA := Lib.hid hA
  have HO := Lib.hid hof
  have HB1 := Lib.hid hb1
  clear hc hA hof hb1 CA
  go_wp2_with fail
  go_loopw [13] (fun i wr => ∃ k : Nat, i = .int .i64 k ∧ k ≤ c.length ∧ Hid (NoLong c a k ∧ Below w1.heap.size w1 wr)) (fun i _ => c.length - (intOf i).toNat)
  case atStart => exact ⟨0, rfl, Nat.zero_le _, fun j hj => absurd hj (Nat.not_lt_zero _), Below.refl _ _⟩
  case round =>
    obtain ⟨k, rfl, hk, HL⟩ := hrel
    obtain ⟨hn, hbl⟩ := HL.out
    have HBL := Lib.hid hbl
    by_cases hlt : k < c.length
    · obtain ⟨ad, rfl, had, c1, c2⟩ := (HA.out.below hbl) k hlt
      have e1 : (spCell c k).1 = .int .i64 (nth c k).1 := rfl
      have e2 : (spCell c k).2 = .int .i64 (nth c k).2 := rfl
      rw [e1] at c1
      rw [e2] at c2
      have i0 : (0 : Int) ≤ (k : Int) := Int.natCast_nonneg _
      have hlt2 : (k : Int) < (c.length : Int) := by omega
      have CH := Lib.hid (fun W => SpanWalk.hasS (nth c k) a W)
      have hw := long_ways HO.out hlt hn
      clear hn hbl HL e1 e2
      unfold spV at CH
      generalize nth c k = x at *
      have HX := Lib.hid (Box2.new wr (.int .i64 x.1) (.int .i64 x.2) 36)
      have HB2 := Lib.hid (HBL.out.alloc HBL.out.size (.cells #[.int .i64 x.1, .int .i64 x.2] 36))
      rcases hw with ⟨h1, p1, p2, p3, p4, HR⟩ | ⟨h1, HR⟩
      · rw [h1] at CH
        clear h1
        have wr1 : IntKind.i64.wrap (x.2 - a) = x.2 - a := by rw [IntKind.wrap_i64]; omega
        go_wp2_with fail
        refine (CH.out _).mono ?_
        rintro e w2 ⟨rfl, hb2⟩
        obtain ⟨x0, x1, x2, _, _⟩ := HX.out.below hb2
        have HB3 := Lib.hid (HB2.out.trans (hb2.mono HB2.out.size))
        clear hb2
        go_wp2_with fail
        go_ret
        exact ⟨_, rfl, HR.out, below_then HB1.out HB3.out⟩
      · rw [h1] at CH
        clear h1
        go_wp2_with fail
        refine (CH.out _).mono ?_
        rintro e w2 ⟨rfl, hb2⟩
        have HB3 := Lib.hid (HB2.out.trans (hb2.mono HB2.out.size))
        clear hb2
        go_wp2_with fail
        exact ⟨⟨k + 1, by go_num, by omega, HR.out, HB3.out⟩, by simp [intOf] <;> omega⟩
    · have HD := Lib.hid (long_done HO.out (Nat.le_of_not_lt hlt) hn)
      clear hn hbl HL
      go_wp2_with fail
      go_ret
      exact ⟨0, rfl, HD.out, below_then HB1.out HBL.out⟩
set_option maxRecDepth 100000 in
set_option maxHeartbeats 3200000 in
theorem fitS (s : List Sp) (f m n : Int) (v : Value) (w : World) (hv : SpansIs s w v) (hl : s.length ≤ 1000) : Calls Try.prog 7 #[v, .int .i64 f, .int .i64 m, .int .i64 n] w (FitSays s f m n w) := by
  have CL := Lib.hid (fun W => isLongS n W)
  have CA := Lib.hid (allL s m v w hv hl)
  clear hv
  cases hb : lengthB n with
  | false =>
    rw [hb] at CL
    have HN := Lib.hid (fit_short s f m n (fun h => by rw [(lengthB_iff n).2 h] at hb; cases hb))
    clear hb CA
    go_enter Try.func7, Try.ntmps7
    go_wp2_with (go_at_call 20; refine (CL.out _).mono ?_; rintro e w1 ⟨rfl, rfl⟩)
    go_ret2
    exact ⟨0, false, rfl, HN.out, Below.refl _ _⟩
  | true =>
    rw [hb] at CL
    have hn := (lengthB_iff n).1 hb
    clear hb
    go_enter Try.func7, Try.ntmps7
    go_wp2_with (go_at_call 20; refine (CL.out _).mono ?_; rintro e w1 ⟨rfl, rfl⟩)
    refine CA.out.mono ?_
    rintro e w1 ⟨vc, c, rfl, hc, hof, hb1, hcl⟩
    obtain ⟨A, cc, rfl, hA⟩ := hc.open_
    have HA := Lib.hid hA
    have HO := Lib.hid hof
    have HB1 := Lib.hid hb1
    clear hc hA hof hb1 CA CL
    go_wp2_with fail
    go_loopw [20] (fun i wr => ∃ k : Nat, i = .int .i64 k ∧ k ≤ c.length ∧ Hid (NoFit c f n k ∧ Below w1.heap.size w1 wr)) (fun i _ => c.length - (intOf i).toNat)
    case atStart => exact ⟨0, rfl, Nat.zero_le _, fit_start _ _ _, Below.refl _ _⟩
    case round =>
      obtain ⟨k, rfl, hk, HL⟩ := hrel
      obtain ⟨hf, hbl⟩ := HL.out
      have HBL := Lib.hid hbl
      by_cases hlt : k < c.length
      · obtain ⟨ad, rfl, had, c1, c2⟩ := (HA.out.below hbl) k hlt
        have e1 : (spCell c k).1 = .int .i64 (nth c k).1 := rfl
        have e2 : (spCell c k).2 = .int .i64 (nth c k).2 := rfl
        rw [e1] at c1
        rw [e2] at c2
        have i0 : (0 : Int) ≤ (k : Int) := Int.natCast_nonneg _
        have hlt2 : (k : Int) < (c.length : Int) := by omega
        have hw := fit_ways2 s c f m n hn.1 hn.2 HO.out hlt hf
        clear hf hbl HL e1 e2
        generalize nth c k = x at *
        have HX := Lib.hid (Box2.new wr (.int .i64 x.1) (.int .i64 x.2) 36)
        have HB2 := Lib.hid (HBL.out.alloc HBL.out.size (.cells #[.int .i64 x.1, .int .i64 x.2] 36))
        have HB3 := Lib.hid (below_then HB1.out HB2.out)
        obtain ⟨x0, x1, x2, _, _⟩ := HX.out
        rcases hw with ⟨g2, HR⟩ | ⟨g2, wr1, g3, HR⟩ | ⟨g2, wr1, g3, HR⟩
        · go_wp2_with fail
          go_ret2
          exact ⟨0, false, rfl, HR.out, HB3.out⟩
        · go_wp2_with fail
          go_ret2
          exact ⟨_, true, rfl, HR.out, HB3.out⟩
        · go_wp2_with fail
          exact ⟨⟨k + 1, by go_num, by omega, HR.out, HB2.out⟩, by simp [intOf] <;> omega⟩
      · have HD := Lib.hid (fit_done hn.1 hn.2 HO.out (Nat.le_of_not_lt hlt) hf)
        clear hf hbl HL
        go_wp2_with fail
        go_ret2
        exact ⟨0, false, rfl, HD.out, below_then HB1.out HBL.out⟩
end Go.Proofs.Ytalopnkdnlkdoaa.GapWalk
