/-
  The walks of the document's answers for layer 6: May, Ok. The walk of the document's answer for layer 6: Fit. The walk of the document's answer for layer 6: All. What layer 6's functions answer: the posts that the law texts name; the example of the statements.
-/
import Derived.Test.YtonapgbokbeopaaGapPlain
import Derived.Test.YtonapgbokbeopaaStepRef0
import Derived.Test.YtonapgbokbeopaaSpanRef0
import Derived.Test.YtonapgbokbeopaaSpanPlain
namespace Go.Proofs.Ytonapgbokbeopaa.GapRef
open Go.RowKit Go.Proofs.Ytonapgbokbeopaa.SpanPlain Go.Proofs.Ytonapgbokbeopaa.StepPlain Go.Proofs.Ytonapgbokbeopaa.GapPlain Go.Proofs.Ytonapgbokbeopaa.Mem Go.Proofs.Ytonapgbokbeopaa.SpanMem Go.Proofs.Ytonapgbokbeopaa.StepMem Go.Proofs.Ytonapgbokbeopaa.SpanRef Go.Proofs.Ytonapgbokbeopaa.StepRef
theorem mayg_ways (s : List Sp) (w n : Int) : (mayG s w n = false ∧ chkB s = false) ∨ (mayG s w n = false ∧ chkB s = true ∧ decide (1 ≤ w) = false) ∨ (mayG s w n = false ∧ chkB s = true ∧ decide (1 ≤ w) = true ∧ decide (w ≤ 256) = false) ∨
    (mayG s w n = false ∧ chkB s = true ∧ decide (1 ≤ w) = true ∧ decide (w ≤ 256) = true ∧ decide (1 ≤ n) = false) ∨ (mayG s w n = false ∧ chkB s = true ∧ decide (1 ≤ w) = true ∧ decide (w ≤ 256) = true ∧ decide (1 ≤ n) = true ∧ decide (n ≤ 1099511627776) = false) ∨
    (mayG s w n = true ∧ chkB s = true ∧ decide (1 ≤ w) = true ∧ decide (w ≤ 256) = true ∧ decide (1 ≤ n) = true ∧ decide (n ≤ 1099511627776) = true) := by
  unfold mayG
  cases chkB s <;> cases decide (1 ≤ w) <;> cases decide (w ≤ 256) <;> cases decide (1 ≤ n) <;> cases decide (n ≤ 1099511627776) <;> simp
set_option maxHeartbeats 1600000 in
theorem may6 (s : List Sp) (a n : Int) (v : Value) (w : World) (hv : SpansIs s w v) (hl : s.length ≤ 9000) : Calls Try.prog 22 #[v, .int .i64 a, .int .i64 n] w (BoolIs (mayG s a n) w) := by
  have CC := Lib.hid (check4 s v w hv hl)
  have hw := mayg_ways s a n
  clear hv
  rcases hw with ⟨hm, hc⟩ | ⟨hm, hc, h1⟩ | ⟨hm, hc, h1, h2⟩ | ⟨hm, hc, h1, h2, h3⟩ | ⟨hm, hc, h1, h2, h3, h4⟩ | ⟨hm, hc, h1, h2, h3, h4⟩
  all_goals
    rw [hc] at CC
    rw [hm]
    clear hm hc
    go_enter Try.func22, Try.ntmps22
    go_wp2_with fail
    refine CC.out.mono ?_
    rintro e w1 ⟨rfl, q, rfl⟩
    go_wp2_with fail
    go_ret
    exact ⟨rfl, below_drewN (Below.refl _ _) q⟩
theorem roomb_ways (s : List Sp) (a w n : Int) : (roomB s a w n = false ∧ decide (head s ≤ a) = false) ∨ (roomB s a w n = false ∧ decide (head s ≤ a) = true ∧ decide (a ≤ 1125899906842624) = false) ∨
    (decide (head s ≤ a) = true ∧ decide (a ≤ 1125899906842624) = true ∧ roomB s a w n = decide (w ≤ minTo s (a, a + n) s.length)) := by
  unfold roomB
  cases decide (head s ≤ a) <;> cases decide (a ≤ 1125899906842624) <;> simp
set_option maxHeartbeats 1600000 in
theorem ok6 (s : List Sp) (a m n : Int) (v : Value) (w : World) (hv : SpansIs s w v) (hl : s.length ≤ 9000) (hc : Chk s) (hn1 : 1 ≤ n) (hn2 : n ≤ 1099511627776) :
    Calls Try.prog 27 #[v, .int .i64 a, .int .i64 m, .int .i64 n] w (BoolIs (roomB s a m n) w) := by
  have CM := Lib.hid (min4 s (a, a + n) v w hv hl)
  obtain ⟨A, c, rfl, hA⟩ := hv.open_
  obtain ⟨ad, rfl, had, c1, _⟩ := pair_zero hA hc.pos
  have hh : (spCell s 0).1 = .int .i64 (head s) := rfl
  rw [hh] at c1
  have hlz : (0 : Int) < (s.length : Int) := by have := hc.pos; omega
  have hlo := hc.lo
  have hw := roomb_ways s a m n
  unfold spV at CM
  dsimp only at CM
  clear hv hA hh hc
  generalize head s = h at *
  rcases hw with ⟨hr, h1⟩ | ⟨hr, h1, h2⟩ | ⟨h1, h2, hr⟩
  · rw [hr]
    clear hr CM
    go_enter Try.func27, Try.ntmps27
    go_wp2_with fail
    go_ret
    exact ⟨rfl, Below.refl _ _⟩
  · rw [hr]
    clear hr CM
    go_enter Try.func27, Try.ntmps27
    go_wp2_with fail
    go_ret
    exact ⟨rfl, Below.refl _ _⟩
  · have a1 := of_decide_eq_true h1
    have a2 := of_decide_eq_true h2
    generalize minTo s (a, a + n) s.length = x at *
    generalize roomB s a m n = R at *
    subst hr
    cases hx : decide (m ≤ x)
    all_goals
      go_enter Try.func27, Try.ntmps27
      go_wp2_with fail
      refine CM.out.mono ?_
      rintro e w1 ⟨rfl, hb1⟩
      have HB1 := Lib.hid hb1
      clear hb1
      go_wp2_with fail
      go_ret
      exact ⟨rfl, HB1.out⟩
end Go.Proofs.Ytonapgbokbeopaa.GapRef
namespace Go.Proofs.Ytonapgbokbeopaa.GapRef
open Go.RowKit Go.Proofs.Ytonapgbokbeopaa.SpanPlain Go.Proofs.Ytonapgbokbeopaa.StepPlain Go.Proofs.Ytonapgbokbeopaa.GapPlain Go.Proofs.Ytonapgbokbeopaa.Mem Go.Proofs.Ytonapgbokbeopaa.SpanMem Go.Proofs.Ytonapgbokbeopaa.StepMem Go.Proofs.Ytonapgbokbeopaa.SpanRef Go.Proofs.Ytonapgbokbeopaa.StepRef
theorem drop_at {s : List Sp} {k : Nat} (h : k < s.length) : s.drop k = nth s k :: s.drop (k + 1) := by unfold nth; rw [getSp h, List.drop_eq_getElem_cons h]
theorem fit_ways (s : List Sp) (f w n : Int) : (decide ((1125899906842624 : Int) < max f (head s)) = true ∧ fitL s f w n = -1) ∨ (decide ((1125899906842624 : Int) < max f (head s)) = false ∧ roomB s (max f (head s)) w n = true ∧ fitL s f w n = max f (head s)) ∨
    (decide ((1125899906842624 : Int) < max f (head s)) = false ∧ roomB s (max f (head s)) w n = false ∧ fitL s f w n = fitStep s (max f (head s)) w n s) := by
  unfold fitL
  by_cases h1 : 1125899906842624 < max f (head s)
  · exact .inl ⟨decide_eq_true h1, if_pos h1⟩
  · rw [if_neg h1]
    cases h2 : roomB s (max f (head s)) w n with
    | true => exact .inr (.inl ⟨decide_eq_false h1, rfl, if_pos rfl⟩)
    | false => exact .inr (.inr ⟨decide_eq_false h1, rfl, if_neg (by simp)⟩)
theorem step_ways (s : List Sp) (f w n : Int) {k : Nat} (h : k < s.length) : (decide (f < (nth s k).1) = false ∧ Hid (fitStep s f w n (s.drop k) = fitStep s f w n (s.drop (k + 1)))) ∨ (decide (f < (nth s k).1) = true ∧ roomB s (nth s k).1 w n = false ∧ Hid (fitStep s f w n (s.drop k) = fitStep s f w n (s.drop (k + 1)))) ∨
    (decide (f < (nth s k).1) = true ∧ roomB s (nth s k).1 w n = true ∧ Hid (fitStep s f w n (s.drop k) = (nth s k).1)) := by
  rw [drop_at h]
  generalize nth s k = y
  by_cases h1 : f < y.1
  · cases h2 : roomB s y.1 w n with
    | false => exact .inr (.inl ⟨decide_eq_true h1, rfl, if_neg (fun h3 => by rw [h2] at h3; cases h3.2)⟩)
    | true => exact .inr (.inr ⟨decide_eq_true h1, rfl, if_pos ⟨h1, h2⟩⟩)
  · exact .inl ⟨decide_eq_false h1, if_neg (fun h3 => h1 h3.1)⟩
theorem ret_is {k : IntKind} {a b : Int} (h : a = b) : Ending.returned (.int k a) = .returned (.int k b) := by rw [h]
def IntA (n : Int) (w : World) (e : Ending) (w' : World) : Prop := e = .returned (.int .i64 n) ∧ Below w.heap.size w w'
set_option maxRecDepth 100000 in
set_option maxHeartbeats 3200000 in
theorem fit6 (s : List Sp) (f m n : Int) (v : Value) (w : World) (hv : SpansIs s w v) (hl : s.length ≤ 9000) (hc : Chk s) (hn1 : 1 ≤ n) (hn2 : n ≤ 1099511627776) :
    Calls Try.prog 23 #[v, .int .i64 f, .int .i64 m, .int .i64 n] w (IntA (fitL s f m n) w) := by
  have CO := Lib.hid (fun a (w' : World) (hb : Below w.heap.size w w') => ok6 s a m n v w' (hv.below hb) hl hc hn1 hn2)
  obtain ⟨A, c, rfl, hA⟩ := hv.open_
  have HA := Lib.hid hA
  have HC := Lib.hid hc
  obtain ⟨ad, rfl, had, c1, _⟩ := pair_zero hA hc.pos
  have hh : (spCell s 0).1 = .int .i64 (head s) := rfl
  rw [hh] at c1
  have hlz : (0 : Int) < (s.length : Int) := by have := hc.pos; omega
  have hw := fit_ways s f m n
  clear hv hA hh hc
  obtain ⟨F, hF, hcase⟩ : ∃ F, F = max f (head s) ∧ ((decide (f < head s) = true ∧ F = head s) ∨ (decide (f < head s) = false ∧ F = f)) := by
    by_cases h1 : f < head s
    · exact ⟨_, rfl, .inl ⟨decide_eq_true h1, by omega⟩⟩
    · exact ⟨_, rfl, .inr ⟨decide_eq_false h1, by omega⟩⟩
  rw [← hF] at hw
  have HW := Lib.hid (fun k (hk : k < s.length) => step_ways s F m n hk)
  have C1 := Lib.hid (CO.out F w (Below.refl _ _))
  generalize fitL s f m n = R at *
  clear hF
  generalize head s = hd at hcase c1
  rcases hcase with ⟨h0, hmx⟩ | ⟨h0, hmx⟩
  · obtain rfl : hd = F := hmx.symm
    clear hmx
    rcases hw with ⟨h1, hr⟩ | ⟨h1, h2, hr⟩ | ⟨h1, h2, hr⟩
    · subst hr
      clear C1 CO HW
      go_enter Try.func23, Try.ntmps23
      go_wp2_with fail
      go_ret
      exact ⟨rfl, Below.refl _ _⟩
    · rw [h2] at C1
      subst hr
      clear CO h2 HW
      go_enter Try.func23, Try.ntmps23
      go_wp2_with fail
      refine C1.out.mono ?_
      rintro e w1 ⟨rfl, hb1⟩
      have HB1 := Lib.hid hb1
      clear hb1
      go_wp2_with fail
      go_ret
      exact ⟨rfl, HB1.out⟩
    · rw [h2] at C1
      subst hr
      clear h2
      go_enter Try.func23, Try.ntmps23
      go_wp2_with fail
      refine C1.out.mono ?_
      rintro e w1 ⟨rfl, hb1⟩
      have HB1 := Lib.hid hb1
      clear hb1 c1 C1
      go_wp2_with fail
      go_loopw [10] (fun i wr => ∃ k : Nat, i = .int .i64 k ∧ k ≤ s.length ∧ Hid (fitStep s hd m n s = fitStep s hd m n (s.drop k) ∧ Below w.heap.size w wr)) (fun i _ => s.length - (intOf i).toNat)
      case atStart => exact ⟨0, rfl, Nat.zero_le _, rfl, HB1.out⟩
      case round =>
        obtain ⟨k, rfl, hk, HL⟩ := hrel
        obtain ⟨he, hbl⟩ := HL.out
        by_cases hlt : k < s.length
        · obtain ⟨ad2, ead, had2, c3, c4⟩ := (HA.out.below hbl) k hlt
          injection ead with ead
          subst ead
          have e1 : (spCell s k).1 = .int .i64 (nth s k).1 := rfl
          rw [e1] at c3
          have hways := HW.out k hlt
          have CK := Lib.hid (CO.out (nth s k).1 wr hbl)
          have hlt2 : (k : Int) < (s.length : Int) := by omega
          have HE := Lib.hid he
          have HBL := Lib.hid hbl
          clear he hbl HL e1 c4
          rcases hways with ⟨g1, HX⟩ | ⟨g1, g2, HX⟩ | ⟨g1, g2, HX⟩
          · have HN := Lib.hid (HE.out.trans HX.out)
            clear CK HX
            generalize nth s k = y at *
            go_wp2_with fail
            exact ⟨⟨k + 1, by go_num, by omega, HN.out, HBL.out⟩, by simp [intOf] <;> omega⟩
          · have HN := Lib.hid (HE.out.trans HX.out)
            rw [g2] at CK
            clear HX g2
            generalize nth s k = y at *
            go_wp2_with fail
            refine CK.out.mono ?_
            rintro e w2 ⟨rfl, hb2⟩
            have HB2 := Lib.hid (HBL.out.trans (hb2.mono HBL.out.size))
            clear hb2
            go_wp2_with fail
            exact ⟨⟨k + 1, by go_num, by omega, HN.out, HB2.out⟩, by simp [intOf] <;> omega⟩
          · have HN := Lib.hid (HE.out.trans HX.out)
            rw [g2] at CK
            clear HX g2
            generalize nth s k = y at *
            go_wp2_with fail
            refine CK.out.mono ?_
            rintro e w2 ⟨rfl, hb2⟩
            have HB2 := Lib.hid (HBL.out.trans (hb2.mono HBL.out.size))
            have c5 := (hb2.cell (by rw [add_block]; exact had2)).trans c3
            clear hb2 c3
            go_wp2_with fail
            go_ret
            exact ⟨ret_is HN.out.symm, HB2.out⟩
        · have HN : Hid (fitStep s hd m n s = -1) := by rw [he, List.drop_eq_nil_of_le (by omega)]; rfl
          have HBL := Lib.hid hbl
          clear he hbl HL
          go_wp2_with fail
          go_ret
          exact ⟨ret_is HN.out.symm, HBL.out⟩
  · obtain rfl : f = F := hmx.symm
    clear hmx
    rcases hw with ⟨h1, hr⟩ | ⟨h1, h2, hr⟩ | ⟨h1, h2, hr⟩
    · subst hr
      clear C1 CO HW
      go_enter Try.func23, Try.ntmps23
      go_wp2_with fail
      go_ret
      exact ⟨rfl, Below.refl _ _⟩
    · rw [h2] at C1
      subst hr
      clear CO h2 HW
      go_enter Try.func23, Try.ntmps23
      go_wp2_with fail
      refine C1.out.mono ?_
      rintro e w1 ⟨rfl, hb1⟩
      have HB1 := Lib.hid hb1
      clear hb1
      go_wp2_with fail
      go_ret
      exact ⟨rfl, HB1.out⟩
    · rw [h2] at C1
      subst hr
      clear h2
      go_enter Try.func23, Try.ntmps23
      go_wp2_with fail
      refine C1.out.mono ?_
      rintro e w1 ⟨rfl, hb1⟩
      have HB1 := Lib.hid hb1
      clear hb1 c1 C1
      go_wp2_with fail
      go_loopw [10] (fun i wr => ∃ k : Nat, i = .int .i64 k ∧ k ≤ s.length ∧ Hid (fitStep s f m n s = fitStep s f m n (s.drop k) ∧ Below w.heap.size w wr)) (fun i _ => s.length - (intOf i).toNat)
      case atStart => exact ⟨0, rfl, Nat.zero_le _, rfl, HB1.out⟩
      case round =>
        obtain ⟨k, rfl, hk, HL⟩ := hrel
        obtain ⟨he, hbl⟩ := HL.out
        by_cases hlt : k < s.length
        · obtain ⟨ad2, ead, had2, c3, c4⟩ := (HA.out.below hbl) k hlt
          injection ead with ead
          subst ead
          have e1 : (spCell s k).1 = .int .i64 (nth s k).1 := rfl
          rw [e1] at c3
          have hways := HW.out k hlt
          have CK := Lib.hid (CO.out (nth s k).1 wr hbl)
          have hlt2 : (k : Int) < (s.length : Int) := by omega
          have HE := Lib.hid he
          have HBL := Lib.hid hbl
          clear he hbl HL e1 c4
          rcases hways with ⟨g1, HX⟩ | ⟨g1, g2, HX⟩ | ⟨g1, g2, HX⟩
          · have HN := Lib.hid (HE.out.trans HX.out)
            clear CK HX
            generalize nth s k = y at *
            go_wp2_with fail
            exact ⟨⟨k + 1, by go_num, by omega, HN.out, HBL.out⟩, by simp [intOf] <;> omega⟩
          · have HN := Lib.hid (HE.out.trans HX.out)
            rw [g2] at CK
            clear HX g2
            generalize nth s k = y at *
            go_wp2_with fail
            refine CK.out.mono ?_
            rintro e w2 ⟨rfl, hb2⟩
            have HB2 := Lib.hid (HBL.out.trans (hb2.mono HBL.out.size))
            clear hb2
            go_wp2_with fail
            exact ⟨⟨k + 1, by go_num, by omega, HN.out, HB2.out⟩, by simp [intOf] <;> omega⟩
          · have HN := Lib.hid (HE.out.trans HX.out)
            rw [g2] at CK
            clear HX g2
            generalize nth s k = y at *
            go_wp2_with fail
            refine CK.out.mono ?_
            rintro e w2 ⟨rfl, hb2⟩
            have HB2 := Lib.hid (HBL.out.trans (hb2.mono HBL.out.size))
            have c5 := (hb2.cell (by rw [add_block]; exact had2)).trans c3
            clear hb2 c3
            go_wp2_with fail
            go_ret
            exact ⟨ret_is HN.out.symm, HB2.out⟩
        · have HN : Hid (fitStep s f m n s = -1) := by rw [he, List.drop_eq_nil_of_le (by omega)]; rfl
          have HBL := Lib.hid hbl
          clear he hbl HL
          go_wp2_with fail
          go_ret
          exact ⟨ret_is HN.out.symm, HBL.out⟩
end Go.Proofs.Ytonapgbokbeopaa.GapRef
namespace Go.Proofs.Ytonapgbokbeopaa.GapRef
open Go.RowKit Go.Proofs.Ytonapgbokbeopaa.SpanPlain Go.Proofs.Ytonapgbokbeopaa.StepPlain Go.Proofs.Ytonapgbokbeopaa.GapPlain Go.Proofs.Ytonapgbokbeopaa.Mem Go.Proofs.Ytonapgbokbeopaa.SpanMem Go.Proofs.Ytonapgbokbeopaa.StepMem Go.Proofs.Ytonapgbokbeopaa.SpanRef Go.Proofs.Ytonapgbokbeopaa.StepRef
/-- What All answers. -/
def CoverSays (s : List Sp) (m : Int) (w : World) (e : Ending) (w' : World) : Prop := ∃ v c, e = .returned v ∧ SpansIs c w' v ∧ AllIs s m c ∧ c.length ≤ s.length ∧ Below w.heap.size w w'
def CoverLoop (s : List Sp) (m : Int) (w wr : World) (v : Value) (k : Nat) : Prop := OwnN 40 2 w.heap.size wr v (gapsTo s m k).length (svals (gapsTo s m k)) ∧ Below w.heap.size w wr
theorem gap_ways (s : List Sp) (m : Int) {k : Nat} (hk : k < s.length) : (decide (m ≤ (nth s k).2) = false ∧ Hid (gapsTo s m (k + 1) = gapsTo s m k)) ∨ (decide (m ≤ (nth s k).2) = true ∧ k + 1 < s.length ∧ Hid (gapsTo s m (k + 1) = gapsTo s m k ++ [((nth s k).1, (nth s (k + 1)).1)])) ∨
    (decide (m ≤ (nth s k).2) = true ∧ k + 1 = s.length ∧ Hid (gapsTo s m (k + 1) = gapsTo s m k ++ [((nth s k).1, 4503599627370496)])) := by
  rw [gaps_next]
  unfold gapSp
  by_cases h1 : m ≤ (nth s k).2
  · rw [if_pos h1]
    by_cases h2 : k + 1 < s.length
    · rw [if_pos h2]; exact .inr (.inl ⟨decide_eq_true h1, h2, rfl⟩)
    · rw [if_neg h2]; exact .inr (.inr ⟨decide_eq_true h1, by omega, rfl⟩)
  · rw [if_neg h1, List.append_nil]; exact .inl ⟨decide_eq_false h1, rfl⟩
end Go.Proofs.Ytonapgbokbeopaa.GapRef
namespace Go.Proofs.Ytonapgbokbeopaa.GapWalk
open Go.RowKit Go.Proofs.Ytonapgbokbeopaa.SpanPlain Go.Proofs.Ytonapgbokbeopaa.StepPlain Go.Proofs.Ytonapgbokbeopaa.GapPlain Go.Proofs.Ytonapgbokbeopaa.Mem Go.Proofs.Ytonapgbokbeopaa.SpanMem Go.Proofs.Ytonapgbokbeopaa.StepMem Go.Proofs.Ytonapgbokbeopaa.SpanRef Go.Proofs.Ytonapgbokbeopaa.StepRef Go.Proofs.Ytonapgbokbeopaa.GapRef
def TrueIs (w : World) (e : Ending) (w' : World) : Prop := e = .returned (.bool true) ∧ Below w.heap.size w w'
def FitSays (s : List Sp) (f m n : Int) (w : World) (e : Ending) (w' : World) : Prop := ∃ r b, e = .returned (.tuple #[.int .i64 r, .bool b]) ∧ FitIs s f m n r b ∧ Below w.heap.size w w'
def AllTells (s : List Sp) (m : Int) (w : World) (e : Ending) (w' : World) : Prop := ∃ v c, e = .returned v ∧ SpansIs c w' v ∧ AllSays s m c ∧ Below w.heap.size w w'
def WideSays (s : List Sp) (a n : Int) (w : World) (e : Ending) (w' : World) : Prop := ∃ m, e = .returned (.int .i64 m) ∧ WideIs s a n m ∧ Below w.heap.size w w'
def LongSays (s : List Sp) (a m : Int) (w : World) (e : Ending) (w' : World) : Prop := ∃ k, e = .returned (.int .i64 k) ∧ LongIs s a m k ∧ Below w.heap.size w w'
def exG : List Sp := [(0, 5), (2, 2), (4, 5)]
theorem ex_may : mayG exG 3 3 = true := by decide
theorem ex_fit {r : Int} {b : Bool} (h : FitIs exG 0 3 3 r b) : r = 4 ∧ b = true := by
  have h1 := (fit_spec (f := 0) ex_may).1 (by decide)
  obtain ⟨h2, h3⟩ := h.unique h1
  exact ⟨h2.trans (by decide), h3⟩
theorem ex_ok : okG exG 0 3 2 = true := by decide
theorem ex_wide {m : Int} (h : WideIs exG 1 5 m) : m = 2 := (h.unique (wide_is (by decide) (by decide) (by decide))).trans (by decide)
theorem ex_long {m : Int} (h : LongIs exG 1 3 m) : m = 1 := by
  refine h.unique (.inl ⟨by decide, by decide, by decide, fun t h1 h2 => ?_, by decide⟩)
  obtain rfl : t = 1 := by omega
  decide
end Go.Proofs.Ytonapgbokbeopaa.GapWalk
