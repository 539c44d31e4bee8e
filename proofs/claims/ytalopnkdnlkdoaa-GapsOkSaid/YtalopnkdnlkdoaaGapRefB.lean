/-
  The walk of the document's answer for layer 6: Fit.
-/
import Derived.Test.YtalopnkdnlkdoaaGapRefA
namespace Go.Proofs.Ytalopnkdnlkdoaa.GapRef
open Go.RowKit Go.Proofs.Ytalopnkdnlkdoaa.SpanPlain Go.Proofs.Ytalopnkdnlkdoaa.StepPlain Go.Proofs.Ytalopnkdnlkdoaa.GapPlain Go.Proofs.Ytalopnkdnlkdoaa.Mem Go.Proofs.Ytalopnkdnlkdoaa.SpanMem Go.Proofs.Ytalopnkdnlkdoaa.StepMem Go.Proofs.Ytalopnkdnlkdoaa.SpanRef Go.Proofs.Ytalopnkdnlkdoaa.StepRef
theorem drop_at {s : List Sp} {k : Nat} (h : k < s.length) : s.drop k = nth s k :: s.drop (k + 1) := by unfold nth; rw [getSp h, List.drop_eq_getElem_cons h]
theorem fit_ways (s : List Sp) (f w n : Int) : (decide ((1125899906842624 : Int) < max f (head s)) = true ∧ fitL s f w n = -1) ∨ (decide ((1125899906842624 : Int) < max f (head s)) = false ∧ roomB s (max f (head s)) w n = true ∧ fitL s f w n = max f (head s)) ∨
    (decide ((1125899906842624 : Int) < max f (head s)) = false ∧ roomB s (max f (head s)) w n = false ∧ fitL s f w n = fitStep s (max f (head s)) w n s) := by
  unfold fitL
  by_cases h1 : 1125899906842624 < max f (head s)
  · exact .inl ⟨decide_eq_true h1, if_pos h1⟩
  · rw [if_neg h1]
    cases h2 : roomB s (max f (head s)) w n with
    | true => exact .inr (.inl ⟨decide_eq_false h1, rfl, if_pos rfl⟩)
    | false => exact .inr (.inr ⟨decide_eq_false h1, rfl, if_neg (by simp)⟩)
theorem step_ways (s : List Sp) (f w n : Int) {k : Nat} (h : k < s.length) : (decide (f < (nth s k).1) = false ∧ Hid (fitStep s f w n (s.drop k) = fitStep s f w n (s.drop (k + 1)))) ∨ (decide (f < (nth s k).1) = true ∧ roomB s (nth s k).1 w n = false ∧ Hid (fitStep s f w n (s.drop k) = fitStep s f w n (s.drop (k + 1)))) ∨
    (decide (f < (nth s k).1) = true ∧ roomB s (nth s k).1 w n = true ∧ Hid (fitStep s f w n (s.drop k) = (nth s k).1)) := by
  rw [drop_at h]
  generalize nth s k = y
  by_cases h1 : f < y.1
  · cases h2 : roomB s y.1 w n with
    | false => exact .inr (.inl ⟨decide_eq_true h1, rfl, if_neg (fun h3 => by rw [h2] at h3; cases h3.2)⟩)
    | true => exact .inr (.inr ⟨decide_eq_true h1, rfl, if_pos ⟨h1, h2⟩⟩)
  · exact .inl ⟨decide_eq_false h1, if_neg (fun h3 => h1 h3.1)⟩
theorem ret_is {k : IntKind} {a b : Int} (h : a = b) : Ending.returned (.int k a) = .returned (.int k b) := by rw [h]
def IntA (n : Int) (w : World) (e : Ending) (w' : World) : Prop := e = .returned (.int .i64 n) ∧ Below w.heap.size w w'
set_option maxRecDepth 100000 in
set_option maxHeartbeats 3200000 in
theorem fit6 (s : List Sp) (f m n : Int) (v : Value) (w : World) (hv : SpansIs s w v) (hl : s.length ≤ 9000) (hc : Chk s) (hn1 : 1 ≤ n) (hn2 : n ≤ 1099511627776) :
    Calls Try.prog 9 #[v, .int .i64 f, .int .i64 m, .int .i64 n] w (IntA (fitL s f m n) w) := by
  have CO := Lib.hid (fun a (w' : World) (hb : Below w.heap.size w w') => ok6 s a m n v w' (hv.below hb) hl hc hn1 hn2)
  obtain ⟨A, c, rfl, hA⟩ := hv.open_
  have HA := Lib.hid hA
  have HC := Lib.hid hc
  obtain ⟨ad, rfl, had, c1, _⟩ := pair_zero hA hc.pos
  have hh : (spCell s 0).1 = .int .i64 (head s) := rfl
  rw [hh] at c1
  have hlz : (0 : Int) < (s.length : Int) := by have := hc.pos; omega
  have hw := fit_ways s f m n
  clear hv hA hh hc
  obtain ⟨F, hF, hcase⟩ : ∃ F, F = max f (head s) ∧ ((decide (f < head s) = true ∧ F = head s) ∨ (decide (f < head s) = false ∧ F = f)) := by
    by_cases h1 : f < head s
    · exact ⟨_, rfl, .inl ⟨decide_eq_true h1, by omega⟩⟩
    · exact ⟨_, rfl, .inr ⟨decide_eq_false h1, by omega⟩⟩
  rw [← hF] at hw
  have HW := Lib.hid (fun k (hk : k < s.length) => step_ways s F m n hk)
  have C1 := Lib.hid (CO.out F w (Below.refl _ _))
  generalize fitL s f m n = R at *
  clear hF
  generalize head s = hd at hcase c1
  rcases hcase with ⟨h0, hmx⟩ | ⟨h0, hmx⟩
  · obtain rfl : hd = F := hmx.symm
    clear hmx
    rcases hw with ⟨h1, hr⟩ | ⟨h1, h2, hr⟩ | ⟨h1, h2, hr⟩
    · subst hr
      clear C1 CO HW
      go_enter Try.func9, Try.ntmps9
      go_wp2_with fail
      go_ret
      exact ⟨rfl, Below.refl _ _⟩
    · rw [h2] at C1
      subst hr
      clear CO h2 HW
      go_enter Try.func9, Try.ntmps9
      go_wp2_with fail
      refine C1.out.mono ?_
      rintro e w1 ⟨rfl, hb1⟩
      have HB1 := Lib.hid hb1
      clear hb1
      go_wp2_with fail
      go_ret
      exact ⟨rfl, HB1.out⟩
    · rw [h2] at C1
      subst hr
      clear h2
      go_enter Try.func9, Try.ntmps9
      go_wp2_with fail
      refine C1.out.mono ?_
      rintro e w1 ⟨rfl, hb1⟩
      have HB1 := Lib.hid hb1
      clear hb1 c1 C1
      go_wp2_with fail
      go_loopw [10] (fun i wr => ∃ k : Nat, i = .int .i64 k ∧ k ≤ s.length ∧ Hid (fitStep s hd m n s = fitStep s hd m n (s.drop k) ∧ Below w.heap.size w wr)) (fun i _ => s.length - (intOf i).toNat)
      case atStart => exact ⟨0, rfl, Nat.zero_le _, rfl, HB1.out⟩
      case round =>
        obtain ⟨k, rfl, hk, HL⟩ := hrel
        obtain ⟨he, hbl⟩ := HL.out
        by_cases hlt : k < s.length
        · obtain ⟨ad2, ead, had2, c3, c4⟩ := (HA.out.below hbl) k hlt
          injection ead with ead
          subst ead
          have e1 : (spCell s k).1 = .int .i64 (nth s k).1 := rfl
          rw [e1] at c3
          have hways := HW.out k hlt
          have CK := Lib.hid (CO.out (nth s k).1 wr hbl)
          have hlt2 : (k : Int) < (s.length : Int) := by omega
          have HE := Lib.hid he
          have HBL := Lib.hid hbl
          clear he hbl HL e1 c4
          rcases hways with ⟨g1, HX⟩ | ⟨g1, g2, HX⟩ | ⟨g1, g2, HX⟩
          · have HN := Lib.hid (HE.out.trans HX.out)
            clear CK HX
            generalize nth s k = y at *
            go_wp2_with fail
            exact ⟨⟨k + 1, by go_num, by omega, HN.out, HBL.out⟩, by simp [intOf] <;> omega⟩
          · have HN := Lib.hid (HE.out.trans HX.out)
            rw [g2] at CK
            clear HX g2
            generalize nth s k = y at *
            go_wp2_with fail
            refine CK.out.mono ?_
            rintro e w2 ⟨rfl, hb2⟩
            have HB2 := Lib.hid (HBL.out.trans (hb2.mono HBL.out.size))
            clear hb2
            go_wp2_with fail
            exact ⟨⟨k + 1, by go_num, by omega, HN.out, HB2.out⟩, by simp [intOf] <;> omega⟩
          · have HN := Lib.hid (HE.out.trans HX.out)
            rw [g2] at CK
            clear HX g2
            generalize nth s k = y at *
            go_wp2_with fail
            refine CK.out.mono ?_
            rintro e w2 ⟨rfl, hb2⟩
            have HB2 := Lib.hid (HBL.out.trans (hb2.mono HBL.out.size))
            have c5 := (hb2.cell (by rw [add_block]; exact had2)).trans c3
            clear hb2 c3
            go_wp2_with fail
            go_ret
            exact ⟨ret_is HN.out.symm, HB2.out⟩
        · have HN : Hid (fitStep s hd m n s = -1) := by rw [he, List.drop_eq_nil_of_le (by omega)]; rfl
          have HBL := Lib.hid hbl
          clear he hbl HL
          go_wp2_with fail
          go_ret
          exact ⟨ret_is HN.out.symm, HBL.out⟩
  · obtain rfl : f = F := hmx.symm
    clear hmx
    rcases hw with ⟨h1, hr⟩ | ⟨h1, h2, hr⟩ | ⟨h1, h2, hr⟩
    · subst hr
      clear C1 CO HW
      go_enter Try.func9, Try.ntmps9
      go_wp2_with fail
      go_ret
      exact ⟨rfl, Below.refl _ _⟩
    · rw [h2] at C1
      subst hr
      clear CO h2 HW
      go_enter Try.func9, Try.ntmps9
      go_wp2_with fail
      refine C1.out.mono ?_
      rintro e w1 ⟨rfl, hb1⟩
      have HB1 := Lib.hid hb1
      clear hb1
      go_wp2_with fail
      go_ret
      exact ⟨rfl, HB1.out⟩
    · rw [h2] at C1
      subst hr
      clear h2
      go_enter Try.func9, Try.ntmps9
      go_wp2_with fail
      refine C1.out.mono ?_
      rintro e w1 ⟨rfl, hb1⟩
      have HB1 := Lib.hid hb1
      clear hb1 c1 C1
      go_wp2_with fail
      go_loopw [10] (fun i wr => ∃ k : Nat, i = .int .i64 k ∧ k ≤ s.length ∧ Hid (fitStep s f m n s = fitStep s f m n (s.drop k) ∧ Below w.heap.size w wr)) (fun i _ => s.length - (intOf i).toNat)
      case atStart => exact ⟨0, rfl, Nat.zero_le _, rfl, HB1.out⟩
      case round =>
        obtain ⟨k, rfl, hk, HL⟩ := hrel
        obtain ⟨he, hbl⟩ := HL.out
        by_cases hlt : k < s.length
        · obtain ⟨ad2, ead, had2, c3, c4⟩ := (HA.out.below hbl) k hlt
          injection ead with ead
          subst ead
          have e1 : (spCell s k).1 = .int .i64 (nth s k).1 := rfl
          rw [e1] at c3
          have hways := HW.out k hlt
          have CK := Lib.hid (CO.out (nth s k).1 wr hbl)
          have hlt2 : (k : Int) < (s.length : Int) := by omega
          have HE := Lib.hid he
          have HBL := Lib.hid hbl
          clear he hbl HL e1 c4
          rcases hways with ⟨g1, HX⟩ | ⟨g1, g2, HX⟩ | ⟨g1, g2, HX⟩
          · have HN := Lib.hid (HE.out.trans HX.out)
            clear CK HX
            generalize nth s k = y at *
            go_wp2_with fail
            exact ⟨⟨k + 1, by go_num, by omega, HN.out, HBL.out⟩, by simp [intOf] <;> omega⟩
          · have HN := Lib.hid (HE.out.trans HX.out)
            rw [g2] at CK
            clear HX g2
            generalize nth s k = y at *
            go_wp2_with fail
            refine CK.out.mono ?_
            rintro e w2 ⟨rfl, hb2⟩
            have HB2 := Lib.hid (HBL.out.trans (hb2.mono HBL.out.size))
            clear hb2
            go_wp2_with fail
            exact ⟨⟨k + 1, by go_num, by omega, HN.out, HB2.out⟩, by simp [intOf] <;> omega⟩
          · have HN := Lib.hid (HE.out.trans HX.out)
            rw [g2] at CK
            clear HX g2
            generalize nth s k = y at *
            go_wp2_with fail
            refine CK.out.mono ?_
            rintro e w2 ⟨rfl, hb2⟩
            have HB2 := Lib.hid (HBL.out.trans (hb2.mono HBL.out.size))
            have c5 := (hb2.cell (by rw [add_block]; exact had2)).trans c3
            clear hb2 c3
            go_wp2_with fail
            go_ret
            exact ⟨ret_is HN.out.symm, HB2.out⟩
        · have HN : Hid (fitStep s f m n s = -1) := by rw [he, List.drop_eq_nil_of_le (by omega)]; rfl
          have HBL := Lib.hid hbl
          clear he hbl HL
          go_wp2_with fail
          go_ret
          exact ⟨ret_is HN.out.symm, HBL.out⟩
end Go.Proofs.Ytalopnkdnlkdoaa.GapRef
