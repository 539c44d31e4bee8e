/-
  The walk of the document's answer for layer 6: All.
-/
import Derived.Test.YtalopnkdnlkdoaaGapRefA
import Derived.Test.YtalopnkdnlkdoaaSpanRefD
import Derived.Test.YtalopnkdnlkdoaaSpanPlain
namespace Go.Proofs.Ytalopnkdnlkdoaa.GapRef
open Go.RowKit Go.Proofs.Ytalopnkdnlkdoaa.SpanPlain Go.Proofs.Ytalopnkdnlkdoaa.StepPlain Go.Proofs.Ytalopnkdnlkdoaa.GapPlain Go.Proofs.Ytalopnkdnlkdoaa.Mem Go.Proofs.Ytalopnkdnlkdoaa.SpanMem Go.Proofs.Ytalopnkdnlkdoaa.StepMem Go.Proofs.Ytalopnkdnlkdoaa.SpanRef Go.Proofs.Ytalopnkdnlkdoaa.StepRef
/-- What All answers. -/
def CoverSays (s : List Sp) (m : Int) (w : World) (e : Ending) (w' : World) : Prop := ∃ v c, e = .returned v ∧ SpansIs c w' v ∧ AllIs s m c ∧ c.length ≤ s.length ∧ Below w.heap.size w w'
def CoverLoop (s : List Sp) (m : Int) (w wr : World) (v : Value) (k : Nat) : Prop := OwnN 36 2 w.heap.size wr v (gapsTo s m k).length (svals (gapsTo s m k)) ∧ Below w.heap.size w wr
theorem gap_ways (s : List Sp) (m : Int) {k : Nat} (hk : k < s.length) : (decide (m ≤ (nth s k).2) = false ∧ Hid (gapsTo s m (k + 1) = gapsTo s m k)) ∨ (decide (m ≤ (nth s k).2) = true ∧ k + 1 < s.length ∧ Hid (gapsTo s m (k + 1) = gapsTo s m k ++ [((nth s k).1, (nth s (k + 1)).1)])) ∨
    (decide (m ≤ (nth s k).2) = true ∧ k + 1 = s.length ∧ Hid (gapsTo s m (k + 1) = gapsTo s m k ++ [((nth s k).1, 4503599627370496)])) := by
  rw [gaps_next]
  unfold gapSp
  by_cases h1 : m ≤ (nth s k).2
  · rw [if_pos h1]
    by_cases h2 : k + 1 < s.length
    · rw [if_pos h2]; exact .inr (.inl ⟨decide_eq_true h1, h2, rfl⟩)
    · rw [if_neg h2]; exact .inr (.inr ⟨decide_eq_true h1, by omega, rfl⟩)
  · rw [if_neg h1, List.append_nil]; exact .inl ⟨decide_eq_false h1, rfl⟩
set_option maxRecDepth 100000 in
set_option maxHeartbeats 3200000 in
theorem all6 (s : List Sp) (m : Int) (v : Value) (w : World) (hv : SpansIs s w v) (hl : s.length ≤ 1000) (hc : Chk s) : Calls Try.prog 15 #[v, .int .i64 m] w (CoverSays s m w) := by
  obtain ⟨A, c, rfl, hA⟩ := hv.open_
  have HA := Lib.hid hA
  have HC := Lib.hid hc
  clear hv hA hc
  have HO0 := Lib.hid (OwnR.new w 36 2).toN
  go_enter Try.func15, Try.ntmps15
  go_wp2_with fail
  go_loopw [5, 6] (fun o i wr => ∃ (k : Nat) (v : Value), v = o ∧ i = .int .i64 k ∧ k ≤ s.length ∧ Hid (CoverLoop s m w wr v k)) (fun _ i _ => s.length - (intOf i).toNat)
  case atStart => exact ⟨0, _, rfl, rfl, Nat.zero_le _, HO0.out, (Below.refl _ _).alloc (Nat.le_refl _) _⟩
  case round =>
    obtain ⟨k, o, hov, rfl, hk, HL⟩ := hrel
    subst hov
    obtain ⟨hown, hbl⟩ := HL.out
    by_cases hlt : k < s.length
    · obtain ⟨ad, rfl, had, c1, c2⟩ := (HA.out.below hbl) k hlt
      have e1 : (spCell s k).1 = .int .i64 (nth s k).1 := rfl
      have e2 : (spCell s k).2 = .int .i64 (nth s k).2 := rfl
      rw [e1] at c1
      rw [e2] at c2
      have hways := gap_ways s m hlt
      have hgl := gaps_len s m k
      have i0 : (0 : Int) ≤ (k : Int) := Int.natCast_nonneg _
      have hlt2 : (k : Int) < (s.length : Int) := by omega
      have HOW := Lib.hid hown
      have HBL := Lib.hid hbl
      obtain ⟨B, cb, hsh⟩ := hown.shape
      subst hsh
      unfold CoverLoop
      clear hown hbl HL e1 e2
      by_cases hnx : k + 1 < s.length
      · obtain ⟨ad2, ead, had2, c3, _⟩ := (HA.out.below HBL.out) (k + 1) hnx
        injection ead with ead
        subst ead
        have e3 : (spCell s (k + 1)).1 = .int .i64 (nth s (k + 1)).1 := rfl
        rw [e3] at c3
        have d1 : decide ((k : Int) + 1 < (s.length : Int)) = true := decide_eq_true (by omega)
        have i1 : (0 : Int) ≤ (k : Int) + 1 := by omega
        have i2 : (k : Int) + 1 < (s.length : Int) := by omega
        have i3 : ((k : Int) + 1).toNat = k + 1 := by omega
        clear e3
        rcases hways with ⟨h1, HX⟩ | ⟨h1, _, HX⟩ | ⟨_, h2, _⟩
        · generalize nth s k = y at *
          generalize nth s (k + 1) = z at *
          go_wp2_with fail
          exact ⟨⟨k + 1, _, rfl, by go_num, by omega, by rw [HX.out]; exact HOW.out, HBL.out⟩, by simp [intOf] <;> omega⟩
        · generalize nth s k = y at *
          generalize nth s (k + 1) = z at *
          have HO1 := Lib.hid (HOW.out.alloc (.cells #[.int .i64 y.1, .int .i64 z.1] 36))
          go_wp2_with (at_builtin; refine push_own spans_t rfl (.tmp 33) (.tmp 41) rfl w.heap.size _ _ _ rfl HO1.out _ 1 [.int .i64 y.1, .int .i64 z.1] rfl rfl ?h1a two_cells ?h1b ?_)
          case h1a => exact raw_at (by simp) #[.int .i64 y.1, .int .i64 z.1] _
          case h1b => omega
          intro v5 w5 ho5 hb5 _
          have HO5 := Lib.hid ho5
          have HB5 := Lib.hid ((HBL.out.alloc HBL.out.size _).trans hb5)
          clear ho5 hb5
          go_wp2_with fail
          exact ⟨⟨k + 1, _, rfl, by go_num, by omega, by rw [HX.out, svals_snoc]; exact HO5.out.cast (by simp) rfl, HB5.out⟩, by simp [intOf] <;> omega⟩
        · omega
      · have d1 : decide ((k : Int) + 1 < (s.length : Int)) = false := decide_eq_false (by omega)
        rcases hways with ⟨h1, HX⟩ | ⟨_, h2, _⟩ | ⟨h1, _, HX⟩
        · generalize nth s k = y at *
          go_wp2_with fail
          exact ⟨⟨k + 1, _, rfl, by go_num, by omega, by rw [HX.out]; exact HOW.out, HBL.out⟩, by simp [intOf] <;> omega⟩
        · omega
        · generalize nth s k = y at *
          have HO1 := Lib.hid (HOW.out.alloc (.cells #[.int .i64 y.1, .int .i64 4503599627370496] 36))
          go_wp2_with (at_builtin; refine push_own spans_t rfl (.tmp 33) (.tmp 41) rfl w.heap.size _ _ _ rfl HO1.out _ 1 [.int .i64 y.1, .int .i64 4503599627370496] rfl rfl ?h2a two_cells ?h2b ?_)
          case h2a => exact raw_at (by simp) #[.int .i64 y.1, .int .i64 4503599627370496] _
          case h2b => omega
          intro v5 w5 ho5 hb5 _
          have HO5 := Lib.hid ho5
          have HB5 := Lib.hid ((HBL.out.alloc HBL.out.size _).trans hb5)
          clear ho5 hb5
          go_wp2_with fail
          exact ⟨⟨k + 1, _, rfl, by go_num, by omega, by rw [HX.out, svals_snoc]; exact HO5.out.cast (by simp) rfl, HB5.out⟩, by simp [intOf] <;> omega⟩
    · obtain rfl : k = s.length := by omega
      have hgl := gaps_len s m s.length
      have hsp : SpansIs (gapsTo s m s.length) wr o := spans_of_own hown rfl
      have HALL := Lib.hid (fun c h => all_of_less (s := s) (c := c) HC.out (w := m) h)
      have CL := Lib.hid (less_any (gapsTo s m s.length) [] o (.slice none 0 0) wr hsp (.inl ⟨rfl, rfl⟩) (by omega) (by simp))
      have HBL := Lib.hid hbl
      clear hown hbl HL hsp
      generalize gapsTo s m s.length = l at *
      go_wp2_with fail
      refine CL.out.mono ?_
      rintro e w2 ⟨v2, c2, rfl, hs2, hl2, hn2, hb2⟩
      have hcl := cov_len hl2
      have HS := Lib.hid hs2
      have HAL := Lib.hid (HALL.out c2 hl2)
      have HB2 := Lib.hid (HBL.out.trans (hb2.mono HBL.out.size))
      clear hs2 hl2 hb2 CL
      go_wp2_with fail
      go_ret
      exact ⟨_, c2, rfl, HS.out, HAL.out, by simp at hcl; omega, HB2.out⟩
end Go.Proofs.Ytalopnkdnlkdoaa.GapRef
