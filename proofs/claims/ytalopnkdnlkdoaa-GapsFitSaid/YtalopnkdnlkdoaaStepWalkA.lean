/-
  The walks of layer 4's code: isBeginning, mayBeFree, May of layer 3, Clone of the library, Check.
-/
import Derived.Test.YtalopnkdnlkdoaaStepSay
import Derived.Test.YtalopnkdnlkdoaaStepPlain
import Derived.Test.YtalopnkdnlkdoaaShelf
import Derived.WalkSpells
namespace Go.Proofs.Ytalopnkdnlkdoaa.StepWalk
open Go.RowKit Go.Proofs.Ytalopnkdnlkdoaa.SpanPlain Go.Proofs.Ytalopnkdnlkdoaa.StepPlain Go.Proofs.Ytalopnkdnlkdoaa.Mem Go.Proofs.Ytalopnkdnlkdoaa.SpanMem Go.Proofs.Ytalopnkdnlkdoaa.StepMem Go.Proofs.Ytalopnkdnlkdoaa.SpanRef Go.Proofs.Ytalopnkdnlkdoaa.StepRef
def BoolW (b : Bool) (w : World) (e : Ending) (w' : World) : Prop := e = .returned (.bool b) ∧ w = w'
def begB (t : Int) : Bool := decide (0 ≤ t) && decide (t ≤ 1125899906842624)
def freeB (n : Int) : Bool := decide (0 ≤ n) && decide (n ≤ 256)
theorem isBegS (t : Int) (w : World) : Calls Try.prog 33 #[.int .i64 t] w (BoolW (begB t) w) := by
  have hw : (begB t = true ∧ decide (0 ≤ t) = true ∧ decide (t ≤ 1125899906842624) = true) ∨ (begB t = false ∧ decide (0 ≤ t) = false) ∨ (begB t = false ∧ decide (0 ≤ t) = true ∧ decide (t ≤ 1125899906842624) = false) := by
    unfold begB
    by_cases h1 : 0 ≤ t <;> by_cases h2 : t ≤ 1125899906842624 <;> simp [h1, h2]
  generalize begB t = B at *
  rcases hw with ⟨rfl, h1, h2⟩ | ⟨rfl, h1⟩ | ⟨rfl, h1, h2⟩
  all_goals
    go_enter Try.func33, Try.ntmps33
    go_wp2_with fail
    go_ret
    exact ⟨rfl, rfl⟩
theorem isFreeS (t : Int) (w : World) : Calls Try.prog 34 #[.int .i64 t] w (BoolW (freeB t) w) := by
  have hw : (freeB t = true ∧ decide (0 ≤ t) = true ∧ decide (t ≤ 256) = true) ∨ (freeB t = false ∧ decide (0 ≤ t) = false) ∨ (freeB t = false ∧ decide (0 ≤ t) = true ∧ decide (t ≤ 256) = false) := by
    unfold freeB
    by_cases h1 : 0 ≤ t <;> by_cases h2 : t ≤ 256 <;> simp [h1, h2]
  generalize freeB t = B at *
  rcases hw with ⟨rfl, h1, h2⟩ | ⟨rfl, h1⟩ | ⟨rfl, h1, h2⟩
  all_goals
    go_enter Try.func34, Try.ntmps34
    go_wp2_with fail
    go_ret
    exact ⟨rfl, rfl⟩
set_option maxHeartbeats 800000 in
theorem mayS (s : Sp) (w : World) : Calls Try.prog 30 #[spV s] w (BoolIs (mayB s) w) := by
  have hs := may_cases s
  obtain ⟨a, b⟩ := s
  unfold spV
  dsimp only at hs ⊢
  generalize mayB (a, b) = B at *
  rcases hs with ⟨rfl, h1, h2, h3⟩ | ⟨rfl, h1⟩ | ⟨rfl, h1, h2⟩ | ⟨rfl, h1, h2, h3⟩
  all_goals
    go_enter Try.func30, Try.ntmps30
    go_wp2_with fail
    go_ret
    exact ⟨rfl, (Below.refl _ _).alloc (Nat.le_refl _) _⟩
/-- What Clone answers: a row of its own. -/
def CloneIs (n : Nat) (xs : List Value) (w : World) (e : Ending) (w' : World) : Prop := ∃ v', e = .returned v' ∧ OwnR 31 2 w.heap.size w' v' n xs ∧ Below w.heap.size w w'
/-- A step's place, in words of cells. -/
theorem nth_cells {s : List Sp} {w : World} {A : Option Addr} (h : Pairs w A s.length (spCell s)) {k : Nat} (hk : k < s.length) :
    ∃ a, A = some a ∧ a.block < w.heap.size ∧ w.cell? (a.add (k * 2)) = some (.int .i64 (nth s k).1) ∧ w.cell? ⟨(a.add (k * 2)).block, (a.add (k * 2)).off + 1, none⟩ = some (.int .i64 (nth s k).2) := h k hk
theorem okc_ways (s : List Sp) (k : Nat) : (freeB (nth s k).2 = false ∧ Hid (¬ okC s k)) ∨ (freeB (nth s k).2 = true ∧ ((k = 0 ∧ Hid (okC s k)) ∨
      (0 < k ∧ decide ((nth s k).1 ≤ (nth s (k - 1)).1) = true ∧ Hid (¬ okC s k)) ∨ (0 < k ∧ decide ((nth s k).1 ≤ (nth s (k - 1)).1) = false ∧ ((nth s k).2 == (nth s (k - 1)).2) = true ∧ Hid (¬ okC s k)) ∨
      (0 < k ∧ decide ((nth s k).1 ≤ (nth s (k - 1)).1) = false ∧ ((nth s k).2 == (nth s (k - 1)).2) = false ∧ Hid (okC s k)))) := by
  unfold okC freeB
  generalize nth s k = x
  generalize nth s (k - 1) = y
  by_cases h1 : 0 ≤ x.2 ∧ x.2 ≤ 256
  · refine .inr ⟨by rw [decide_eq_true h1.1, decide_eq_true h1.2]; rfl, ?_⟩
    by_cases h2 : k = 0
    · exact .inl ⟨h2, h1, .inl h2⟩
    · by_cases h3 : x.1 ≤ y.1
      · exact .inr (.inl ⟨by omega, decide_eq_true h3, fun h => by rcases h.2 with h4 | h4 <;> omega⟩)
      · by_cases h4 : x.2 = y.2
        · exact .inr (.inr (.inl ⟨by omega, decide_eq_false h3, by simp [h4], fun h => by rcases h.2 with h5 | h5 <;> omega⟩))
        · exact .inr (.inr (.inr ⟨by omega, decide_eq_false h3, by simpa using h4, h1, .inr ⟨by omega, h4⟩⟩))
  · refine .inl ⟨?_, fun h => h1 h.1⟩
    simp only [Bool.and_eq_false_iff, decide_eq_false_iff_not]
    omega
set_option maxRecDepth 100000 in
set_option maxHeartbeats 1600000 in
theorem checkS (s : List Sp) (v : Value) (w : World) (hv : SpansIs s w v) (hl : s.length ≤ 1000) : Calls Try.prog 26 #[v] w (BoolIs (chkB s) w) := by
  obtain ⟨A, c, rfl, hA⟩ := hv.open_
  have HA := Lib.hid hA
  have CB := Lib.hid (fun w => isBegS (head s) w)
  clear hA hv
  by_cases h0 : s.length = 0
  · have HB := Lib.hid (bad_empty h0)
    have e1 : ((s.length : Int) == 0) = true := by simp [h0]
    clear h0
    go_enter Try.func26, Try.ntmps26
    go_wp2_with fail
    go_ret
    rw [HB.out]
    exact ⟨rfl, Below.refl _ _⟩
  · obtain ⟨ad, rfl, had, c1, c2⟩ := pair_zero HA.out (show 0 < s.length by omega)
    obtain ⟨ad', ead, _, c3, c4⟩ := nth_cells HA.out (show s.length - 1 < s.length by omega)
    injection ead with ead
    subst ead
    have e1 : ((s.length : Int) == 0) = false := by simp [h0]
    have q0 : (0 : Int) ≤ ((s.length - 1 : Nat) : Int) := Int.natCast_nonneg _
    have q1 : ((s.length - 1 : Nat) : Int) < (s.length : Int) := by omega
    have q2 : IntKind.i64.wrap ((s.length : Int) - 1) = ((s.length - 1 : Nat) : Int) := by rw [IntKind.wrap_i64]; omega
    have q3 : (0 : Int) < (s.length : Int) := by omega
    have hh : (spCell s 0).1 = .int .i64 (head s) := rfl
    rw [hh] at c1
    have HBH := Lib.hid (fun h => bad_head (s := s) h)
    have HBL := Lib.hid (fun h => bad_last (s := s) h)
    have HBA : Hid (∀ i, i < s.length → ¬ okC s i → chkB s = false) := fun i hi h => bad_at hi h
    have HYES := Lib.hid (fun a b c d => check_yes (s := s) a b c d)
    have HHD : Hid (head s = head s) := rfl
    clear hh HHD
    generalize hlast : (nth s (s.length - 1)).1 = z at *
    generalize hhd : head s = h at *
    have HLA := Lib.hid hlast
    have HHD := Lib.hid hhd
    clear hlast hhd c2 c4
    cases hb : begB h with
    | false =>
      rw [hb] at CB
      have HN : Hid (chkB s = false) := HBH.out (fun h2 => by unfold begB at hb; rw [decide_eq_true h2.1, decide_eq_true h2.2] at hb; cases hb)
      clear HBH HBL HBA HYES hb
      go_enter Try.func26, Try.ntmps26
      go_wp2_with (go_at_call 33; refine (CB.out _).mono ?_; rintro e w1 ⟨rfl, rfl⟩)
      go_ret
      rw [HN.out]
      exact ⟨rfl, Below.refl _ _⟩
    | true =>
      rw [hb] at CB
      have HB : Hid (0 ≤ h ∧ h ≤ 1125899906842624) := by unfold begB at hb; rw [Bool.and_eq_true, decide_eq_true_eq, decide_eq_true_eq] at hb; exact hb
      clear HBH hb
      by_cases hz : 4503599627370496 < z
      · have hz2 : decide (4503599627370496 < z) = true := decide_eq_true hz
        have HN := Lib.hid (HBL.out hz)
        clear HBL HBA HYES hz
        go_enter Try.func26, Try.ntmps26
        go_wp2_with (go_at_call 33; refine (CB.out _).mono ?_; rintro e w1 ⟨rfl, rfl⟩)
        go_ret
        rw [HN.out]
        exact ⟨rfl, Below.refl _ _⟩
      · have hz2 : decide (4503599627370496 < z) = false := decide_eq_false hz
        have HZ : Hid (z ≤ 4503599627370496) := Int.not_lt.1 hz
        clear HBL hz
        go_enter Try.func26, Try.ntmps26
        go_wp2_with (go_at_call 33; refine (CB.out _).mono ?_; rintro e w1 ⟨rfl, rfl⟩)
        clear CB c1 c3 hz2 q0 q1 q2
        go_loopw [28] (fun i wr => ∃ k : Nat, i = .int .i64 k ∧ k ≤ s.length ∧ Hid ((∀ j, j < k → okC s j) ∧ Below w.heap.size w wr)) (fun i _ => s.length - (intOf i).toNat)
        case atStart => exact ⟨0, rfl, Nat.zero_le _, fun j hj => absurd hj (Nat.not_lt_zero _), Below.refl _ _⟩
        case round =>
          obtain ⟨k, rfl, hk, HL⟩ := hrel
          by_cases hlt : k < s.length
          · obtain ⟨hall, hbl⟩ := HL.out
            obtain ⟨ad2, ead, had2, c1, c2⟩ := nth_cells (HA.out.below hbl) hlt
            injection ead with ead
            subst ead
            have hways := okc_ways s k
            have HNO := Lib.hid (fun h => HBA.out k hlt h)
            have HALL := Lib.hid hall
            have HNX : Hid (okC s k → ∀ j, j < k + 1 → okC s j) := fun h j hj => by
              by_cases h1 : j = k
              · subst h1; exact h
              · exact HALL.out j (by omega)
            have HBLW := Lib.hid hbl
            have CF := Lib.hid (fun w => isFreeS (nth s k).2 w)
            have i0 : (0 : Int) ≤ (k : Int) := Int.natCast_nonneg _
            have hlt2 : (k : Int) < (s.length : Int) := by omega
            clear hall hbl HL
            rcases hways with ⟨hf, HO⟩ | ⟨hf, ⟨hk0, HO⟩ | ⟨hk0, h1, HO⟩ | ⟨hk0, h1, h2, HO⟩ | ⟨hk0, h1, h2, HO⟩⟩
            · rw [hf] at CF
              generalize nth s k = x at *
              clear hf
              go_wp2_with (go_at_call 34; refine (CF.out _).mono ?_; rintro e w1 ⟨rfl, rfl⟩)
              go_ret
              rw [HNO.out HO.out]
              exact ⟨rfl, HBLW.out.alloc HBLW.out.size _⟩
            · rw [hf] at CF
              subst hk0
              have e0 : ad.add (0 * 2) = ad := by unfold Addr.add; simp
              rw [e0] at c1 c2
              generalize nth s 0 = x at *
              clear hf e0
              have g1 : decide ((0 : Int) < 0) = false := rfl
              go_wp2_with (go_at_call 34; refine (CF.out _).mono ?_; rintro e w1 ⟨rfl, rfl⟩)
              go_quiet (fail)
              go_wp2_with fail
              exact ⟨⟨0 + 1, by go_num, by omega, HNX.out HO.out, below_drewN (HBLW.out.alloc HBLW.out.size _) _⟩, by simp [intOf] <;> omega⟩
            · rw [hf] at CF
              obtain ⟨ad3, ead, had3, c3, c4⟩ := nth_cells (HA.out.below HBLW.out) (show k - 1 < s.length by omega)
              injection ead with ead
              subst ead
              have g1 : decide ((0 : Int) < (k : Int)) = true := decide_eq_true (by omega)
              have q0 : (0 : Int) ≤ ((k - 1 : Nat) : Int) := Int.natCast_nonneg _
              have q1 : ((k - 1 : Nat) : Int) < (s.length : Int) := by omega
              have q2 : IntKind.i64.wrap ((k : Int) - 1) = ((k - 1 : Nat) : Int) := by rw [IntKind.wrap_i64]; omega
              generalize nth s k = x at *
              generalize nth s (k - 1) = y at *
              have x1 := (below_alloc wr (.cells #[.int .i64 x.1, .int .i64 x.2] 31)).cell (p := ad.add ((k - 1) * 2)) (by rw [add_block]; exact had3)
              have x2 := (below_alloc wr (.cells #[.int .i64 x.1, .int .i64 x.2] 31)).cell (p := ⟨(ad.add ((k - 1) * 2)).block, (ad.add ((k - 1) * 2)).off + 1, none⟩) (by show (ad.add ((k - 1) * 2)).block < _; rw [add_block]; exact had3)
              rw [c3] at x1
              rw [c4] at x2
              have HBOX := Lib.hid (Box2.new wr (.int .i64 x.1) (.int .i64 x.2) 31)
              have HBW := Lib.hid (HBLW.out.alloc HBLW.out.size (.cells #[.int .i64 x.1, .int .i64 x.2] 31))
              clear hf c3 c4
              go_wp2_with (go_at_call 34; refine (CF.out _).mono ?_; rintro e w1 ⟨rfl, rfl⟩)
              obtain ⟨b0, b1, b2, b3, b4⟩ := HBOX.out
              generalize wr.alloc (.cells #[.int .i64 x.1, .int .i64 x.2] 31) = W at *
              clear b3 b4 HBOX c1 c2
              go_quiet (fail)
              go_wp2_with fail
              go_ret
              rw [HNO.out HO.out]
              exact ⟨rfl, below_drewN HBW.out _⟩
            · rw [hf] at CF
              obtain ⟨ad3, ead, had3, c3, c4⟩ := nth_cells (HA.out.below HBLW.out) (show k - 1 < s.length by omega)
              injection ead with ead
              subst ead
              have g1 : decide ((0 : Int) < (k : Int)) = true := decide_eq_true (by omega)
              have q0 : (0 : Int) ≤ ((k - 1 : Nat) : Int) := Int.natCast_nonneg _
              have q1 : ((k - 1 : Nat) : Int) < (s.length : Int) := by omega
              have q2 : IntKind.i64.wrap ((k : Int) - 1) = ((k - 1 : Nat) : Int) := by rw [IntKind.wrap_i64]; omega
              generalize nth s k = x at *
              generalize nth s (k - 1) = y at *
              have x1 := (below_alloc wr (.cells #[.int .i64 x.1, .int .i64 x.2] 31)).cell (p := ad.add ((k - 1) * 2)) (by rw [add_block]; exact had3)
              have x2 := (below_alloc wr (.cells #[.int .i64 x.1, .int .i64 x.2] 31)).cell (p := ⟨(ad.add ((k - 1) * 2)).block, (ad.add ((k - 1) * 2)).off + 1, none⟩) (by show (ad.add ((k - 1) * 2)).block < _; rw [add_block]; exact had3)
              rw [c3] at x1
              rw [c4] at x2
              have HBOX := Lib.hid (Box2.new wr (.int .i64 x.1) (.int .i64 x.2) 31)
              have HBW := Lib.hid (HBLW.out.alloc HBLW.out.size (.cells #[.int .i64 x.1, .int .i64 x.2] 31))
              clear hf c3 c4
              go_wp2_with (go_at_call 34; refine (CF.out _).mono ?_; rintro e w1 ⟨rfl, rfl⟩)
              obtain ⟨b0, b1, b2, b3, b4⟩ := HBOX.out
              generalize wr.alloc (.cells #[.int .i64 x.1, .int .i64 x.2] 31) = W at *
              clear b3 b4 HBOX c1 c2
              go_quiet (fail)
              go_wp2_with fail
              go_ret
              rw [HNO.out HO.out]
              exact ⟨rfl, below_drewN HBW.out _⟩
            · rw [hf] at CF
              obtain ⟨ad3, ead, had3, c3, c4⟩ := nth_cells (HA.out.below HBLW.out) (show k - 1 < s.length by omega)
              injection ead with ead
              subst ead
              have g1 : decide ((0 : Int) < (k : Int)) = true := decide_eq_true (by omega)
              have q0 : (0 : Int) ≤ ((k - 1 : Nat) : Int) := Int.natCast_nonneg _
              have q1 : ((k - 1 : Nat) : Int) < (s.length : Int) := by omega
              have q2 : IntKind.i64.wrap ((k : Int) - 1) = ((k - 1 : Nat) : Int) := by rw [IntKind.wrap_i64]; omega
              generalize nth s k = x at *
              generalize nth s (k - 1) = y at *
              have x1 := (below_alloc wr (.cells #[.int .i64 x.1, .int .i64 x.2] 31)).cell (p := ad.add ((k - 1) * 2)) (by rw [add_block]; exact had3)
              have x2 := (below_alloc wr (.cells #[.int .i64 x.1, .int .i64 x.2] 31)).cell (p := ⟨(ad.add ((k - 1) * 2)).block, (ad.add ((k - 1) * 2)).off + 1, none⟩) (by show (ad.add ((k - 1) * 2)).block < _; rw [add_block]; exact had3)
              rw [c3] at x1
              rw [c4] at x2
              have HBOX := Lib.hid (Box2.new wr (.int .i64 x.1) (.int .i64 x.2) 31)
              have HBW := Lib.hid (HBLW.out.alloc HBLW.out.size (.cells #[.int .i64 x.1, .int .i64 x.2] 31))
              clear hf c3 c4
              go_wp2_with (go_at_call 34; refine (CF.out _).mono ?_; rintro e w1 ⟨rfl, rfl⟩)
              obtain ⟨b0, b1, b2, b3, b4⟩ := HBOX.out
              generalize wr.alloc (.cells #[.int .i64 x.1, .int .i64 x.2] 31) = W at *
              clear b3 b4 HBOX c1 c2
              go_quiet (fail)
              go_wp2_with fail
              exact ⟨⟨k + 1, by go_num, by omega, HNX.out HO.out, below_drewN HBW.out _⟩, by simp [intOf] <;> omega⟩
          · obtain ⟨hall, hbl⟩ := HL.out
            have HY : Hid (chkB s = true) := HYES.out (by omega) HB.out HZ.out (fun i hi => hall i (by omega))
            have HBLW := Lib.hid hbl
            clear hall hbl HL
            go_wp2_with fail
            go_ret
            rw [HY.out]
            exact ⟨rfl, HBLW.out⟩
end Go.Proofs.Ytalopnkdnlkdoaa.StepWalk
