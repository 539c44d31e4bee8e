/-
  The walks of layer 4's code: isBeginning, mayBeFree, May of layer 3, Clone of the library, Check. The walks of layer 4's code: the search for the last step that is not behind a time. The walks of layer 4's code: At, Min, Trim.
-/
import Derived.Test.YtonapgbokbeopaaStepRef0
import Derived.Test.YtonapgbokbeopaaStepPlain
import Derived.Test.YtonapgbokbeopaaShelf
import Derived.WalkSpells
import Derived.Test.YtonapgbokbeopaaBase
namespace Go.Proofs.Ytonapgbokbeopaa.StepWalk
open Go.RowKit Go.Proofs.Ytonapgbokbeopaa.SpanPlain Go.Proofs.Ytonapgbokbeopaa.StepPlain Go.Proofs.Ytonapgbokbeopaa.Mem Go.Proofs.Ytonapgbokbeopaa.SpanMem Go.Proofs.Ytonapgbokbeopaa.StepMem Go.Proofs.Ytonapgbokbeopaa.SpanRef Go.Proofs.Ytonapgbokbeopaa.StepRef
def BoolW (b : Bool) (w : World) (e : Ending) (w' : World) : Prop := e = .returned (.bool b) ∧ w = w'
def begB (t : Int) : Bool := decide (0 ≤ t) && decide (t ≤ 1125899906842624)
def freeB (n : Int) : Bool := decide (0 ≤ n) && decide (n ≤ 256)
theorem isBegS (t : Int) (w : World) : Calls Try.prog 45 #[.int .i64 t] w (BoolW (begB t) w) := by
  have hw : (begB t = true ∧ decide (0 ≤ t) = true ∧ decide (t ≤ 1125899906842624) = true) ∨ (begB t = false ∧ decide (0 ≤ t) = false) ∨ (begB t = false ∧ decide (0 ≤ t) = true ∧ decide (t ≤ 1125899906842624) = false) := by
    unfold begB
    by_cases h1 : 0 ≤ t <;> by_cases h2 : t ≤ 1125899906842624 <;> simp [h1, h2]
  generalize begB t = B at *
  rcases hw with ⟨rfl, h1, h2⟩ | ⟨rfl, h1⟩ | ⟨rfl, h1, h2⟩
  all_goals
    go_enter Try.func45, Try.ntmps45
    go_wp2_with fail
    go_ret
    exact ⟨rfl, rfl⟩
theorem isFreeS (t : Int) (w : World) : Calls Try.prog 40 #[.int .i64 t] w (BoolW (freeB t) w) := by
  have hw : (freeB t = true ∧ decide (0 ≤ t) = true ∧ decide (t ≤ 256) = true) ∨ (freeB t = false ∧ decide (0 ≤ t) = false) ∨ (freeB t = false ∧ decide (0 ≤ t) = true ∧ decide (t ≤ 256) = false) := by
    unfold freeB
    by_cases h1 : 0 ≤ t <;> by_cases h2 : t ≤ 256 <;> simp [h1, h2]
  generalize freeB t = B at *
  rcases hw with ⟨rfl, h1, h2⟩ | ⟨rfl, h1⟩ | ⟨rfl, h1, h2⟩
  all_goals
    go_enter Try.func40, Try.ntmps40
    go_wp2_with fail
    go_ret
    exact ⟨rfl, rfl⟩
set_option maxHeartbeats 800000 in
theorem mayS (s : Sp) (w : World) : Calls Try.prog 38 #[spV s] w (BoolIs (mayB s) w) := by
  have hs := may_cases s
  obtain ⟨a, b⟩ := s
  unfold spV
  dsimp only at hs ⊢
  generalize mayB (a, b) = B at *
  rcases hs with ⟨rfl, h1, h2, h3⟩ | ⟨rfl, h1⟩ | ⟨rfl, h1, h2⟩ | ⟨rfl, h1, h2, h3⟩
  all_goals
    go_enter Try.func38, Try.ntmps38
    go_wp2_with fail
    go_ret
    exact ⟨rfl, (Below.refl _ _).alloc (Nat.le_refl _) _⟩
/-- What Clone answers: a row of its own. -/
def CloneIs (n : Nat) (xs : List Value) (w : World) (e : Ending) (w' : World) : Prop := ∃ v', e = .returned v' ∧ OwnR 42 2 w.heap.size w' v' n xs ∧ Below w.heap.size w w'
set_option maxHeartbeats 800000 in
theorem cloneS (a : Addr) (n c : Nat) (xs : List Value) (w : World) (hl : xs.length = n * 2) (hn : n ≤ 100000) (hr : Raw w a xs) (h1 : ∀ u ∈ xs, u.oneCell' = true) :
    Calls Try.prog 32 #[.slice (some a) n c] w (CloneIs n xs w) := by
  have q22 : ∀ (w : World) (a : Option Addr) (n c n' c' : Nat), (binOp .eql 22 (.slice a n c) (.slice none n' c')).run Try.prog w = .ok (.bool a.isNone) w := fun w a n c n' c' => Lib.run_eql_slice_nil w _ _ a n c n' c' Try.underlying22
  have HR := Lib.hid hr
  have H1 := Lib.hid h1
  have HL := Lib.hid hl
  clear hr h1 hl
  go_enter Try.func32, Try.ntmps32
  go_wp2_with (at_builtin; refine push_raw steps_t rfl (.tmp 5) (.tmp 6) rfl w.heap.size _ _ _ rfl (OwnR.new w 42 2) a n c xs rfl HL.out ?h1 H1.out ?h2 ?_)
  case h1 => exact HR.out.below (below_alloc _ _)
  case h2 => omega
  intro v' w' ho hb
  have HO := Lib.hid ho
  have HB := Lib.hid (((Below.refl _ _).alloc (Nat.le_refl _) _).trans hb)
  clear ho hb
  go_wp2_with fail
  go_ret
  exact ⟨_, rfl, HO.out.cast (by simp) (by simp), HB.out⟩
/-- A step's place, in words of cells. -/
theorem nth_cells {s : List Sp} {w : World} {A : Option Addr} (h : Pairs w A s.length (spCell s)) {k : Nat} (hk : k < s.length) :
    ∃ a, A = some a ∧ a.block < w.heap.size ∧ w.cell? (a.add (k * 2)) = some (.int .i64 (nth s k).1) ∧ w.cell? ⟨(a.add (k * 2)).block, (a.add (k * 2)).off + 1, none⟩ = some (.int .i64 (nth s k).2) := h k hk
theorem okc_ways (s : List Sp) (k : Nat) : (freeB (nth s k).2 = false ∧ Hid (¬ okC s k)) ∨ (freeB (nth s k).2 = true ∧ ((k = 0 ∧ Hid (okC s k)) ∨
      (0 < k ∧ decide ((nth s k).1 ≤ (nth s (k - 1)).1) = true ∧ Hid (¬ okC s k)) ∨ (0 < k ∧ decide ((nth s k).1 ≤ (nth s (k - 1)).1) = false ∧ ((nth s k).2 == (nth s (k - 1)).2) = true ∧ Hid (¬ okC s k)) ∨
      (0 < k ∧ decide ((nth s k).1 ≤ (nth s (k - 1)).1) = false ∧ ((nth s k).2 == (nth s (k - 1)).2) = false ∧ Hid (okC s k)))) := by
  unfold okC freeB
  generalize nth s k = x
  generalize nth s (k - 1) = y
  by_cases h1 : 0 ≤ x.2 ∧ x.2 ≤ 256
  · refine .inr ⟨by rw [decide_eq_true h1.1, decide_eq_true h1.2]; rfl, ?_⟩
    by_cases h2 : k = 0
    · exact .inl ⟨h2, h1, .inl h2⟩
    · by_cases h3 : x.1 ≤ y.1
      · exact .inr (.inl ⟨by omega, decide_eq_true h3, fun h => by rcases h.2 with h4 | h4 <;> omega⟩)
      · by_cases h4 : x.2 = y.2
        · exact .inr (.inr (.inl ⟨by omega, decide_eq_false h3, by simp [h4], fun h => by rcases h.2 with h5 | h5 <;> omega⟩))
        · exact .inr (.inr (.inr ⟨by omega, decide_eq_false h3, by simpa using h4, h1, .inr ⟨by omega, h4⟩⟩))
  · refine .inl ⟨?_, fun h => h1 h.1⟩
    simp only [Bool.and_eq_false_iff, decide_eq_false_iff_not]
    omega
set_option maxRecDepth 100000 in
set_option maxHeartbeats 1600000 in
theorem checkS (s : List Sp) (v : Value) (w : World) (hv : SpansIs s w v) (hl : s.length ≤ 1000) : Calls Try.prog 31 #[v] w (BoolIs (chkB s) w) := by
  obtain ⟨A, c, rfl, hA⟩ := hv.open_
  have HA := Lib.hid hA
  have CB := Lib.hid (fun w => isBegS (head s) w)
  clear hA hv
  by_cases h0 : s.length = 0
  · have HB := Lib.hid (bad_empty h0)
    have e1 : ((s.length : Int) == 0) = true := by simp [h0]
    clear h0
    go_enter Try.func31, Try.ntmps31
    go_wp2_with fail
    go_ret
    rw [HB.out]
    exact ⟨rfl, Below.refl _ _⟩
  · obtain ⟨ad, rfl, had, c1, c2⟩ := pair_zero HA.out (show 0 < s.length by omega)
    obtain ⟨ad', ead, _, c3, c4⟩ := nth_cells HA.out (show s.length - 1 < s.length by omega)
    injection ead with ead
    subst ead
    have e1 : ((s.length : Int) == 0) = false := by simp [h0]
    have q0 : (0 : Int) ≤ ((s.length - 1 : Nat) : Int) := Int.natCast_nonneg _
    have q1 : ((s.length - 1 : Nat) : Int) < (s.length : Int) := by omega
    have q2 : IntKind.i64.wrap ((s.length : Int) - 1) = ((s.length - 1 : Nat) : Int) := by rw [IntKind.wrap_i64]; omega
    have q3 : (0 : Int) < (s.length : Int) := by omega
    have hh : (spCell s 0).1 = .int .i64 (head s) := rfl
    rw [hh] at c1
    have HBH := Lib.hid (fun h => bad_head (s := s) h)
    have HBL := Lib.hid (fun h => bad_last (s := s) h)
    have HBA : Hid (∀ i, i < s.length → ¬ okC s i → chkB s = false) := fun i hi h => bad_at hi h
    have HYES := Lib.hid (fun a b c d => check_yes (s := s) a b c d)
    have HHD : Hid (head s = head s) := rfl
    clear hh HHD
    generalize hlast : (nth s (s.length - 1)).1 = z at *
    generalize hhd : head s = h at *
    have HLA := Lib.hid hlast
    have HHD := Lib.hid hhd
    clear hlast hhd c2 c4
    cases hb : begB h with
    | false =>
      rw [hb] at CB
      have HN : Hid (chkB s = false) := HBH.out (fun h2 => by unfold begB at hb; rw [decide_eq_true h2.1, decide_eq_true h2.2] at hb; cases hb)
      clear HBH HBL HBA HYES hb
      go_enter Try.func31, Try.ntmps31
      go_wp2_with (go_at_call 45; refine (CB.out _).mono ?_; rintro e w1 ⟨rfl, rfl⟩)
      go_ret
      rw [HN.out]
      exact ⟨rfl, Below.refl _ _⟩
    | true =>
      rw [hb] at CB
      have HB : Hid (0 ≤ h ∧ h ≤ 1125899906842624) := by unfold begB at hb; rw [Bool.and_eq_true, decide_eq_true_eq, decide_eq_true_eq] at hb; exact hb
      clear HBH hb
      by_cases hz : 4503599627370496 < z
      · have hz2 : decide (4503599627370496 < z) = true := decide_eq_true hz
        have HN := Lib.hid (HBL.out hz)
        clear HBL HBA HYES hz
        go_enter Try.func31, Try.ntmps31
        go_wp2_with (go_at_call 45; refine (CB.out _).mono ?_; rintro e w1 ⟨rfl, rfl⟩)
        go_ret
        rw [HN.out]
        exact ⟨rfl, Below.refl _ _⟩
      · have hz2 : decide (4503599627370496 < z) = false := decide_eq_false hz
        have HZ : Hid (z ≤ 4503599627370496) := Int.not_lt.1 hz
        clear HBL hz
        go_enter Try.func31, Try.ntmps31
        go_wp2_with (go_at_call 45; refine (CB.out _).mono ?_; rintro e w1 ⟨rfl, rfl⟩)
        clear CB c1 c3 hz2 q0 q1 q2
        go_loopw [28] (fun i wr => ∃ k : Nat, i = .int .i64 k ∧ k ≤ s.length ∧ Hid ((∀ j, j < k → okC s j) ∧ Below w.heap.size w wr)) (fun i _ => s.length - (intOf i).toNat)
        case atStart => exact ⟨0, rfl, Nat.zero_le _, fun j hj => absurd hj (Nat.not_lt_zero _), Below.refl _ _⟩
        case round =>
          obtain ⟨k, rfl, hk, HL⟩ := hrel
          by_cases hlt : k < s.length
          · obtain ⟨hall, hbl⟩ := HL.out
            obtain ⟨ad2, ead, had2, c1, c2⟩ := nth_cells (HA.out.below hbl) hlt
            injection ead with ead
            subst ead
            have hways := okc_ways s k
            have HNO := Lib.hid (fun h => HBA.out k hlt h)
            have HALL := Lib.hid hall
            have HNX : Hid (okC s k → ∀ j, j < k + 1 → okC s j) := fun h j hj => by
              by_cases h1 : j = k
              · subst h1; exact h
              · exact HALL.out j (by omega)
            have HBLW := Lib.hid hbl
            have CF := Lib.hid (fun w => isFreeS (nth s k).2 w)
            have i0 : (0 : Int) ≤ (k : Int) := Int.natCast_nonneg _
            have hlt2 : (k : Int) < (s.length : Int) := by omega
            clear hall hbl HL
            rcases hways with ⟨hf, HO⟩ | ⟨hf, ⟨hk0, HO⟩ | ⟨hk0, h1, HO⟩ | ⟨hk0, h1, h2, HO⟩ | ⟨hk0, h1, h2, HO⟩⟩
            · rw [hf] at CF
              generalize nth s k = x at *
              clear hf
              go_wp2_with (go_at_call 40; refine (CF.out _).mono ?_; rintro e w1 ⟨rfl, rfl⟩)
              go_ret
              rw [HNO.out HO.out]
              exact ⟨rfl, HBLW.out.alloc HBLW.out.size _⟩
            · rw [hf] at CF
              subst hk0
              have e0 : ad.add (0 * 2) = ad := by unfold Addr.add; simp
              rw [e0] at c1 c2
              generalize nth s 0 = x at *
              clear hf e0
              have g1 : decide ((0 : Int) < 0) = false := rfl
              go_wp2_with (go_at_call 40; refine (CF.out _).mono ?_; rintro e w1 ⟨rfl, rfl⟩)
              go_quiet (fail)
              go_wp2_with fail
              exact ⟨⟨0 + 1, by go_num, by omega, HNX.out HO.out, below_drewN (HBLW.out.alloc HBLW.out.size _) _⟩, by simp [intOf] <;> omega⟩
            · rw [hf] at CF
              obtain ⟨ad3, ead, had3, c3, c4⟩ := nth_cells (HA.out.below HBLW.out) (show k - 1 < s.length by omega)
              injection ead with ead
              subst ead
              have g1 : decide ((0 : Int) < (k : Int)) = true := decide_eq_true (by omega)
              have q0 : (0 : Int) ≤ ((k - 1 : Nat) : Int) := Int.natCast_nonneg _
              have q1 : ((k - 1 : Nat) : Int) < (s.length : Int) := by omega
              have q2 : IntKind.i64.wrap ((k : Int) - 1) = ((k - 1 : Nat) : Int) := by rw [IntKind.wrap_i64]; omega
              generalize nth s k = x at *
              generalize nth s (k - 1) = y at *
              have x1 := (below_alloc wr (.cells #[.int .i64 x.1, .int .i64 x.2] 42)).cell (p := ad.add ((k - 1) * 2)) (by rw [add_block]; exact had3)
              have x2 := (below_alloc wr (.cells #[.int .i64 x.1, .int .i64 x.2] 42)).cell (p := ⟨(ad.add ((k - 1) * 2)).block, (ad.add ((k - 1) * 2)).off + 1, none⟩) (by show (ad.add ((k - 1) * 2)).block < _; rw [add_block]; exact had3)
              rw [c3] at x1
              rw [c4] at x2
              have HBOX := Lib.hid (Box2.new wr (.int .i64 x.1) (.int .i64 x.2) 42)
              have HBW := Lib.hid (HBLW.out.alloc HBLW.out.size (.cells #[.int .i64 x.1, .int .i64 x.2] 42))
              clear hf c3 c4
              go_wp2_with (go_at_call 40; refine (CF.out _).mono ?_; rintro e w1 ⟨rfl, rfl⟩)
              obtain ⟨b0, b1, b2, b3, b4⟩ := HBOX.out
              generalize wr.alloc (.cells #[.int .i64 x.1, .int .i64 x.2] 42) = W at *
              clear b3 b4 HBOX c1 c2
              go_quiet (fail)
              go_wp2_with fail
              go_ret
              rw [HNO.out HO.out]
              exact ⟨rfl, below_drewN HBW.out _⟩
            · rw [hf] at CF
              obtain ⟨ad3, ead, had3, c3, c4⟩ := nth_cells (HA.out.below HBLW.out) (show k - 1 < s.length by omega)
              injection ead with ead
              subst ead
              have g1 : decide ((0 : Int) < (k : Int)) = true := decide_eq_true (by omega)
              have q0 : (0 : Int) ≤ ((k - 1 : Nat) : Int) := Int.natCast_nonneg _
              have q1 : ((k - 1 : Nat) : Int) < (s.length : Int) := by omega
              have q2 : IntKind.i64.wrap ((k : Int) - 1) = ((k - 1 : Nat) : Int) := by rw [IntKind.wrap_i64]; omega
              generalize nth s k = x at *
              generalize nth s (k - 1) = y at *
              have x1 := (below_alloc wr (.cells #[.int .i64 x.1, .int .i64 x.2] 42)).cell (p := ad.add ((k - 1) * 2)) (by rw [add_block]; exact had3)
              have x2 := (below_alloc wr (.cells #[.int .i64 x.1, .int .i64 x.2] 42)).cell (p := ⟨(ad.add ((k - 1) * 2)).block, (ad.add ((k - 1) * 2)).off + 1, none⟩) (by show (ad.add ((k - 1) * 2)).block < _; rw [add_block]; exact had3)
              rw [c3] at x1
              rw [c4] at x2
              have HBOX := Lib.hid (Box2.new wr (.int .i64 x.1) (.int .i64 x.2) 42)
              have HBW := Lib.hid (HBLW.out.alloc HBLW.out.size (.cells #[.int .i64 x.1, .int .i64 x.2] 42))
              clear hf c3 c4
              go_wp2_with (go_at_call 40; refine (CF.out _).mono ?_; rintro e w1 ⟨rfl, rfl⟩)
              obtain ⟨b0, b1, b2, b3, b4⟩ := HBOX.out
              generalize wr.alloc (.cells #[.int .i64 x.1, .int .i64 x.2] 42) = W at *
              clear b3 b4 HBOX c1 c2
              go_quiet (fail)
              go_wp2_with fail
              go_ret
              rw [HNO.out HO.out]
              exact ⟨rfl, below_drewN HBW.out _⟩
            · rw [hf] at CF
              obtain ⟨ad3, ead, had3, c3, c4⟩ := nth_cells (HA.out.below HBLW.out) (show k - 1 < s.length by omega)
              injection ead with ead
              subst ead
              have g1 : decide ((0 : Int) < (k : Int)) = true := decide_eq_true (by omega)
              have q0 : (0 : Int) ≤ ((k - 1 : Nat) : Int) := Int.natCast_nonneg _
              have q1 : ((k - 1 : Nat) : Int) < (s.length : Int) := by omega
              have q2 : IntKind.i64.wrap ((k : Int) - 1) = ((k - 1 : Nat) : Int) := by rw [IntKind.wrap_i64]; omega
              generalize nth s k = x at *
              generalize nth s (k - 1) = y at *
              have x1 := (below_alloc wr (.cells #[.int .i64 x.1, .int .i64 x.2] 42)).cell (p := ad.add ((k - 1) * 2)) (by rw [add_block]; exact had3)
              have x2 := (below_alloc wr (.cells #[.int .i64 x.1, .int .i64 x.2] 42)).cell (p := ⟨(ad.add ((k - 1) * 2)).block, (ad.add ((k - 1) * 2)).off + 1, none⟩) (by show (ad.add ((k - 1) * 2)).block < _; rw [add_block]; exact had3)
              rw [c3] at x1
              rw [c4] at x2
              have HBOX := Lib.hid (Box2.new wr (.int .i64 x.1) (.int .i64 x.2) 42)
              have HBW := Lib.hid (HBLW.out.alloc HBLW.out.size (.cells #[.int .i64 x.1, .int .i64 x.2] 42))
              clear hf c3 c4
              go_wp2_with (go_at_call 40; refine (CF.out _).mono ?_; rintro e w1 ⟨rfl, rfl⟩)
              obtain ⟨b0, b1, b2, b3, b4⟩ := HBOX.out
              generalize wr.alloc (.cells #[.int .i64 x.1, .int .i64 x.2] 42) = W at *
              clear b3 b4 HBOX c1 c2
              go_quiet (fail)
              go_wp2_with fail
              exact ⟨⟨k + 1, by go_num, by omega, HNX.out HO.out, below_drewN HBW.out _⟩, by simp [intOf] <;> omega⟩
          · obtain ⟨hall, hbl⟩ := HL.out
            have HY : Hid (chkB s = true) := HYES.out (by omega) HB.out HZ.out (fun i hi => hall i (by omega))
            have HBLW := Lib.hid hbl
            clear hall hbl HL
            go_wp2_with fail
            go_ret
            rw [HY.out]
            exact ⟨rfl, HBLW.out⟩
end Go.Proofs.Ytonapgbokbeopaa.StepWalk
namespace Go.Proofs.Ytonapgbokbeopaa.StepWalk
open Go.RowKit Go.Proofs.Ytonapgbokbeopaa.SpanPlain Go.Proofs.Ytonapgbokbeopaa.StepPlain Go.Proofs.Ytonapgbokbeopaa.Mem Go.Proofs.Ytonapgbokbeopaa.SpanMem Go.Proofs.Ytonapgbokbeopaa.StepMem Go.Proofs.Ytonapgbokbeopaa.SpanRef Go.Proofs.Ytonapgbokbeopaa.StepRef
def IntW (n : Int) (w : World) (e : Ending) (w' : World) : Prop := e = .returned (.int .i64 n) ∧ w = w'
def cmpI (x y : Int) : Int := if x < y then -1 else if x = y then 0 else 1
theorem cmp_lt (x y : Int) : decide (cmpI x y < 0) = decide (x < y) := by
  unfold cmpI
  by_cases h1 : x < y
  · simp [h1]
  · by_cases h2 : x = y <;> simp [h1, h2]
theorem cmp_eq (x y : Int) : (cmpI x y == 0) = decide (x = y) := by
  unfold cmpI
  by_cases h1 : x < y
  · simp [h1]; omega
  · by_cases h2 : x = y <;> simp [h1, h2]
theorem cmpS (x y : Int) (w : World) : Calls Try.prog 50 #[.int .i64 x, .int .i64 y] w (IntW (cmpI x y) w) := by
  refine (Try.cmp_Compare_int x y w).mono ?_
  rintro e w' ⟨rfl, rfl⟩
  refine ⟨?_, rfl⟩
  unfold Lib.compareInt cmpI
  congr 2
  split
  · rfl
  · split <;> split <;> omega
theorem int_eq {k : IntKind} {a b : Int} (h : a = b) : Value.int k a = Value.int k b := by rw [h]
theorem ret_eq {k : IntKind} {a b : Int} (h : a = b) : Ending.returned (.int k a) = .returned (.int k b) := by rw [h]
/-- What the closure answers: it keeps a box of its own. -/
def IntBox (n : Int) (y : Sp) (w : World) (e : Ending) (w' : World) : Prop := e = .returned (.int .i64 n) ∧ w' = w.alloc (.cells #[.int .i64 y.1, .int .i64 y.2] 42)
theorem atS1 (y : Sp) (t : Int) (w : World) : Calls Try.prog 49 #[spV y, .int .i64 t] w (IntBox (cmpI y.1 t) y w) := by
  have C1 := Lib.hid (fun w => cmpS y.1 t w)
  unfold spV
  generalize cmpI y.1 t = n at *
  go_enter Try.func49, Try.ntmps49
  go_wp2_with (go_at_call 50; refine (C1.out _).mono ?_; rintro e w1 ⟨rfl, rfl⟩)
  go_ret
  exact ⟨rfl, rfl⟩
/-- How many steps are ahead of a time. -/
def SearchIs (s : List Sp) (t : Int) (w : World) (e : Ending) (w' : World) : Prop := ∃ k : Nat, e = .returned (.tuple #[.int .i64 k, .bool (decide (k < s.length) && decide ((nth s k).1 = t))]) ∧ k ≤ s.length ∧ (∀ j, j < k → (nth s j).1 < t) ∧ (∀ j, k ≤ j → j < s.length → t ≤ (nth s j).1) ∧ Below w.heap.size w w'
/-- How the search stands. -/
def SearchAt (s : List Sp) (t : Int) (i j : Nat) : Prop := i ≤ j ∧ j ≤ s.length ∧ (∀ m, m < i → (nth s m).1 < t) ∧ ∀ m, j ≤ m → m < s.length → t ≤ (nth s m).1
theorem search_low {s : List Sp} (hu : Up s) {t : Int} {i j : Nat} (h : SearchAt s t i j) (hij : i < j) (hx : (nth s ((i + j) / 2)).1 < t) : SearchAt s t ((i + j) / 2 + 1) j := by
  obtain ⟨h1, h2, h3, h4⟩ := h
  refine ⟨by omega, h2, fun m hm => ?_, h4⟩
  have := hu.le (i := m) (j := (i + j) / 2) (by omega) (by omega)
  omega
theorem search_high {s : List Sp} (hu : Up s) {t : Int} {i j : Nat} (h : SearchAt s t i j) (hij : i < j) (hx : ¬ (nth s ((i + j) / 2)).1 < t) : SearchAt s t i ((i + j) / 2) := by
  obtain ⟨h1, h2, h3, h4⟩ := h
  refine ⟨by omega, by omega, h3, fun m hm hl => ?_⟩
  have := hu.le (i := (i + j) / 2) (j := m) (by omega) (by omega)
  omega
set_option maxRecDepth 100000 in
set_option maxHeartbeats 1600000 in
theorem searchS (s : List Sp) (t : Int) (v : Value) (w : World) (hv : SpansIs s w v) (hu : Up s) (hl : s.length ≤ 2000) :
    Calls Try.prog 48 #[v, .int .i64 t, .func (.func 49) #[] #[]] w (SearchIs s t w) := by
  obtain ⟨A, c, rfl, hA⟩ := hv.open_
  have HA := Lib.hid hA
  have HU := Lib.hid hu
  clear hA hv hu
  go_enter Try.func48, Try.ntmps48
  go_wp2_with fail
  go_loopw [9, 10] (fun a b wr => ∃ i j : Nat, a = .int .i64 i ∧ b = .int .i64 j ∧ i ≤ j ∧ j ≤ s.length ∧ Hid (SearchAt s t i j ∧ Below w.heap.size w wr)) (fun a b _ => (intOf b).toNat - (intOf a).toNat)
  case atStart => exact ⟨0, s.length, rfl, rfl, Nat.zero_le _, Nat.le_refl _, ⟨Nat.zero_le _, Nat.le_refl _, fun m hm => absurd hm (Nat.not_lt_zero _), fun m h1 h2 => by omega⟩, Below.refl _ _⟩
  case round =>
    obtain ⟨i, j, rfl, rfl, hij, hj, HL⟩ := hrel
    obtain ⟨hat, hbl⟩ := HL.out
    by_cases hlt : i < j
    · obtain ⟨ad, rfl, had, c1, c2⟩ := nth_cells (HA.out.below hbl) (show (i + j) / 2 < s.length by omega)
      have C1 := Lib.hid (fun w => atS1 (nth s ((i + j) / 2)) t w)
      have HLOW := Lib.hid (fun h => search_low HU.out hat hlt h)
      have HHIGH := Lib.hid (fun h => search_high HU.out hat hlt h)
      have HBL := Lib.hid hbl
      have hcl := cmp_lt (nth s ((i + j) / 2)).1 t
      unfold spV at C1
      clear hat hbl HL
      generalize nth s ((i + j) / 2) = x at *
      generalize cmpI x.1 t = q at *
      by_cases hx : x.1 < t
      · rw [decide_eq_true hx] at hcl
        have HS := Lib.hid (HLOW.out hx)
        clear HLOW HHIGH hx
        go_wp2_with fail
        refine (C1.out _).mono ?_
        rintro e w1 ⟨rfl, rfl⟩
        go_wp2_with fail
        exact ⟨⟨(i + j) / 2 + 1, j, int_eq (by omega), rfl, by omega, hj, HS.out, HBL.out.alloc HBL.out.size _⟩, by simp [intOf] <;> omega⟩
      · rw [decide_eq_false hx] at hcl
        have HS := Lib.hid (HHIGH.out hx)
        clear HLOW HHIGH hx
        go_wp2_with fail
        refine (C1.out _).mono ?_
        rintro e w1 ⟨rfl, rfl⟩
        go_wp2_with fail
        exact ⟨⟨i, (i + j) / 2, rfl, int_eq (by omega), by omega, by omega, HS.out, HBL.out.alloc HBL.out.size _⟩, by simp [intOf] <;> omega⟩
    · obtain ⟨hat, hbl⟩ := HL.out
      obtain rfl : i = j := by omega
      have HAT := Lib.hid hat
      have HBL := Lib.hid hbl
      clear hat hbl HL
      by_cases hk : i < s.length
      · obtain ⟨ad, rfl, had, c1, c2⟩ := nth_cells (HA.out.below HBL.out) hk
        have C1 := Lib.hid (fun w => atS1 (nth s i) t w)
        have hce := cmp_eq (nth s i).1 t
        have HR : Hid (SearchIs s t w (.returned (.tuple #[.int .i64 i, .bool (decide ((nth s i).1 = t))])) (wr.alloc (.cells #[.int .i64 (nth s i).1, .int .i64 (nth s i).2] 42))) :=
          ⟨i, by rw [decide_eq_true hk]; rfl, hj, HAT.out.2.2.1, HAT.out.2.2.2, HBL.out.alloc HBL.out.size _⟩
        have hk2 : (i : Int) < (s.length : Int) := by omega
        unfold spV at C1
        generalize nth s i = x at *
        generalize cmpI x.1 t = q at *
        generalize decide (x.1 = t) = B at *
        go_wp2_with fail
        refine (C1.out _).mono ?_
        rintro e w1 ⟨rfl, rfl⟩
        cases B
        all_goals
          go_wp2_with fail
          go_ret2
          exact HR.out
      · have HR : Hid (SearchIs s t w (.returned (.tuple #[.int .i64 i, .bool false])) wr) :=
          ⟨i, by rw [decide_eq_false hk]; rfl, hj, HAT.out.2.2.1, HAT.out.2.2.2, HBL.out⟩
        go_wp2_with fail
        go_ret2
        exact HR.out
/-- What last answers. -/
def LastSays (s : List Sp) (t : Int) (w : World) (e : Ending) (w' : World) : Prop := ∃ k : Nat, e = .returned (.int .i64 k) ∧ LastIs s t k ∧ Below w.heap.size w w'
theorem last_of {s : List Sp} {t : Int} {k : Nat} (hu : Up s) (hk : k ≤ s.length) (h1 : ∀ j, j < k → (nth s j).1 < t) (h2 : ∀ j, k ≤ j → j < s.length → t ≤ (nth s j).1) (hp : 0 < s.length) (hh : head s ≤ t) :
    ((decide (k < s.length) && decide ((nth s k).1 = t)) = true ∧ LastIs s t k) ∨ ((decide (k < s.length) && decide ((nth s k).1 = t)) = false ∧ 0 < k ∧ LastIs s t (k - 1)) := by
  by_cases h : k < s.length ∧ (nth s k).1 = t
  · left
    refine ⟨by rw [decide_eq_true h.1, decide_eq_true h.2]; rfl, h.1, by omega, fun j h3 h4 => ?_⟩
    have := hu.lt h3 h4
    omega
  · right
    have h0 : 0 < k := by
      rcases Nat.eq_zero_or_pos k with h3 | h3
      · subst h3
        have := h2 0 (Nat.le_refl _) hp
        unfold head at hh
        exact absurd ⟨hp, by unfold nth at *; omega⟩ h
      · exact h3
    refine ⟨?_, h0, by omega, by have := h1 (k - 1) (by omega); omega, fun j h3 h4 => ?_⟩
    · by_cases h3 : k < s.length
      · rw [decide_eq_true h3, decide_eq_false (fun h4 => h ⟨h3, h4⟩)]; rfl
      · rw [decide_eq_false h3]; rfl
    · have h5 := h2 j (by omega) h4
      by_cases h6 : j = k
      · subst h6
        have : ¬ (nth s j).1 = t := fun h7 => h ⟨h4, h7⟩
        omega
      · have := hu.lt (i := k) (j := j) (by omega) h4
        have := h2 k (Nat.le_refl _) (by omega)
        omega
set_option maxHeartbeats 800000 in
theorem lastS (s : List Sp) (t : Int) (v : Value) (w : World) (hv : SpansIs s w v) (hu : Up s) (hp : 0 < s.length) (hh : head s ≤ t) (hl : s.length ≤ 2000) : Calls Try.prog 35 #[v, .int .i64 t] w (LastSays s t w) := by
  have C1 := Lib.hid (searchS s t v w hv hu hl)
  have HL : Hid (∀ k, k ≤ s.length → (∀ j, j < k → (nth s j).1 < t) → (∀ j, k ≤ j → j < s.length → t ≤ (nth s j).1) → _) := fun k hk h1 h2 => last_of hu hk h1 h2 hp hh
  clear hv hu
  go_enter Try.func35, Try.ntmps35
  go_wp2_with fail
  refine C1.out.mono ?_
  rintro e w1 ⟨k, rfl, hk, h1, h2, hb⟩
  have HB := Lib.hid hb
  have hw := HL.out k hk h1 h2
  clear h1 h2 hb HL C1
  generalize (decide (k < s.length) && decide ((nth s k).1 = t)) = B at *
  rcases hw with ⟨rfl, hi⟩ | ⟨rfl, h0, hi⟩
  · have HI := Lib.hid hi
    clear hi
    go_wp2_with fail
    go_ret
    exact ⟨k, rfl, HI.out, HB.out⟩
  · have HI := Lib.hid hi
    clear hi
    go_wp2_with fail
    go_ret
    exact ⟨k - 1, ret_eq (by omega), HI.out, HB.out⟩
end Go.Proofs.Ytonapgbokbeopaa.StepWalk
namespace Go.Proofs.Ytonapgbokbeopaa.StepWalk
open Go.RowKit Go.Proofs.Ytonapgbokbeopaa.SpanPlain Go.Proofs.Ytonapgbokbeopaa.StepPlain Go.Proofs.Ytonapgbokbeopaa.Mem Go.Proofs.Ytonapgbokbeopaa.SpanMem Go.Proofs.Ytonapgbokbeopaa.StepMem Go.Proofs.Ytonapgbokbeopaa.SpanRef Go.Proofs.Ytonapgbokbeopaa.StepRef
theorem atb_ways (s : List Sp) (t : Int) : (chkB s = false ∧ Hid (atB s t = false)) ∨ (chkB s = true ∧ decide (t < head s) = true ∧ Hid (atB s t = false)) ∨ (chkB s = true ∧ decide (t < head s) = false ∧ decide (4503599627370496 ≤ t) = true ∧ Hid (atB s t = false)) ∨
    (chkB s = true ∧ decide (t < head s) = false ∧ decide (4503599627370496 ≤ t) = false ∧ Hid (atB s t = true)) := by
  unfold atB
  cases chkB s with
  | false => exact .inl ⟨rfl, rfl⟩
  | true =>
    by_cases h1 : t < head s
    · exact .inr (.inl ⟨rfl, decide_eq_true h1, by rw [decide_eq_false (by omega : ¬ head s ≤ t)]; rfl⟩)
    · by_cases h2 : 4503599627370496 ≤ t
      · exact .inr (.inr (.inl ⟨rfl, decide_eq_false h1, decide_eq_true h2, by rw [decide_eq_false (by omega : ¬ t < 4503599627370496), Bool.and_false]; rfl⟩))
      · exact .inr (.inr (.inr ⟨rfl, decide_eq_false h1, decide_eq_false h2, by rw [decide_eq_true (by omega : head s ≤ t), decide_eq_true (by omega : t < 4503599627370496)]; rfl⟩))
theorem at_no {s : List Sp} {t : Int} (h : atB s t = false) {w w' : World} (hb : Below w.heap.size w w') : PairIs (atN s t) (atB s t) w (.returned (.tuple #[.int .i64 0, .bool false])) w' := by
  unfold atN
  rw [h]
  exact ⟨rfl, hb⟩
theorem at_yes {s : List Sp} {t : Int} (h : atB s t = true) {n : Int} (hn : val s t = n) {w w' : World} (hb : Below w.heap.size w w') : PairIs (atN s t) (atB s t) w (.returned (.tuple #[.int .i64 n, .bool true])) w' := by
  unfold atN
  rw [h, hn]
  exact ⟨rfl, hb⟩
set_option maxHeartbeats 1600000 in
theorem atS (s : List Sp) (t : Int) (v : Value) (w : World) (hv : SpansIs s w v) (hl : s.length ≤ 1000) : Calls Try.prog 21 #[v, .int .i64 t] w (PairIs (atN s t) (atB s t) w) := by
  have CC := Lib.hid (checkS s v w hv hl)
  have CL : Hid (∀ (w' : World), Below w.heap.size w w' → Chk s → head s ≤ t → Calls Try.prog 35 #[v, .int .i64 t] w' (LastSays s t w')) := fun w' hb hc hh => lastS s t v w' (hv.below hb) hc.up hc.pos hh (by omega)
  obtain ⟨A, c, rfl, hn, hA⟩ := hv.open2
  have HA := Lib.hid hA
  clear hA hv
  rcases atb_ways s t with ⟨hc, HR⟩ | ⟨hc, h1, HR⟩ | ⟨hc, h1, h2, HR⟩ | ⟨hc, h1, h2, HR⟩
  · rw [hc] at CC
    clear hc
    go_enter Try.func21, Try.ntmps21
    go_wp2_with fail
    refine CC.out.mono ?_
    rintro e w1 ⟨rfl, hb1⟩
    have HB1 := Lib.hid hb1
    clear hb1
    go_wp2_with fail
    go_ret2
    exact at_no HR.out HB1.out
  all_goals
    have HC := Lib.hid ((chk_iff s).1 hc)
    have hp : 0 < s.length := HC.out.pos
    rw [hc] at CC
    obtain ⟨ad, rfl, had, _, _⟩ := pair_zero HA.out hp
    clear hc
    go_enter Try.func21, Try.ntmps21
    go_wp2_with fail
    refine CC.out.mono ?_
    rintro e w1 ⟨rfl, hb1⟩
    obtain ⟨ad1, ead, had1, c1, c2⟩ := pair_zero (HA.out.below hb1) hp
    injection ead with ead
    subst ead
    have hh : (spCell s 0).1 = .int .i64 (head s) := rfl
    have hlz : (0 : Int) < (s.length : Int) := by omega
    rw [hh] at c1
    have HB1 := Lib.hid hb1
    clear hb1 c2 hh CC
  · generalize head s = h at *
    go_wp2_with fail
    go_ret2
    exact at_no HR.out HB1.out
  · generalize head s = h at *
    go_wp2_with fail
    go_ret2
    exact at_no HR.out HB1.out
  · have CL2 := Lib.hid (CL.out w1 HB1.out HC.out (by have := of_decide_eq_false h1; omega))
    generalize head s = h at *
    clear CL
    go_wp2_with fail
    refine CL2.out.mono ?_
    rintro e w2 ⟨k, rfl, hk, hb2⟩
    obtain ⟨ad2, ead, had2, c3, c4⟩ := nth_cells (HA.out.below (below_then HB1.out hb2)) hk.lt
    injection ead with ead
    subst ead
    have HV := Lib.hid hk.val
    have hk2 : (k : Int) < (s.length : Int) := by have := hk.lt; omega
    have HB2 := Lib.hid (below_then HB1.out hb2)
    clear hk hb2 CL2 c1 c3
    generalize nth s k = y at *
    go_wp2_with fail
    go_ret2
    exact at_yes HR.out HV.out HB2.out
theorem raw_of {l : List Sp} {w : World} {ad : Addr} {n c : Nat} (h : SpansIs l w (.slice (some ad) n c)) : Raw w ad (svals l) := by
  rcases h with ⟨h1, _⟩ | ⟨a, c2, h1, h2, _⟩
  · cases h1
  · injection h1 with h1
    injection h1 with h1
    subst h1
    exact h2
theorem svals_drop (l : List Sp) : ∀ k, (svals l).drop (k * 2) = svals (l.drop k) := by
  induction l with
  | nil => intro k; simp [svals]
  | cons s l ih =>
    intro k
    cases k with
    | zero => rfl
    | succ k =>
      have e : svals (s :: l) = .int .i64 s.1 :: .int .i64 s.2 :: svals l := rfl
      rw [e, show (k + 1) * 2 = k * 2 + 1 + 1 by omega, List.drop_succ_cons, List.drop_succ_cons, List.drop_succ_cons]
      exact ih k
theorem svals_take (l : List Sp) : ∀ k, (svals l).take (k * 2) = svals (l.take k) := by
  induction l with
  | nil => intro k; simp [svals]
  | cons s l ih =>
    intro k
    cases k with
    | zero => simp [svals]
    | succ k =>
      have e : svals (s :: l) = .int .i64 s.1 :: .int .i64 s.2 :: svals l := rfl
      have e2 : svals (s :: l.take k) = .int .i64 s.1 :: .int .i64 s.2 :: svals (l.take k) := rfl
      rw [e, show (k + 1) * 2 = k * 2 + 1 + 1 by omega, List.take_succ_cons, List.take_succ_cons, List.take_succ_cons, ih k, e2]
theorem drop_nth {s : List Sp} {k : Nat} (h : k < s.length) : s.drop k = nth s k :: s.drop (k + 1) := by unfold nth; rw [getSp h, List.drop_eq_getElem_cons h]
theorem trim_ways (s : List Sp) (t : Int) : (chkB s = false ∧ Hid (TrimIs s t [])) ∨ (chkB s = true ∧ decide ((1125899906842624 : Int) < t) = true ∧ Hid (TrimIs s t [])) ∨ (chkB s = true ∧ decide ((1125899906842624 : Int) < t) = false ∧ decide (t ≤ head s) = true ∧ Hid (TrimIs s t s)) ∨
    (chkB s = true ∧ decide ((1125899906842624 : Int) < t) = false ∧ decide (t ≤ head s) = false ∧ Hid (∀ k, LastIs s t k → TrimIs s t ((t, (nth s k).2) :: s.drop (k + 1)))) := by
  cases hc : chkB s with
  | false => exact .inl ⟨rfl, .inl ⟨.inl hc, rfl⟩⟩
  | true =>
    by_cases h1 : 1125899906842624 < t
    · exact .inr (.inl ⟨rfl, decide_eq_true h1, .inl ⟨.inr h1, rfl⟩⟩)
    · by_cases h2 : t ≤ head s
      · exact .inr (.inr (.inl ⟨rfl, decide_eq_false h1, decide_eq_true h2, .inr (.inl ⟨hc, by omega, h2, rfl⟩)⟩))
      · exact .inr (.inr (.inr ⟨rfl, decide_eq_false h1, decide_eq_false h2, fun k hk => .inr (.inr ⟨hc, by omega, by omega, trim_done ((chk_iff s).1 hc) hk (by omega)⟩)⟩))
theorem trim_nil {s : List Sp} {t : Int} (h : TrimIs s t []) {w w' : World} (hb : Below w.heap.size w w') : TrimSays s t w (.returned (.slice none 0 0)) w' := ⟨_, [], rfl, .inl ⟨rfl, rfl⟩, h, hb, NewAt.nil⟩
theorem trim_own {s r : List Sp} {t : Int} (h : TrimIs s t r) {w w1 w' : World} {v : Value} {n : Nat} (hb1 : Below w.heap.size w w1) (ho : OwnR 42 2 w1.heap.size w' v n (svals r)) (hn : n = r.length) (hb : Below w1.heap.size w1 w') : TrimSays s t w (.returned v) w' :=
  ⟨_, r, rfl, OwnR.spans ho hn, h, below_then hb1 hb, NewAt.own ho.toN hb1.size⟩
end Go.Proofs.Ytonapgbokbeopaa.StepWalk
