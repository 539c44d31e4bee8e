/-
  What the theorem uses of the texts below it.
-/
import Derived.Below
import Derived.Laws.OwnMore
import Derived.Deep.Draws
import Derived.Deep.OwnRows
import Derived.Lib.Hide
import Derived.OwnWalk
import Derived.Deep.QuietTactic
import Derived.BigQuiet
import Derived.Lib.SliceRun
import Derived.Test.YtophhiejggnaeaaRows
import Derived.WalkKit
import Derived.WalkSpells
import Derived.WalkLawsBesides
import Derived.Laws.StructEq
import Derived.LoopTactic
import Derived.Deep.CutBlock
import Derived.Deep.DeepCutAuto
import Derived.Deep.RegionHeld3
import Derived.ArgAppend
import Derived.Deep.RegionLaw
import Derived.Lib.AppendIntMem
import Derived.StillTailTactics
import Derived.Maps.RangeWalk
import Derived.Shelf.Small.Bits
import Derived.Shelf.Small.Wraps
import Derived.Shelf.Strconv.Itoa0
import Derived.Test.YtophhiejggnaeaaProg
import Derived.Shelf.SlSortCmp.NoneTotal
import Derived.Shelf.SlicesG.Cmp
import Derived.Test.YtophhiejggnaeaaPa6
namespace Go.Proofs.Ytophhiejggnaeaa.StepWalk
open Go.RowKit Go.Proofs.Ytophhiejggnaeaa.SpanPlain Go.Proofs.Ytophhiejggnaeaa.StepPlain Go.Proofs.Ytophhiejggnaeaa.Mem Go.Proofs.Ytophhiejggnaeaa.SpanMem Go.Proofs.Ytophhiejggnaeaa.StepMem Go.Proofs.Ytophhiejggnaeaa.SpanRef Go.Proofs.Ytophhiejggnaeaa.StepRef
def BoolW (b : Bool) (w : World) (e : Ending) (w' : World) : Prop := e = .returned (.bool b) ∧ w = w'
def begB (t : Int) : Bool := decide (0 ≤ t) && decide (t ≤ 1125899906842624)
def freeB (n : Int) : Bool := decide (0 ≤ n) && decide (n ≤ 256)
theorem isBegS (t : Int) (w : World) : Calls Try.prog 53 #[.int .i64 t] w (BoolW (begB t) w) := by
  have hw : (begB t = true ∧ decide (0 ≤ t) = true ∧ decide (t ≤ 1125899906842624) = true) ∨ (begB t = false ∧ decide (0 ≤ t) = false) ∨ (begB t = false ∧ decide (0 ≤ t) = true ∧ decide (t ≤ 1125899906842624) = false) := by
    unfold begB
    by_cases h1 : 0 ≤ t <;> by_cases h2 : t ≤ 1125899906842624 <;> simp [h1, h2]
  generalize begB t = B at *
  rcases hw with ⟨rfl, h1, h2⟩ | ⟨rfl, h1⟩ | ⟨rfl, h1, h2⟩
  all_goals
    go_enter Try.func53, Try.ntmps53
    go_wp2_with fail
    go_ret
    exact ⟨rfl, rfl⟩
theorem isFreeS (t : Int) (w : World) : Calls Try.prog 54 #[.int .i64 t] w (BoolW (freeB t) w) := by
  have hw : (freeB t = true ∧ decide (0 ≤ t) = true ∧ decide (t ≤ 256) = true) ∨ (freeB t = false ∧ decide (0 ≤ t) = false) ∨ (freeB t = false ∧ decide (0 ≤ t) = true ∧ decide (t ≤ 256) = false) := by
    unfold freeB
    by_cases h1 : 0 ≤ t <;> by_cases h2 : t ≤ 256 <;> simp [h1, h2]
  generalize freeB t = B at *
  rcases hw with ⟨rfl, h1, h2⟩ | ⟨rfl, h1⟩ | ⟨rfl, h1, h2⟩
  all_goals
    go_enter Try.func54, Try.ntmps54
    go_wp2_with fail
    go_ret
    exact ⟨rfl, rfl⟩
set_option maxHeartbeats 800000 in
theorem mayS (s : Sp) (w : World) : Calls Try.prog 57 #[spV s] w (BoolIs (mayB s) w) := by
  have hs := may_cases s
  obtain ⟨a, b⟩ := s
  unfold spV
  dsimp only at hs ⊢
  generalize mayB (a, b) = B at *
  rcases hs with ⟨rfl, h1, h2, h3⟩ | ⟨rfl, h1⟩ | ⟨rfl, h1, h2⟩ | ⟨rfl, h1, h2, h3⟩
  all_goals
    go_enter Try.func57, Try.ntmps57
    go_wp2_with fail
    go_ret
    exact ⟨rfl, (Below.refl _ _).alloc (Nat.le_refl _) _⟩
/-- What Clone answers: a row of its own. -/
def CloneIs (n : Nat) (xs : List Value) (w : World) (e : Ending) (w' : World) : Prop := ∃ v', e = .returned v' ∧ OwnR 59 2 w.heap.size w' v' n xs ∧ Below w.heap.size w w'
set_option maxHeartbeats 800000 in
theorem cloneS (a : Addr) (n c : Nat) (xs : List Value) (w : World) (hl : xs.length = n * 2) (hn : n ≤ 100000) (hr : Raw w a xs) (h1 : ∀ u ∈ xs, u.oneCell' = true) :
    Calls Try.prog 30 #[.slice (some a) n c] w (CloneIs n xs w) := by
  have q22 : ∀ (w : World) (a : Option Addr) (n c n' c' : Nat), (binOp .eql 22 (.slice a n c) (.slice none n' c')).run Try.prog w = .ok (.bool a.isNone) w := fun w a n c n' c' => Lib.run_eql_slice_nil w _ _ a n c n' c' Try.underlying22
  have HR := Lib.hid hr
  have H1 := Lib.hid h1
  have HL := Lib.hid hl
  clear hr h1 hl
  go_enter Try.func30, Try.ntmps30
  go_wp2_with (at_builtin; refine push_raw steps_t rfl (.tmp 5) (.tmp 6) rfl w.heap.size _ _ _ rfl (OwnR.new w 59 2) a n c xs rfl HL.out ?h1 H1.out ?h2 ?_)
  case h1 => exact HR.out.below (below_alloc _ _)
  case h2 => omega
  intro v' w' ho hb
  have HO := Lib.hid ho
  have HB := Lib.hid (((Below.refl _ _).alloc (Nat.le_refl _) _).trans hb)
  clear ho hb
  go_wp2_with fail
  go_ret
  exact ⟨_, rfl, HO.out.cast (by simp) (by simp), HB.out⟩
/-- A step's place, in words of cells. -/
theorem nth_cells {s : List Sp} {w : World} {A : Option Addr} (h : Pairs w A s.length (spCell s)) {k : Nat} (hk : k < s.length) :
    ∃ a, A = some a ∧ a.block < w.heap.size ∧ w.cell? (a.add (k * 2)) = some (.int .i64 (nth s k).1) ∧ w.cell? ⟨(a.add (k * 2)).block, (a.add (k * 2)).off + 1, none⟩ = some (.int .i64 (nth s k).2) := h k hk
theorem okc_ways (s : List Sp) (k : Nat) : (freeB (nth s k).2 = false ∧ Hid (¬ okC s k)) ∨ (freeB (nth s k).2 = true ∧ ((k = 0 ∧ Hid (okC s k)) ∨
      (0 < k ∧ decide ((nth s k).1 ≤ (nth s (k - 1)).1) = true ∧ Hid (¬ okC s k)) ∨ (0 < k ∧ decide ((nth s k).1 ≤ (nth s (k - 1)).1) = false ∧ ((nth s k).2 == (nth s (k - 1)).2) = true ∧ Hid (¬ okC s k)) ∨
      (0 < k ∧ decide ((nth s k).1 ≤ (nth s (k - 1)).1) = false ∧ ((nth s k).2 == (nth s (k - 1)).2) = false ∧ Hid (okC s k)))) := by
  unfold okC freeB
  generalize nth s k = x
  generalize nth s (k - 1) = y
  by_cases h1 : 0 ≤ x.2 ∧ x.2 ≤ 256
  · refine .inr ⟨by rw [decide_eq_true h1.1, decide_eq_true h1.2]; rfl, ?_⟩
    by_cases h2 : k = 0
    · exact .inl ⟨h2, h1, .inl h2⟩
    · by_cases h3 : x.1 ≤ y.1
      · exact .inr (.inl ⟨by omega, decide_eq_true h3, fun h => by rcases h.2 with h4 | h4 <;> omega⟩)
      · by_cases h4 : x.2 = y.2
        · exact .inr (.inr (.inl ⟨by omega, decide_eq_false h3, by simp [h4], fun h => by rcases h.2 with h5 | h5 <;> omega⟩))
        · exact .inr (.inr (.inr ⟨by omega, decide_eq_false h3, by simpa using h4, h1, .inr ⟨by omega, h4⟩⟩))
  · refine .inl ⟨?_, fun h => h1 h.1⟩
    simp only [Bool.and_eq_false_iff, decide_eq_false_iff_not]
    omega
set_option maxRecDepth 100000 in
set_option maxHeartbeats 1600000 in
theorem checkS (s : List Sp) (v : Value) (w : World) (hv : SpansIs s w v) (hl : s.length ≤ 1000) : Calls Try.prog 43 #[v] w (BoolIs (chkB s) w) := by
  obtain ⟨A, c, rfl, hA⟩ := hv.open_
  have HA := Lib.hid hA
  have CB := Lib.hid (fun w => isBegS (head s) w)
  clear hA hv
  by_cases h0 : s.length = 0
  · have HB := Lib.hid (bad_empty h0)
    have e1 : ((s.length : Int) == 0) = true := by simp [h0]
    clear h0
    go_enter Try.func43, Try.ntmps43
    go_wp2_with fail
    go_ret
    rw [HB.out]
    exact ⟨rfl, Below.refl _ _⟩
  · obtain ⟨ad, rfl, had, c1, c2⟩ := pair_zero HA.out (show 0 < s.length by omega)
    obtain ⟨ad', ead, _, c3, c4⟩ := nth_cells HA.out (show s.length - 1 < s.length by omega)
    injection ead with ead
    subst ead
    have e1 : ((s.length : Int) == 0) = false := by simp [h0]
    have q0 : (0 : Int) ≤ ((s.length - 1 : Nat) : Int) := Int.natCast_nonneg _
    have q1 : ((s.length - 1 : Nat) : Int) < (s.length : Int) := by omega
    have q2 : IntKind.i64.wrap ((s.length : Int) - 1) = ((s.length - 1 : Nat) : Int) := by rw [IntKind.wrap_i64]; omega
    have q3 : (0 : Int) < (s.length : Int) := by omega
    have hh : (spCell s 0).1 = .int .i64 (head s) := rfl
    rw [hh] at c1
    have HBH := Lib.hid (fun h => bad_head (s := s) h)
    have HBL := Lib.hid (fun h => bad_last (s := s) h)
    have HBA : Hid (∀ i, i < s.length → ¬ okC s i → chkB s = false) := fun i hi h => bad_at hi h
    have HYES := Lib.hid (fun a b c d => check_yes (s := s) a b c d)
    have HHD : Hid (head s = head s) := rfl
    clear hh HHD
    generalize hlast : (nth s (s.length - 1)).1 = z at *
    generalize hhd : head s = h at *
    have HLA := Lib.hid hlast
    have HHD := Lib.hid hhd
    clear hlast hhd c2 c4
    cases hb : begB h with
    | false =>
      rw [hb] at CB
      have HN : Hid (chkB s = false) := HBH.out (fun h2 => by unfold begB at hb; rw [decide_eq_true h2.1, decide_eq_true h2.2] at hb; cases hb)
      clear HBH HBL HBA HYES hb
      go_enter Try.func43, Try.ntmps43
      go_wp2_with (go_at_call 53; refine (CB.out _).mono ?_; rintro e w1 ⟨rfl, rfl⟩)
      go_ret
      rw [HN.out]
      exact ⟨rfl, Below.refl _ _⟩
    | true =>
      rw [hb] at CB
      have HB : Hid (0 ≤ h ∧ h ≤ 1125899906842624) := by unfold begB at hb; rw [Bool.and_eq_true, decide_eq_true_eq, decide_eq_true_eq] at hb; exact hb
      clear HBH hb
      by_cases hz : 4503599627370496 < z
      · have hz2 : decide (4503599627370496 < z) = true := decide_eq_true hz
        have HN := Lib.hid (HBL.out hz)
        clear HBL HBA HYES hz
        go_enter Try.func43, Try.ntmps43
        go_wp2_with (go_at_call 53; refine (CB.out _).mono ?_; rintro e w1 ⟨rfl, rfl⟩)
        go_ret
        rw [HN.out]
        exact ⟨rfl, Below.refl _ _⟩
      · have hz2 : decide (4503599627370496 < z) = false := decide_eq_false hz
        have HZ : Hid (z ≤ 4503599627370496) := Int.not_lt.1 hz
        clear HBL hz
        go_enter Try.func43, Try.ntmps43
        go_wp2_with (go_at_call 53; refine (CB.out _).mono ?_; rintro e w1 ⟨rfl, rfl⟩)
        clear CB c1 c3 hz2 q0 q1 q2
        go_loopw [28] (fun i wr => ∃ k : Nat, i = .int .i64 k ∧ k ≤ s.length ∧ Hid ((∀ j, j < k → okC s j) ∧ Below w.heap.size w wr)) (fun i _ => s.length - (intOf i).toNat)
        case atStart => exact ⟨0, rfl, Nat.zero_le _, fun j hj => absurd hj (Nat.not_lt_zero _), Below.refl _ _⟩
        case round =>
          obtain ⟨k, rfl, hk, HL⟩ := hrel
          by_cases hlt : k < s.length
          · obtain ⟨hall, hbl⟩ := HL.out
            obtain ⟨ad2, ead, had2, c1, c2⟩ := nth_cells (HA.out.below hbl) hlt
            injection ead with ead
            subst ead
            have hways := okc_ways s k
            have HNO := Lib.hid (fun h => HBA.out k hlt h)
            have HALL := Lib.hid hall
            have HNX : Hid (okC s k → ∀ j, j < k + 1 → okC s j) := fun h j hj => by
              by_cases h1 : j = k
              · subst h1; exact h
              · exact HALL.out j (by omega)
            have HBLW := Lib.hid hbl
            have CF := Lib.hid (fun w => isFreeS (nth s k).2 w)
            have i0 : (0 : Int) ≤ (k : Int) := Int.natCast_nonneg _
            have hlt2 : (k : Int) < (s.length : Int) := by omega
            clear hall hbl HL
            rcases hways with ⟨hf, HO⟩ | ⟨hf, ⟨hk0, HO⟩ | ⟨hk0, h1, HO⟩ | ⟨hk0, h1, h2, HO⟩ | ⟨hk0, h1, h2, HO⟩⟩
            · rw [hf] at CF
              generalize nth s k = x at *
              clear hf
              go_wp2_with (go_at_call 54; refine (CF.out _).mono ?_; rintro e w1 ⟨rfl, rfl⟩)
              go_ret
              rw [HNO.out HO.out]
              exact ⟨rfl, HBLW.out.alloc HBLW.out.size _⟩
            · rw [hf] at CF
              subst hk0
              have e0 : ad.add (0 * 2) = ad := by unfold Addr.add; simp
              rw [e0] at c1 c2
              generalize nth s 0 = x at *
              clear hf e0
              have g1 : decide ((0 : Int) < 0) = false := rfl
              go_wp2_with (go_at_call 54; refine (CF.out _).mono ?_; rintro e w1 ⟨rfl, rfl⟩)
              go_quiet (fail)
              go_wp2_with fail
              exact ⟨⟨0 + 1, by go_num, by omega, HNX.out HO.out, below_drewN (HBLW.out.alloc HBLW.out.size _) _⟩, by simp [intOf] <;> omega⟩
            · rw [hf] at CF
              obtain ⟨ad3, ead, had3, c3, c4⟩ := nth_cells (HA.out.below HBLW.out) (show k - 1 < s.length by omega)
              injection ead with ead
              subst ead
              have g1 : decide ((0 : Int) < (k : Int)) = true := decide_eq_true (by omega)
              have q0 : (0 : Int) ≤ ((k - 1 : Nat) : Int) := Int.natCast_nonneg _
              have q1 : ((k - 1 : Nat) : Int) < (s.length : Int) := by omega
              have q2 : IntKind.i64.wrap ((k : Int) - 1) = ((k - 1 : Nat) : Int) := by rw [IntKind.wrap_i64]; omega
              generalize nth s k = x at *
              generalize nth s (k - 1) = y at *
              have x1 := (below_alloc wr (.cells #[.int .i64 x.1, .int .i64 x.2] 59)).cell (p := ad.add ((k - 1) * 2)) (by rw [add_block]; exact had3)
              have x2 := (below_alloc wr (.cells #[.int .i64 x.1, .int .i64 x.2] 59)).cell (p := ⟨(ad.add ((k - 1) * 2)).block, (ad.add ((k - 1) * 2)).off + 1, none⟩) (by show (ad.add ((k - 1) * 2)).block < _; rw [add_block]; exact had3)
              rw [c3] at x1
              rw [c4] at x2
              have HBOX := Lib.hid (Box2.new wr (.int .i64 x.1) (.int .i64 x.2) 59)
              have HBW := Lib.hid (HBLW.out.alloc HBLW.out.size (.cells #[.int .i64 x.1, .int .i64 x.2] 59))
              clear hf c3 c4
              go_wp2_with (go_at_call 54; refine (CF.out _).mono ?_; rintro e w1 ⟨rfl, rfl⟩)
              obtain ⟨b0, b1, b2, b3, b4⟩ := HBOX.out
              generalize wr.alloc (.cells #[.int .i64 x.1, .int .i64 x.2] 59) = W at *
              clear b3 b4 HBOX c1 c2
              go_quiet (fail)
              go_wp2_with fail
              go_ret
              rw [HNO.out HO.out]
              exact ⟨rfl, below_drewN HBW.out _⟩
            · rw [hf] at CF
              obtain ⟨ad3, ead, had3, c3, c4⟩ := nth_cells (HA.out.below HBLW.out) (show k - 1 < s.length by omega)
              injection ead with ead
              subst ead
              have g1 : decide ((0 : Int) < (k : Int)) = true := decide_eq_true (by omega)
              have q0 : (0 : Int) ≤ ((k - 1 : Nat) : Int) := Int.natCast_nonneg _
              have q1 : ((k - 1 : Nat) : Int) < (s.length : Int) := by omega
              have q2 : IntKind.i64.wrap ((k : Int) - 1) = ((k - 1 : Nat) : Int) := by rw [IntKind.wrap_i64]; omega
              generalize nth s k = x at *
              generalize nth s (k - 1) = y at *
              have x1 := (below_alloc wr (.cells #[.int .i64 x.1, .int .i64 x.2] 59)).cell (p := ad.add ((k - 1) * 2)) (by rw [add_block]; exact had3)
              have x2 := (below_alloc wr (.cells #[.int .i64 x.1, .int .i64 x.2] 59)).cell (p := ⟨(ad.add ((k - 1) * 2)).block, (ad.add ((k - 1) * 2)).off + 1, none⟩) (by show (ad.add ((k - 1) * 2)).block < _; rw [add_block]; exact had3)
              rw [c3] at x1
              rw [c4] at x2
              have HBOX := Lib.hid (Box2.new wr (.int .i64 x.1) (.int .i64 x.2) 59)
              have HBW := Lib.hid (HBLW.out.alloc HBLW.out.size (.cells #[.int .i64 x.1, .int .i64 x.2] 59))
              clear hf c3 c4
              go_wp2_with (go_at_call 54; refine (CF.out _).mono ?_; rintro e w1 ⟨rfl, rfl⟩)
              obtain ⟨b0, b1, b2, b3, b4⟩ := HBOX.out
              generalize wr.alloc (.cells #[.int .i64 x.1, .int .i64 x.2] 59) = W at *
              clear b3 b4 HBOX c1 c2
              go_quiet (fail)
              go_wp2_with fail
              go_ret
              rw [HNO.out HO.out]
              exact ⟨rfl, below_drewN HBW.out _⟩
            · rw [hf] at CF
              obtain ⟨ad3, ead, had3, c3, c4⟩ := nth_cells (HA.out.below HBLW.out) (show k - 1 < s.length by omega)
              injection ead with ead
              subst ead
              have g1 : decide ((0 : Int) < (k : Int)) = true := decide_eq_true (by omega)
              have q0 : (0 : Int) ≤ ((k - 1 : Nat) : Int) := Int.natCast_nonneg _
              have q1 : ((k - 1 : Nat) : Int) < (s.length : Int) := by omega
              have q2 : IntKind.i64.wrap ((k : Int) - 1) = ((k - 1 : Nat) : Int) := by rw [IntKind.wrap_i64]; omega
              generalize nth s k = x at *
              generalize nth s (k - 1) = y at *
              have x1 := (below_alloc wr (.cells #[.int .i64 x.1, .int .i64 x.2] 59)).cell (p := ad.add ((k - 1) * 2)) (by rw [add_block]; exact had3)
              have x2 := (below_alloc wr (.cells #[.int .i64 x.1, .int .i64 x.2] 59)).cell (p := ⟨(ad.add ((k - 1) * 2)).block, (ad.add ((k - 1) * 2)).off + 1, none⟩) (by show (ad.add ((k - 1) * 2)).block < _; rw [add_block]; exact had3)
              rw [c3] at x1
              rw [c4] at x2
              have HBOX := Lib.hid (Box2.new wr (.int .i64 x.1) (.int .i64 x.2) 59)
              have HBW := Lib.hid (HBLW.out.alloc HBLW.out.size (.cells #[.int .i64 x.1, .int .i64 x.2] 59))
              clear hf c3 c4
              go_wp2_with (go_at_call 54; refine (CF.out _).mono ?_; rintro e w1 ⟨rfl, rfl⟩)
              obtain ⟨b0, b1, b2, b3, b4⟩ := HBOX.out
              generalize wr.alloc (.cells #[.int .i64 x.1, .int .i64 x.2] 59) = W at *
              clear b3 b4 HBOX c1 c2
              go_quiet (fail)
              go_wp2_with fail
              exact ⟨⟨k + 1, by go_num, by omega, HNX.out HO.out, below_drewN HBW.out _⟩, by simp [intOf] <;> omega⟩
          · obtain ⟨hall, hbl⟩ := HL.out
            have HY : Hid (chkB s = true) := HYES.out (by omega) HB.out HZ.out (fun i hi => hall i (by omega))
            have HBLW := Lib.hid hbl
            clear hall hbl HL
            go_wp2_with fail
            go_ret
            rw [HY.out]
            exact ⟨rfl, HBLW.out⟩
end Go.Proofs.Ytophhiejggnaeaa.StepWalk
namespace Go.Proofs.Ytophhiejggnaeaa.StepWalk
open Go.RowKit Go.Proofs.Ytophhiejggnaeaa.SpanPlain Go.Proofs.Ytophhiejggnaeaa.StepPlain Go.Proofs.Ytophhiejggnaeaa.Mem Go.Proofs.Ytophhiejggnaeaa.SpanMem Go.Proofs.Ytophhiejggnaeaa.StepMem Go.Proofs.Ytophhiejggnaeaa.SpanRef Go.Proofs.Ytophhiejggnaeaa.StepRef
def IntW (n : Int) (w : World) (e : Ending) (w' : World) : Prop := e = .returned (.int .i64 n) ∧ w = w'
def cmpI (x y : Int) : Int := if x < y then -1 else if x = y then 0 else 1
theorem cmp_lt (x y : Int) : decide (cmpI x y < 0) = decide (x < y) := by
  unfold cmpI
  by_cases h1 : x < y
  · simp [h1]
  · by_cases h2 : x = y <;> simp [h1, h2]
theorem cmp_eq (x y : Int) : (cmpI x y == 0) = decide (x = y) := by
  unfold cmpI
  by_cases h1 : x < y
  · simp [h1]; omega
  · by_cases h2 : x = y <;> simp [h1, h2]
theorem cmpS (x y : Int) (w : World) : Calls Try.prog 71 #[.int .i64 x, .int .i64 y] w (IntW (cmpI x y) w) := by
  refine (Try.cmp_Compare_int x y w).mono ?_
  rintro e w' ⟨rfl, rfl⟩
  refine ⟨?_, rfl⟩
  unfold Lib.compareInt cmpI
  congr 2
  split
  · rfl
  · split <;> split <;> omega
theorem int_eq {k : IntKind} {a b : Int} (h : a = b) : Value.int k a = Value.int k b := by rw [h]
theorem ret_eq {k : IntKind} {a b : Int} (h : a = b) : Ending.returned (.int k a) = .returned (.int k b) := by rw [h]
/-- What the closure answers: it keeps a box of its own. -/
def IntBox (n : Int) (y : Sp) (w : World) (e : Ending) (w' : World) : Prop := e = .returned (.int .i64 n) ∧ w' = w.alloc (.cells #[.int .i64 y.1, .int .i64 y.2] 59)
theorem atS1 (y : Sp) (t : Int) (w : World) : Calls Try.prog 70 #[spV y, .int .i64 t] w (IntBox (cmpI y.1 t) y w) := by
  have C1 := Lib.hid (fun w => cmpS y.1 t w)
  unfold spV
  generalize cmpI y.1 t = n at *
  go_enter Try.func70, Try.ntmps70
  go_wp2_with (go_at_call 71; refine (C1.out _).mono ?_; rintro e w1 ⟨rfl, rfl⟩)
  go_ret
  exact ⟨rfl, rfl⟩
/-- How many steps are ahead of a time. -/
def SearchIs (s : List Sp) (t : Int) (w : World) (e : Ending) (w' : World) : Prop := ∃ k : Nat, e = .returned (.tuple #[.int .i64 k, .bool (decide (k < s.length) && decide ((nth s k).1 = t))]) ∧ k ≤ s.length ∧ (∀ j, j < k → (nth s j).1 < t) ∧ (∀ j, k ≤ j → j < s.length → t ≤ (nth s j).1) ∧ Below w.heap.size w w'
/-- How the search stands. -/
def SearchAt (s : List Sp) (t : Int) (i j : Nat) : Prop := i ≤ j ∧ j ≤ s.length ∧ (∀ m, m < i → (nth s m).1 < t) ∧ ∀ m, j ≤ m → m < s.length → t ≤ (nth s m).1
theorem search_low {s : List Sp} (hu : Up s) {t : Int} {i j : Nat} (h : SearchAt s t i j) (hij : i < j) (hx : (nth s ((i + j) / 2)).1 < t) : SearchAt s t ((i + j) / 2 + 1) j := by
  obtain ⟨h1, h2, h3, h4⟩ := h
  refine ⟨by omega, h2, fun m hm => ?_, h4⟩
  have := hu.le (i := m) (j := (i + j) / 2) (by omega) (by omega)
  omega
theorem search_high {s : List Sp} (hu : Up s) {t : Int} {i j : Nat} (h : SearchAt s t i j) (hij : i < j) (hx : ¬ (nth s ((i + j) / 2)).1 < t) : SearchAt s t i ((i + j) / 2) := by
  obtain ⟨h1, h2, h3, h4⟩ := h
  refine ⟨by omega, by omega, h3, fun m hm hl => ?_⟩
  have := hu.le (i := (i + j) / 2) (j := m) (by omega) (by omega)
  omega
set_option maxRecDepth 100000 in
set_option maxHeartbeats 1600000 in
theorem searchS (s : List Sp) (t : Int) (v : Value) (w : World) (hv : SpansIs s w v) (hu : Up s) (hl : s.length ≤ 2000) :
    Calls Try.prog 69 #[v, .int .i64 t, .func (.func 70) #[] #[]] w (SearchIs s t w) := by
  obtain ⟨A, c, rfl, hA⟩ := hv.open_
  have HA := Lib.hid hA
  have HU := Lib.hid hu
  clear hA hv hu
  go_enter Try.func69, Try.ntmps69
  go_wp2_with fail
  go_loopw [9, 10] (fun a b wr => ∃ i j : Nat, a = .int .i64 i ∧ b = .int .i64 j ∧ i ≤ j ∧ j ≤ s.length ∧ Hid (SearchAt s t i j ∧ Below w.heap.size w wr)) (fun a b _ => (intOf b).toNat - (intOf a).toNat)
  case atStart => exact ⟨0, s.length, rfl, rfl, Nat.zero_le _, Nat.le_refl _, ⟨Nat.zero_le _, Nat.le_refl _, fun m hm => absurd hm (Nat.not_lt_zero _), fun m h1 h2 => by omega⟩, Below.refl _ _⟩
  case round =>
    obtain ⟨i, j, rfl, rfl, hij, hj, HL⟩ := hrel
    obtain ⟨hat, hbl⟩ := HL.out
    by_cases hlt : i < j
    · obtain ⟨ad, rfl, had, c1, c2⟩ := nth_cells (HA.out.below hbl) (show (i + j) / 2 < s.length by omega)
      have C1 := Lib.hid (fun w => atS1 (nth s ((i + j) / 2)) t w)
      have HLOW := Lib.hid (fun h => search_low HU.out hat hlt h)
      have HHIGH := Lib.hid (fun h => search_high HU.out hat hlt h)
      have HBL := Lib.hid hbl
      have hcl := cmp_lt (nth s ((i + j) / 2)).1 t
      unfold spV at C1
      clear hat hbl HL
      generalize nth s ((i + j) / 2) = x at *
      generalize cmpI x.1 t = q at *
      by_cases hx : x.1 < t
      · rw [decide_eq_true hx] at hcl
        have HS := Lib.hid (HLOW.out hx)
        clear HLOW HHIGH hx
        go_wp2_with fail
        refine (C1.out _).mono ?_
        rintro e w1 ⟨rfl, rfl⟩
        go_wp2_with fail
        exact ⟨⟨(i + j) / 2 + 1, j, int_eq (by omega), rfl, by omega, hj, HS.out, HBL.out.alloc HBL.out.size _⟩, by simp [intOf] <;> omega⟩
      · rw [decide_eq_false hx] at hcl
        have HS := Lib.hid (HHIGH.out hx)
        clear HLOW HHIGH hx
        go_wp2_with fail
        refine (C1.out _).mono ?_
        rintro e w1 ⟨rfl, rfl⟩
        go_wp2_with fail
        exact ⟨⟨i, (i + j) / 2, rfl, int_eq (by omega), by omega, by omega, HS.out, HBL.out.alloc HBL.out.size _⟩, by simp [intOf] <;> omega⟩
    · obtain ⟨hat, hbl⟩ := HL.out
      obtain rfl : i = j := by omega
      have HAT := Lib.hid hat
      have HBL := Lib.hid hbl
      clear hat hbl HL
      by_cases hk : i < s.length
      · obtain ⟨ad, rfl, had, c1, c2⟩ := nth_cells (HA.out.below HBL.out) hk
        have C1 := Lib.hid (fun w => atS1 (nth s i) t w)
        have hce := cmp_eq (nth s i).1 t
        have HR : Hid (SearchIs s t w (.returned (.tuple #[.int .i64 i, .bool (decide ((nth s i).1 = t))])) (wr.alloc (.cells #[.int .i64 (nth s i).1, .int .i64 (nth s i).2] 59))) :=
          ⟨i, by rw [decide_eq_true hk]; rfl, hj, HAT.out.2.2.1, HAT.out.2.2.2, HBL.out.alloc HBL.out.size _⟩
        have hk2 : (i : Int) < (s.length : Int) := by omega
        unfold spV at C1
        generalize nth s i = x at *
        generalize cmpI x.1 t = q at *
        generalize decide (x.1 = t) = B at *
        go_wp2_with fail
        refine (C1.out _).mono ?_
        rintro e w1 ⟨rfl, rfl⟩
        cases B
        all_goals
          go_wp2_with fail
          go_ret2
          exact HR.out
      · have HR : Hid (SearchIs s t w (.returned (.tuple #[.int .i64 i, .bool false])) wr) :=
          ⟨i, by rw [decide_eq_false hk]; rfl, hj, HAT.out.2.2.1, HAT.out.2.2.2, HBL.out⟩
        go_wp2_with fail
        go_ret2
        exact HR.out
/-- What last answers. -/
def LastSays (s : List Sp) (t : Int) (w : World) (e : Ending) (w' : World) : Prop := ∃ k : Nat, e = .returned (.int .i64 k) ∧ LastIs s t k ∧ Below w.heap.size w w'
theorem last_of {s : List Sp} {t : Int} {k : Nat} (hu : Up s) (hk : k ≤ s.length) (h1 : ∀ j, j < k → (nth s j).1 < t) (h2 : ∀ j, k ≤ j → j < s.length → t ≤ (nth s j).1) (hp : 0 < s.length) (hh : head s ≤ t) :
    ((decide (k < s.length) && decide ((nth s k).1 = t)) = true ∧ LastIs s t k) ∨ ((decide (k < s.length) && decide ((nth s k).1 = t)) = false ∧ 0 < k ∧ LastIs s t (k - 1)) := by
  by_cases h : k < s.length ∧ (nth s k).1 = t
  · left
    refine ⟨by rw [decide_eq_true h.1, decide_eq_true h.2]; rfl, h.1, by omega, fun j h3 h4 => ?_⟩
    have := hu.lt h3 h4
    omega
  · right
    have h0 : 0 < k := by
      rcases Nat.eq_zero_or_pos k with h3 | h3
      · subst h3
        have := h2 0 (Nat.le_refl _) hp
        unfold head at hh
        exact absurd ⟨hp, by unfold nth at *; omega⟩ h
      · exact h3
    refine ⟨?_, h0, by omega, by have := h1 (k - 1) (by omega); omega, fun j h3 h4 => ?_⟩
    · by_cases h3 : k < s.length
      · rw [decide_eq_true h3, decide_eq_false (fun h4 => h ⟨h3, h4⟩)]; rfl
      · rw [decide_eq_false h3]; rfl
    · have h5 := h2 j (by omega) h4
      by_cases h6 : j = k
      · subst h6
        have : ¬ (nth s j).1 = t := fun h7 => h ⟨h4, h7⟩
        omega
      · have := hu.lt (i := k) (j := j) (by omega) h4
        have := h2 k (Nat.le_refl _) (by omega)
        omega
set_option maxHeartbeats 800000 in
theorem lastS (s : List Sp) (t : Int) (v : Value) (w : World) (hv : SpansIs s w v) (hu : Up s) (hp : 0 < s.length) (hh : head s ≤ t) (hl : s.length ≤ 2000) : Calls Try.prog 59 #[v, .int .i64 t] w (LastSays s t w) := by
  have C1 := Lib.hid (searchS s t v w hv hu hl)
  have HL : Hid (∀ k, k ≤ s.length → (∀ j, j < k → (nth s j).1 < t) → (∀ j, k ≤ j → j < s.length → t ≤ (nth s j).1) → _) := fun k hk h1 h2 => last_of hu hk h1 h2 hp hh
  clear hv hu
  go_enter Try.func59, Try.ntmps59
  go_wp2_with fail
  refine C1.out.mono ?_
  rintro e w1 ⟨k, rfl, hk, h1, h2, hb⟩
  have HB := Lib.hid hb
  have hw := HL.out k hk h1 h2
  clear h1 h2 hb HL C1
  generalize (decide (k < s.length) && decide ((nth s k).1 = t)) = B at *
  rcases hw with ⟨rfl, hi⟩ | ⟨rfl, h0, hi⟩
  · have HI := Lib.hid hi
    clear hi
    go_wp2_with fail
    go_ret
    exact ⟨k, rfl, HI.out, HB.out⟩
  · have HI := Lib.hid hi
    clear hi
    go_wp2_with fail
    go_ret
    exact ⟨k - 1, ret_eq (by omega), HI.out, HB.out⟩
end Go.Proofs.Ytophhiejggnaeaa.StepWalk
namespace Go.Proofs.Ytophhiejggnaeaa.StepWalk
open Go.RowKit Go.Proofs.Ytophhiejggnaeaa.SpanPlain Go.Proofs.Ytophhiejggnaeaa.StepPlain Go.Proofs.Ytophhiejggnaeaa.Mem Go.Proofs.Ytophhiejggnaeaa.SpanMem Go.Proofs.Ytophhiejggnaeaa.StepMem Go.Proofs.Ytophhiejggnaeaa.SpanRef Go.Proofs.Ytophhiejggnaeaa.StepRef
theorem atb_ways (s : List Sp) (t : Int) : (chkB s = false ∧ Hid (atB s t = false)) ∨ (chkB s = true ∧ decide (t < head s) = true ∧ Hid (atB s t = false)) ∨ (chkB s = true ∧ decide (t < head s) = false ∧ decide (4503599627370496 ≤ t) = true ∧ Hid (atB s t = false)) ∨
    (chkB s = true ∧ decide (t < head s) = false ∧ decide (4503599627370496 ≤ t) = false ∧ Hid (atB s t = true)) := by
  unfold atB
  cases chkB s with
  | false => exact .inl ⟨rfl, rfl⟩
  | true =>
    by_cases h1 : t < head s
    · exact .inr (.inl ⟨rfl, decide_eq_true h1, by rw [decide_eq_false (by omega : ¬ head s ≤ t)]; rfl⟩)
    · by_cases h2 : 4503599627370496 ≤ t
      · exact .inr (.inr (.inl ⟨rfl, decide_eq_false h1, decide_eq_true h2, by rw [decide_eq_false (by omega : ¬ t < 4503599627370496), Bool.and_false]; rfl⟩))
      · exact .inr (.inr (.inr ⟨rfl, decide_eq_false h1, decide_eq_false h2, by rw [decide_eq_true (by omega : head s ≤ t), decide_eq_true (by omega : t < 4503599627370496)]; rfl⟩))
theorem at_no {s : List Sp} {t : Int} (h : atB s t = false) {w w' : World} (hb : Below w.heap.size w w') : PairIs (atN s t) (atB s t) w (.returned (.tuple #[.int .i64 0, .bool false])) w' := by
  unfold atN
  rw [h]
  exact ⟨rfl, hb⟩
theorem at_yes {s : List Sp} {t : Int} (h : atB s t = true) {n : Int} (hn : val s t = n) {w w' : World} (hb : Below w.heap.size w w') : PairIs (atN s t) (atB s t) w (.returned (.tuple #[.int .i64 n, .bool true])) w' := by
  unfold atN
  rw [h, hn]
  exact ⟨rfl, hb⟩
set_option maxHeartbeats 1600000 in
theorem atS (s : List Sp) (t : Int) (v : Value) (w : World) (hv : SpansIs s w v) (hl : s.length ≤ 1000) : Calls Try.prog 48 #[v, .int .i64 t] w (PairIs (atN s t) (atB s t) w) := by
  have CC := Lib.hid (checkS s v w hv hl)
  have CL : Hid (∀ (w' : World), Below w.heap.size w w' → Chk s → head s ≤ t → Calls Try.prog 59 #[v, .int .i64 t] w' (LastSays s t w')) := fun w' hb hc hh => lastS s t v w' (hv.below hb) hc.up hc.pos hh (by omega)
  obtain ⟨A, c, rfl, hn, hA⟩ := hv.open2
  have HA := Lib.hid hA
  clear hA hv
  rcases atb_ways s t with ⟨hc, HR⟩ | ⟨hc, h1, HR⟩ | ⟨hc, h1, h2, HR⟩ | ⟨hc, h1, h2, HR⟩
  · rw [hc] at CC
    clear hc
    go_enter Try.func48, Try.ntmps48
    go_wp2_with fail
    refine CC.out.mono ?_
    rintro e w1 ⟨rfl, hb1⟩
    have HB1 := Lib.hid hb1
    clear hb1
    go_wp2_with fail
    go_ret2
    exact at_no HR.out HB1.out
  all_goals
    have HC := Lib.hid ((chk_iff s).1 hc)
    have hp : 0 < s.length := HC.out.pos
    rw [hc] at CC
    obtain ⟨ad, rfl, had, _, _⟩ := pair_zero HA.out hp
    clear hc
    go_enter Try.func48, Try.ntmps48
    go_wp2_with fail
    refine CC.out.mono ?_
    rintro e w1 ⟨rfl, hb1⟩
    obtain ⟨ad1, ead, had1, c1, c2⟩ := pair_zero (HA.out.below hb1) hp
    injection ead with ead
    subst ead
    have hh : (spCell s 0).1 = .int .i64 (head s) := rfl
    have hlz : (0 : Int) < (s.length : Int) := by omega
    rw [hh] at c1
    have HB1 := Lib.hid hb1
    clear hb1 c2 hh CC
  · generalize head s = h at *
    go_wp2_with fail
    go_ret2
    exact at_no HR.out HB1.out
  · generalize head s = h at *
    go_wp2_with fail
    go_ret2
    exact at_no HR.out HB1.out
  · have CL2 := Lib.hid (CL.out w1 HB1.out HC.out (by have := of_decide_eq_false h1; omega))
    generalize head s = h at *
    clear CL
    go_wp2_with fail
    refine CL2.out.mono ?_
    rintro e w2 ⟨k, rfl, hk, hb2⟩
    obtain ⟨ad2, ead, had2, c3, c4⟩ := nth_cells (HA.out.below (below_then HB1.out hb2)) hk.lt
    injection ead with ead
    subst ead
    have HV := Lib.hid hk.val
    have hk2 : (k : Int) < (s.length : Int) := by have := hk.lt; omega
    have HB2 := Lib.hid (below_then HB1.out hb2)
    clear hk hb2 CL2 c1 c3
    generalize nth s k = y at *
    go_wp2_with fail
    go_ret2
    exact at_yes HR.out HV.out HB2.out
theorem raw_of {l : List Sp} {w : World} {ad : Addr} {n c : Nat} (h : SpansIs l w (.slice (some ad) n c)) : Raw w ad (svals l) := by
  rcases h with ⟨h1, _⟩ | ⟨a, c2, h1, h2, _⟩
  · cases h1
  · injection h1 with h1
    injection h1 with h1
    subst h1
    exact h2
theorem svals_drop (l : List Sp) : ∀ k, (svals l).drop (k * 2) = svals (l.drop k) := by
  induction l with
  | nil => intro k; simp [svals]
  | cons s l ih =>
    intro k
    cases k with
    | zero => rfl
    | succ k =>
      have e : svals (s :: l) = .int .i64 s.1 :: .int .i64 s.2 :: svals l := rfl
      rw [e, show (k + 1) * 2 = k * 2 + 1 + 1 by omega, List.drop_succ_cons, List.drop_succ_cons, List.drop_succ_cons]
      exact ih k
theorem svals_take (l : List Sp) : ∀ k, (svals l).take (k * 2) = svals (l.take k) := by
  induction l with
  | nil => intro k; simp [svals]
  | cons s l ih =>
    intro k
    cases k with
    | zero => simp [svals]
    | succ k =>
      have e : svals (s :: l) = .int .i64 s.1 :: .int .i64 s.2 :: svals l := rfl
      have e2 : svals (s :: l.take k) = .int .i64 s.1 :: .int .i64 s.2 :: svals (l.take k) := rfl
      rw [e, show (k + 1) * 2 = k * 2 + 1 + 1 by omega, List.take_succ_cons, List.take_succ_cons, List.take_succ_cons, ih k, e2]
end Go.Proofs.Ytophhiejggnaeaa.StepWalk
namespace Go.Proofs.Ytophhiejggnaeaa.StepWalk
open Go.RowKit Go.Proofs.Ytophhiejggnaeaa.SpanPlain Go.Proofs.Ytophhiejggnaeaa.StepPlain Go.Proofs.Ytophhiejggnaeaa.Mem Go.Proofs.Ytophhiejggnaeaa.SpanMem Go.Proofs.Ytophhiejggnaeaa.StepMem Go.Proofs.Ytophhiejggnaeaa.SpanRef Go.Proofs.Ytophhiejggnaeaa.StepRef
theorem minb_ways (s : List Sp) (x : Sp) : (chkB s = false ∧ Hid (minB s x = false)) ∨ (chkB s = true ∧ mayB x = false ∧ Hid (minB s x = false)) ∨ (chkB s = true ∧ mayB x = true ∧ decide (x.1 < head s) = true ∧ Hid (minB s x = false)) ∨
    (chkB s = true ∧ mayB x = true ∧ decide (x.1 < head s) = false ∧ Hid (minB s x = true ∧ Chk s ∧ May x ∧ head s ≤ x.1)) := by
  unfold minB
  cases hc : chkB s with
  | false => exact .inl ⟨rfl, rfl⟩
  | true =>
    cases hm : mayB x with
    | false => exact .inr (.inl ⟨rfl, rfl, rfl⟩)
    | true =>
      by_cases h : x.1 < head s
      · exact .inr (.inr (.inl ⟨rfl, rfl, decide_eq_true h, by rw [decide_eq_false (by omega : ¬ head s ≤ x.1)]; rfl⟩))
      · exact .inr (.inr (.inr ⟨rfl, rfl, decide_eq_false h, by rw [decide_eq_true (by omega : head s ≤ x.1)]; rfl, (chk_iff s).1 hc, (mayB_iff x).1 hm, by omega⟩))
theorem min_no {s : List Sp} {x : Sp} (h : minB s x = false) {w w' : World} (hb : Below w.heap.size w w') : MinSays s x w (.returned (.tuple #[.int .i64 0, .bool false])) w' := ⟨0, by rw [h], .inr ⟨h, rfl⟩, hb⟩
theorem min_yes {s : List Sp} {x : Sp} (h : minB s x = true) {n : Int} (hn : MinOf s x n) {w w' : World} (hb : Below w.heap.size w w') : MinSays s x w (.returned (.tuple #[.int .i64 n, .bool true])) w' := ⟨n, by rw [h], .inl ⟨h, hn⟩, hb⟩
/-- The least one so far, j steps on from the k-th. -/
def minAt (s : List Sp) (x : Sp) (k j : Nat) : Int := minTo s x (k + max 1 j)
theorem minAt_zero {s : List Sp} (hc : Chk s) {x : Sp} {k : Nat} (h : LastIs s x.1 k) : minAt s x k 0 = (nth s k).2 := by
  unfold minAt
  rw [show k + max 1 0 = k + 1 by omega]
  exact min_start hc.up h
theorem minAt_next {s : List Sp} (hc : Chk s) {x : Sp} {k : Nat} (h : LastIs s x.1 k) {j : Nat} (hj : j < s.length - k) (h2 : (nth s (k + j)).1 < x.2) : min (minAt s x k j) (nth s (k + j)).2 = minAt s x k (j + 1) := by
  by_cases h0 : j = 0
  · subst h0
    rw [minAt_zero hc h, Nat.add_zero]
    have := minAt_zero hc h
    unfold minAt at *
    rw [show k + max 1 (0 + 1) = k + max 1 0 by omega, this]
    omega
  · unfold minAt
    rw [show k + max 1 j = k + j by omega, show k + max 1 (j + 1) = k + j + 1 by omega]
    exact (min_more hc.up h (by omega) (by omega) h2).symm
theorem minAt_stop {s : List Sp} (hc : Chk s) {x : Sp} (hx : x.1 < x.2) (hh : head s ≤ x.1) {k : Nat} (h : LastIs s x.1 k) {j : Nat} (hj : j < s.length - k) (h2 : x.2 ≤ (nth s (k + j)).1) : MinOf s x (minAt s x k j) := by
  have h0 : j ≠ 0 := fun e => by subst e; have := h.le; rw [Nat.add_zero] at h2; omega
  unfold minAt
  rw [show k + max 1 j = k + j by omega]
  exact min_done hc hx hh (fun _ => h2) (by omega)
theorem minAt_done {s : List Sp} (hc : Chk s) {x : Sp} (hx : x.1 < x.2) (hh : head s ≤ x.1) {k : Nat} (h : LastIs s x.1 k) {j : Nat} (hj : j = s.length - k) : MinOf s x (minAt s x k j) := by
  have := h.lt
  unfold minAt
  rw [show k + max 1 j = s.length by omega]
  exact min_done hc hx hh (fun h1 => by omega) (Nat.le_refl _)
/-- The steps from the k-th on. -/
theorem drop_pairs {s : List Sp} {w : World} {ad : Addr} {n c : Nat} (h : SpansIs s w (.slice (some ad) n c)) (k : Nat) {j : Nat} (hj : j < s.length - k) :
    (ad.add (k * 2)).block < w.heap.size ∧ w.cell? ((ad.add (k * 2)).add (j * 2)) = some (.int .i64 (nth s (k + j)).1) ∧ w.cell? ⟨((ad.add (k * 2)).add (j * 2)).block, ((ad.add (k * 2)).add (j * 2)).off + 1, none⟩ = some (.int .i64 (nth s (k + j)).2) := by
  have hr := (raw_of h).drop (k * 2)
  rw [svals_drop] at hr
  have hl : j < (s.drop k).length := by rw [List.length_drop]; exact hj
  obtain ⟨A, c2, hv, hp⟩ := SpansIs.open_ (l := s.drop k) (w := w) (v := .slice (some (ad.add (k * 2))) (s.drop k).length (s.drop k).length) (.inr ⟨_, _, rfl, hr, Nat.le_refl _⟩)
  obtain ⟨a, ea, h1, h2, h3⟩ := hp j hl
  injection hv with hv
  subst hv
  injection ea with ea
  subst ea
  have e : (s.drop k).getD j (0, 0) = nth s (k + j) := by unfold nth; simp [List.getD]
  unfold spCell at h2 h3
  rw [e] at h2 h3
  exact ⟨h1, h2, h3⟩
set_option maxRecDepth 100000 in
set_option maxHeartbeats 1600000 in
theorem minS (s : List Sp) (x : Sp) (v : Value) (w : World) (hv : SpansIs s w v) (hl : s.length ≤ 1000) : Calls Try.prog 68 #[v, spV x] w (MinSays s x w) := by
  have HB0 := Lib.hid (below_alloc w (.cells #[.int .i64 x.1, .int .i64 x.2] 74))
  have HX0 := Lib.hid (Box2.new w (.int .i64 x.1) (.int .i64 x.2) 74)
  have CC : Hid (∀ p : Lull (w.alloc (.cells #[.int .i64 x.1, .int .i64 x.2] 74)), Calls Try.prog 43 #[v] p.u (BoolIs (chkB s) p.u)) := fun p => checkS s v p.u (hv.below (below_then HB0.out p.h)) hl
  have CM : Hid (∀ W, Calls Try.prog 57 #[.agg #[.int .i64 x.1, .int .i64 x.2]] W (BoolIs (mayB x) W)) := fun W => mayS x W
  have CL : Hid (∀ (w' : World), Below w.heap.size w w' → Chk s → head s ≤ x.1 → Calls Try.prog 59 #[v, .int .i64 x.1] w' (LastSays s x.1 w')) := fun w' hb hc hh => lastS s x.1 v w' (hv.below hb) hc.up hc.pos hh (by omega)
  have HV := Lib.hid hv
  obtain ⟨A, c, rfl, hn, hA⟩ := hv.open2
  have HA := Lib.hid hA
  clear hA hv
  unfold spV
  rcases minb_ways s x with ⟨hc, HR⟩ | ⟨hc, hm, HR⟩ | ⟨hc, hm, h1, HR⟩ | ⟨hc, hm, h1, HR⟩
  · rw [hc] at CC
    clear hc
    go_enter Try.func68, Try.ntmps68
    go_wp2_with fail
    refine wp_region_calm (by kernel_rfl) (by kernel_rfl) ?_
    repeat (first | go_big_quiet_step ((first | (go_at_call 43; exact calm_of (v := .bool false) (CC.out _)))) | quiet_step ((first | (go_at_call 43; exact calm_of (v := .bool false) (CC.out _)))))
    refine wpQuiet_nil ?_
    intro w1 hw
    have hb1 := lull_below hw
    clear hw
    have HB1 := Lib.hid hb1
    clear hb1
    go_wp2_with fail
    go_ret2
    exact min_no HR.out (below_then HB0.out HB1.out)
  · have HC := Lib.hid ((chk_iff s).1 hc)
    have hp : 0 < s.length := HC.out.pos
    have hlz : (0 : Int) < (s.length : Int) := by omega
    rw [hc] at CC
    rw [hm] at CM
    obtain ⟨ad, rfl, had, c1, _⟩ := pair_zero HA.out hp
    have hh : (spCell s 0).1 = .int .i64 (head s) := rfl
    rw [hh] at c1
    have P0 := calm_cell HX0.out.lt HX0.out.c0
    have P1 := calm_cell (a := ⟨w.heap.size, 1, none⟩) HX0.out.lt HX0.out.c1
    have P2 := calm_cell (Nat.lt_of_lt_of_le had HB0.out.size) ((HB0.out.cell had).trans c1)
    clear hc hm hh c1
    generalize hhd : head s = h at *
    have HHD := Lib.hid hhd
    clear hhd
    go_enter Try.func68, Try.ntmps68
    go_wp2_with fail
    refine wp_region_calm (by kernel_rfl) (by kernel_rfl) ?_
    repeat (first | go_big_quiet_step (((first | (go_at_call 43; exact calm_of (v := .bool true) (CC.out _)) | (go_at_call 57; exact calm_of (v := .bool false) (CM.out _))))) | quiet_step (((first | (go_at_call 43; exact calm_of (v := .bool true) (CC.out _)) | (go_at_call 57; exact calm_of (v := .bool false) (CM.out _))))))
    refine wpQuiet_nil ?_
    intro w1 hw
    have hb1 := lull_below hw
    clear hw
    have HB1 := Lib.hid hb1
    clear hb1 P0 P1 P2
    go_wp2_with fail
    go_ret2
    exact min_no HR.out (below_then HB0.out HB1.out)
  · have HC := Lib.hid ((chk_iff s).1 hc)
    have hp : 0 < s.length := HC.out.pos
    have hlz : (0 : Int) < (s.length : Int) := by omega
    rw [hc] at CC
    rw [hm] at CM
    obtain ⟨ad, rfl, had, c1, _⟩ := pair_zero HA.out hp
    have hh : (spCell s 0).1 = .int .i64 (head s) := rfl
    rw [hh] at c1
    have P0 := calm_cell HX0.out.lt HX0.out.c0
    have P1 := calm_cell (a := ⟨w.heap.size, 1, none⟩) HX0.out.lt HX0.out.c1
    have P2 := calm_cell (Nat.lt_of_lt_of_le had HB0.out.size) ((HB0.out.cell had).trans c1)
    clear hc hm hh c1
    generalize hhd : head s = h at *
    have HHD := Lib.hid hhd
    clear hhd
    go_enter Try.func68, Try.ntmps68
    go_wp2_with fail
    refine wp_region_calm (by kernel_rfl) (by kernel_rfl) ?_
    repeat (first | go_big_quiet_step (((first | (go_at_call 43; exact calm_of (v := .bool true) (CC.out _)) | (go_at_call 57; exact calm_of (v := .bool true) (CM.out _))))) | quiet_step (((first | (go_at_call 43; exact calm_of (v := .bool true) (CC.out _)) | (go_at_call 57; exact calm_of (v := .bool true) (CM.out _))))))
    refine wpQuiet_nil ?_
    intro w1 hw
    have hb1 := lull_below hw
    clear hw
    have HB1 := Lib.hid hb1
    clear hb1 P0 P1 P2
    go_wp2_with fail
    go_ret2
    exact min_no HR.out (below_then HB0.out HB1.out)
  · have HC := Lib.hid ((chk_iff s).1 hc)
    have hp : 0 < s.length := HC.out.pos
    have hlz : (0 : Int) < (s.length : Int) := by omega
    rw [hc] at CC
    rw [hm] at CM
    obtain ⟨ad, rfl, had, c1, _⟩ := pair_zero HA.out hp
    have hh : (spCell s 0).1 = .int .i64 (head s) := rfl
    rw [hh] at c1
    have P0 := calm_cell HX0.out.lt HX0.out.c0
    have P1 := calm_cell (a := ⟨w.heap.size, 1, none⟩) HX0.out.lt HX0.out.c1
    have P2 := calm_cell (Nat.lt_of_lt_of_le had HB0.out.size) ((HB0.out.cell had).trans c1)
    clear hc hm hh c1
    have hhd : head s = head s := rfl
    clear hhd
    go_enter Try.func68, Try.ntmps68
    go_wp2_with fail
    refine wp_region_calm (by kernel_rfl) (by kernel_rfl) ?_
    repeat (first | go_big_quiet_step (((first | (go_at_call 43; exact calm_of (v := .bool true) (CC.out _)) | (go_at_call 57; exact calm_of (v := .bool true) (CM.out _))))) | quiet_step (((first | (go_at_call 43; exact calm_of (v := .bool true) (CC.out _)) | (go_at_call 57; exact calm_of (v := .bool true) (CM.out _))))))
    refine wpQuiet_nil ?_
    intro w1 hw
    have hb1 := lull_below hw
    clear hw
    have HB1 := Lib.hid hb1
    have b1 := P0 ⟨w1, hb1⟩
    have b2 := P1 ⟨w1, hb1⟩
    dsimp only at b1 b2
    have CL2 := Lib.hid (CL.out w1 (below_then HB0.out HB1.out) HC.out HR.out.2.2.2)
    clear hb1 P0 P1 P2 CL
    go_wp2_with fail
    refine CL2.out.mono ?_
    rintro e w2 ⟨k, rfl, hk, hb2⟩
    obtain ⟨ad2, ead, had2, c3, c4⟩ := nth_cells (HA.out.below (below_then (below_then HB0.out HB1.out) hb2)) hk.lt
    injection ead with ead
    subst ead
    have b1' := (hb2.cell (p := ⟨w.heap.size, 0, none⟩) (Nat.lt_of_lt_of_le HX0.out.lt HB1.out.size)).trans b1
    have b2' := (hb2.cell (p := ⟨w.heap.size, 1, none⟩) (Nat.lt_of_lt_of_le HX0.out.lt HB1.out.size)).trans b2
    have hkl := hk.lt
    have HK := Lib.hid hk
    have HM0 := Lib.hid (minAt_zero HC.out hk)
    have HB2 := Lib.hid (below_then (below_then HB0.out HB1.out) hb2)
    have hk2 : (k : Int) < (s.length : Int) := by omega
    have hk3 : (k : Int) ≤ (s.length : Int) := by omega
    have hk4 : ¬ c = k := by omega
    have i0 : (0 : Int) ≤ (k : Int) := Int.natCast_nonneg _
    have hbx : w.heap.size < w2.heap.size := by have := HX0.out.lt; have := HB1.out.size; have := hb2.size; omega
    have HX2 := Lib.hid b2'
    clear hk hb2 CL2 b1 b2 CC CM c3
    generalize hy : (nth s k).2 = y at *
    clear hy
    go_wp2_with fail
    clear c4 b1' b2' hk2 hk3 hk4 i0
    go_loopw [7, 40] (fun o i wr => ∃ j : Nat, o = .int .i64 (minAt s x k j) ∧ i = .int .i64 j ∧ j ≤ s.length - k ∧ Hid (Below w2.heap.size w2 wr)) (fun _ i _ => (s.length - k) - (intOf i).toNat)
    case atStart => exact ⟨0, by rw [HM0.out], rfl, Nat.zero_le _, Below.refl _ _⟩
    case round =>
      obtain ⟨j, rfl, rfl, hj, HL⟩ := hrel
      by_cases hlt : j < s.length - k
      · have hbl := below_then HB2.out HL.out
        obtain ⟨had3, c1, c2⟩ := drop_pairs (HV.out.below hbl) k hlt
        have b1 : wr.cell? ⟨w.heap.size, 1, none⟩ = some (.int .i64 x.2) := by
          have h := (HL.out.cell (p := ⟨w.heap.size, 1, none⟩) hbx)
          rw [h]; exact HX2.out
        have hbw : w.heap.size < wr.heap.size := Nat.lt_of_lt_of_le hbx HL.out.size
        have HSTOP := Lib.hid (fun h => minAt_stop HC.out HR.out.2.2.1.2.1 HR.out.2.2.2 HK.out hlt h)
        have HNEXT := Lib.hid (fun h => minAt_next HC.out HK.out hlt h)
        have hlt2 : (j : Int) < ((s.length - k : Nat) : Int) := by omega
        generalize nth s (k + j) = y at *
        generalize minAt s x k j = m at *
        by_cases hx : x.2 ≤ y.1
        · have hx2 : decide (x.2 ≤ y.1) = true := decide_eq_true hx
          have HD := Lib.hid (HSTOP.out hx)
          clear hx HSTOP HNEXT
          go_wp2_with fail
          go_ret2
          exact min_yes HR.out.1 HD.out ((hbl).alloc hbl.size _)
        · have hx2 : decide (x.2 ≤ y.1) = false := decide_eq_false hx
          have HN := Lib.hid (HNEXT.out (by omega))
          have HBL := Lib.hid (HL.out.alloc HL.out.size (.cells #[.int .i64 y.1, .int .i64 y.2] 59))
          clear hx HSTOP HNEXT
          go_wp2_with fail
          exact ⟨⟨j + 1, by rw [HN.out], by go_num, by omega, HBL.out⟩, by simp [intOf] <;> omega⟩
      · have HD := Lib.hid (minAt_done HC.out HR.out.2.2.1.2.1 HR.out.2.2.2 HK.out (j := j) (by omega))
        generalize minAt s x k j = m at *
        go_wp2_with fail
        go_ret2
        exact min_yes HR.out.1 HD.out (below_then HB2.out HL.out)
end Go.Proofs.Ytophhiejggnaeaa.StepWalk
namespace Go.Proofs.Ytophhiejggnaeaa.StepWalk
open Go.RowKit Go.Proofs.Ytophhiejggnaeaa.SpanPlain Go.Proofs.Ytophhiejggnaeaa.StepPlain Go.Proofs.Ytophhiejggnaeaa.Mem Go.Proofs.Ytophhiejggnaeaa.SpanMem Go.Proofs.Ytophhiejggnaeaa.StepMem Go.Proofs.Ytophhiejggnaeaa.SpanRef Go.Proofs.Ytophhiejggnaeaa.StepRef
theorem alikeS (a b : Sp) (w : World) : Calls Try.prog 73 #[.agg #[.int .i64 a.1, .int .i64 a.2], .agg #[.int .i64 b.1, .int .i64 b.2]] w (BoolIs (a.2 == b.2) w) := by
  cases hb : (a.2 == b.2)
  all_goals
    go_enter Try.func73, Try.ntmps73
    go_wp2_with fail
    go_ret
    exact ⟨rfl, ((Below.refl _ _).alloc (Nat.le_refl _) _).alloc (by simp) _⟩
/-- What the joining answers. -/
def JoinSays (l : List Sp) (base : Nat) (w : World) (e : Ending) (w' : World) : Prop := ∃ v, e = .returned v ∧ SpansIs (joinL l) w' v ∧ Below base w w' ∧ NewAt base v
/-- How the joining stands: the row holds what is joined so far, then what it held. -/
structure JoinAt (l : List Sp) (m kk : Nat) (r : List Sp) : Prop where
  len : r.length = l.length
  kept : r.take kk = joinL (l.take m)
  at_ : kk = (joinL (l.take m)).length
  rest : ∀ j, m ≤ j + 1 → nth r j = nth l j
  low : kk + 1 ≤ m
theorem JoinAt.start {l : List Sp} {k : Nat} (h0 : 0 < k) (hk : k < l.length) (h : ∀ j, 0 < j → j < k → (nth l j).2 ≠ (nth l (j - 1)).2) (hs : (nth l k).2 = (nth l (k - 1)).2) : JoinAt l (k + 1) k l := by
  have e := (join_take_same h0 hk hs).trans (join_none (by omega) h)
  exact ⟨rfl, e.symm, by rw [e, List.length_take]; omega, fun _ _ => rfl, Nat.le_refl _⟩
theorem JoinAt.same {l r : List Sp} {m kk : Nat} (h : JoinAt l m kk r) (h0 : 0 < m) (hm : m < l.length) (hs : (nth l m).2 = (nth l (m - 1)).2) : JoinAt l (m + 1) kk r := by
  have e := join_take_same h0 hm hs
  exact ⟨h.len, by rw [e]; exact h.kept, by rw [e]; exact h.at_, fun j hj => h.rest j (by omega), by have := h.low; omega⟩
theorem take_set_snoc {r : List Sp} {kk : Nat} (h : kk < r.length) (y : Sp) : (r.set kk y).take (kk + 1) = r.take kk ++ [y] := by
  have h2 : kk < (r.set kk y).length := by rw [List.length_set]; exact h
  rw [List.take_succ_eq_append_getElem h2, List.take_set_of_le (Nat.le_refl _)]
  simp
theorem JoinAt.more {l r : List Sp} {m kk : Nat} (h : JoinAt l m kk r) (h0 : 0 < m) (hm : m < l.length) (hs : (nth l m).2 ≠ (nth l (m - 1)).2) : JoinAt l (m + 1) (kk + 1) (r.set kk (nth l m)) := by
  have e := join_take_new h0 hm hs
  have hl := h.low
  have hlen := h.len
  refine ⟨by rw [List.length_set]; exact h.len, by rw [e, take_set_snoc (by omega), h.kept], by rw [e, List.length_append, ← h.at_]; rfl, fun j hj => ?_, by omega⟩
  rw [nth_set (by omega), if_neg (by omega)]
  exact h.rest j (by omega)
theorem svals_set (l : List Sp) : ∀ (k : Nat) (y : Sp), k < l.length → ((svals l).set (k * 2) (.int .i64 y.1)).set (k * 2 + 1) (.int .i64 y.2) = svals (l.set k y) := by
  induction l with
  | nil => intro k y h; simp at h
  | cons s l ih =>
    intro k y h
    have e : svals (s :: l) = .int .i64 s.1 :: .int .i64 s.2 :: svals l := rfl
    cases k with
    | zero => rfl
    | succ k =>
      have e2 : svals (s :: l.set k y) = .int .i64 s.1 :: .int .i64 s.2 :: svals (l.set k y) := rfl
      rw [e, show (k + 1) * 2 = k * 2 + 1 + 1 by omega, List.set_cons_succ, List.set_cons_succ, List.set_cons_succ, List.set_cons_succ, ih k y (by simpa using h), List.set_cons_succ, e2]
/-- A cell of an own row of steps. -/
theorem own_cells {base n c g : Nat} {w : World} {l : List Sp} (h : OwnR 59 2 base w (.slice (some ⟨g, 0, none⟩) n c) n (svals l)) {k : Nat} (hk : k < l.length) :
    w.cell? ⟨g, k * 2, none⟩ = some (.int .i64 (nth l k).1) ∧ w.cell? ⟨g, k * 2 + 1, none⟩ = some (.int .i64 (nth l k).2) ∧ w.frozen? ⟨g, k * 2, none⟩ = false ∧ w.frozen? ⟨g, k * 2 + 1, none⟩ = false ∧ g < w.heap.size ∧ base ≤ g := by
  obtain ⟨g', c', hv, h1, h2, _, _, hr, hf⟩ := h.form
  injection hv with hv
  injection hv with hv
  injection hv with hv
  subst hv
  have e1 := (hr _ _ (svals_at l k hk).1).2
  have e2 := (hr _ _ (svals_at l k hk).2).2
  rw [add_flat] at e1 e2
  exact ⟨e1, e2, hf _, hf _, h2, h1⟩
set_option maxRecDepth 100000 in
set_option maxHeartbeats 3200000 in
theorem compactS (l : List Sp) (base g c : Nat) (w : World) (ho : OwnR 59 2 base w (.slice (some ⟨g, 0, none⟩) l.length c) l.length (svals l)) (hn : l.length ≤ c) (hl : l.length ≤ 100000) :
    Calls Try.prog 72 #[.slice (some ⟨g, 0, none⟩) l.length c, .func (.func 73) #[] #[]] w (JoinSays l base w) := by
  have HO := Lib.hid ho
  clear ho
  by_cases h2 : l.length < 2
  · have d1 : decide ((l.length : Int) < 2) = true := decide_eq_true (by omega)
    have HR : Hid (joinL l = l) := by
      have := join_none (l := l) (Nat.le_refl _) (fun j h1 h2 => by omega)
      rwa [List.take_of_length_le (Nat.le_refl _)] at this
    clear h2
    go_enter Try.func72, Try.ntmps72
    go_wp2_with fail
    go_ret
    exact ⟨_, rfl, by rw [HR.out]; exact OwnR.spans HO.out rfl, Below.refl _ _, NewAt.own HO.out.toN (Nat.le_refl _)⟩
  · have d1 : decide ((l.length : Int) < 2) = false := decide_eq_false (by omega)
    go_enter Try.func72, Try.ntmps72
    go_wp2_with fail
    go_loopw [5] (fun a wr => ∃ k : Nat, a = .int .i64 k ∧ 1 ≤ k ∧ k ≤ l.length ∧ Hid ((∀ j, 0 < j → j < k → (nth l j).2 ≠ (nth l (j - 1)).2) ∧ Below w.heap.size w wr)) (fun a _ => l.length - (intOf a).toNat)
    case atStart => exact ⟨1, rfl, Nat.le_refl _, by omega, fun j h1 h2 => by omega, Below.refl _ _⟩
    case round =>
      obtain ⟨k, rfl, hk1, hk, HL⟩ := hrel
      obtain ⟨hall, hbl⟩ := HL.out
      by_cases hlt : k < l.length
      · obtain ⟨a1, a2, a3, a4, a5, a6⟩ := own_cells (HO.out.below hbl) hlt
        obtain ⟨b1, b2, b3, b4, _, _⟩ := own_cells (HO.out.below hbl) (show k - 1 < l.length by omega)
        have P1 := calm_cell (a := ⟨g, k * 2, none⟩) a5 a1
        have P2 := calm_cell (a := ⟨g, k * 2 + 1, none⟩) a5 a2
        have P3 := calm_cell (a := ⟨g, (k - 1) * 2, none⟩) a5 b1
        have P4 := calm_cell (a := ⟨g, (k - 1) * 2 + 1, none⟩) a5 b2
        have i0 : (0 : Int) ≤ (k : Int) := Int.natCast_nonneg _
        have i1 : (k : Int) < (l.length : Int) := by omega
        have q0 : (0 : Int) ≤ ((k - 1 : Nat) : Int) := Int.natCast_nonneg _
        have q1 : ((k - 1 : Nat) : Int) < (l.length : Int) := by omega
        have q2 : IntKind.i64.wrap ((k : Int) - 1) = ((k - 1 : Nat) : Int) := by rw [IntKind.wrap_i64]; omega
        have CE := Lib.hid (fun W => alikeS (nth l k) (nth l (k - 1)) W)
        have HALL := Lib.hid hall
        have HBL := Lib.hid hbl
        by_cases heq : (nth l k).2 = (nth l (k - 1)).2
        · have he : ((nth l k).2 == (nth l (k - 1)).2) = true := beq_iff_eq.2 heq
          rw [he] at CE
          have HS := Lib.hid (JoinAt.start (by omega) hlt hall heq)
          clear heq he hall hbl HL a1 a2 a3 a4 b1 b2 b3 b4
          generalize nth l k = x at *
          generalize nth l (k - 1) = y at *
          go_wp2_with fail
          refine wp_region_calm (by kernel_rfl) (by kernel_rfl) ?_
          repeat (first | go_big_quiet_step ((go_at_call 73; exact calm_of (v := .bool true) (CE.out _))) | quiet_step ((go_at_call 73; exact calm_of (v := .bool true) (CE.out _))))
          refine wpQuiet_nil ?_
          intro w1 hw
          have hb1 := lull_below hw
          have HB1 := Lib.hid (below_then HBL.out hb1)
          clear hw hb1 P1 P2 P3 P4
          go_wp2_with fail
          have HO1 := Lib.hid (HO.out.below HB1.out)
          have HBB := Lib.hid ((HB1.out.mono (Nat.le_refl _)).mono HO.out.2.2)
          clear HALL HBL HB1 CE q0 q1 q2 i1
          go_loopw [5, 7] (fun a b wr => ∃ (kk k2 : Nat) (r : List Sp), a = .int .i64 kk ∧ b = .int .i64 k2 ∧ 1 ≤ k2 ∧ k + k2 ≤ l.length ∧ kk < l.length ∧ Hid (JoinAt l (k + k2) kk r ∧ OwnR 59 2 base wr (.slice (some ⟨g, 0, none⟩) l.length c) l.length (svals r) ∧ Below base w wr)) (fun _ b _ => (l.length - k) - (intOf b).toNat)
          case atStart => exact ⟨k, 1, l, rfl, rfl, Nat.le_refl _, by omega, hlt, HS.out, HO1.out, HBB.out⟩
          case round =>
            obtain ⟨kk, k2, r, rfl, rfl, hk21, hk2, hkk, HL⟩ := hrel
            obtain ⟨hat, hor, hbr⟩ := HL.out
            by_cases hlt2 : k2 < l.length - k
            · have hlen := hat.len
              obtain ⟨a1, a2, _, _, a5, a6⟩ := own_cells hor (k := k + k2) (by omega)
              obtain ⟨b1, b2, _, _, _, _⟩ := own_cells hor (k := k + k2 - 1) (by omega)
              rw [hat.rest (k + k2) (by omega), show (k + k2) * 2 = k * 2 + k2 * 2 by omega] at a1 a2
              rw [hat.rest (k + k2 - 1) (by omega), show (k + k2 - 1) * 2 = k * 2 + (k2 - 1) * 2 by omega] at b1 b2
              have P1 := calm_cell (a := ⟨g, k * 2 + k2 * 2, none⟩) a5 a1
              have P2 := calm_cell (a := ⟨g, k * 2 + k2 * 2 + 1, none⟩) a5 a2
              have P3 := calm_cell (a := ⟨g, k * 2 + (k2 - 1) * 2, none⟩) a5 b1
              have P4 := calm_cell (a := ⟨g, k * 2 + (k2 - 1) * 2 + 1, none⟩) a5 b2
              have j0 : (0 : Int) ≤ (k2 : Int) := Int.natCast_nonneg _
              have j1 : (k2 : Int) < ((l.length - k : Nat) : Int) := by omega
              have q0 : (0 : Int) ≤ ((k2 - 1 : Nat) : Int) := Int.natCast_nonneg _
              have q1 : ((k2 - 1 : Nat) : Int) < ((l.length - k : Nat) : Int) := by omega
              have q2 : IntKind.i64.wrap ((k2 : Int) - 1) = ((k2 - 1 : Nat) : Int) := by rw [IntKind.wrap_i64]; omega
              have CE := Lib.hid (fun W => alikeS (nth l (k + k2)) (nth l (k + k2 - 1)) W)
              have HOR := Lib.hid hor
              have HBR := Lib.hid hbr
              by_cases heq : (nth l (k + k2)).2 = (nth l (k + k2 - 1)).2
              · have he : ((nth l (k + k2)).2 == (nth l (k + k2 - 1)).2) = true := beq_iff_eq.2 heq
                rw [he] at CE
                have HN := Lib.hid (hat.same (by omega) (by omega) heq)
                clear heq he hat hor hbr HL a1 a2 b1 b2
                generalize nth l (k + k2) = x at *
                generalize nth l (k + k2 - 1) = y at *
                go_wp2_with fail
                refine wp_region_calm (by kernel_rfl) (by kernel_rfl) ?_
                repeat (first | go_big_quiet_step (((go_at_call 73; exact calm_of (v := .bool true) (CE.out _)))) | quiet_step (((go_at_call 73; exact calm_of (v := .bool true) (CE.out _)))))
                refine wpQuiet_nil ?_
                intro w1 hw
                have hb1 := lull_below hw
                have HB1 := Lib.hid hb1
                clear hw hb1 P1 P2 P3 P4
                go_wp2_with fail
                exact ⟨⟨kk, k2 + 1, r, rfl, by go_num, by omega, by omega, hkk, HN.out, HOR.out.below HB1.out, HBR.out.trans (HB1.out.mono HOR.out.2.2)⟩, by simp [intOf] <;> omega⟩
              · have he : ((nth l (k + k2)).2 == (nth l (k + k2 - 1)).2) = false := beq_eq_false_iff_ne.2 heq
                rw [he] at CE
                have HN := Lib.hid (hat.more (by omega) (by omega) heq)
                have hlow := hat.low
                have HAT := Lib.hid hat
                clear heq he hat hor hbr HL a1 a2 b1 b2
                generalize hx : nth l (k + k2) = x at *
                have HX := Lib.hid hx
                clear hx
                generalize nth l (k + k2 - 1) = y at *
                go_wp2_with fail
                refine wp_region_calm (by kernel_rfl) (by kernel_rfl) ?_
                repeat (first | go_big_quiet_step (((go_at_call 73; exact calm_of (v := .bool false) (CE.out _)))) | quiet_step (((go_at_call 73; exact calm_of (v := .bool false) (CE.out _)))))
                refine wpQuiet_nil ?_
                intro w1 hw
                have hb1 := lull_below hw
                have HB1 := Lib.hid hb1
                have a1 := P1 ⟨w1, hb1⟩
                have a2 := P2 ⟨w1, hb1⟩
                dsimp only at a1 a2
                clear hw hb1 P1 P2 P3 P4
                have HOR1 := Lib.hid (HOR.out.below HB1.out)
                have HBR1 := Lib.hid (HBR.out.trans (HB1.out.mono HOR.out.2.2))
                obtain ⟨c1, c2, c3, c4, c5, c6⟩ := own_cells HOR1.out (k := kk) (by omega)
                generalize nth r kk = z at *
                have k0 : (0 : Int) ≤ (kk : Int) := Int.natCast_nonneg _
                have k1 : (kk : Int) < (l.length : Int) := by omega
                go_wp2_with fail
                refine ⟨⟨kk + 1, k2 + 1, r.set kk x, by go_num, by go_num, by omega, by omega, by omega, HN.out, ?_, ?_⟩, by simp [intOf] <;> omega⟩
                · exact ((HOR1.out.set (kk * 2) (.int .i64 x.1)).set (kk * 2 + 1) (.int .i64 x.2)).cast rfl (svals_set r kk x (by omega))
                · exact (HBR1.out.setCell (p := ⟨g, kk * 2, none⟩) c6 _).setCell (p := ⟨g, kk * 2 + 1, none⟩) c6 _
            · have hlen := hat.len
              have hcl : ∀ ty, (Builtin.clear_ #[22] ty #[.slice (some ⟨g, kk * 2, none⟩) (l.length - kk) (c - kk)]).run Try.prog wr = .ok (.tuple #[]) (wr.setCells g (kk * 2) (List.replicate ((l.length - kk) * 2) (.int .i64 0))) :=
                fun ty => clear_two wr 22 59 ty Try.underlying22 Try.zeroValue59 g (kk * 2) _ _ (by omega) (fun j hj => by
                  obtain ⟨a1, a2, _, _, _, _⟩ := own_cells hor (k := kk + j / 2) (by omega)
                  have h3 : j % 2 = 0 ∨ j % 2 = 1 := by omega
                  rcases h3 with h3 | h3
                  · rw [show kk * 2 + j = (kk + j / 2) * 2 by omega, a1]; rfl
                  · rw [show kk * 2 + j = (kk + j / 2) * 2 + 1 by omega, a2]; rfl) (fun j hj => by
                  obtain ⟨_, _, _, _, _, _⟩ := own_cells hor (k := kk + j / 2) (by omega)
                  obtain ⟨g', c', hv, _, _, _, _, _, hf⟩ := hor.form
                  injection hv with hv
                  injection hv with hv
                  injection hv with hv
                  subst hv
                  exact hf _)
              have HR : Hid (Raw (wr.setCells g (kk * 2) (List.replicate ((l.length - kk) * 2) (.int .i64 0))) ⟨g, 0, none⟩ (svals (joinL l)) ∧ kk = (joinL l).length ∧ Below base w (wr.setCells g (kk * 2) (List.replicate ((l.length - kk) * 2) (.int .i64 0)))) := by
                have e : l.take (k + k2) = l := List.take_of_length_le (by omega)
                have hk := hat.kept
                have hl2 := hat.at_
                rw [e] at hk hl2
                refine ⟨raw_wipe ?_ (by rw [svals_len]; omega), hl2, ?_⟩
                · rw [← hk, ← svals_take]
                  obtain ⟨g', c', hv, _, _, _, _, hr, _⟩ := hor.form
                  injection hv with hv
                  injection hv with hv
                  injection hv with hv
                  subst hv
                  exact hr.take _
                · exact below_wipe (own_cells hor (k := 0) (by omega)).2.2.2.2.2 _ _ _ hbr
              have k0 : (0 : Int) ≤ (kk : Int) := Int.natCast_nonneg _
              have k1 : (kk : Int) < (l.length : Int) := by omega
              have k2' : ¬ c = kk := by omega
              have k3 : kk ≤ c := by omega
              clear hat hor hbr HL
              go_wp2_with fail
              go_ret
              exact ⟨.slice (some ⟨g, 0, none⟩) kk c, rfl, .inr ⟨⟨g, 0, none⟩, c, by rw [← HR.out.2.1], HR.out.1, by have := HR.out.2.1; omega⟩, HR.out.2.2, (NewAt.own HO.out.toN (Nat.le_refl _)).cut⟩
        · have he : ((nth l k).2 == (nth l (k - 1)).2) = false := beq_eq_false_iff_ne.2 heq
          rw [he] at CE
          have HN : Hid (∀ j, 0 < j → j < k + 1 → (nth l j).2 ≠ (nth l (j - 1)).2) := fun j h1 h2 => by
            by_cases h3 : j = k
            · subst h3; exact heq
            · exact HALL.out j h1 (by omega)
          clear heq he hall hbl HL a1 a2 a3 a4 b1 b2 b3 b4
          generalize nth l k = x at *
          generalize nth l (k - 1) = y at *
          go_wp2_with fail
          refine wp_region_calm (by kernel_rfl) (by kernel_rfl) ?_
          repeat (first | go_big_quiet_step (((go_at_call 73; exact calm_of (v := .bool false) (CE.out _)))) | quiet_step (((go_at_call 73; exact calm_of (v := .bool false) (CE.out _)))))
          refine wpQuiet_nil ?_
          intro w1 hw
          have hb1 := lull_below hw
          have HB1 := Lib.hid (below_then HBL.out hb1)
          clear hw hb1 P1 P2 P3 P4
          go_wp2_with fail
          exact ⟨⟨k + 1, by go_num, by omega, by omega, HN.out, HB1.out⟩, by simp [intOf] <;> omega⟩
      · have HR : Hid (joinL l = l) := by
          have := join_none (l := l) (Nat.le_refl _) (fun j h1 h2 => hall j h1 (by omega))
          rwa [List.take_of_length_le (Nat.le_refl _)] at this
        have HBL := Lib.hid hbl
        clear hall hbl HL
        go_wp2_with fail
        go_ret
        exact ⟨_, rfl, by rw [HR.out]; exact OwnR.spans (HO.out.below HBL.out) rfl, HBL.out.mono HO.out.2.2, NewAt.own (HO.out.below HBL.out).toN (Nat.le_refl _)⟩
theorem joinedS (l : List Sp) (base g c : Nat) (w : World) (ho : OwnR 59 2 base w (.slice (some ⟨g, 0, none⟩) l.length c) l.length (svals l)) (hn : l.length ≤ c) (hl : l.length ≤ 100000) :
    Calls Try.prog 60 #[.slice (some ⟨g, 0, none⟩) l.length c] w (JoinSays l base w) := by
  have C1 := Lib.hid (compactS l base g c w ho hn hl)
  clear ho
  go_enter Try.func60, Try.ntmps60
  go_wp2_with fail
  refine C1.out.mono ?_
  rintro e w1 ⟨v, rfl, hs, hb, hn⟩
  have HS := Lib.hid hs
  have HB := Lib.hid hb
  have HN := Lib.hid hn
  clear hs hb hn C1
  go_wp2_with fail
  go_ret
  exact ⟨v, rfl, HS.out, HB.out, HN.out⟩
end Go.Proofs.Ytophhiejggnaeaa.StepWalk
namespace Go.Proofs.Ytophhiejggnaeaa.StepWalk
open Go.RowKit Go.Proofs.Ytophhiejggnaeaa.SpanPlain Go.Proofs.Ytophhiejggnaeaa.StepPlain Go.Proofs.Ytophhiejggnaeaa.Mem Go.Proofs.Ytophhiejggnaeaa.SpanMem Go.Proofs.Ytophhiejggnaeaa.StepMem Go.Proofs.Ytophhiejggnaeaa.SpanRef Go.Proofs.Ytophhiejggnaeaa.StepRef
/-- What cut answers. -/
def CutSays (s : List Sp) (t : Int) (w : World) (e : Ending) (w' : World) : Prop := ∃ v k, e = .returned v ∧ LastIs s t k ∧ OwnR 59 2 w.heap.size w' v (cutL s t k).length (svals (cutL s t k)) ∧ Below w.heap.size w w'
theorem cut_says {s : List Sp} {t : Int} {k : Nat} (hk : LastIs s t k) {w w1 w' : World} {v : Value} {n : Nat} {xs : List Value} (hb1 : Below w.heap.size w w1) (ho : OwnR 59 2 w1.heap.size w' v n xs) (hx : xs = svals (cutL s t k)) (hb : Below w1.heap.size w1 w') : CutSays s t w (.returned v) w' := by
  subst hx
  have hl := ho.1.1
  rw [svals_len] at hl
  obtain rfl : (cutL s t k).length = n := by omega
  exact ⟨v, k, rfl, hk, ⟨(OwnN.rebase ho.toN hb1.size).1, ho.2.1, Nat.le_trans hb1.size (Nat.le_trans ho.2.2 (Nat.le_refl _))⟩, below_then hb1 hb⟩
theorem take_raw {s : List Sp} {w : World} {ad : Addr} {n c : Nat} (h : SpansIs s w (.slice (some ad) n c)) (k : Nat) : Raw w ad (svals (s.take k)) := by rw [← svals_take]; exact (raw_of h).take _
theorem drop_raw {s : List Sp} {w : World} {ad : Addr} {n c : Nat} (h : SpansIs s w (.slice (some ad) n c)) (k : Nat) : Raw w (ad.add (k * 2)) (svals (s.drop k)) := by rw [← svals_drop]; exact (raw_of h).drop _
set_option maxHeartbeats 1600000 in
theorem cutS (s : List Sp) (t : Int) (v : Value) (w : World) (hv : SpansIs s w v) (hu : Up s) (hp : 0 < s.length) (hh : head s ≤ t) (hl : s.length ≤ 2000) : Calls Try.prog 58 #[v, .int .i64 t] w (CutSays s t w) := by
  have CL := Lib.hid (lastS s t v w hv hu hp hh (by omega))
  have HV := Lib.hid hv
  obtain ⟨A, c, rfl, hn, hA⟩ := hv.open2
  have HA := Lib.hid hA
  obtain ⟨ad, rfl, had, _, _⟩ := pair_zero HA.out hp
  clear hA hv hu
  obtain ⟨i0, z0, hi0, hz0, hz1, hz2, hzs⟩ := steps_t.info
  go_enter Try.func58, Try.ntmps58
  go_wp2_with fail
  refine CL.out.mono ?_
  rintro e w1 ⟨k, rfl, hk, hb1⟩
  have hkl := hk.lt
  have HK := Lib.hid hk
  have HB1 := Lib.hid hb1
  clear hk hb1 CL
  have k0 : (0 : Int) ≤ (k : Int) + 1 := by omega
  have k1 : IntKind.i64.wrap ((k : Int) + 1) = (k : Int) + 1 := by rw [IntKind.wrap_i64]; omega
  have k2 : (k : Int) + 1 ≤ (c : Int) := by omega
  have k3 : ((k : Int) + 1).toNat = k + 1 := by omega
  go_wp2_with (at_make; refine wpList_make_own _ rfl _ _ 22 rfl w1.heap.size 59 i0 z0 2 steps_t.und hi0 hz0 hz1 .i64 .i64 _ (s.length + 1) rfl rfl ?hC ?hb2 ?hb3 (Nat.le_refl _) ?_)
  case hC => omega
  case hb2 => rw [hz2]; omega
  case hb3 => unfold maxLen; omega
  intro w2 ho2 hg2
  have HO2 : Hid (OwnR 59 2 w1.heap.size w2 (.slice (some ⟨w1.heap.size, 0, none⟩) 0 (s.length + 1)) 0 []) := ⟨ho2, by simp, hg2.size⟩
  have HB2 : Hid (Below w1.heap.size w1 w2) := ⟨hg2.os, hg2.tape, hg2.output, hg2.size, fun i hi => hg2.block i hi (by simp)⟩
  clear ho2 hg2
  have HT := Lib.hid (take_raw (HV.out.below (below_then HB1.out HB2.out)) (k + 1))
  go_wp2_with (at_builtin; refine push_raw steps_t rfl (.tmp 14) (.tmp 18) rfl w1.heap.size _ _ _ rfl HO2.out ad (k + 1) c (svals (s.take (k + 1))) rfl ?h1a HT.out (svals_cell _) ?h1b ?_)
  case h1a => rw [svals_len, List.length_take]; omega
  case h1b => omega
  intro v3 w3 ho3 hb3
  have HO3 := Lib.hid ho3
  have HB3 := Lib.hid (HB2.out.trans hb3)
  clear ho3 hb3 HO2 HB2 HT k3
  obtain ⟨ad2, ead, had2, c1, c2⟩ := nth_cells (HA.out.below (below_then HB1.out HB3.out)) hkl
  injection ead with ead
  subst ead
  have hk5 : (k : Int) < (s.length : Int) := by omega
  have HD := Lib.hid (fun (W : World) (hb : Below w1.heap.size w1 W) => drop_raw (HV.out.below (below_then HB1.out hb)) (k + 1))
  have HE : Hid (cutL s t k = s.take (k + 1) ++ (if (nth s k).1 < t then [(t, (nth s k).2)] else []) ++ s.drop (k + 1)) := rfl
  have HS := Lib.hid (fun (w' : World) (v : Value) (n : Nat) (xs : List Value) (ho : OwnR 59 2 w1.heap.size w' v n xs) (hx : xs = svals (cutL s t k)) (hb : Below w1.heap.size w1 w') => cut_says HK.out HB1.out ho hx hb)
  generalize nth s k = y at *
  have j0 : (0 : Int) ≤ (k : Int) := Int.natCast_nonneg _
  have j1 : (k : Int) + 1 ≤ (s.length : Int) := by omega
  have j3 : ((k : Int) + 1).toNat = k + 1 := by omega
  rcases Decidable.em (y.1 < t) with hy | hy <;> rcases Decidable.em (c = k + 1) with hc | hc
  · have hy2 : decide (y.1 < t) = true := decide_eq_true hy
    have HE2 := Lib.hid (HE.out.trans (by rw [if_pos hy]))
    have HDN : Hid (s.drop (k + 1) = []) := List.drop_eq_nil_of_le (by omega)
    subst hc
    clear hy HE
    go_wp2_with (at_builtin; refine push_raw steps_t rfl (.tmp 27) (.tmp 35) rfl w1.heap.size _ _ _ rfl (HO3.out.alloc (.cells #[.int .i64 t, .int .i64 y.2] 59)) ⟨w3.heap.size, 0, none⟩ 1 1 [.int .i64 t, .int .i64 y.2] rfl rfl (Raw.alloc w3 _ _) two_cells ?e1 ?_)
    case e1 => omega
    intro v4 w4 ho4 hb4
    have HO4 := Lib.hid ho4
    have HB4 := Lib.hid ((HB3.out.alloc HB3.out.size _).trans hb4)
    clear ho4 hb4
    go_wp2_with (at_builtin; refine push_raw steps_t rfl (.tmp 37) (.tmp 41) rfl w1.heap.size _ _ _ rfl HO4.out ad 0 _ [] rfl rfl (fun j u hu => by simp at hu) (fun u hu => by simp at hu) ?b1 ?_)
    case b1 => omega
    intro v5 w5 ho5 hb5
    have HO5 := Lib.hid ho5
    have HB5 := Lib.hid (HB4.out.trans hb5)
    clear ho5 hb5
    go_wp2_with fail
    go_ret
    exact HS.out _ _ _ _ HO5.out (by rw [HE2.out, HDN.out]; simp [svals, spCells]) HB5.out
  · have hy2 : decide (y.1 < t) = true := decide_eq_true hy
    have HE2 := Lib.hid (HE.out.trans (by rw [if_pos hy]))
    clear hy HE
    go_wp2_with (at_builtin; refine push_raw steps_t rfl (.tmp 27) (.tmp 35) rfl w1.heap.size _ _ _ rfl (HO3.out.alloc (.cells #[.int .i64 t, .int .i64 y.2] 59)) ⟨w3.heap.size, 0, none⟩ 1 1 [.int .i64 t, .int .i64 y.2] rfl rfl (Raw.alloc w3 _ _) two_cells ?e2 ?_)
    case e2 => omega
    intro v4 w4 ho4 hb4
    have HO4 := Lib.hid ho4
    have HB4 := Lib.hid ((HB3.out.alloc HB3.out.size _).trans hb4)
    clear ho4 hb4
    go_wp2_with (at_builtin; refine push_raw steps_t rfl (.tmp 37) (.tmp 41) rfl w1.heap.size _ _ _ rfl HO4.out (ad.add ((k + 1) * 2)) (s.length - (k + 1)) _ (svals (s.drop (k + 1))) rfl ?a2 (HD.out _ HB4.out) (svals_cell _) ?b2 ?_)
    case a2 => rw [svals_len, List.length_drop]
    case b2 => omega
    intro v5 w5 ho5 hb5
    have HO5 := Lib.hid ho5
    have HB5 := Lib.hid (HB4.out.trans hb5)
    clear ho5 hb5
    go_wp2_with fail
    go_ret
    exact HS.out _ _ _ _ HO5.out (by rw [HE2.out]; simp [svals, spCells]) HB5.out
  · have hy2 : decide (y.1 < t) = false := decide_eq_false hy
    have HE2 := Lib.hid (HE.out.trans (by rw [if_neg hy]))
    have HDN : Hid (s.drop (k + 1) = []) := List.drop_eq_nil_of_le (by omega)
    subst hc
    clear hy HE
    go_wp2_with (at_builtin; refine push_raw steps_t rfl (.tmp 37) (.tmp 41) rfl w1.heap.size _ _ _ rfl HO3.out ad 0 _ [] rfl rfl (fun j u hu => by simp at hu) (fun u hu => by simp at hu) ?b3 ?_)
    case b3 => omega
    intro v5 w5 ho5 hb5
    have HO5 := Lib.hid ho5
    have HB5 := Lib.hid (HB3.out.trans hb5)
    clear ho5 hb5
    go_wp2_with fail
    go_ret
    exact HS.out _ _ _ _ HO5.out (by rw [HE2.out, HDN.out]; simp [svals, spCells]) HB5.out
  · have hy2 : decide (y.1 < t) = false := decide_eq_false hy
    have HE2 := Lib.hid (HE.out.trans (by rw [if_neg hy]))
    clear hy HE
    go_wp2_with (at_builtin; refine push_raw steps_t rfl (.tmp 37) (.tmp 41) rfl w1.heap.size _ _ _ rfl HO3.out (ad.add ((k + 1) * 2)) (s.length - (k + 1)) _ (svals (s.drop (k + 1))) rfl ?a4 (HD.out _ HB3.out) (svals_cell _) ?b4 ?_)
    case a4 => rw [svals_len, List.length_drop]
    case b4 => omega
    intro v5 w5 ho5 hb5
    have HO5 := Lib.hid ho5
    have HB5 := Lib.hid (HB3.out.trans hb5)
    clear ho5 hb5
    go_wp2_with fail
    go_ret
    exact HS.out _ _ _ _ HO5.out (by rw [HE2.out, List.append_nil, svals_append]) HB5.out
end Go.Proofs.Ytophhiejggnaeaa.StepWalk
namespace Go.Proofs.Ytophhiejggnaeaa.StepWalk
open Go.RowKit Go.Proofs.Ytophhiejggnaeaa.SpanPlain Go.Proofs.Ytophhiejggnaeaa.StepPlain Go.Proofs.Ytophhiejggnaeaa.Mem Go.Proofs.Ytophhiejggnaeaa.SpanMem Go.Proofs.Ytophhiejggnaeaa.StepMem Go.Proofs.Ytophhiejggnaeaa.SpanRef Go.Proofs.Ytophhiejggnaeaa.StepRef
theorem addp_ways (s : List Sp) (x : Sp) (n : Int) : (chkB s = false ∧ Hid (AddIs s x n [])) ∨ (chkB s = true ∧ mayB x = false ∧ Hid (AddIs s x n [])) ∨ (chkB s = true ∧ mayB x = true ∧ decide (n < -256) = true ∧ Hid (AddIs s x n [])) ∨
    (chkB s = true ∧ mayB x = true ∧ decide (n < -256) = false ∧ decide (256 < n) = true ∧ Hid (AddIs s x n [])) ∨ (chkB s = true ∧ mayB x = true ∧ decide (n < -256) = false ∧ decide (256 < n) = false ∧ Hid (¬ addBad s x n)) := by
  cases h1 : chkB s with
  | false => exact .inl ⟨rfl, .inl ⟨.inl h1, rfl⟩⟩
  | true =>
    cases h2 : mayB x with
    | false => exact .inr (.inl ⟨rfl, rfl, .inl ⟨.inr (.inl h2), rfl⟩⟩)
    | true =>
      by_cases h3 : n < -256
      · exact .inr (.inr (.inl ⟨rfl, rfl, decide_eq_true h3, .inl ⟨.inr (.inr (.inl h3)), rfl⟩⟩))
      · by_cases h4 : 256 < n
        · exact .inr (.inr (.inr (.inl ⟨rfl, rfl, decide_eq_false h3, decide_eq_true h4, .inl ⟨.inr (.inr (.inr h4)), rfl⟩⟩)))
        · exact .inr (.inr (.inr (.inr ⟨rfl, rfl, decide_eq_false h3, decide_eq_false h4, fun h => by
            rcases h with h | h | h | h
            · rw [h1] at h; cases h
            · rw [h2] at h; cases h
            · exact h3 h
            · exact h4 h⟩)))
theorem add_nil {s : List Sp} {x : Sp} {n : Int} (h : AddIs s x n []) {w w' : World} (hb : Below w.heap.size w w') : AddSays s x n w (.returned (.slice none 0 0)) w' := ⟨_, [], rfl, .inl ⟨rfl, rfl⟩, h, hb, NewAt.nil⟩
theorem OwnR.rebase {e : TypeId} {k base base' n : Nat} {w : World} {v : Value} {xs : List Value} (h : OwnR e k base w v n xs) (hb : base' ≤ base) : OwnR e k base' w v n xs := ⟨(OwnN.rebase h.toN hb).1, h.2.1, Nat.le_trans hb h.2.2⟩
theorem svals_set2 (l : List Sp) : ∀ (k : Nat) (z : Int), k < l.length → (svals l).set (k * 2 + 1) (.int .i64 z) = svals (l.set k ((nth l k).1, z)) := by
  induction l with
  | nil => intro k y h; simp at h
  | cons s l ih =>
    intro k z h
    have e : svals (s :: l) = .int .i64 s.1 :: .int .i64 s.2 :: svals l := rfl
    cases k with
    | zero => rfl
    | succ k =>
      have e2 : svals ((s :: l).set (k + 1) ((nth (s :: l) (k + 1)).1, z)) = .int .i64 s.1 :: .int .i64 s.2 :: svals (l.set k ((nth l k).1, z)) := rfl
      rw [e, show (k + 1) * 2 + 1 = k * 2 + 1 + 1 + 1 by omega, List.set_cons_succ, List.set_cons_succ, ih k z (by simpa using h), e2]
/-- How the loop of Add stands. -/
def AddLoop (w : World) (m : List Sp) (f : Int) (x : Sp) (n : Int) (a g cg : Nat) (wr : World) (i : Nat) : Prop :=
  OwnR 59 2 (w.heap.size + 1) wr (.slice (some ⟨g, 0, none⟩) m.length cg) m.length (svals (bump n m a (i - a))) ∧ (∀ j, a ≤ j → j < i → 0 ≤ (nth m j).2 + n ∧ (nth m j).2 + n ≤ 256) ∧ Box2 wr w.heap.size (.int .i64 f) (.int .i64 x.2) ∧ Below w.heap.size w wr
theorem AddLoop.cells {w wr : World} {m : List Sp} {f : Int} {x : Sp} {n : Int} {a g cg i : Nat} (h : AddLoop w m f x n a g cg wr i) (ha : a ≤ i) (hi : i < m.length) :
    wr.cell? ⟨g, i * 2, none⟩ = some (.int .i64 (nth m i).1) ∧ wr.cell? ⟨g, i * 2 + 1, none⟩ = some (.int .i64 (nth m i).2) ∧ wr.frozen? ⟨g, i * 2 + 1, none⟩ = false ∧ g < wr.heap.size ∧ w.heap.size + 1 ≤ g := by
  have e : nth (bump n m a (i - a)) i = nth m i := by rw [bump_at (by omega), if_neg (by omega)]
  have hl : i < (bump n m a (i - a)).length := by rw [bump_len]; exact hi
  obtain ⟨h1, h2, _, h4, h5, h6⟩ := own_cells h.1 hl
  rw [e] at h1 h2
  exact ⟨h1, h2, h4, h5, h6⟩
theorem AddLoop.next {w wr wq : World} {m : List Sp} {f : Int} {x : Sp} {n : Int} {a g cg i q : Nat} (h : AddLoop w m f x n a g cg wr i) (ha : a ≤ i) (hi : i < m.length) (hf : 0 ≤ (nth m i).2 + n ∧ (nth m i).2 + n ≤ 256) (hg : w.heap.size + 1 ≤ g) (hw : wq = wr.drewN q) :
    AddLoop w m f x n a g cg (wq.setCell ⟨g, i * 2 + 1, none⟩ (.int .i64 ((nth m i).2 + n))) (i + 1) := by
  subst hw
  obtain ⟨h1, h2, h3, h4⟩ := h
  have e : nth (bump n m a (i - a)) i = nth m i := by rw [bump_at (by omega), if_neg (by omega)]
  refine ⟨((h1.drewN q).set (i * 2 + 1) (.int .i64 ((nth m i).2 + n))).cast rfl ?_, fun j h5 h6 => ?_, (h3.drewN q).set_other (by show g ≠ w.heap.size; omega) _, (below_drewN h4 q).setCell (p := ⟨g, i * 2 + 1, none⟩) (by show w.heap.size ≤ g; omega) _⟩
  · rw [svals_set2 _ i _ (by rw [bump_len]; exact hi), e, show i + 1 - a = (i - a) + 1 by omega]
    show _ = svals ((bump n m a (i - a)).set (a + (i - a)) ((nth m (a + (i - a))).1, (nth m (a + (i - a))).2 + n))
    rw [show a + (i - a) = i by omega]
  · by_cases h7 : j = i
    · subst h7; exact hf
    · exact h2 j h5 (by omega)
theorem AddLoop.below {w wr wq : World} {m : List Sp} {f : Int} {x : Sp} {n : Int} {a g cg i q : Nat} (h : AddLoop w m f x n a g cg wr i) (hg : w.heap.size + 1 ≤ g) (hw : wq = wr.drewN q) (u : Value) : Below w.heap.size w (wq.setCell ⟨g, i * 2 + 1, none⟩ u) := by
  subst hw
  exact (below_drewN h.2.2.2 q).setCell (p := ⟨g, i * 2 + 1, none⟩) (by show w.heap.size ≤ g; omega) _
set_option maxRecDepth 100000 in
set_option maxHeartbeats 3200000 in
theorem addS (s : List Sp) (x : Sp) (n : Int) (v : Value) (w : World) (hv : SpansIs s w v) (hl : s.length ≤ 1000) : Calls Try.prog 45 #[v, spV x, .int .i64 n] w (AddSays s x n w) := by
  have HB0 := Lib.hid (below_alloc w (.cells #[.int .i64 x.1, .int .i64 x.2] 74))
  have HX0 := Lib.hid (Box2.new w (.int .i64 x.1) (.int .i64 x.2) 74)
  have CC := Lib.hid (checkS s v _ (hv.below HB0.out) hl)
  have CM : Hid (∀ W, Calls Try.prog 57 #[.agg #[.int .i64 x.1, .int .i64 x.2]] W (BoolIs (mayB x) W)) := fun W => mayS x W
  have HV := Lib.hid hv
  obtain ⟨A, c, rfl, hn, hA⟩ := hv.open2
  have HA := Lib.hid hA
  clear hA hv
  unfold spV
  rcases addp_ways s x n with ⟨hc, HR⟩ | ⟨hc, hm, HR⟩ | ⟨hc, hm, h1, HR⟩ | ⟨hc, hm, h1, h2, HR⟩ | ⟨hc, hm, h1, h2, HR⟩
  · rw [hc] at CC
    clear hc
    go_enter Try.func45, Try.ntmps45
    go_wp2_with fail
    refine CC.out.mono ?_
    rintro e w1 ⟨rfl, hb1⟩
    have HB1 := Lib.hid hb1
    clear hb1
    go_wp2_with fail
    go_ret
    exact add_nil HR.out (below_then HB0.out HB1.out)
  all_goals
    rw [hc] at CC
    rw [hm] at CM
    have HC := Lib.hid ((chk_iff s).1 hc)
    clear hc hm
    go_enter Try.func45, Try.ntmps45
    go_wp2_with fail
    refine CC.out.mono ?_
    rintro e w1 ⟨rfl, hb1⟩
    obtain ⟨b0, b1, b2, _, _⟩ := HX0.out.below hb1
    have HB1 := Lib.hid (below_then HB0.out hb1)
    have HX1 := Lib.hid (HX0.out.below hb1)
    clear hb1 HX0 HB0 CC
    go_wp2_with fail
    refine (CM.out _).mono ?_
    rintro e w2 ⟨rfl, hb2⟩
    have HB2 := Lib.hid (below_then HB1.out hb2)
    have HX2 := Lib.hid (HX1.out.below hb2)
    clear hb2 HX1 HB1 b0 b1 b2 CM
  · go_wp2_with fail
    go_ret
    exact add_nil HR.out HB2.out
  · go_wp2_with fail
    go_ret
    exact add_nil HR.out HB2.out
  · go_wp2_with fail
    go_ret
    exact add_nil HR.out HB2.out
  · have hp : 0 < s.length := HC.out.pos
    have hlz : (0 : Int) < (s.length : Int) := by omega
    obtain ⟨ad, rfl, had, c1, _⟩ := pair_zero (HA.out.below HB2.out) hp
    have hh : (spCell s 0).1 = .int .i64 (head s) := rfl
    rw [hh] at c1
    obtain ⟨b0, b1, b2, b3, b4⟩ := HX2.out
    have HMAX : Hid (max x.1 (head s) = max x.1 (head s)) := rfl
    have HEARLY := Lib.hid (fun h => add_early HR.out (x := x) h)
    clear hh
    go_wp2_with fail
    go_region
    have HX3 : Hid (Box2 (w2.setCell ⟨w.heap.size, 0, none⟩ (.int .i64 (max x.1 (head s)))).drew w.heap.size (.int .i64 (max x.1 (head s))) (.int .i64 x.2)) := (HX2.out.set0 (.int .i64 (max x.1 (head s)))).drewN 1
    have HB3 : Hid (Below w.heap.size w (w2.setCell ⟨w.heap.size, 0, none⟩ (.int .i64 (max x.1 (head s)))).drew) := (HB2.out.setCell (p := ⟨w.heap.size, 0, none⟩) (Nat.le_refl _) _).drew
    generalize (w2.setCell ⟨w.heap.size, 0, none⟩ (.int .i64 (max x.1 (head s)))).drew = w3 at *
    clear b0 b1 b2 b3 b4 c1 HX2 HB2 had HMAX
    obtain ⟨b0, b1, b2, _, _⟩ := HX3.out
    obtain ⟨hck, hmx, hn1, hn2⟩ := not_addBad HR.out
    have hft : head s ≤ max x.1 (head s) := by omega
    have HF : Hid (max x.1 (head s) = max x.1 (head s)) := rfl
    by_cases hxf : x.2 ≤ max x.1 (head s)
    · have HI := Lib.hid (HEARLY.out hxf)
      have hxf2 : decide (x.2 ≤ max x.1 (head s)) = true := decide_eq_true hxf
      have CK := Lib.hid (cloneS ad s.length c (svals s) w3 (svals_len s) (by omega) (raw_of (HV.out.below HB3.out)) (svals_cell s))
      generalize max x.1 (head s) = f at *
      clear HEARLY hxf HF hft hck hmx
      go_wp2_with fail
      refine CK.out.mono ?_
      rintro e w4 ⟨v4, rfl, ho4, hb4⟩
      have HO4 := Lib.hid ho4
      have HB4 := Lib.hid (below_then HB3.out hb4)
      clear ho4 hb4 CK
      go_wp2_with fail
      go_ret
      exact ⟨_, s, rfl, OwnR.spans HO4.out rfl, HI.out, HB4.out, NewAt.own HO4.out.toN HB3.out.size⟩
    · have hxf2 : decide (x.2 ≤ max x.1 (head s)) = false := decide_eq_false hxf
      have CC1 : Hid (Calls Try.prog 58 #[.slice (some ad) s.length c, .int .i64 (max x.1 (head s))] w3.drew (CutSays s (max x.1 (head s)) w3.drew)) :=
        cutS s _ _ w3.drew (HV.out.below HB3.out.drew) hck.up hp hft (by omega)
      have CC2 : Hid (∀ W k v, LastIs s (max x.1 (head s)) k → SpansIs (cutL s (max x.1 (head s)) k) W v → Calls Try.prog 58 #[v, .int .i64 x.2] W (CutSays (cutL s (max x.1 (head s)) k) x.2 W)) :=
        fun W k v hk hs => cutS _ _ v W hs (cut_up hck.up hk) (by have := (cut_len (t := max x.1 (head s)) hk.lt).2; omega) (by rw [cut_head hk]; omega) (by have := (cut_len (t := max x.1 (head s)) hk.lt).1; omega)
      have hbx : w.heap.size < w3.heap.size := b0
      generalize hff : max x.1 (head s) = f at *
      have HFF := Lib.hid hff
      clear hff HEARLY HF
      go_wp2_with fail
      go_region_held3 (fun w' => w'.cell? ⟨w.heap.size, 0, none⟩ = some (.int .i64 f) ∧ w'.cell? ⟨w.heap.size, 1, none⟩ = some (.int .i64 x.2))
        (first | go_keep | (go_split_ands; exact ⟨(hb5.cell (p := ⟨w.heap.size, 0, none⟩) (by first | exact hbx | (simp; omega))).trans (by assumption), (hb5.cell (p := ⟨w.heap.size, 1, none⟩) (by first | exact hbx | (simp; omega))).trans (by assumption)⟩) | (go_split_ands; exact ⟨(hb7.cell (p := ⟨w.heap.size, 0, none⟩) (Nat.lt_of_lt_of_le hbx hb5.size)).trans (by assumption), (hb7.cell (p := ⟨w.heap.size, 1, none⟩) (Nat.lt_of_lt_of_le hbx hb5.size)).trans (by assumption)⟩))
        (first | (go_at_call_of 58 (Value.slice (some ad) s.length c); (refine CC1.out.mono ?_; rintro e w5 ⟨v5, k5, rfl, hk5, ho5, hb6⟩; have hb5 := below_of_drew hb6; clear hb6)) | (go_at_call 58; (refine (CC2.out _ _ _ hk5 (OwnR.spans ho5 rfl)).mono ?_; rintro e w6 ⟨v6, k6, rfl, hk6, ho6, hb7⟩)))
      obtain ⟨a, b, hcut, hab, hun⟩ := cuts_is hck hft (by omega) hmx.2.2 hk5 hk6
      have hml := hcut.len
      have hbl := hcut.lt_b
      have hoR : OwnR 59 2 (w.heap.size + 1) w6 v6 _ _ := OwnR.rebase ho6 (Nat.le_trans hbx hb5.size)
      generalize cutL (cutL s f k5) x.2 k6 = m at *
      obtain ⟨g, cg, rfl, _, _, hmc, _, _, _⟩ := hoR.form
      have HB6 := Lib.hid (HB3.out.trans ((below_then hb5 hb7).mono HB3.out.size))
      have HX6 := Lib.hid (HX3.out.below (below_then hb5 hb7))
      have HCUT := Lib.hid hcut
      have HO6 := Lib.hid hoR
      have CL2 := Lib.hid (lastS m f _ w6 (OwnR.spans hoR rfl) hcut.up (by omega) (by rw [hcut.hd]; exact hft) (by omega))
      have HUN := Lib.hid hun
      clear hcut hoR ho5 ho6 hb5 hb7 hk5 hk6 hun CC1 CC2 HB3 HX3 b0 b1 b2
      go_wp2_with fail
      refine CL2.out.mono ?_
      rintro e w7 ⟨k7, rfl, hk7, hb8⟩
      obtain rfl := HUN.out k7 hk7
      have HLA : Hid (AddLoop w m f x n k7 g cg w7 k7) := ⟨by rw [Nat.sub_self]; exact HO6.out.below hb8, fun j h1 h2 => by omega, HX6.out.below hb8, HB6.out.trans (hb8.mono HB6.out.size)⟩
      clear hk7 hb8 CL2 HUN HB6 HX6 HO6
      go_wp2_with fail
      go_loopw [8] (fun o wr => ∃ i : Nat, o = .int .i64 i ∧ k7 ≤ i ∧ i ≤ b ∧ Hid (AddLoop w m f x n k7 g cg wr i)) (fun o _ => b - (intOf o).toNat)
      case atStart => exact ⟨k7, rfl, Nat.le_refl _, by omega, HLA.out⟩
      case round =>
        obtain ⟨i, rfl, hi1, hi2, HL⟩ := hrel
        obtain ⟨c1, c2, c3, c4, c5⟩ := HL.out.cells hi1 (by omega)
        obtain ⟨b0, b1, b2, _, _⟩ := HL.out.2.2.1
        have i0 : (0 : Int) ≤ (i : Int) := Int.natCast_nonneg _
        have i1 : (i : Int) < (m.length : Int) := by omega
        by_cases hlt : i < b
        · have hx2 : decide ((nth m i).1 < x.2) = true := by
            have h3 := HCUT.out.up.lt hlt HCUT.out.lt_b
            have h4 := HCUT.out.at_b
            exact decide_eq_true (by omega)
          obtain ⟨s1, s2⟩ := HCUT.out.snd _ (nth_mem (show i < m.length by omega))
          have CF := Lib.hid (fun W => isFreeS ((nth m i).2 + n) W)
          have HOUT : Hid (¬ (0 ≤ (nth m i).2 + n ∧ (nth m i).2 + n ≤ 256) → AddIs s x n []) := fun h => by
            have hc2 := HCUT.out
            rw [← HFF.out] at hc2
            exact cuts_out HR.out hc2 hi1 hlt h
          have HNX : Hid (∀ q, 0 ≤ (nth m i).2 + n ∧ (nth m i).2 + n ≤ 256 → AddLoop w m f x n k7 g cg ((wr.drewN q).setCell ⟨g, i * 2 + 1, none⟩ (.int .i64 ((nth m i).2 + n))) (i + 1)) := fun q h => HL.out.next hi1 (by omega) h c5 rfl
          have HBN : Hid (∀ q u, Below w.heap.size w ((wr.drewN q).setCell ⟨g, i * 2 + 1, none⟩ u)) := fun q u => HL.out.below c5 rfl u
          generalize nth m i = y at *
          clear HL
          by_cases hr : 0 ≤ y.2 + n ∧ y.2 + n ≤ 256
          · have hfb : freeB (y.2 + n) = true := by unfold freeB; rw [decide_eq_true hr.1, decide_eq_true hr.2]; rfl
            rw [hfb] at CF
            have HN := Lib.hid (fun q => HNX.out q hr)
            clear hfb HNX HOUT
            go_wp2_with fail
            go_quiet (fail)
            go_wp2_with fail
            refine (CF.out _).mono ?_
            rintro e w9 ⟨rfl, rfl⟩
            go_wp2_with fail
            exact ⟨⟨i + 1, by go_num, by omega, by omega, HN.out _⟩, by simp [intOf] <;> omega⟩
          · have hfb : freeB (y.2 + n) = false := by
              unfold freeB
              simp only [Bool.and_eq_false_iff, decide_eq_false_iff_not]
              omega
            rw [hfb] at CF
            have HI := Lib.hid (HOUT.out hr)
            clear hfb HNX HOUT hr
            go_wp2_with fail
            go_quiet (fail)
            go_wp2_with fail
            refine (CF.out _).mono ?_
            rintro e w9 ⟨rfl, rfl⟩
            go_wp2_with fail
            go_ret
            exact add_nil HI.out (HBN.out _ _)
        · obtain rfl : i = b := by omega
          have hx2 : decide ((nth m i).1 < x.2) = false := by
            have h4 := HCUT.out.at_b
            exact decide_eq_false (by omega)
          have HDONE : Hid (AddIs s x n (joinL (bump n m k7 (i - k7)))) := by
            have hc2 := HCUT.out
            rw [← HFF.out] at hc2
            exact cuts_done HR.out hc2 hi1 HL.out.2.1
          have CJ : Hid (∀ q, Calls Try.prog 60 #[.slice (some ⟨g, 0, none⟩) m.length cg] (wr.drewN q) (JoinSays (bump n m k7 (i - k7)) (w.heap.size + 1) (wr.drewN q))) := fun q => by
            have hl := bump_len n m k7 (i - k7)
            have := joinedS (bump n m k7 (i - k7)) (w.heap.size + 1) g cg (wr.drewN q) (by rw [hl]; exact HL.out.1.drewN q) (by rw [hl]; exact hmc) (by rw [hl]; omega)
            rwa [hl] at this
          have HBN : Hid (∀ q, Below w.heap.size w (wr.drewN q)) := fun q => below_drewN HL.out.2.2.2 q
          generalize nth m i = y at *
          clear HL
          go_wp2_with fail
          go_quiet (fail)
          go_wp2_with fail
          refine (CJ.out _).mono ?_
          rintro e w9 ⟨v9, rfl, hs9, hb9, hn9⟩
          have HN9 := Lib.hid (hn9.mono (Nat.le_succ _))
          have HS9 := Lib.hid hs9
          have HB9 := Lib.hid ((HBN.out _).trans (hb9.mono (Nat.le_succ _)))
          clear hs9 hb9 hn9
          go_wp2_with fail
          go_ret
          exact ⟨_, _, rfl, HS9.out, HDONE.out, HB9.out, HN9.out⟩
end Go.Proofs.Ytophhiejggnaeaa.StepWalk
