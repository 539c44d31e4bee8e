/-
  What the theorem uses of the texts below it.
-/
import Derived.Below
import Derived.Laws.OwnMore
import Derived.Deep.Draws
import Derived.Deep.OwnRows
import Derived.Lib.Hide
import Derived.OwnWalk
import Derived.Deep.QuietTactic
import Derived.BigQuiet
import Derived.Lib.SliceRun
import Derived.Test.YtlfmkipcgcilaaaRows
import Derived.WalkKit
import Derived.WalkSpells
import Derived.WalkLawsBesides
import Derived.Laws.StructEq
import Derived.LoopTactic
import Derived.Deep.CutBlock
import Derived.Deep.DeepCutAuto
import Derived.Deep.RegionHeld3
import Derived.ArgAppend
import Derived.Test.YtlfmkipcgcilaaaPa3
namespace Go.Proofs.Ytlfmkipcgcilaaa.StepRef
open Go.RowKit Go.Proofs.Ytlfmkipcgcilaaa.SpanPlain Go.Proofs.Ytlfmkipcgcilaaa.StepPlain Go.Proofs.Ytlfmkipcgcilaaa.Mem Go.Proofs.Ytlfmkipcgcilaaa.SpanMem Go.Proofs.Ytlfmkipcgcilaaa.StepMem Go.Proofs.Ytlfmkipcgcilaaa.SpanRef
theorem below_alloc (w : World) (o : Obj) : Below w.heap.size w (w.alloc o) := (Below.refl _ _).alloc (Nat.le_refl _) o
def IntQ (n : Int) (w : World) (e : Ending) (w' : World) : Prop := e = .returned (.int .i64 n) ∧ w = w'
theorem val_take {s : List Sp} {k : Nat} (hk : k < s.length) (t : Int) : val (s.take (k + 1)) t = if (s.getD k (0, 0)).1 ≤ t then (s.getD k (0, 0)).2 else val (s.take k) t := by
  rw [List.take_succ_eq_append_getElem hk, val_snoc, getSp hk]
def BoolD (b : Bool) (w : World) (e : Ending) (w' : World) : Prop := e = .returned (.bool b) ∧ ∃ n, w' = w.drewN n
theorem pair_zero {w : World} {A : Option Addr} {n : Nat} {f : Nat → Value × Value} (h : Pairs w A n f) (hn : 0 < n) : ∃ ad, A = some ad ∧ ad.block < w.heap.size ∧ w.cell? ad = some (f 0).1 ∧ w.cell? ⟨ad.block, ad.off + 1, none⟩ = some (f 0).2 := by
  obtain ⟨ad, rfl, had, c1, c2⟩ := h 0 hn
  have e : ad.add (0 * 2) = ad := by unfold Addr.add; simp
  rw [e] at c1 c2
  exact ⟨ad, rfl, had, c1, c2⟩
def IntB (n : Int) (w : World) (e : Ending) (w' : World) : Prop := e = .returned (.int .i64 n) ∧ Below w.heap.size w w'
theorem add_len (s : List Sp) (x : Sp) : (addSpans s x).length = s.length + 1 := by unfold addSpans; rw [List.length_cons, List.length_map]
end Go.Proofs.Ytlfmkipcgcilaaa.StepRef
namespace Go.Proofs.Ytlfmkipcgcilaaa.StepRef
open Go.RowKit Go.Proofs.Ytlfmkipcgcilaaa.SpanPlain Go.Proofs.Ytlfmkipcgcilaaa.StepPlain Go.Proofs.Ytlfmkipcgcilaaa.Mem Go.Proofs.Ytlfmkipcgcilaaa.SpanMem Go.Proofs.Ytlfmkipcgcilaaa.StepMem Go.Proofs.Ytlfmkipcgcilaaa.SpanRef
theorem ok_ways (s : List Sp) (k : Nat) : (decide ((s.getD k (0, 0)).2 < 0) = true ∧ Hid (okB s k = false)) ∨ (decide ((s.getD k (0, 0)).2 < 0) = false ∧ decide (256 < (s.getD k (0, 0)).2) = true ∧ Hid (okB s k = false)) ∨
    (decide ((s.getD k (0, 0)).2 < 0) = false ∧ decide (256 < (s.getD k (0, 0)).2) = false ∧ decide ((4503599627370496 : Int) < (s.getD k (0, 0)).1) = true ∧ Hid (okB s k = false)) ∨
    (decide ((s.getD k (0, 0)).2 < 0) = false ∧ decide (256 < (s.getD k (0, 0)).2) = false ∧ decide ((4503599627370496 : Int) < (s.getD k (0, 0)).1) = false ∧ ((k = 0 ∧ Hid (okB s k = true)) ∨
      (0 < k ∧ decide ((s.getD k (0, 0)).1 ≤ (s.getD (k - 1) (0, 0)).1) = true ∧ Hid (okB s k = false)) ∨ (0 < k ∧ decide ((s.getD k (0, 0)).1 ≤ (s.getD (k - 1) (0, 0)).1) = false ∧ ((s.getD k (0, 0)).2 == (s.getD (k - 1) (0, 0)).2) = true ∧ Hid (okB s k = false)) ∨
      (0 < k ∧ decide ((s.getD k (0, 0)).1 ≤ (s.getD (k - 1) (0, 0)).1) = false ∧ ((s.getD k (0, 0)).2 == (s.getD (k - 1) (0, 0)).2) = false ∧ Hid (okB s k = true)))) := by
  unfold okB
  generalize s.getD k (0, 0) = x
  generalize s.getD (k - 1) (0, 0) = y
  by_cases h1 : x.2 < 0
  · exact .inl ⟨decide_eq_true h1, by rw [decide_eq_false (by omega : ¬ 0 ≤ x.2)]; rfl⟩
  · by_cases h2 : 256 < x.2
    · exact .inr (.inl ⟨decide_eq_false h1, decide_eq_true h2, by rw [decide_eq_false (by omega : ¬ x.2 ≤ 256), Bool.and_false]; rfl⟩)
    · by_cases h3 : 4503599627370496 < x.1
      · exact .inr (.inr (.inl ⟨decide_eq_false h1, decide_eq_false h2, decide_eq_true h3, by rw [decide_eq_false (by omega : ¬ x.1 ≤ 4503599627370496), Bool.and_false]; rfl⟩))
      · refine .inr (.inr (.inr ⟨decide_eq_false h1, decide_eq_false h2, decide_eq_false h3, ?_⟩))
        rw [decide_eq_true (by omega : 0 ≤ x.2), decide_eq_true (by omega : x.2 ≤ 256), decide_eq_true (by omega : x.1 ≤ 4503599627370496)]
        by_cases h4 : k = 0
        · exact .inl ⟨h4, by rw [decide_eq_true h4]; rfl⟩
        · rw [decide_eq_false h4]
          by_cases h5 : x.1 ≤ y.1
          · exact .inr (.inl ⟨by omega, decide_eq_true h5, by rw [decide_eq_false (by omega : ¬ y.1 < x.1)]; rfl⟩)
          · rw [decide_eq_true (by omega : y.1 < x.1)]
            cases h6 : (x.2 == y.2) with
            | true => exact .inr (.inr (.inl ⟨by omega, decide_eq_false h5, rfl, rfl⟩))
            | false => exact .inr (.inr (.inr ⟨by omega, decide_eq_false h5, rfl, rfl⟩))
theorem chk_no {s : List Sp} {k : Nat} (hk : k < s.length) (h : okB s k = false) : chkB s = false := by
  cases hc : chkB s with
  | false => rfl
  | true =>
    unfold chkB at hc
    rw [Bool.and_eq_true] at hc
    rw [allTo_lt hc.1 hk] at h; cases h
theorem chk_end {s : List Sp} (h : allTo s s.length = true) : (s.length = 0 ∧ Hid (chkB s = false)) ∨ (0 < s.length ∧ decide (0 ≤ (s.getD 0 (0, 0)).1) = false ∧ Hid (chkB s = false)) ∨
    (0 < s.length ∧ decide (0 ≤ (s.getD 0 (0, 0)).1) = true ∧ decide ((s.getD 0 (0, 0)).1 ≤ 1125899906842624) = false ∧ Hid (chkB s = false)) ∨ (0 < s.length ∧ decide (0 ≤ (s.getD 0 (0, 0)).1) = true ∧ decide ((s.getD 0 (0, 0)).1 ≤ 1125899906842624) = true ∧ Hid (chkB s = true)) := by
  unfold chkB
  rw [h, Bool.true_and]
  by_cases h1 : 0 < s.length
  · rw [decide_eq_true h1, Bool.true_and]
    cases h2 : decide (0 ≤ (s.getD 0 (0, 0)).1) with
    | false => exact .inr (.inl ⟨h1, rfl, rfl⟩)
    | true =>
      cases h3 : decide ((s.getD 0 (0, 0)).1 ≤ 1125899906842624) with
      | false => exact .inr (.inr (.inl ⟨h1, rfl, rfl, rfl⟩))
      | true => exact .inr (.inr (.inr ⟨h1, rfl, rfl, rfl⟩))
  · exact .inl ⟨by omega, by rw [decide_eq_false h1]; rfl⟩
set_option maxHeartbeats 3200000 in
theorem check4 (s : List Sp) (v : Value) (w : World) (hv : SpansIs s w v) (hl : s.length ≤ 9000) : Calls Try.prog 24 #[v] w (BoolD (chkB s) w) := by
  obtain ⟨A, c, rfl, hA⟩ := hv.open_
  have HA := Lib.hid hA
  clear hA hv
  go_enter Try.func24, Try.ntmps24
  go_wp2_with fail
  go_loopw [3] (fun i wr => ∃ k : Nat, i = .int .i64 k ∧ k ≤ s.length ∧ Hid (allTo s k = true) ∧ Hid (∃ q, wr = w.drewN q)) (fun i _ => s.length - (intOf i).toNat)
  case atStart => exact ⟨0, rfl, Nat.zero_le _, rfl, ⟨0, rfl⟩⟩
  case round =>
    obtain ⟨k, rfl, hk, HS, HW⟩ := hrel
    obtain ⟨q, rfl⟩ := HW.out
    by_cases hlt : k < s.length
    · obtain ⟨ad, rfl, had, c1, c2⟩ := HA.out k hlt
      have hways := ok_ways s k
      have HNO := Lib.hid (fun h => chk_no hlt h)
      have HNX : Hid (okB s k = true → allTo s (k + 1) = true) := fun h => by rw [allTo_succ, HS.out, h]; rfl
      have hlt2 : (k : Int) < (s.length : Int) := by omega
      have i0 : (0 : Int) ≤ (k : Int) := Int.natCast_nonneg _
      by_cases hk0 : k = 0
      · subst hk0
        unfold spCell at c1 c2
        dsimp only at c1 c2
        generalize s.getD 0 (0, 0) = x at *
        clear had HW
        have e : ad.add (0 * 2) = ad := by unfold Addr.add; simp
        rw [e] at c1 c2
        clear e
        rcases hways with ⟨h1, HO⟩ | ⟨h1, h2, HO⟩ | ⟨h1, h2, h3, HO⟩ | ⟨h1, h2, h3, ⟨_, HO⟩ | ⟨h, _⟩ | ⟨h, _⟩ | ⟨h, _⟩⟩
        · go_wp2_with fail
          go_quiet (fail)
          go_wp2_with fail
          go_ret
          exact ⟨by rw [HNO.out HO.out]; rfl, _, World.drewN_drewN _ _ _⟩
        · go_wp2_with fail
          go_quiet (fail)
          go_wp2_with fail
          go_ret
          exact ⟨by rw [HNO.out HO.out]; rfl, _, World.drewN_drewN _ _ _⟩
        · go_wp2_with fail
          go_quiet (fail)
          go_wp2_with fail
          go_ret
          exact ⟨by rw [HNO.out HO.out]; rfl, _, World.drewN_drewN _ _ _⟩
        · go_wp2_with fail
          go_quiet (fail)
          go_wp2_with fail
          exact ⟨⟨1, by go_num, by omega, HNX.out HO.out, ⟨_, rfl⟩⟩, by simp [intOf] <;> omega⟩
        all_goals omega
      · obtain ⟨ad2, e2, _, d1, d2⟩ := HA.out (k - 1) (by omega)
        injection e2 with e2
        subst e2
        unfold spCell at c1 c2 d1 d2
        dsimp only at c1 c2 d1 d2
        generalize s.getD k (0, 0) = x at *
        generalize s.getD (k - 1) (0, 0) = y at *
        have j0 : (0 : Int) < (k : Int) := by omega
        have j1 : IntKind.i64.wrap ((k : Int) - 1) = (k : Int) - 1 := by rw [IntKind.wrap_i64]; omega
        have j2 : (0 : Int) ≤ (k : Int) - 1 := by omega
        have j3 : (k : Int) - 1 < (s.length : Int) := by omega
        have j4 : ((k : Int) - 1).toNat = k - 1 := by omega
        have j5 : 0 < k := by omega
        have j6 : (1 : Int) ≤ (k : Int) := by omega
        clear had HW hk0
        rcases hways with ⟨h1, HO⟩ | ⟨h1, h2, HO⟩ | ⟨h1, h2, h3, HO⟩ | ⟨h1, h2, h3, ⟨h, _⟩ | ⟨_, h4, HO⟩ | ⟨_, h4, h5, HO⟩ | ⟨_, h4, h5, HO⟩⟩
        · go_wp2_with fail
          go_quiet (fail)
          go_wp2_with fail
          go_ret
          exact ⟨by rw [HNO.out HO.out]; rfl, _, World.drewN_drewN _ _ _⟩
        · go_wp2_with fail
          go_quiet (fail)
          go_wp2_with fail
          go_ret
          exact ⟨by rw [HNO.out HO.out]; rfl, _, World.drewN_drewN _ _ _⟩
        · go_wp2_with fail
          go_quiet (fail)
          go_wp2_with fail
          go_ret
          exact ⟨by rw [HNO.out HO.out]; rfl, _, World.drewN_drewN _ _ _⟩
        · omega
        · go_wp2_with fail
          go_quiet (fail)
          go_wp2_with fail
          go_ret
          exact ⟨by rw [HNO.out HO.out]; rfl, _, World.drewN_drewN _ _ _⟩
        · go_wp2_with fail
          go_quiet (fail)
          go_wp2_with fail
          go_ret
          exact ⟨by rw [HNO.out HO.out]; rfl, _, World.drewN_drewN _ _ _⟩
        · go_wp2_with fail
          go_quiet (fail)
          go_wp2_with fail
          exact ⟨⟨k + 1, by go_num, by omega, HNX.out HO.out, ⟨_, rfl⟩⟩, by simp [intOf] <;> omega⟩
    · have hend := chk_end (s := s) (by have h := HS.out; rwa [show k = s.length by omega] at h)
      rcases hend with ⟨h0, HO⟩ | ⟨h0, h1, HO⟩ | ⟨h0, h1, h2, HO⟩ | ⟨h0, h1, h2, HO⟩
      · go_wp2_with fail
        go_ret
        exact ⟨by rw [HO.out]; rfl, q, rfl⟩
      all_goals
        obtain ⟨ad, rfl, had, c1, c2⟩ := pair_zero HA.out h0
        unfold spCell at c1 c2
        dsimp only at c1 c2
        have i0 : (0 : Int) < (s.length : Int) := by omega
        generalize s.getD 0 (0, 0) = x at *
        clear had HW
        go_wp2_with fail
        go_ret
        exact ⟨by rw [HO.out]; rfl, q, rfl⟩
end Go.Proofs.Ytlfmkipcgcilaaa.StepRef
namespace Go.Proofs.Ytlfmkipcgcilaaa.StepRef
open Go.RowKit Go.Proofs.Ytlfmkipcgcilaaa.SpanPlain Go.Proofs.Ytlfmkipcgcilaaa.StepPlain Go.Proofs.Ytlfmkipcgcilaaa.Mem Go.Proofs.Ytlfmkipcgcilaaa.SpanMem Go.Proofs.Ytlfmkipcgcilaaa.StepMem Go.Proofs.Ytlfmkipcgcilaaa.SpanRef
set_option maxHeartbeats 800000 in
theorem within4 (s : List Sp) (v : Value) (t : Int) (w : World) (hv : SpansIs s w v) (hl : s.length ≤ 9000) : Calls Try.prog 51 #[v, .int .i64 t] w (IntQ (val s t) w) := by
  obtain ⟨A, c, rfl, hA⟩ := hv.open_
  have HA := Lib.hid hA
  clear hA hv
  go_enter Try.func51, Try.ntmps51
  go_wp2_with fail
  go_loop [5, 6] (fun n i => ∃ k : Nat, n = .int .i64 (val (s.take k) t) ∧ i = .int .i64 k ∧ k ≤ s.length) (fun _ i => s.length - (intOf i).toNat)
  case atStart => exact ⟨0, rfl, rfl, Nat.zero_le _⟩
  case round =>
    obtain ⟨k, rfl, rfl, hk⟩ := hrel
    by_cases hlt : k < s.length
    · obtain ⟨ad, rfl, had, c1, c2⟩ := HA.out k hlt
      have HV := Lib.hid (val_take hlt t)
      unfold spCell at c1 c2
      dsimp only at c1 c2
      generalize s.getD k (0, 0) = x at *
      generalize val (s.take k) t = n at *
      by_cases hx : x.1 ≤ t
      · have HX := Lib.hid (HV.out.trans (if_pos hx))
        clear HV
        go_wp2_with fail
        exact ⟨⟨k + 1, by rw [HX.out], by go_num, by omega⟩, by simp [intOf] <;> omega⟩
      · have HX := Lib.hid (HV.out.trans (if_neg hx))
        clear HV
        go_wp2_with fail
        exact ⟨⟨k + 1, by rw [HX.out], by go_num, by omega⟩, by simp [intOf] <;> omega⟩
    · go_wp2_with fail
      go_ret
      exact ⟨by rw [List.take_of_length_le (by omega)]; rfl, rfl⟩
end Go.Proofs.Ytlfmkipcgcilaaa.StepRef
namespace Go.Proofs.Ytlfmkipcgcilaaa.StepRef
open Go.RowKit Go.Proofs.Ytlfmkipcgcilaaa.SpanPlain Go.Proofs.Ytlfmkipcgcilaaa.StepPlain Go.Proofs.Ytlfmkipcgcilaaa.Mem Go.Proofs.Ytlfmkipcgcilaaa.SpanMem Go.Proofs.Ytlfmkipcgcilaaa.StepMem Go.Proofs.Ytlfmkipcgcilaaa.SpanRef
theorem min_ways (x y : Sp) (n : Int) : (decide (x.1 < y.1) = false ∧ Hid (minStep x n y = n)) ∨ (decide (x.1 < y.1) = true ∧ decide (y.1 < x.2) = false ∧ Hid (minStep x n y = n)) ∨
    (decide (x.1 < y.1) = true ∧ decide (y.1 < x.2) = true ∧ decide (y.2 < n) = false ∧ Hid (minStep x n y = n)) ∨ (decide (x.1 < y.1) = true ∧ decide (y.1 < x.2) = true ∧ decide (y.2 < n) = true ∧ Hid (minStep x n y = y.2)) := by
  unfold minStep
  by_cases h1 : x.1 < y.1
  · by_cases h2 : y.1 < x.2
    · by_cases h3 : y.2 < n
      · exact .inr (.inr (.inr ⟨decide_eq_true h1, decide_eq_true h2, decide_eq_true h3, if_pos ⟨h1, h2, h3⟩⟩))
      · exact .inr (.inr (.inl ⟨decide_eq_true h1, decide_eq_true h2, decide_eq_false h3, if_neg (fun h => h3 h.2.2)⟩))
    · exact .inr (.inl ⟨decide_eq_true h1, decide_eq_false h2, if_neg (fun h => h2 h.2.1)⟩)
  · exact .inl ⟨decide_eq_false h1, if_neg (fun h => h1 h.1)⟩
set_option maxHeartbeats 3200000 in
theorem min4 (s : List Sp) (x : Sp) (v : Value) (w : World) (hv : SpansIs s w v) (hl : s.length ≤ 9000) : Calls Try.prog 49 #[v, spV x] w (IntB (minTo s x s.length) w) := by
  obtain ⟨A, c, rfl, hA⟩ := hv.open_
  obtain ⟨x1, x2⟩ := x
  have HW := Lib.hid (within4 s (.slice A s.length c) x1 (w.alloc (.cells #[.int .i64 x1, .int .i64 x2] 77)) (hv.below (below_alloc _ _)) hl)
  have HB := Lib.hid (Box2.new w (.int .i64 x1) (.int .i64 x2) 77)
  have HA := Lib.hid (hA.below (below_alloc w (.cells #[.int .i64 x1, .int .i64 x2] 77)))
  have HL := Lib.hid (below_alloc w (.cells #[.int .i64 x1, .int .i64 x2] 77))
  have hm0 : Hid (minTo s (x1, x2) 0 = val s x1) := rfl
  unfold spV
  dsimp only
  clear hA hv
  go_enter Try.func49, Try.ntmps49
  go_wp2_with fail
  refine HW.out.mono ?_
  rintro e w1 ⟨rfl, rfl⟩
  go_wp2_with fail
  generalize w.alloc (.cells #[.int .i64 x1, .int .i64 x2] 77) = W at *
  go_loopw [5, 6] (fun n i wr => ∃ k : Nat, n = .int .i64 (minTo s (x1, x2) k) ∧ i = .int .i64 k ∧ k ≤ s.length ∧ Hid (∃ q, wr = W.drewN q)) (fun _ i _ => s.length - (intOf i).toNat)
  case atStart => exact ⟨0, by rw [hm0.out], rfl, Nat.zero_le _, ⟨0, rfl⟩⟩
  case round =>
    obtain ⟨k, rfl, rfl, hk, HQ⟩ := hrel
    obtain ⟨q, rfl⟩ := HQ.out
    by_cases hlt : k < s.length
    · obtain ⟨ad, rfl, had, c1, c2⟩ := HA.out k hlt
      obtain ⟨b0, b1, b2, b3, b4⟩ := HB.out
      have hways := min_ways (x1, x2) (s.getD k (0, 0)) (minTo s (x1, x2) k)
      have HN := Lib.hid (min_next (x := (x1, x2)) hlt)
      have hlt2 : (k : Int) < (s.length : Int) := by omega
      have i0 : (0 : Int) ≤ (k : Int) := Int.natCast_nonneg _
      unfold spCell at c1 c2
      dsimp only at c1 c2 hways
      generalize s.getD k (0, 0) = y at *
      generalize minTo s (x1, x2) k = n at *
      clear had HQ b0 b3 b4 HW
      rcases hways with ⟨h1, HM⟩ | ⟨h1, h2, HM⟩ | ⟨h1, h2, h3, HM⟩ | ⟨h1, h2, h3, HM⟩
      all_goals
        go_wp2_with fail
        go_quiet (fail)
        go_wp2_with fail
        exact ⟨⟨k + 1, by rw [HN.out, HM.out], by go_num, by omega, ⟨_, rfl⟩⟩, by simp [intOf] <;> omega⟩
    · obtain rfl : k = s.length := by omega
      go_wp2_with fail
      go_ret
      exact ⟨rfl, below_drewN HL.out q⟩
end Go.Proofs.Ytlfmkipcgcilaaa.StepRef
namespace Go.Proofs.Ytlfmkipcgcilaaa.StepRef
open Go.RowKit Go.Proofs.Ytlfmkipcgcilaaa.SpanPlain Go.Proofs.Ytlfmkipcgcilaaa.StepPlain Go.Proofs.Ytlfmkipcgcilaaa.Mem Go.Proofs.Ytlfmkipcgcilaaa.SpanMem Go.Proofs.Ytlfmkipcgcilaaa.StepMem Go.Proofs.Ytlfmkipcgcilaaa.SpanRef
theorem same_take {a b : List Sp} {k : Nat} (ha : k < a.length) (hb : k < b.length) (h : a.take k = b.take k) (he : a.getD k (0, 0) = b.getD k (0, 0)) : a.take (k + 1) = b.take (k + 1) := by
  rw [List.take_succ_eq_append_getElem ha, List.take_succ_eq_append_getElem hb, h]
  simp [List.getD, ha, hb] at he
  rw [he]
theorem same_not {a b : List Sp} {k : Nat} (he : a.getD k (0, 0) ≠ b.getD k (0, 0)) : a ≠ b := fun h => by subst h; exact he rfl
set_option maxHeartbeats 1600000 in
theorem same4 (a b : List Sp) (v u : Value) (w : World) (hv : SpansIs a w v) (hu : SpansIs b w u) (hl : a.length ≤ 4000) (hm : b.length ≤ 4000) : Calls Try.prog 17 #[v, u] w (BoolD (decide (a = b)) w) := by
  obtain ⟨A, c, rfl, hA⟩ := hv.open_
  obtain ⟨B, d, rfl, hB⟩ := hu.open_
  have HA := Lib.hid hA
  have HB := Lib.hid hB
  clear hA hB hv hu
  by_cases hlen : a.length = b.length
  · rw [← hlen] at HB ⊢
    have HL := Lib.hid hlen
    clear hlen hm
    go_enter Try.func17, Try.ntmps17
    go_wp2_with fail
    go_loopw [5] (fun i wr => ∃ k : Nat, i = .int .i64 k ∧ k ≤ a.length ∧ Hid (a.take k = b.take k) ∧ Hid (∃ q, wr = w.drewN q)) (fun i _ => a.length - (intOf i).toNat)
    case atStart => exact ⟨0, rfl, Nat.zero_le _, rfl, ⟨0, rfl⟩⟩
    case round =>
      obtain ⟨k, rfl, hk, HS, HW⟩ := hrel
      obtain ⟨q, rfl⟩ := HW.out
      by_cases hlt : k < a.length
      · obtain ⟨ad, rfl, had, c1, c2⟩ := HA.out k hlt
        obtain ⟨bd, rfl, hbd, d1, d2⟩ := HB.out k hlt
        have hlb : k < b.length := by rw [← HL.out]; exact hlt
        have HN := Lib.hid (fun h => same_take hlt hlb HS.out h)
        have HX := Lib.hid (fun h => same_not (a := a) (b := b) (k := k) h)
        unfold spCell at c1 c2 d1 d2
        dsimp only at c1 c2 d1 d2
        generalize a.getD k (0, 0) = s at *
        generalize b.getD k (0, 0) = r at *
        have hlt2 : (k : Int) < (a.length : Int) := by omega
        clear had hbd HW hlb
        by_cases he : s = r
        · subst he
          have HN2 := Lib.hid (HN.out rfl)
          go_wp2_with fail
          go_quiet (fail)
          go_wp2_with fail
          exact ⟨⟨k + 1, by go_num, by omega, HN2.out, ⟨_, rfl⟩⟩, by simp [intOf] <;> omega⟩
        · have HX2 := Lib.hid (HX.out he)
          have hne : (s.1 == r.1) = false ∨ ((s.1 == r.1) = true ∧ (s.2 == r.2) = false) := by
            by_cases h1 : s.1 = r.1
            · right; exact ⟨beq_iff_eq.2 h1, beq_eq_false_iff_ne.2 fun h2 => he (Prod.ext h1 h2)⟩
            · left; exact beq_eq_false_iff_ne.2 h1
          clear he
          rcases hne with h1 | ⟨h1, h2⟩
          all_goals
            go_wp2_with fail
            go_quiet (fail)
            go_wp2_with fail
            go_ret
            exact ⟨by rw [decide_eq_false HX2.out]; rfl, _, World.drewN_drewN _ _ _⟩
      · have h := HS.out
        rw [List.take_of_length_le (by omega), List.take_of_length_le (by rw [← HL.out]; omega)] at h
        have H := Lib.hid h
        clear h
        go_wp2_with fail
        go_ret
        exact ⟨by rw [decide_eq_true H.out]; rfl, q, rfl⟩
  · have hne : ((a.length : Int) != (b.length : Int)) = true := by rw [bne_iff_ne]; omega
    have H : Hid (a ≠ b) := fun h => hlen (by rw [h])
    clear hlen
    go_enter Try.func17, Try.ntmps17
    go_wp2_with fail
    go_ret
    exact ⟨by rw [decide_eq_false H.out]; rfl, 0, rfl⟩
end Go.Proofs.Ytlfmkipcgcilaaa.StepRef
namespace Go.Proofs.Ytlfmkipcgcilaaa.StepWalk
open Go.RowKit Go.Proofs.Ytlfmkipcgcilaaa.SpanPlain Go.Proofs.Ytlfmkipcgcilaaa.StepPlain Go.Proofs.Ytlfmkipcgcilaaa.Mem Go.Proofs.Ytlfmkipcgcilaaa.SpanMem Go.Proofs.Ytlfmkipcgcilaaa.StepMem Go.Proofs.Ytlfmkipcgcilaaa.SpanRef Go.Proofs.Ytlfmkipcgcilaaa.StepRef
/-- A slice whose memory, if there is any, is new from block B on. -/
def NewAt (B : Nat) (v : Value) : Prop := ∀ a n c, v = .slice (some a) n c → B ≤ a.block
theorem NewAt.nil {B : Nat} : NewAt B (.slice none 0 0) := fun _ _ _ h => by cases h
theorem NewAt.mono {B B' : Nat} {v : Value} (h : NewAt B v) (hb : B' ≤ B) : NewAt B' v := fun a n c e => Nat.le_trans hb (h a n c e)
theorem NewAt.own {e : TypeId} {k base n B : Nat} {w : World} {v : Value} {xs : List Value} (h : OwnN e k base w v n xs) (hb : B ≤ base) : NewAt B v := fun a m c e => by
  rcases h.form with ⟨h1, _⟩ | ⟨g, c', h1, h2, _⟩
  · rw [h1] at e; cases e
  · rw [h1] at e
    injection e with e
    injection e with e
    subst e
    exact Nat.le_trans hb h2
theorem NewAt.cut {B : Nat} {a : Addr} {n c m k : Nat} (h : NewAt B (.slice (some a) n c)) : NewAt B (.slice (some a) m k) := fun b i j e => by
  injection e with e
  injection e with e
  subst e
  exact h _ _ _ rfl
def PairIs (n : Int) (b : Bool) (w : World) (e : Ending) (w' : World) : Prop := e = .returned (.tuple #[.int .i64 n, .bool b]) ∧ Below w.heap.size w w'
def atB (s : List Sp) (t : Int) : Bool := chkB s && decide (head s ≤ t) && decide (t < 4503599627370496)
def atN (s : List Sp) (t : Int) : Int := if atB s t then val s t else 0
def minB (s : List Sp) (x : Sp) : Bool := chkB s && mayB x && decide (head s ≤ x.1)
def MinSays (s : List Sp) (x : Sp) (w : World) (e : Ending) (w' : World) : Prop := ∃ n, e = .returned (.tuple #[.int .i64 n, .bool (minB s x)]) ∧ ((minB s x = true ∧ MinOf s x n) ∨ (minB s x = false ∧ n = 0)) ∧ Below w.heap.size w w'
def AddSays (s : List Sp) (x : Sp) (n : Int) (w : World) (e : Ending) (w' : World) : Prop := ∃ v r, e = .returned v ∧ SpansIs r w' v ∧ AddIs s x n r ∧ Below w.heap.size w w' ∧ NewAt w.heap.size v
end Go.Proofs.Ytlfmkipcgcilaaa.StepWalk
namespace Go.Proofs.Ytlfmkipcgcilaaa.GapRef
open Go.RowKit Go.Proofs.Ytlfmkipcgcilaaa.SpanPlain Go.Proofs.Ytlfmkipcgcilaaa.StepPlain Go.Proofs.Ytlfmkipcgcilaaa.GapPlain Go.Proofs.Ytlfmkipcgcilaaa.Mem Go.Proofs.Ytlfmkipcgcilaaa.SpanMem Go.Proofs.Ytlfmkipcgcilaaa.StepMem Go.Proofs.Ytlfmkipcgcilaaa.SpanRef Go.Proofs.Ytlfmkipcgcilaaa.StepRef
theorem mayg_ways (s : List Sp) (w n : Int) : (mayG s w n = false ∧ chkB s = false) ∨ (mayG s w n = false ∧ chkB s = true ∧ decide (1 ≤ w) = false) ∨ (mayG s w n = false ∧ chkB s = true ∧ decide (1 ≤ w) = true ∧ decide (w ≤ 256) = false) ∨
    (mayG s w n = false ∧ chkB s = true ∧ decide (1 ≤ w) = true ∧ decide (w ≤ 256) = true ∧ decide (1 ≤ n) = false) ∨ (mayG s w n = false ∧ chkB s = true ∧ decide (1 ≤ w) = true ∧ decide (w ≤ 256) = true ∧ decide (1 ≤ n) = true ∧ decide (n ≤ 1099511627776) = false) ∨
    (mayG s w n = true ∧ chkB s = true ∧ decide (1 ≤ w) = true ∧ decide (w ≤ 256) = true ∧ decide (1 ≤ n) = true ∧ decide (n ≤ 1099511627776) = true) := by
  unfold mayG
  cases chkB s <;> cases decide (1 ≤ w) <;> cases decide (w ≤ 256) <;> cases decide (1 ≤ n) <;> cases decide (n ≤ 1099511627776) <;> simp
set_option maxHeartbeats 1600000 in
theorem may6 (s : List Sp) (a n : Int) (v : Value) (w : World) (hv : SpansIs s w v) (hl : s.length ≤ 9000) : Calls Try.prog 27 #[v, .int .i64 a, .int .i64 n] w (BoolIs (mayG s a n) w) := by
  have CC := Lib.hid (check4 s v w hv hl)
  have hw := mayg_ways s a n
  clear hv
  rcases hw with ⟨hm, hc⟩ | ⟨hm, hc, h1⟩ | ⟨hm, hc, h1, h2⟩ | ⟨hm, hc, h1, h2, h3⟩ | ⟨hm, hc, h1, h2, h3, h4⟩ | ⟨hm, hc, h1, h2, h3, h4⟩
  all_goals
    rw [hc] at CC
    rw [hm]
    clear hm hc
    go_enter Try.func27, Try.ntmps27
    go_wp2_with fail
    refine CC.out.mono ?_
    rintro e w1 ⟨rfl, q, rfl⟩
    go_wp2_with fail
    go_ret
    exact ⟨rfl, below_drewN (Below.refl _ _) q⟩
theorem roomb_ways (s : List Sp) (a w n : Int) : (roomB s a w n = false ∧ decide (head s ≤ a) = false) ∨ (roomB s a w n = false ∧ decide (head s ≤ a) = true ∧ decide (a ≤ 1125899906842624) = false) ∨
    (decide (head s ≤ a) = true ∧ decide (a ≤ 1125899906842624) = true ∧ roomB s a w n = decide (w ≤ minTo s (a, a + n) s.length)) := by
  unfold roomB
  cases decide (head s ≤ a) <;> cases decide (a ≤ 1125899906842624) <;> simp
set_option maxHeartbeats 1600000 in
theorem ok6 (s : List Sp) (a m n : Int) (v : Value) (w : World) (hv : SpansIs s w v) (hl : s.length ≤ 9000) (hc : Chk s) (hn1 : 1 ≤ n) (hn2 : n ≤ 1099511627776) :
    Calls Try.prog 40 #[v, .int .i64 a, .int .i64 m, .int .i64 n] w (BoolIs (roomB s a m n) w) := by
  have CM := Lib.hid (min4 s (a, a + n) v w hv hl)
  obtain ⟨A, c, rfl, hA⟩ := hv.open_
  obtain ⟨ad, rfl, had, c1, _⟩ := pair_zero hA hc.pos
  have hh : (spCell s 0).1 = .int .i64 (head s) := rfl
  rw [hh] at c1
  have hlz : (0 : Int) < (s.length : Int) := by have := hc.pos; omega
  have hlo := hc.lo
  have hw := roomb_ways s a m n
  unfold spV at CM
  dsimp only at CM
  clear hv hA hh hc
  generalize head s = h at *
  rcases hw with ⟨hr, h1⟩ | ⟨hr, h1, h2⟩ | ⟨h1, h2, hr⟩
  · rw [hr]
    clear hr CM
    go_enter Try.func40, Try.ntmps40
    go_wp2_with fail
    go_ret
    exact ⟨rfl, Below.refl _ _⟩
  · rw [hr]
    clear hr CM
    go_enter Try.func40, Try.ntmps40
    go_wp2_with fail
    go_ret
    exact ⟨rfl, Below.refl _ _⟩
  · have a1 := of_decide_eq_true h1
    have a2 := of_decide_eq_true h2
    generalize minTo s (a, a + n) s.length = x at *
    generalize roomB s a m n = R at *
    subst hr
    cases hx : decide (m ≤ x)
    all_goals
      go_enter Try.func40, Try.ntmps40
      go_wp2_with fail
      refine CM.out.mono ?_
      rintro e w1 ⟨rfl, hb1⟩
      have HB1 := Lib.hid hb1
      clear hb1
      go_wp2_with fail
      go_ret
      exact ⟨rfl, HB1.out⟩
end Go.Proofs.Ytlfmkipcgcilaaa.GapRef
namespace Go.Proofs.Ytlfmkipcgcilaaa.GapRef
open Go.RowKit Go.Proofs.Ytlfmkipcgcilaaa.SpanPlain Go.Proofs.Ytlfmkipcgcilaaa.StepPlain Go.Proofs.Ytlfmkipcgcilaaa.GapPlain Go.Proofs.Ytlfmkipcgcilaaa.Mem Go.Proofs.Ytlfmkipcgcilaaa.SpanMem Go.Proofs.Ytlfmkipcgcilaaa.StepMem Go.Proofs.Ytlfmkipcgcilaaa.SpanRef Go.Proofs.Ytlfmkipcgcilaaa.StepRef
theorem drop_at {s : List Sp} {k : Nat} (h : k < s.length) : s.drop k = nth s k :: s.drop (k + 1) := by unfold nth; rw [getSp h, List.drop_eq_getElem_cons h]
theorem fit_ways (s : List Sp) (f w n : Int) : (decide ((1125899906842624 : Int) < max f (head s)) = true ∧ fitL s f w n = -1) ∨ (decide ((1125899906842624 : Int) < max f (head s)) = false ∧ roomB s (max f (head s)) w n = true ∧ fitL s f w n = max f (head s)) ∨
    (decide ((1125899906842624 : Int) < max f (head s)) = false ∧ roomB s (max f (head s)) w n = false ∧ fitL s f w n = fitStep s (max f (head s)) w n s) := by
  unfold fitL
  by_cases h1 : 1125899906842624 < max f (head s)
  · exact .inl ⟨decide_eq_true h1, if_pos h1⟩
  · rw [if_neg h1]
    cases h2 : roomB s (max f (head s)) w n with
    | true => exact .inr (.inl ⟨decide_eq_false h1, rfl, if_pos rfl⟩)
    | false => exact .inr (.inr ⟨decide_eq_false h1, rfl, if_neg (by simp)⟩)
theorem step_ways (s : List Sp) (f w n : Int) {k : Nat} (h : k < s.length) : (decide (f < (nth s k).1) = false ∧ Hid (fitStep s f w n (s.drop k) = fitStep s f w n (s.drop (k + 1)))) ∨ (decide (f < (nth s k).1) = true ∧ roomB s (nth s k).1 w n = false ∧ Hid (fitStep s f w n (s.drop k) = fitStep s f w n (s.drop (k + 1)))) ∨
    (decide (f < (nth s k).1) = true ∧ roomB s (nth s k).1 w n = true ∧ Hid (fitStep s f w n (s.drop k) = (nth s k).1)) := by
  rw [drop_at h]
  generalize nth s k = y
  by_cases h1 : f < y.1
  · cases h2 : roomB s y.1 w n with
    | false => exact .inr (.inl ⟨decide_eq_true h1, rfl, if_neg (fun h3 => by rw [h2] at h3; cases h3.2)⟩)
    | true => exact .inr (.inr ⟨decide_eq_true h1, rfl, if_pos ⟨h1, h2⟩⟩)
  · exact .inl ⟨decide_eq_false h1, if_neg (fun h3 => h1 h3.1)⟩
theorem ret_is {k : IntKind} {a b : Int} (h : a = b) : Ending.returned (.int k a) = .returned (.int k b) := by rw [h]
def IntA (n : Int) (w : World) (e : Ending) (w' : World) : Prop := e = .returned (.int .i64 n) ∧ Below w.heap.size w w'
set_option maxRecDepth 100000 in
set_option maxHeartbeats 3200000 in
theorem fit6 (s : List Sp) (f m n : Int) (v : Value) (w : World) (hv : SpansIs s w v) (hl : s.length ≤ 9000) (hc : Chk s) (hn1 : 1 ≤ n) (hn2 : n ≤ 1099511627776) :
    Calls Try.prog 28 #[v, .int .i64 f, .int .i64 m, .int .i64 n] w (IntA (fitL s f m n) w) := by
  have CO := Lib.hid (fun a (w' : World) (hb : Below w.heap.size w w') => ok6 s a m n v w' (hv.below hb) hl hc hn1 hn2)
  obtain ⟨A, c, rfl, hA⟩ := hv.open_
  have HA := Lib.hid hA
  have HC := Lib.hid hc
  obtain ⟨ad, rfl, had, c1, _⟩ := pair_zero hA hc.pos
  have hh : (spCell s 0).1 = .int .i64 (head s) := rfl
  rw [hh] at c1
  have hlz : (0 : Int) < (s.length : Int) := by have := hc.pos; omega
  have hw := fit_ways s f m n
  clear hv hA hh hc
  obtain ⟨F, hF, hcase⟩ : ∃ F, F = max f (head s) ∧ ((decide (f < head s) = true ∧ F = head s) ∨ (decide (f < head s) = false ∧ F = f)) := by
    by_cases h1 : f < head s
    · exact ⟨_, rfl, .inl ⟨decide_eq_true h1, by omega⟩⟩
    · exact ⟨_, rfl, .inr ⟨decide_eq_false h1, by omega⟩⟩
  rw [← hF] at hw
  have HW := Lib.hid (fun k (hk : k < s.length) => step_ways s F m n hk)
  have C1 := Lib.hid (CO.out F w (Below.refl _ _))
  generalize fitL s f m n = R at *
  clear hF
  generalize head s = hd at hcase c1
  rcases hcase with ⟨h0, hmx⟩ | ⟨h0, hmx⟩
  · obtain rfl : hd = F := hmx.symm
    clear hmx
    rcases hw with ⟨h1, hr⟩ | ⟨h1, h2, hr⟩ | ⟨h1, h2, hr⟩
    · subst hr
      clear C1 CO HW
      go_enter Try.func28, Try.ntmps28
      go_wp2_with fail
      go_ret
      exact ⟨rfl, Below.refl _ _⟩
    · rw [h2] at C1
      subst hr
      clear CO h2 HW
      go_enter Try.func28, Try.ntmps28
      go_wp2_with fail
      refine C1.out.mono ?_
      rintro e w1 ⟨rfl, hb1⟩
      have HB1 := Lib.hid hb1
      clear hb1
      go_wp2_with fail
      go_ret
      exact ⟨rfl, HB1.out⟩
    · rw [h2] at C1
      subst hr
      clear h2
      go_enter Try.func28, Try.ntmps28
      go_wp2_with fail
      refine C1.out.mono ?_
      rintro e w1 ⟨rfl, hb1⟩
      have HB1 := Lib.hid hb1
      clear hb1 c1 C1
      go_wp2_with fail
      go_loopw [10] (fun i wr => ∃ k : Nat, i = .int .i64 k ∧ k ≤ s.length ∧ Hid (fitStep s hd m n s = fitStep s hd m n (s.drop k) ∧ Below w.heap.size w wr)) (fun i _ => s.length - (intOf i).toNat)
      case atStart => exact ⟨0, rfl, Nat.zero_le _, rfl, HB1.out⟩
      case round =>
        obtain ⟨k, rfl, hk, HL⟩ := hrel
        obtain ⟨he, hbl⟩ := HL.out
        by_cases hlt : k < s.length
        · obtain ⟨ad2, ead, had2, c3, c4⟩ := (HA.out.below hbl) k hlt
          injection ead with ead
          subst ead
          have e1 : (spCell s k).1 = .int .i64 (nth s k).1 := rfl
          rw [e1] at c3
          have hways := HW.out k hlt
          have CK := Lib.hid (CO.out (nth s k).1 wr hbl)
          have hlt2 : (k : Int) < (s.length : Int) := by omega
          have HE := Lib.hid he
          have HBL := Lib.hid hbl
          clear he hbl HL e1 c4
          rcases hways with ⟨g1, HX⟩ | ⟨g1, g2, HX⟩ | ⟨g1, g2, HX⟩
          · have HN := Lib.hid (HE.out.trans HX.out)
            clear CK HX
            generalize nth s k = y at *
            go_wp2_with fail
            exact ⟨⟨k + 1, by go_num, by omega, HN.out, HBL.out⟩, by simp [intOf] <;> omega⟩
          · have HN := Lib.hid (HE.out.trans HX.out)
            rw [g2] at CK
            clear HX g2
            generalize nth s k = y at *
            go_wp2_with fail
            refine CK.out.mono ?_
            rintro e w2 ⟨rfl, hb2⟩
            have HB2 := Lib.hid (HBL.out.trans (hb2.mono HBL.out.size))
            clear hb2
            go_wp2_with fail
            exact ⟨⟨k + 1, by go_num, by omega, HN.out, HB2.out⟩, by simp [intOf] <;> omega⟩
          · have HN := Lib.hid (HE.out.trans HX.out)
            rw [g2] at CK
            clear HX g2
            generalize nth s k = y at *
            go_wp2_with fail
            refine CK.out.mono ?_
            rintro e w2 ⟨rfl, hb2⟩
            have HB2 := Lib.hid (HBL.out.trans (hb2.mono HBL.out.size))
            have c5 := (hb2.cell (by rw [add_block]; exact had2)).trans c3
            clear hb2 c3
            go_wp2_with fail
            go_ret
            exact ⟨ret_is HN.out.symm, HB2.out⟩
        · have HN : Hid (fitStep s hd m n s = -1) := by rw [he, List.drop_eq_nil_of_le (by omega)]; rfl
          have HBL := Lib.hid hbl
          clear he hbl HL
          go_wp2_with fail
          go_ret
          exact ⟨ret_is HN.out.symm, HBL.out⟩
  · obtain rfl : f = F := hmx.symm
    clear hmx
    rcases hw with ⟨h1, hr⟩ | ⟨h1, h2, hr⟩ | ⟨h1, h2, hr⟩
    · subst hr
      clear C1 CO HW
      go_enter Try.func28, Try.ntmps28
      go_wp2_with fail
      go_ret
      exact ⟨rfl, Below.refl _ _⟩
    · rw [h2] at C1
      subst hr
      clear CO h2 HW
      go_enter Try.func28, Try.ntmps28
      go_wp2_with fail
      refine C1.out.mono ?_
      rintro e w1 ⟨rfl, hb1⟩
      have HB1 := Lib.hid hb1
      clear hb1
      go_wp2_with fail
      go_ret
      exact ⟨rfl, HB1.out⟩
    · rw [h2] at C1
      subst hr
      clear h2
      go_enter Try.func28, Try.ntmps28
      go_wp2_with fail
      refine C1.out.mono ?_
      rintro e w1 ⟨rfl, hb1⟩
      have HB1 := Lib.hid hb1
      clear hb1 c1 C1
      go_wp2_with fail
      go_loopw [10] (fun i wr => ∃ k : Nat, i = .int .i64 k ∧ k ≤ s.length ∧ Hid (fitStep s f m n s = fitStep s f m n (s.drop k) ∧ Below w.heap.size w wr)) (fun i _ => s.length - (intOf i).toNat)
      case atStart => exact ⟨0, rfl, Nat.zero_le _, rfl, HB1.out⟩
      case round =>
        obtain ⟨k, rfl, hk, HL⟩ := hrel
        obtain ⟨he, hbl⟩ := HL.out
        by_cases hlt : k < s.length
        · obtain ⟨ad2, ead, had2, c3, c4⟩ := (HA.out.below hbl) k hlt
          injection ead with ead
          subst ead
          have e1 : (spCell s k).1 = .int .i64 (nth s k).1 := rfl
          rw [e1] at c3
          have hways := HW.out k hlt
          have CK := Lib.hid (CO.out (nth s k).1 wr hbl)
          have hlt2 : (k : Int) < (s.length : Int) := by omega
          have HE := Lib.hid he
          have HBL := Lib.hid hbl
          clear he hbl HL e1 c4
          rcases hways with ⟨g1, HX⟩ | ⟨g1, g2, HX⟩ | ⟨g1, g2, HX⟩
          · have HN := Lib.hid (HE.out.trans HX.out)
            clear CK HX
            generalize nth s k = y at *
            go_wp2_with fail
            exact ⟨⟨k + 1, by go_num, by omega, HN.out, HBL.out⟩, by simp [intOf] <;> omega⟩
          · have HN := Lib.hid (HE.out.trans HX.out)
            rw [g2] at CK
            clear HX g2
            generalize nth s k = y at *
            go_wp2_with fail
            refine CK.out.mono ?_
            rintro e w2 ⟨rfl, hb2⟩
            have HB2 := Lib.hid (HBL.out.trans (hb2.mono HBL.out.size))
            clear hb2
            go_wp2_with fail
            exact ⟨⟨k + 1, by go_num, by omega, HN.out, HB2.out⟩, by simp [intOf] <;> omega⟩
          · have HN := Lib.hid (HE.out.trans HX.out)
            rw [g2] at CK
            clear HX g2
            generalize nth s k = y at *
            go_wp2_with fail
            refine CK.out.mono ?_
            rintro e w2 ⟨rfl, hb2⟩
            have HB2 := Lib.hid (HBL.out.trans (hb2.mono HBL.out.size))
            have c5 := (hb2.cell (by rw [add_block]; exact had2)).trans c3
            clear hb2 c3
            go_wp2_with fail
            go_ret
            exact ⟨ret_is HN.out.symm, HB2.out⟩
        · have HN : Hid (fitStep s f m n s = -1) := by rw [he, List.drop_eq_nil_of_le (by omega)]; rfl
          have HBL := Lib.hid hbl
          clear he hbl HL
          go_wp2_with fail
          go_ret
          exact ⟨ret_is HN.out.symm, HBL.out⟩
end Go.Proofs.Ytlfmkipcgcilaaa.GapRef
namespace Go.Proofs.Ytlfmkipcgcilaaa.GapRef
open Go.RowKit Go.Proofs.Ytlfmkipcgcilaaa.SpanPlain Go.Proofs.Ytlfmkipcgcilaaa.StepPlain Go.Proofs.Ytlfmkipcgcilaaa.GapPlain Go.Proofs.Ytlfmkipcgcilaaa.Mem Go.Proofs.Ytlfmkipcgcilaaa.SpanMem Go.Proofs.Ytlfmkipcgcilaaa.StepMem Go.Proofs.Ytlfmkipcgcilaaa.SpanRef Go.Proofs.Ytlfmkipcgcilaaa.StepRef
end Go.Proofs.Ytlfmkipcgcilaaa.GapRef
namespace Go.Proofs.Ytlfmkipcgcilaaa.GapWalk
open Go.RowKit Go.Proofs.Ytlfmkipcgcilaaa.SpanPlain Go.Proofs.Ytlfmkipcgcilaaa.StepPlain Go.Proofs.Ytlfmkipcgcilaaa.GapPlain Go.Proofs.Ytlfmkipcgcilaaa.Mem Go.Proofs.Ytlfmkipcgcilaaa.SpanMem Go.Proofs.Ytlfmkipcgcilaaa.StepMem Go.Proofs.Ytlfmkipcgcilaaa.SpanRef Go.Proofs.Ytlfmkipcgcilaaa.StepRef Go.Proofs.Ytlfmkipcgcilaaa.GapRef
def FitSays (s : List Sp) (f m n : Int) (w : World) (e : Ending) (w' : World) : Prop := ∃ r b, e = .returned (.tuple #[.int .i64 r, .bool b]) ∧ FitIs s f m n r b ∧ Below w.heap.size w w'
def WideSays (s : List Sp) (a n : Int) (w : World) (e : Ending) (w' : World) : Prop := ∃ m, e = .returned (.int .i64 m) ∧ WideIs s a n m ∧ Below w.heap.size w w'
end Go.Proofs.Ytlfmkipcgcilaaa.GapWalk
namespace Go.Proofs.Ytlfmkipcgcilaaa.StepRef
open Go.RowKit Go.Proofs.Ytlfmkipcgcilaaa.SpanPlain Go.Proofs.Ytlfmkipcgcilaaa.StepPlain Go.Proofs.Ytlfmkipcgcilaaa.Mem Go.Proofs.Ytlfmkipcgcilaaa.SpanMem Go.Proofs.Ytlfmkipcgcilaaa.StepMem Go.Proofs.Ytlfmkipcgcilaaa.SpanRef
theorem OwnR.one (w : World) (e : TypeId) (k : IntKind) (n : Int) : OwnR e 1 w.heap.size (w.alloc (.cells #[.int k n] e)) (.slice (some ⟨w.heap.size, 0, none⟩) 1 1) 1 [.int k n] :=
  ⟨World.ownsRow_lit w #[.int k n] 1 (Nat.le_refl _) (by decide) rfl, by simp, by simp⟩
end Go.Proofs.Ytlfmkipcgcilaaa.StepRef
namespace Go.Proofs.Ytlfmkipcgcilaaa.StepRef
open Go.RowKit Go.Proofs.Ytlfmkipcgcilaaa.SpanPlain Go.Proofs.Ytlfmkipcgcilaaa.StepPlain Go.Proofs.Ytlfmkipcgcilaaa.Mem Go.Proofs.Ytlfmkipcgcilaaa.SpanMem Go.Proofs.Ytlfmkipcgcilaaa.StepMem Go.Proofs.Ytlfmkipcgcilaaa.SpanRef
theorem own_one (w : World) (e : TypeId) (a b : Int) : OwnN e 2 w.heap.size (w.alloc (.cells #[.int .i64 a, .int .i64 b] e)) (.slice (some ⟨w.heap.size, 0, none⟩) 1 1) 1 [.int .i64 a, .int .i64 b] :=
  ⟨World.ownsRow_lit w #[.int .i64 a, .int .i64 b] 1 (Nat.le_refl _) (by decide) rfl, by simp⟩
end Go.Proofs.Ytlfmkipcgcilaaa.StepRef
namespace Go.Proofs.Ytlfmkipcgcilaaa.StepRef
open Go.RowKit Go.Proofs.Ytlfmkipcgcilaaa.SpanPlain Go.Proofs.Ytlfmkipcgcilaaa.StepPlain Go.Proofs.Ytlfmkipcgcilaaa.Mem Go.Proofs.Ytlfmkipcgcilaaa.SpanMem Go.Proofs.Ytlfmkipcgcilaaa.StepMem Go.Proofs.Ytlfmkipcgcilaaa.SpanRef
/-- The same, and that it lies in new memory. -/
def AddTellsN (s : List Sp) (x : Sp) (n : Int) (w : World) (e : Ending) (w' : World) : Prop :=
  ∃ v r b, e = .returned (.tuple #[v, .bool b]) ∧ SpansIs r w' v ∧ r.length ≤ 700 ∧ ((b = true ∧ Rep r (head s) (addF s x n)) ∨ (b = false ∧ r = [] ∧ addOut s x n)) ∧ Below w.heap.size w w' ∧ ∀ a m c, v = .slice (some a) m c → w.heap.size ≤ a.block
theorem own_new {e : TypeId} {k base n B : Nat} {w : World} {v : Value} {xs : List Value} (h : OwnN e k base w v n xs) (hb : B ≤ base) : ∀ a m c, v = .slice (some a) m c → B ≤ a.block := fun a m c e => by
  rcases h.form with ⟨h1, _⟩ | ⟨g, c2, hv, hg, _⟩
  · rw [h1] at e; cases e
  · rw [hv] at e
    injection e with e
    injection e with e
    subst e
    exact Nat.le_trans hb hg
def AddA (s : List Sp) (x : Sp) (B : Nat) (w wr : World) (v : Value) (k : Nat) : Prop := OwnN 77 2 B wr v (addSpans (s.take k) x).length (svals (addSpans (s.take k) x)) ∧ Below B w wr
theorem own_one_at {w : World} {n : Nat} (h : w.heap.size = n) (e : TypeId) (a b : Int) : OwnN e 2 n (w.alloc (.cells #[.int .i64 a, .int .i64 b] e)) (.slice (some ⟨n, 0, none⟩) 1 1) 1 [.int .i64 a, .int .i64 b] := by
  subst h; exact own_one w e a b
def AddB (s : List Sp) (x : Sp) (n : Int) (el : List Int) (w wr : World) (v : Value) (k : Nat) : Prop :=
  OwnN 50 2 w.heap.size wr v (buildL (addF s x n) ((el.take k).filter (keepB s x))).length (svals (buildL (addF s x n) ((el.take k).filter (keepB s x)))) ∧ (∀ e ∈ (el.take k).filter (keepB s x), 0 ≤ addF s x n e ∧ addF s x n e ≤ 256) ∧ Below w.heap.size w wr
theorem spans_take {s : List Sp} {x : Sp} {k : Nat} (hk : k < s.length) : addSpans (s.take (k + 1)) x = addSpans (s.take k) x ++ [((s.getD k (0, 0)).1, 4503599627370496)] := by
  unfold addSpans
  rw [List.take_succ_eq_append_getElem hk, List.map_append, getSp hk]
  rfl
theorem spans_len (s : List Sp) (x : Sp) (k : Nat) : (addSpans (s.take k) x).length ≤ k + 1 := by
  unfold addSpans
  rw [List.length_cons, List.length_map, List.length_take]
  omega
theorem keep_take {s : List Sp} {x : Sp} {el : List Int} {k : Nat} (hk : k < el.length) : (el.take (k + 1)).filter (keepB s x) = (el.take k).filter (keepB s x) ++ if keepB s x (el.getD k 0) then [el.getD k 0] else [] := by
  rw [List.take_succ_eq_append_getElem hk, List.filter_append, getD_el hk, List.filter_cons, List.filter_nil]
theorem keep_ways (s : List Sp) (x : Sp) (e : Int) : (decide (val s e < 0) = true ∧ Hid (keepB s x e = false)) ∨ (decide (val s e < 0) = false ∧ (e == 4503599627370496) = false ∧ Hid (keepB s x e = true)) ∨
    (decide (val s e < 0) = false ∧ (e == 4503599627370496) = true ∧ (e != x.2) = false ∧ Hid (keepB s x e = true)) ∨ (decide (val s e < 0) = false ∧ (e == 4503599627370496) = true ∧ (e != x.2) = true ∧ (lastAt s != 4503599627370496) = true ∧ Hid (keepB s x e = false)) ∨
    (decide (val s e < 0) = false ∧ (e == 4503599627370496) = true ∧ (e != x.2) = true ∧ (lastAt s != 4503599627370496) = false ∧ Hid (keepB s x e = true)) := by
  unfold keepB
  cases decide (val s e < 0) with
  | true => exact .inl ⟨rfl, rfl⟩
  | false =>
    cases (e == 4503599627370496) with
    | false => exact .inr (.inl ⟨rfl, rfl, rfl⟩)
    | true =>
      cases (e != x.2) with
      | false => exact .inr (.inr (.inl ⟨rfl, rfl, rfl, rfl⟩))
      | true =>
        cases (lastAt s != 4503599627370496) with
        | true => exact .inr (.inr (.inr (.inl ⟨rfl, rfl, rfl, rfl, rfl⟩)))
        | false => exact .inr (.inr (.inr (.inr ⟨rfl, rfl, rfl, rfl, rfl⟩)))
theorem sp_one {w : World} {n : Nat} (e : w.heap.size = n) (s : Sp) (T : TypeId) : SpansIs [s] (w.alloc (.cells #[.int .i64 s.1, .int .i64 s.2] T)) (.slice (some ⟨n, 0, none⟩) 1 1) := by
  subst e; exact .inr ⟨_, _, rfl, Raw.alloc w #[.int .i64 s.1, .int .i64 s.2] T, Nat.le_refl _⟩
theorem last_pair {w : World} {A : Option Addr} {s : List Sp} (h : Pairs w A s.length (spCell s)) (hn : 0 < s.length) : ∃ ad, A = some ad ∧ ad.block < w.heap.size ∧ w.cell? (ad.add ((s.length - 1) * 2)) = some (.int .i64 (lastAt s)) := by
  obtain ⟨ad, rfl, had, c1, _⟩ := h (s.length - 1) (by omega)
  exact ⟨ad, rfl, had, c1⟩
theorem addF_at (s : List Sp) (x : Sp) (n e : Int) : addF s x n e = if hasB x e then val s e + n else val s e := rfl
theorem has_one (x : Sp) (t : Int) (v : Value) (w : World) (h : SpansIs [x] w v) : Calls Try.prog 52 #[v, .int .i64 t] w (BoolIs (hasB x t) w) := by
  have h1 := has_is [x] v t w h (by simp)
  rwa [any_cons, any_nil, Bool.or_false] at h1
theorem val_range {s : List Sp} (h : Chk s) (t : Int) : -1 ≤ val s t ∧ val s t ≤ 256 := by
  by_cases ht : head s ≤ t
  · have := h.val_free ht; omega
  · rw [h.val_early (by omega)]; omega
set_option maxRecDepth 100000 in
set_option maxHeartbeats 6400000 in
theorem add4n (s : List Sp) (x : Sp) (n : Int) (v : Value) (w : World) (hv : SpansIs s w v) (hl : s.length ≤ 200) (hc : Chk s) (hx : May x) (hn1 : -256 ≤ n) (hn2 : n ≤ 256) :
    Calls Try.prog 41 #[v, spV x, .int .i64 n] w (AddTellsN s x n w) := by
  obtain ⟨A, c, rfl, hA⟩ := hv.open_
  have HC := Lib.hid hc
  have HX := Lib.hid hx
  have HV := Lib.hid (hv.below (below_alloc w (.cells #[.int .i64 x.1, .int .i64 x.2] 77)))
  have HBX := Lib.hid (Box2.new w (.int .i64 x.1) (.int .i64 x.2) 77)
  have HA := Lib.hid (hA.below (below_alloc w (.cells #[.int .i64 x.1, .int .i64 x.2] 77)))
  have HL0 := Lib.hid (below_alloc w (.cells #[.int .i64 x.1, .int .i64 x.2] 77))
  have hpos := hc.pos
  clear hA hv hc hx
  unfold spV
  go_enter Try.func41, Try.ntmps41
  go_upto_region 2 with fail
  have hsz : (w.alloc (.cells #[.int .i64 x.1, .int .i64 x.2] 77)).heap.size = w.heap.size + 1 := by simp
  have HSZ := Lib.hid hsz
  clear hsz
  generalize w.alloc (.cells #[.int .i64 x.1, .int .i64 x.2] 77) = W at *
  have HO := Lib.hid (own_one_at HSZ.out 77 x.1 x.2)
  go_wp2_with fail
  go_loopw [8, 9] (fun o i wr => ∃ (k : Nat) (v : Value), v = o ∧ i = .int .i64 k ∧ k ≤ s.length ∧ Hid (AddA s x (w.heap.size + 1) W wr v k)) (fun _ i _ => s.length - (intOf i).toNat)
  case atStart => exact ⟨0, _, rfl, rfl, Nat.zero_le _, HO.out, (Below.refl _ _).alloc (by rw [HSZ.out]; exact Nat.le_refl _) _⟩
  case round =>
    obtain ⟨k, o, hov, rfl, hk, HL⟩ := hrel
    subst hov
    by_cases hlt : k < s.length
    · obtain ⟨hown, hbl⟩ := HL.out
      obtain ⟨ad, rfl, had, c1, c2⟩ := (HA.out.below (by rw [HSZ.out]; exact hbl)) k hlt
      have HS := Lib.hid (spans_take (x := x) hlt)
      have hsl := spans_len s x k
      have hsize := hbl.size
      rw [HSZ.out] at hsize
      have HOW := Lib.hid hown
      have HBL := Lib.hid hbl
      unfold spCell at c1 c2
      dsimp only at c1 c2
      clear hown hbl HL had
      unfold AddA
      generalize s.getD k (0, 0) = y at *
      generalize addSpans (s.take k) x = sp at *
      have HOA := Lib.hid (HOW.out.alloc (.cells #[.int .i64 y.1, .int .i64 4503599627370496] 77))
      go_wp2_with (at_builtin; refine push_own spans_t rfl (.tmp 22) (.tmp 29) rfl (w.heap.size + 1) _ _ _ rfl HOA.out _ 1 [.int .i64 y.1, .int .i64 4503599627370496] rfl rfl ?h1a two_cells ?h1b ?_)
      case h1a => exact raw_at rfl #[.int .i64 y.1, .int .i64 4503599627370496] _
      case h1b => omega
      intro v3 w3 ho3 hb3 hg3
      have HO3 := Lib.hid ho3
      have HB3 := Lib.hid ((HBL.out.alloc hsize _).trans hb3)
      clear ho3 hb3 hg3
      go_wp2_with fail
      exact ⟨⟨k + 1, _, rfl, by go_num, by omega, HO3.out.cast (by rw [HS.out]; simp) (by rw [HS.out]; exact (svals_snoc sp (y.1, 4503599627370496)).symm), HB3.out⟩, by simp [intOf] <;> omega⟩
    · obtain ⟨hown, hbl⟩ := HL.out
      rw [List.take_of_length_le (by omega)] at hown
      have hsp : SpansIs (addSpans s x) wr o := spans_of_own hown rfl
      have hal := add_len s x
      have HE := Lib.hid (ends_any (addSpans s x) o wr hsp (by omega))
      have hel : (endsL (addSpans s x)).length ≤ 402 := by have := (ends_spec (addSpans s x)).2.2; omega
      have HEL := Lib.hid (show addEnds s x = (endsL (addSpans s x)).filter (keepB s x) from rfl)
      have HB1 := Lib.hid (show Below W.heap.size W wr by rw [HSZ.out]; exact hbl)
      clear hown hbl HL hsp hal
      generalize endsL (addSpans s x) = es at *
      go_wp2_with fail
      refine HE.out.mono ?_
      rintro e w2 ⟨ve, rfl, hE, hb2⟩
      obtain ⟨ea, ec, rfl, hre, _, _⟩ := hE
      have HRE := Lib.hid hre
      have HB2 := Lib.hid (below_then HB1.out hb2)
      have HO2 := Lib.hid (OwnR.new w2 50 2).toN
      clear hre hb2 HE HO
      go_wp2_with fail
      go_loopw [11, 12] (fun o i wr => ∃ (k : Nat) (v : Value), v = o ∧ i = .int .i64 k ∧ k ≤ es.length ∧ Hid (AddB s x n es w2 wr v k)) (fun _ i _ => es.length - (intOf i).toNat)
      case atStart => exact ⟨0, _, rfl, rfl, Nat.zero_le _, HO2.out, fun e he => by simp at he, (Below.refl _ _).alloc (Nat.le_refl _) _⟩
      case round =>
        obtain ⟨k, o, hov, rfl, hk, HL⟩ := hrel
        subst hov
        by_cases hlt : k < es.length
        · obtain ⟨hown, hall, hbl⟩ := HL.out
          have c1 := (HRE.out.below hbl).int hlt
          have HAB := Lib.hid (fun (w' : World) (hb : Below w2.heap.size w2 w') => last_pair (HA.out.below (below_then HB2.out hb)) hpos)
          obtain ⟨ad, hAd, had, c2⟩ := HAB.out wr hbl
          subst hAd
          have hbx := (HBX.out.below HB2.out).under hbl (Nat.lt_of_lt_of_le (by rw [HSZ.out]; exact Nat.lt_succ_self _) HB2.out.size)
          obtain ⟨b0, b1, b2, _, _⟩ := hbx
          have HKT := Lib.hid (keep_take (s := s) (x := x) hlt)
          have hkw := keep_ways s x (es.getD k 0)
          have HF := Lib.hid (addF_at s x n (es.getD k 0))
          have HIN := Lib.hid (getD_mem hlt)
          have CW := Lib.hid (within4 s (.slice (some ad) s.length c) (es.getD k 0) wr (HV.out.below (below_then HB2.out hbl)) (by omega))
          have i0 : (0 : Int) ≤ (k : Int) := Int.natCast_nonneg _
          have i1 : (k : Int) < (es.length : Int) := by omega
          have j1 : IntKind.i64.wrap ((s.length : Int) - 1) = (s.length : Int) - 1 := by rw [IntKind.wrap_i64]; omega
          have j2 : (0 : Int) ≤ (s.length : Int) - 1 := by omega
          have j3 : (s.length : Int) - 1 < (s.length : Int) := by omega
          have j4 : ((s.length : Int) - 1).toNat = s.length - 1 := by omega
          have j5 : (1 : Int) ≤ (s.length : Int) := by omega
          have HOW := Lib.hid hown
          have HALL := Lib.hid hall
          have HBL := Lib.hid hbl
          have HKB := Lib.hid (show ∀ e, e ∈ es → keepB s x e = true → e ∈ addEnds s x from fun e h1 h2 => by rw [HEL.out]; exact List.mem_filter.2 ⟨h1, h2⟩)
          have HOUT := Lib.hid (show keepB s x (es.getD k 0) = true → ¬ (0 ≤ addF s x n (es.getD k 0) ∧ addF s x n (es.getD k 0) ≤ 256) → addOut s x n from fun h1 h2 => ⟨_, ((keep_iff HC.out).1 h1).1, h2⟩)
          have hvr := val_range HC.out (es.getD k 0)
          have HBT := Lib.hid (build_snoc (addF s x n) ((es.take k).filter (keepB s x)) (es.getD k 0))
          have HALN := Lib.hid (show (0 ≤ addF s x n (es.getD k 0) ∧ addF s x n (es.getD k 0) ≤ 256) → ∀ e ∈ (es.take k).filter (keepB s x) ++ [es.getD k 0], 0 ≤ addF s x n e ∧ addF s x n e ≤ 256 from fun h e he => by
            rcases List.mem_append.1 he with he | he
            · exact HALL.out e he
            · simp at he; subst he; exact h)
          have hbl3 : (buildL (addF s x n) ((es.take k).filter (keepB s x))).length ≤ k := by
            have h1 := build_len (addF s x n) ((es.take k).filter (keepB s x))
            have h2 := List.length_filter_le (keepB s x) (es.take k)
            rw [List.length_take] at h2
            omega
          have CH := Lib.hid (fun (W : World) v (h : SpansIs [x] W v) => has_one x (es.getD k 0) v W h)
          have HAS := Lib.hid (add_first (addF s x n) (es.getD k 0))
          have HAE : Hid (∀ d q, q.2 = addF s x n (es.getD k 0) → addStep (addF s x n) (d ++ [q]) (es.getD k 0) = d ++ [q]) := fun d q h => add_same h
          have HAN : Hid (∀ d q, q.2 ≠ addF s x n (es.getD k 0) → addStep (addF s x n) (d ++ [q]) (es.getD k 0) = d ++ [q] ++ [(es.getD k 0, addF s x n (es.getD k 0))]) := fun d q h => add_new h
          have hea := (HRE.out.below hbl).intlt hlt
          clear hown hall hbl HL had HAB
          unfold AddB
          generalize es.getD k 0 = t at *
          generalize lastAt s = la at *
          generalize val s t = f at *
          generalize hasB x t = h at *
          generalize addF s x n t = F at *
          generalize hK : keepB s x t = K at *
          clear hK
          go_wp2_with fail
          refine CW.out.mono ?_
          rintro e w3 ⟨rfl, rfl⟩
          go_upto_region 12 with fail
          go_cut [73] from 46 to 73 (fun c wc => c = .bool (!K) ∧ ∃ q, wc = wr.drewN q)
          case first =>
            clear CW HKT HF HIN HOW HALL HBL HKB HOUT HBT HALN CH HAS HAE HAN HO2 HEL HB1 HA HV
            rcases hkw with ⟨k1, HO⟩ | ⟨k1, k2, HO⟩ | ⟨k1, k2, k3, HO⟩ | ⟨k1, k2, k3, k4, HO⟩ | ⟨k1, k2, k3, k4, HO⟩
            all_goals
              obtain rfl := HO.out
              clear HO
              go_wp2_with fail
              go_quiet (fail)
              go_wp2_with fail
              go_meet
              exact ⟨rfl, _, rfl⟩
          case rest =>
            obtain ⟨rfl, q, rfl⟩ := hcut
            clear hkw CW
            cases K with
            | false =>
              go_wp2_with fail
              exact ⟨⟨k + 1, _, rfl, by go_num, by omega, by rw [HKT.out]; simpa using HOW.out.drewN q, by rw [HKT.out]; simpa using HALL.out, below_drewN HBL.out q⟩, by simp [intOf] <;> omega⟩
            | true =>
              have HKN : Hid ((es.take (k + 1)).filter (keepB s x) = (es.take k).filter (keepB s x) ++ [t]) := by rw [HKT.out]; rfl
              have e1 : (wr.drewN q).cell? (ea.add k) = some (.int .i64 t) := c1
              have e2 : (wr.drewN q).cell? ⟨w.heap.size, 0, none⟩ = some (.int .i64 x.1) := b1
              have e3 : (wr.drewN q).cell? ⟨w.heap.size, 1, none⟩ = some (.int .i64 x.2) := b2
              have HOW5 := Lib.hid (HOW.out.drewN q)
              have HBL5 := Lib.hid (below_drewN HBL.out q)
              have HE0 : Hid (ea.block < (wr.drewN q).heap.size) := hea
              have HE1 : Hid (w.heap.size < (wr.drewN q).heap.size) := b0
              clear c1 c2 b0 b1 b2 hea HOW HBL HKT HEL
              go_wp2_with fail
              generalize wr.drewN q = W5 at *
              go_region_held3 (fun w' => w'.cell? (ea.add k) = some (.int .i64 t) ∧ w'.cell? ⟨w.heap.size, 0, none⟩ = some (.int .i64 x.1) ∧ w'.cell? ⟨w.heap.size, 1, none⟩ = some (.int .i64 x.2))
                (first | go_keep | (go_split_ands; exact ⟨(hb5.cell (p := ea.add k) (by rw [add_block]; have := HE0.out; simp; omega)).trans (by assumption), (hb5.cell (p := ⟨w.heap.size, 0, none⟩) (by have := HE1.out; simp; omega)).trans (by assumption), (hb5.cell (p := ⟨w.heap.size, 1, none⟩) (by have := HE1.out; simp; omega)).trans (by assumption)⟩))
                (first | (go_at_call_of 52 (Value.slice (some ⟨W5.heap.size, 0, none⟩) 1 1); (refine (CH.out (W5.alloc (.cells #[.int .i64 x.1, .int .i64 x.2] 77)).drew _ (sp_one rfl x 77)).mono ?_; rintro e w5 ⟨rfl, hb6⟩; have hb5 := below_of_drew hb6; clear hb6)))
              have HO5 := Lib.hid ((HOW5.out.alloc (.cells #[.int .i64 x.1, .int .i64 x.2] 77)).below hb5)
              have HBL6 := Lib.hid ((HBL5.out.alloc HBL5.out.size _).trans (hb5.mono (by have := HBL5.out.size; simp; omega)))
              have d1 : w5.cell? (ea.add k) = some (.int .i64 t) := ((below_then (below_alloc W5 (.cells #[.int .i64 x.1, .int .i64 x.2] 77)) hb5).cell (p := ea.add k) (by rw [add_block]; exact HE0.out)).trans e1
              clear hb5 HOW5 HBL5 CH HE0 HE1
              go_upto_if 80 with fail
              go_cut [13] from 81 to 83 (fun c wc => c = .int .i64 F ∧ w5 = wc)
              case first =>
                cases h with
                | true =>
                  obtain rfl : F = f + n := HF.out
                  clear HF HALL HALN HKB HBT HAS HAE HAN HKN HOUT HBL6 HO5
                  obtain ⟨v1, v2⟩ := hvr
                  go_wp2_with fail
                  go_meet
                  exact ⟨rfl, rfl⟩
                | false =>
                  obtain rfl : F = f := HF.out
                  clear HF HALL HALN HKB HBT HAS HAE HAN HKN HOUT HBL6 HO5
                  go_wp2_with fail
                  go_meet
                  exact ⟨rfl, rfl⟩
              case rest =>
                obtain ⟨rfl, rfl⟩ := hcut
                clear HF hvr
                have hways : (decide (F < 0) = true ∧ Hid (addOut s x n)) ∨ (decide (F < 0) = false ∧ decide (256 < F) = true ∧ Hid (addOut s x n)) ∨ (decide (F < 0) = false ∧ decide (256 < F) = false ∧ Hid (0 ≤ F ∧ F ≤ 256)) := by
                  by_cases h1 : F < 0
                  · exact .inl ⟨decide_eq_true h1, HOUT.out (by trivial) (by omega)⟩
                  · by_cases h2 : 256 < F
                    · exact .inr (.inl ⟨decide_eq_false h1, decide_eq_true h2, HOUT.out (by trivial) (by omega)⟩)
                    · exact .inr (.inr ⟨decide_eq_false h1, decide_eq_false h2, ⟨by omega, by omega⟩⟩)
                clear HOUT
                rcases hways with ⟨h1, HO⟩ | ⟨h1, h2, HO⟩ | ⟨h1, h2, HR⟩
                · go_wp2_with fail
                  go_ret2
                  exact ⟨_, [], false, rfl, .inl ⟨rfl, rfl⟩, by simp, .inr ⟨rfl, rfl, HO.out⟩, below_then HL0.out (below_then HB2.out HBL6.out), fun _ _ _ h => by cases h⟩
                · go_wp2_with fail
                  go_ret2
                  exact ⟨_, [], false, rfl, .inl ⟨rfl, rfl⟩, by simp, .inr ⟨rfl, rfl, HO.out⟩, below_then HL0.out (below_then HB2.out HBL6.out), fun _ _ _ h => by cases h⟩
                · have HAL2 := Lib.hid (HALN.out HR.out)
                  clear HALN HALL HR
                  generalize buildL (addF s x n) ((es.take k).filter (keepB s x)) = out at *
                  have hsn := snoc_ways out
                  rcases hsn with rfl | ⟨d, q, rfl⟩
                  · have HE := Lib.hid (HBT.out.trans HAS.out)
                    have HOA := Lib.hid (HO5.out.alloc (.cells #[.int .i64 t, .int .i64 F] 50))
                    clear HBT HAS HAE HAN
                    obtain ⟨B, cb, rfl⟩ := HO5.out.shape
                    go_wp2_with (at_builtin; refine push_own steps_t rfl (.tmp 104) (.tmp 111) rfl w2.heap.size _ _ _ rfl HOA.out _ 1 [.int .i64 t, .int .i64 F] rfl rfl ?h3a two_cells ?h3b ?_)
                    case h3a => exact raw_at (by simp) #[.int .i64 t, .int .i64 F] _
                    case h3b => simp <;> omega
                    intro v6 w6 ho6 hb6 hg6
                    have HO6 := Lib.hid ho6
                    have HB6 := Lib.hid ((HBL6.out.alloc HBL6.out.size _).trans hb6)
                    clear ho6 hb6 hg6
                    go_wp2_with fail
                    exact ⟨⟨k + 1, _, rfl, by go_num, by omega, by rw [HKN.out, HE.out]; exact HO6.out, by rw [HKN.out]; exact HAL2.out, HB6.out⟩, by simp [intOf] <;> omega⟩
                  · have hdl : d.length + 1 ≤ k := by simpa using hbl3
                    have HOQ : Hid (OwnN 50 2 w2.heap.size w5 o (d.length + 1) (svals (d ++ [q]))) := by
                      have h := HO5.out
                      rw [List.length_append, List.length_singleton] at h
                      exact h
                    obtain ⟨g, cap, hv, hg1, hg2, hgc, _⟩ := HOQ.out.there
                    have ce := hgc _ _ (last_cell d q)
                    clear hgc
                    subst hv
                    have q0 : (0 : Int) ≤ (d.length : Int) := Int.natCast_nonneg _
                    have q1 : (d.length : Int) < (d.length : Int) + 1 := by omega
                    have q2 : IntKind.i64.wrap ((d.length : Int) + 1 - 1) = (d.length : Int) := by rw [IntKind.wrap_i64]; omega
                    by_cases hq : q.2 = F
                    · have hq2 : (q.2 != F) = false := by simp [hq]
                      have HE := Lib.hid (HBT.out.trans (HAE.out d q hq))
                      clear HBT HAS HAE HAN hq
                      go_wp2_with fail
                      exact ⟨⟨k + 1, _, rfl, by go_num, by omega, by rw [HKN.out, HE.out]; exact HOQ.out.cast (by simp) rfl, by rw [HKN.out]; exact HAL2.out, HBL6.out⟩, by simp [intOf] <;> omega⟩
                    · have hq2 : (q.2 != F) = true := by simpa using hq
                      have HE := Lib.hid (HBT.out.trans (HAN.out d q hq))
                      have HOA := Lib.hid (HOQ.out.alloc (.cells #[.int .i64 t, .int .i64 F] 50))
                      clear HBT HAS HAE HAN hq
                      go_wp2_with (at_builtin; refine push_own steps_t rfl (.tmp 104) (.tmp 111) rfl w2.heap.size _ _ _ rfl HOA.out _ 1 [.int .i64 t, .int .i64 F] rfl rfl ?h4a two_cells ?h4b ?_)
                      case h4a => exact raw_at (by simp) #[.int .i64 t, .int .i64 F] _
                      case h4b => simp <;> omega
                      intro v6 w6 ho6 hb6 hg6
                      have HO6 := Lib.hid ho6
                      have HB6 := Lib.hid ((HBL6.out.alloc HBL6.out.size _).trans hb6)
                      clear ho6 hb6 hg6
                      go_wp2_with fail
                      exact ⟨⟨k + 1, _, rfl, by go_num, by omega, by rw [HKN.out, HE.out]; exact HO6.out.cast (by simp) (svals_snoc (d ++ [q]) (t, F)).symm, by rw [HKN.out]; exact HAL2.out, HB6.out⟩, by simp [intOf] <;> omega⟩
        · obtain ⟨hown, hall, hbl⟩ := HL.out
          rw [List.take_of_length_le (by omega), ← HEL.out] at hown hall
          have HD := Lib.hid (add_rep HC.out HX.out hall)
          have hbl3 : (buildL (addF s x n) (addEnds s x)).length ≤ 700 := by
            have h1 := build_len (addF s x n) (addEnds s x)
            have h2 := List.length_filter_le (keepB s x) es
            rw [← HEL.out] at h2
            omega
          have HOW := Lib.hid hown
          have HBL2 := Lib.hid hbl
          clear hown hall hbl HL
          go_wp2_with fail
          go_ret2
          exact ⟨_, _, true, rfl, spans_of_own HOW.out rfl, hbl3, .inl ⟨rfl, HD.out⟩, below_then HL0.out (below_then HB2.out HBL2.out), own_new HOW.out (below_then HL0.out HB2.out).size⟩
end Go.Proofs.Ytlfmkipcgcilaaa.StepRef
namespace Go.Proofs.Ytlfmkipcgcilaaa.ShaRef
open Go.RowKit Go.Proofs.Ytlfmkipcgcilaaa.SpanPlain Go.Proofs.Ytlfmkipcgcilaaa.StepPlain Go.Proofs.Ytlfmkipcgcilaaa.GapPlain Go.Proofs.Ytlfmkipcgcilaaa.JobPlain Go.Proofs.Ytlfmkipcgcilaaa.ShaPlain Go.Proofs.Ytlfmkipcgcilaaa.Mem Go.Proofs.Ytlfmkipcgcilaaa.SpanMem Go.Proofs.Ytlfmkipcgcilaaa.StepMem Go.Proofs.Ytlfmkipcgcilaaa.JobMem Go.Proofs.Ytlfmkipcgcilaaa.OrdMem Go.Proofs.Ytlfmkipcgcilaaa.SpanRef Go.Proofs.Ytlfmkipcgcilaaa.StepRef Go.Proofs.Ytlfmkipcgcilaaa.GapRef
def BoolS (b : Bool) (w : World) (e : Ending) (w' : World) : Prop := e = .returned (.bool b) ∧ Below w.heap.size w w'
theorem box_s (w : World) (o : Obj) : Below w.heap.size w (w.alloc o) := (Below.refl _ _).alloc (Nat.le_refl _) o
theorem thenS {w w1 w2 : World} (h : Below w.heap.size w w1) (h2 : Below w1.heap.size w1 w2) : Below w.heap.size w w2 := h.trans (h2.mono h.size)
set_option maxHeartbeats 1600000 in
theorem ok15 (s : List Sp) (a : Int) (j : Jb) (v : Value) (w : World) (hv : SpansIs s w v) (hl : s.length ≤ 9000) : Calls Try.prog 25 #[v, .int .i64 a, jobV j] w (BoolS (okG s a j.width j.est) w) := by
  have HX := Lib.hid (JobBox.new w j 52)
  have HB := Lib.hid (box_s w (.cells #[.int .i64 j.id, .string j.user, .int .i64 j.width, .int .i64 j.est, .int .i64 j.prio, .int .i64 j.sub, .int .i64 j.state, .int .i64 j.start, .int .i64 j.fin] 52))
  have CM := Lib.hid (may6 s j.width j.est v (w.alloc (.cells #[.int .i64 j.id, .string j.user, .int .i64 j.width, .int .i64 j.est, .int .i64 j.prio, .int .i64 j.sub, .int .i64 j.state, .int .i64 j.start, .int .i64 j.fin] 52)) (hv.below HB.out) hl)
  have CF : Hid (mayG s j.width j.est = true → ∀ W, Below w.heap.size w W → Calls Try.prog 40 #[v, .int .i64 a, .int .i64 j.width, .int .i64 j.est] W (BoolIs (roomB s a j.width j.est) W)) := fun h W hW => ok6 s a j.width j.est v W (hv.below hW) hl (mayG_iff.1 h).1 (mayG_iff.1 h).2.2.1 (mayG_iff.1 h).2.2.2
  obtain ⟨A, c, rfl, _⟩ := hv.open_
  unfold okG
  clear hv
  unfold jobV jobA
  generalize roomB s a j.width j.est = F at *
  cases hm : mayG s j.width j.est with
  | false =>
    rw [hm] at CM
    clear hm CF
    go_enter Try.func25, Try.ntmps25
    go_upto_region 1 with fail
    generalize w.alloc (.cells #[.int .i64 j.id, .string j.user, .int .i64 j.width, .int .i64 j.est, .int .i64 j.prio, .int .i64 j.sub, .int .i64 j.state, .int .i64 j.start, .int .i64 j.fin] 52) = W0 at *
    obtain ⟨y, y0, y1, y2, y3, y4, y5, y6, y7, y8, _, _, _, _, _, _, _, _, _⟩ := HX.out
    go_wp2_with fail
    refine CM.out.mono ?_
    rintro e w1 ⟨rfl, hb1⟩
    have HB1 := Lib.hid (thenS HB.out hb1)
    clear hb1
    go_wp2_with fail
    go_ret
    exact ⟨rfl, HB1.out⟩
  | true =>
    have CG := Lib.hid (CF.out hm)
    rw [hm] at CM
    clear hm CF
    go_enter Try.func25, Try.ntmps25
    go_upto_region 1 with fail
    generalize w.alloc (.cells #[.int .i64 j.id, .string j.user, .int .i64 j.width, .int .i64 j.est, .int .i64 j.prio, .int .i64 j.sub, .int .i64 j.state, .int .i64 j.start, .int .i64 j.fin] 52) = W0 at *
    obtain ⟨y, y0, y1, y2, y3, y4, y5, y6, y7, y8, _, _, _, _, _, _, _, _, _⟩ := HX.out
    go_wp2_with fail
    refine CM.out.mono ?_
    rintro e w1 ⟨rfl, hb1⟩
    have HB1 := Lib.hid (thenS HB.out hb1)
    obtain ⟨z, z0, z1, z2, z3, z4, z5, z6, z7, z8, _, _, _, _, _, _, _, _, _⟩ := HX.out.below hb1
    clear hb1 y y0 y1 y2 y3 y4 y5 y6 y7 y8
    go_wp2_with fail
    refine (CG.out _ HB1.out).mono ?_
    rintro e w2 ⟨rfl, hb2⟩
    have HB2 := Lib.hid (thenS HB1.out hb2)
    clear hb2
    go_wp2_with fail
    go_ret
    exact ⟨by cases F <;> rfl, HB2.out⟩
def LayTells (s : List Sp) (a : Int) (j : Jb) (w : World) (e : Ending) (w' : World) : Prop := ∃ v r, e = .returned v ∧ SpansIs r w' v ∧ AddIs s (runS a j) (-j.width) r ∧ Below w.heap.size w w' ∧ ∀ a m c, v = .slice (some a) m c → w.heap.size ≤ a.block
set_option maxHeartbeats 1600000 in
theorem lay15 (s : List Sp) (a : Int) (j : Jb) (v : Value) (w : World) (hv : SpansIs s w v) (hl : s.length ≤ 200) (hok : okG s a j.width j.est = true) : Calls Try.prog 26 #[v, .int .i64 a, jobV j] w (LayTells s a j w) := by
  obtain ⟨hc, hww, hee, hhd, h0, hmt, hx, hnb, hno⟩ := room_may hok
  have HX := Lib.hid (JobBox.new w j 52)
  have HB := Lib.hid (box_s w (.cells #[.int .i64 j.id, .string j.user, .int .i64 j.width, .int .i64 j.est, .int .i64 j.prio, .int .i64 j.sub, .int .i64 j.state, .int .i64 j.start, .int .i64 j.fin] 52))
  have CA : Hid (∀ W, Below w.heap.size w W → Calls Try.prog 41 #[v, spV (runS a j), .int .i64 (-j.width)] W (AddTellsN s (runS a j) (-j.width) W)) := fun W hW => add4n s (runS a j) (-j.width) v W (hv.below hW) hl hc hx (by omega) (by omega)
  have HNB := Lib.hid hnb
  have HNO := Lib.hid hno
  have hw1 : IntKind.i64.wrap (a + j.est) = a + j.est := by rw [IntKind.wrap_i64]; omega
  have hw2 : IntKind.i64.wrap (-j.width) = -j.width := by rw [IntKind.wrap_i64]; omega
  obtain ⟨A, c, rfl, _⟩ := hv.open_
  clear hv hc hww hhd hx hnb hno hok
  unfold spV runS at CA
  unfold jobV jobA
  go_enter Try.func26, Try.ntmps26
  go_upto_region 1 with fail
  generalize w.alloc (.cells #[.int .i64 j.id, .string j.user, .int .i64 j.width, .int .i64 j.est, .int .i64 j.prio, .int .i64 j.sub, .int .i64 j.state, .int .i64 j.start, .int .i64 j.fin] 52) = W0 at *
  obtain ⟨y, y0, y1, y2, y3, y4, y5, y6, y7, y8, _, _, _, _, _, _, _, _, _⟩ := HX.out
  go_wp2_with fail
  refine (CA.out _ HB.out).mono ?_
  rintro e w1 ⟨u, r, b, rfl, hs, hrl, hcase, hb1, hn1⟩
  have HB1 := Lib.hid (thenS HB.out hb1)
  have HS := Lib.hid hs
  have HR : Hid (AddIs s (runS a j) (-j.width) r) := by
    rcases hcase with ⟨_, h⟩ | ⟨_, _, h⟩
    · exact .inr (.inr ⟨HNB.out, h⟩)
    · exact absurd h HNO.out
  have HN1 : Hid (∀ a m c, u = .slice (some a) m c → w.heap.size ≤ a.block) := fun a m c e => Nat.le_trans HB.out.size (hn1 a m c e)
  clear hb1 hs hcase hrl hn1
  go_wp2_with fail
  go_ret
  exact ⟨_, r, rfl, HS.out, HR.out, HB1.out, HN1.out⟩
end Go.Proofs.Ytlfmkipcgcilaaa.ShaRef
namespace Go.Proofs.Ytlfmkipcgcilaaa.Mem
open Go.RowKit
def IntsAt (l : List Int) (w : World) (v : Value) : Prop := ∃ A c, v = .slice A l.length c ∧ l.length ≤ c ∧ Cells w A l.length (icell l)
section
variable {l : List Int} {w w' : World} {v : Value}
theorem IntsAt.below (h : IntsAt l w v) (hb : Below w.heap.size w w') : IntsAt l w' v := by
  obtain ⟨A, c, e, hc, hA⟩ := h
  exact ⟨A, c, e, hc, hA.below hb⟩
theorem IntsAt.nil (w : World) : IntsAt [] w (.slice none 0 0) := ⟨none, 0, rfl, Nat.le_refl _, Cells.none_⟩
theorem IntsAt.own {e : TypeId} {base n : Nat} (h : OwnN e 1 base w v n (ivals l)) (hn : n = l.length) : IntsAt l w v := by
  subst hn
  have hs := h.src
  rcases hs with ⟨e0, h0, _⟩ | ⟨a, c, e0, hr⟩
  · have hl : l = [] := List.length_eq_zero_iff.1 h0
    subst hl
    subst e0
    exact IntsAt.nil w
  · obtain ⟨A, c2, e2⟩ := h.shape
    have hcap : l.length ≤ c := by
      have h3 := h.form
      subst e0
      rcases h3 with h3 | h3
      · exact absurd h3.1 (by simp)
      · obtain ⟨g, c3, e3, h4⟩ := h3
        injection e3 with _ _ e3
        omega
    exact ⟨some a, c, e0, hcap, fun i hi => ⟨a, rfl, hr.intlt hi, hr.int hi⟩⟩
end
end Go.Proofs.Ytlfmkipcgcilaaa.Mem
namespace Go.Proofs.Ytlfmkipcgcilaaa.Mem
open Go.RowKit
/-- A row's block is the elder one's, or a new one. -/
def NextTo (w : World) (v v' : Value) : Prop := v'.ownBlock = v.ownBlock ∨ ∃ b, v'.ownBlock = some b ∧ w.heap.size ≤ b
theorem run_append_sep {P : Program} {w : World} {T ty e : TypeId} {k bytes : Nat} (E : ElemT P T e k bytes) (base : Nat) (v : Value) (n : Nat) (xs : List Value) (hown : OwnN e k base w v n xs)
    (a : Addr) (m c : Nat) (ys : List Value) (hl : ys.length = m * k) (hr : Raw w a ys) (h1 : ∀ u ∈ ys, u.oneCell' = true) (hb : n + m ≤ 1099511627776) :
    ∃ v' w', (Builtin.append_ #[T, T] ty #[v, .slice (some a) m c]).run P w = .ok v' w' ∧ OwnN e k base w' v' (n + m) (xs ++ ys) ∧ Below base w w' ∧ w.grownBy w' v.ownBlock ∧ NextTo w v v' := by
  obtain ⟨i, z, hi, hz0, hz1, hz2, hzs⟩ := E.info
  have hby : (n + m) * bytes ≤ 140737488355328 := by
    have := Nat.mul_le_mul hb E.small
    omega
  have hmax : n + m ≤ maxLen := by unfold maxLen; omega
  have hcell : ∀ j u, ys[j]? = some u → w.cell? (a.add j) = some u := fun j u hu => (hr j u hu).2
  have hnone : w.grownBy w none → True := fun _ => trivial
  have hwide : ∀ {w' : World} {row : Option Nat}, w.grownBy w' none → w.grownBy w' row := fun hg => ⟨hg.os, hg.tape, hg.output, hg.size, fun q hq _ => hg.block q hq (by simp)⟩
  rcases hown.1.2 with ⟨rfl, rfl⟩ | ⟨g, cap, cur, rfl, hbg, hgc, hnc, hcm, hcs, hct⟩
  · have hx0 : xs = [] := List.eq_nil_of_length_eq_zero (by have := hown.1.1; omega)
    subst hx0
    obtain ⟨v', w', hrun, r1, r2, _⟩ := run_append_own (P := P) w w.heap.size T ty e i z k bytes E.und hi hz0 hz1 hz2 hzs E.pos (.slice none 0 0) 0 [] (World.ownsRow_nil w _ e k) a m c ys hl hcell h1 hmax hby (Nat.le_refl _)
    have r0 : OwnN e k w.heap.size w' v' (0 + m) ([] ++ ys) := ⟨r1, r2.size⟩
    refine ⟨v', w', hrun, r0.rebase hown.2, below_of_grown (Below.refl base w) hown.1 hown.2 r2, r2, ?_⟩
    cases hq : v'.ownBlock with
    | none => exact .inl hq
    | some q => exact .inr ⟨q, hq, (r1.lt q hq).1⟩
  · by_cases hroom : n + m ≤ cap
    · obtain ⟨w', hrun, r1, r2⟩ := run_append_fits (P := P) w base T ty e i k E.und hi hz1 g n cap xs hown.1 a m c ys hl hcell h1 hroom
      exact ⟨_, w', hrun, ⟨r1, Nat.le_trans hown.2 r2.size⟩, below_of_grown (Below.refl base w) hown.1 hown.2 r2, r2, .inl rfl⟩
    · obtain ⟨g2, c2, e2, _, _, _, _, hraw, _⟩ : ∃ g2 c2, (Value.slice (some ⟨g, 0, none⟩) n cap) = .slice (some ⟨g2, 0, none⟩) n c2 ∧ base ≤ g2 ∧ g2 < w.heap.size ∧ n ≤ c2 ∧ c2 ≤ maxLen ∧ Raw w ⟨g2, 0, none⟩ xs ∧ True := by
        rcases hown.form with ⟨h, _⟩ | ⟨g2, c2, h, h1, h2, h3, h4, h5, _⟩
        · cases h
        · exact ⟨g2, c2, h, h1, h2, h3, h4, h5, trivial⟩
      injection e2 with e2
      injection e2 with e2
      injection e2 with e2
      subst e2
      obtain ⟨v', w', hrun, r1, r2⟩ := run_append_arg_grows (P := P) w T ty e i z k bytes E.und hi hz0 hz1 hz2 hzs E.pos ⟨g, 0, none⟩ n cap xs hown.1.1 (fun j u hu => (hraw j u hu).2) a m c ys hl hcell (by omega) hmax hby
      have r0 : OwnN e k w.heap.size w' v' (n + m) (xs ++ ys) := ⟨r1, r2.size⟩
      refine ⟨v', w', hrun, r0.rebase hown.2, below_of_grown (Below.refl base w) hown.1 hown.2 (hwide r2), hwide r2, ?_⟩
      cases hq : v'.ownBlock with
      | none =>
        exfalso
        rcases r1.2 with ⟨rfl, hz⟩ | ⟨g3, c3, cur3, rfl, _⟩
        · omega
        · cases hq
      | some q => exact .inr ⟨q, hq, (r1.lt q hq).1⟩
theorem push_sep {P : Program} {w : World} {ops : Array Oper} {rest : List Oper} {o : Oper} {act : Act} {Q : Exit → Act → World → Prop} {T e : TypeId} {k bytes : Nat} (E : ElemT P T e k bytes) (hgd : o.guard = none) (s x : Operand)
    (ho : o.op = .call { callee := .builtin .append, args := #[s, x], argTypes := #[T, T] }) (base : Nat) (v : Value) (n : Nat) (xs : List Value) (hs : act.eval s = v) (hown : OwnN e k base w v n xs)
    (a : Addr) (m c : Nat) (ys : List Value) (hx : act.eval x = .slice (some a) m c) (hl : ys.length = m * k) (hr : Raw w a ys) (h1 : ∀ u ∈ ys, u.oneCell' = true) (hb : n + m ≤ 1099511627776)
    (h : ∀ A' c' w', OwnN e k base w' (.slice A' (n + m) c') (n + m) (xs ++ ys) → Below base w w' → w.grownBy w' v.ownBlock → NextTo w v (.slice A' (n + m) c') → wpList P ops Q rest (act.put o.dst (.slice A' (n + m) c')) w') : wpList P ops Q (o :: rest) act w := by
  obtain ⟨v', w', hrun, r1, r2, r3, r4⟩ := run_append_sep (P := P) (ty := o.type) E base v n xs hown a m c ys hl hr h1 hb
  obtain ⟨A', c', rfl⟩ := r1.shape
  refine wpList_plain hgd fun K hK => ?_
  unfold Oper.wp execOp
  simp only [ho, resolve, invoke, builtin, Sem.run_bind, Sem.run_pure, Result.andThen_ok, List.map_toArray, List.map_cons, List.map_nil, hs, hx, hrun]
  exact hK _ _ (h A' c' w' r1 r2 r3 r4)
/-- The same, as a step of a region that draws its order. -/
theorem step_sep {P : Program} {w : World} {ops : Array Oper} {o : Oper} {act : Act} {K : Act → World → Prop} {Q : Exit → Act → World → Prop} {E0 : Prop} {T e : TypeId} {k bytes : Nat} (E : ElemT P T e k bytes) (hgd : o.guard = none) (s x : Operand)
    (ho : o.op = .call { callee := .builtin .append, args := #[s, x], argTypes := #[T, T] }) (base : Nat) (v : Value) (n : Nat) (xs : List Value) (hs : act.eval s = v) (hown : OwnN e k base w v n xs)
    (a : Addr) (m c : Nat) (ys : List Value) (hx : act.eval x = .slice (some a) m c) (hl : ys.length = m * k) (hr : Raw w a ys) (h1 : ∀ u ∈ ys, u.oneCell' = true) (hb : n + m ≤ 1099511627776)
    (h : ∀ A' c' w', OwnN e k base w' (.slice A' (n + m) c') (n + m) (xs ++ ys) → Below base w w' → w.grownBy w' v.ownBlock → NextTo w v (.slice A' (n + m) c') → K (act.put o.dst (.slice A' (n + m) c')) w') : if Region.wanted o (yielded ops act.tmps) = true then Oper.wp P o act w K Q else E0 := by
  have hw : Region.wanted o (yielded ops act.tmps) = true := by simp [Region.wanted, hgd]
  rw [if_pos hw]
  obtain ⟨v', w', hrun, r1, r2, r3, r4⟩ := run_append_sep (P := P) (ty := o.type) E base v n xs hown a m c ys hl hr h1 hb
  obtain ⟨A', c', rfl⟩ := r1.shape
  unfold Oper.wp execOp
  simp only [ho, resolve, invoke, builtin, Sem.run_bind, Sem.run_pure, Result.andThen_ok, List.map_toArray, List.map_cons, List.map_nil, hs, hx, hrun]
  exact h A' c' w' r1 r2 r3 r4
section
variable {e : TypeId} {k base n : Nat} {w w' : World} {v : Value} {xs : List Value}
/-- A row at a block that is not the one that was written stays. -/
theorem OwnN.kept {row : Option Nat} (h : OwnN e k base w v n xs) (hg : w.grownBy w' row) (hne : v.ownBlock = none ∨ v.ownBlock ≠ row) : OwnN e k base w' v n xs := by
  refine ⟨⟨h.1.1, ?_⟩, Nat.le_trans h.2 hg.size⟩
  rcases h.1.2 with hn | ⟨g, cap, cur, hv, hb, hgc, rest⟩
  · exact .inl hn
  · refine .inr ⟨g, cap, cur, hv, hb, ?_, rest⟩
    have hlt : g < w.heap.size := (h.1.lt g (by rw [hv]; rfl)).2
    rw [hg.block g hlt (by
      rcases hne with hne | hne
      · rw [hv] at hne; cases hne
      · rw [hv] at hne; exact hne)]
    exact hgc
theorem OwnN.set_apart (h : OwnN e k base w v n xs) {p : Addr} (hp : v.ownBlock ≠ some p.block) (u : Value) : OwnN e k base (w.setCell p u) v n xs := by
  refine ⟨⟨h.1.1, ?_⟩, by simp [World.setCell]; exact h.2⟩
  rcases h.1.2 with hn | ⟨g, cap, cur, hv, hb, hgc, rest⟩
  · exact .inl hn
  · refine .inr ⟨g, cap, cur, hv, hb, ?_, rest⟩
    rw [Below.heap_setCell w p u g (fun hq => hp (by rw [hv]; simp [Value.ownBlock, hq]))]
    exact hgc
theorem OwnN.block_lt (h : OwnN e k base w v n xs) {b : Nat} (hb : v.ownBlock = some b) : base ≤ b ∧ b < w.heap.size := h.1.lt b hb
end
/-- L own rows, each at a block of its own. -/
structure Fam (e : TypeId) (k base : Nat) (w : World) (L : Nat) (V : Nat → Value) (N : Nat → Nat) (X : Nat → List Value) : Prop where
  own : ∀ i, i < L → OwnN e k base w (V i) (N i) (X i)
  apart : ∀ i j, i < L → j < L → i ≠ j → (V i).ownBlock = none ∨ (V i).ownBlock ≠ (V j).ownBlock
def upd {α : Type} (f : Nat → α) (i : Nat) (x : α) : Nat → α := fun q => if q = i then x else f q
theorem upd_at {α : Type} (f : Nat → α) (i : Nat) (x : α) : upd f i x i = x := by simp [upd]
theorem upd_off {α : Type} (f : Nat → α) {i q : Nat} (x : α) (h : q ≠ i) : upd f i x q = f q := by simp [upd, h]
section
variable {e : TypeId} {k base L : Nat} {w w' : World} {V : Nat → Value} {N : Nat → Nat} {X : Nat → List Value}
/-- A block that no row lies at is none's behind an append either, if it was there. -/
theorem Fam.free (h : Fam e k base w L V N X) {i b : Nat} (hi : i < L) (hb : ∀ q, q < L → (V q).ownBlock ≠ some b) (hlt : b < w.heap.size) {v' : Value} (hs : NextTo w (V i) v') : ∀ q, q < L → (upd V i v' q).ownBlock ≠ some b := fun q hq => by
  by_cases hqi : q = i
  · subst hqi
    rw [upd_at]
    rcases hs with hs | ⟨c, hs, hc⟩
    · rw [hs]; exact hb q hq
    · rw [hs]; intro hx; injection hx with hx; omega
  · rw [upd_off _ _ hqi]; exact hb q hq
end
end Go.Proofs.Ytlfmkipcgcilaaa.Mem
namespace Go.Proofs.Ytlfmkipcgcilaaa.ShaRef
open Go.RowKit Go.Proofs.Ytlfmkipcgcilaaa.SpanPlain Go.Proofs.Ytlfmkipcgcilaaa.StepPlain Go.Proofs.Ytlfmkipcgcilaaa.GapPlain Go.Proofs.Ytlfmkipcgcilaaa.JobPlain Go.Proofs.Ytlfmkipcgcilaaa.ShaPlain Go.Proofs.Ytlfmkipcgcilaaa.Mem Go.Proofs.Ytlfmkipcgcilaaa.SpanMem Go.Proofs.Ytlfmkipcgcilaaa.StepMem Go.Proofs.Ytlfmkipcgcilaaa.JobMem Go.Proofs.Ytlfmkipcgcilaaa.OrdMem Go.Proofs.Ytlfmkipcgcilaaa.SpanRef Go.Proofs.Ytlfmkipcgcilaaa.StepRef Go.Proofs.Ytlfmkipcgcilaaa.GapRef
theorem spans_grown {t : List Sp} {W w' : World} {v : Value} {row : Option Nat} (h : SpansIs t W v) (hg : W.grownBy w' row) (hne : ∀ a m c, v = .slice (some a) m c → 0 < t.length → row ≠ some a.block) : SpansIs t w' v := by
  rcases h with h | ⟨a, c, e, hr, hn⟩
  · exact .inl h
  · refine .inr ⟨a, c, e, ?_, hn⟩
    intro j u hu
    have hp : 0 < t.length := by
      cases t with
      | nil => simp [svals] at hu
      | cons x t => simp
    obtain ⟨h1, h2⟩ := hr j u hu
    have hb := hg.block a.block h1 (fun q => hne a _ c e hp q.symm)
    refine ⟨Nat.lt_of_lt_of_le h1 hg.size, ?_⟩
    exact (World.cell?_of_block (a := a.add j) (by rw [add_block]; exact hb)).trans h2
/-- Steps lie apart from a row of one's own. -/
def OffRow (t : List Sp) (sv ov : Value) : Prop := ∀ a m c, sv = .slice (some a) m c → 0 < t.length → ov.ownBlock ≠ some a.block
theorem spans_lt {t : List Sp} {W : World} {v : Value} (h : SpansIs t W v) : ∀ a m c, v = .slice (some a) m c → 0 < t.length → a.block < W.heap.size := fun a m c e hp => by
  rcases h with ⟨h, _⟩ | ⟨a2, c2, e2, hr, _⟩
  · rw [h] at e; cases e
  · rw [e2] at e
    injection e with e
    injection e with e
    subst e
    have hl : 0 < (svals t).length := by rw [svals_len]; omega
    exact (hr 0 _ (List.getElem?_eq_getElem hl)).1
theorem OffRow.next {t : List Sp} {W : World} {sv ov ov' : Value} (h : OffRow t sv ov) (hs : SpansIs t W sv) (hn : NextTo W ov ov') : OffRow t sv ov' := fun a m c e hp => by
  have hlt := spans_lt hs a m c e hp
  rcases hn with hn | ⟨b, hn, hb⟩
  · rw [hn]; exact h a m c e hp
  · rw [hn]; intro q; injection q with q; omega
theorem OffRow.fresh {t : List Sp} {e : TypeId} {k base n : Nat} {W : World} {sv ov : Value} {xs : List Value} (hn : ∀ a m c, sv = .slice (some a) m c → W.heap.size ≤ a.block) (ho : OwnN e k base W ov n xs) : OffRow t sv ov := fun a m c e _ q => by
  have h1 := hn a m c e
  have h2 := (ho.block_lt q).2
  omega
end Go.Proofs.Ytlfmkipcgcilaaa.ShaRef
