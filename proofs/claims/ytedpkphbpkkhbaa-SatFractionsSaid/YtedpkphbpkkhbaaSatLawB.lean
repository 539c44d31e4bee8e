/-
  The walk of the statement SatSums.
-/
import Derived.Test.YtedpkphbpkkhbaaSatLawA
import Derived.Deep.RegionHeld3
namespace Go.Proofs.Ytedpkphbpkkhbaa.SatWalk
open Go.RowKit Go.Proofs.Ytedpkphbpkkhbaa.SatPlain Go.Proofs.Ytedpkphbpkkhbaa.Mem

set_option maxHeartbeats 400000 in
theorem sums_long (A : Option Addr) (n c : Nat) (w : World) (h : 100 < n) (h2 : n ≤ 9223372036854775807) : Calls Try.prog 4 #[.slice A n c] w (TrueIs w) := by
  have h3 : decide ((100 : Int) < (n : Int)) = true := by rw [decide_eq_true_eq]; omega
  go_enter Try.func4, Try.ntmps4
  go_wp2_with fail
  refine (awake_any _).mono ?_
  rintro e w1 ⟨rfl, hb⟩
  go_wp2_with fail
  go_ret
  exact ⟨rfl, hb⟩

theorem below_cell {w w' : World} {a : Addr} {i : Nat} {v : Value} (hb : Below w.heap.size w w') (hl : a.block < w.heap.size) (h : w.cell? (a.add i) = some v) : w'.cell? (a.add i) = some v :=
  (hb.cell (by rw [add_block]; exact hl)).trans h

theorem held_keep {w w' : World} {a : Addr} {i : Nat} {v : Value} (hb : Below w.heap.size w w') (hl : a.block < w.heap.size) (h : w.cell? (a.add i) = some v) : w'.cell? (a.add i) = some v ∧ a.block < w'.heap.size :=
  ⟨below_cell hb hl h, Nat.lt_of_lt_of_le hl hb.size⟩
theorem sum_none {l : List Int} {V : Int} {K : Bool} (h : sumO l = none) (hv : sumV l = V) (hk : sumOk l = K) : V = 0 ∧ K = false := by
  obtain ⟨h1, h2⟩ := sum_fail h
  exact ⟨hv.symm.trans h1, hk.symm.trans h2⟩
theorem sum_done {l : List Int} {V s : Int} {K : Bool} (h : sumO l = some s) (hv : sumV l = V) (hk : sumOk l = K) : V = s ∧ K = true := by
  obtain ⟨h1, h2⟩ := sum_some h
  exact ⟨hv.symm.trans h1, hk.symm.trans h2⟩

set_option maxRecDepth 100000 in
set_option maxHeartbeats 6400000 in
theorem sums_any (l : List Int) (A : Option Addr) (c : Nat) (w : World) (hA : Cells w A l.length (icell l)) (hl : l.length ≤ 100) (hf : ∀ x ∈ l, Fit x) :
    Calls Try.prog 4 #[.slice A l.length c] w (TrueIs w) := by
  have C1 := Lib.hid (fun w hA => satsum_any l A c w hA (by omega) hf)
  have HA := Lib.hid hA
  have HF : Hid (∀ k, Fit (l.getD k 0)) := fun k => by
    by_cases h : k < l.length
    · have e : l.getD k 0 = l[k] := by simp [List.getD, h]
      rw [e]; exact hf _ (List.getElem_mem h)
    · have e : l.getD k 0 = 0 := by simp [List.getD, h]
      rw [e]; exact fit0
  clear hA hf
  have h3 : decide ((100 : Int) < (l.length : Int)) = false := by rw [decide_eq_false_iff_not]; omega
  go_enter Try.func4, Try.ntmps4
  go_wp2_with fail
  refine (C1.out _ HA.out).mono ?_
  rintro e w1 ⟨rfl, rfl⟩
  generalize hv : sumV l = V at *
  generalize hk : sumOk l = K at *
  have HV := Lib.hid hv
  have HK := Lib.hid hk
  clear hv hk C1
  go_wp2_with fail
  go_loopw [5, 6] (fun a i wr => ∃ (k : Nat) (s : Int), a = .int .i64 s ∧ i = .int .i64 k ∧ k ≤ l.length ∧ Hid (SumAt l k s) ∧ Hid (Below w.heap.size w wr)) (fun _ i _ => l.length - (intOf i).toNat)
  case atStart => exact ⟨0, 0, rfl, rfl, Nat.zero_le _, SumAt.start l, Below.refl _ _⟩
  case round =>
    obtain ⟨k, s, rfl, rfl, hk, HS, HB⟩ := hrel
    by_cases hlt : k < l.length
    · obtain ⟨ad, rfl, had, hc⟩ := (HA.out.below HB.out).at hlt
      have hc2 : wr.cell? (ad.add k) = some (.int .i64 (l.getD k 0)) := hc
      have hx := HF.out k
      have hs := HS.out.2
      have HN := Lib.hid (fun hfit => HS.out.next hlt hfit)
      have HO := Lib.hid (fun hfit => HS.out.fail hlt hfit)
      clear hc
      generalize l.getD k 0 = x at *
      have hsg := sign_cases s x
      have hsgn : (∃ b, decide (s < 0) = b ∧ decide (x < 0) = b ∧ decide (s.natAbs + x.natAbs ≤ topOf b) = decide (-9223372036854775808 ≤ s + x ∧ s + x < 9223372036854775808)) ∨
          (Fit (s + x) ∧ ((decide (s < 0) = false ∧ decide (x < 0) = true) ∨ (decide (s < 0) = true ∧ decide (x < 0) = false))) := by
        rcases hsg with ⟨s1, s2, _⟩ | ⟨s1, s2, _⟩ | ⟨s1, s2, _⟩ | ⟨s1, s2, _⟩
        · exact .inl ⟨_, s1, s2, same_fit hs hx s1 s2⟩
        · exact .inl ⟨_, s1, s2, same_fit hs hx s1 s2⟩
        · exact .inr ⟨other_fit hs hx (.inl ⟨s1, s2⟩), .inl ⟨s1, s2⟩⟩
        · exact .inr ⟨other_fit hs hx (.inr ⟨s1, s2⟩), .inr ⟨s1, s2⟩⟩
      have CS := Lib.hid (fun w => digits_any s w hs.1 hs.2)
      have CX := Lib.hid (fun w => digits_any x w hx.1 hx.2)
      clear hsg hs hx
      rcases hsgn with ⟨b, s1, s2, hF⟩ | ⟨hfit, hs2⟩
      · by_cases hfit : -9223372036854775808 ≤ s + x ∧ s + x < 9223372036854775808
        · have hd : decide (-9223372036854775808 ≤ s + x ∧ s + x < 9223372036854775808) = true := by rw [decide_eq_true_eq]; exact hfit
          rw [hd] at hF
          have HF2 := Lib.hid hF
          have HN2 := Lib.hid (HN.out hfit)
          obtain ⟨f0, f1⟩ := hfit
          clear hF hd HN HO
          cases b
          all_goals
            go_upto_region 9 with fail
            go_region_held3 (fun w' => w'.cell? (ad.add k) = some (.int .i64 x) ∧ ad.block < w'.heap.size)
              (first | go_keep | (go_split_ands; exact held_keep (by assumption) (by assumption) (by assumption)))
              (first
                | (go_at_call_of 8 (Value.int IntKind.i64 s); refine (CS.out _).mono ?_; rintro e w1 ⟨u1, rfl, hr1, hb1⟩)
                | (go_at_call_of 8 (Value.int IntKind.i64 x); refine (CX.out _).mono ?_; rintro e w2 ⟨u2, rfl, hr2, hb2⟩)
                | (go_at_call 11; refine (plus_any u1 u2 _ _ _ (hr1.below (by assumption)) hr2 rfl rfl).mono ?_; rintro e w3 ⟨u3, l3, rfl, hr3, hl3, hv3, hb3⟩)
                | (go_at_call 10; refine (fits_any u3 l3 _ _ hr3 (by omega)).mono ?_; rintro e w4 ⟨rfl, hb4⟩))
            have HB4 := Lib.hid (below_then (below_of_drew hb1) (below_then hb2 (below_then hb3 hb4)))
            have hc4 := below_cell HB4.out had hc2
            simp only [dg_val, HF2.out, Bool.not_true, Bool.not_false]
            clear hr1 hr2 hr3 hb1 hb2 hb3 hb4 hv3 hl3
            go_split_ands
            go_wp2_with fail
            exact ⟨⟨k + 1, s + x, rfl, by go_num, by omega, HN2.out, below_then HB.out HB4.out⟩, by simp [intOf] <;> omega⟩
        · have hd : decide (-9223372036854775808 ≤ s + x ∧ s + x < 9223372036854775808) = false := by rw [decide_eq_false_iff_not]; exact hfit
          rw [hd] at hF
          have HF2 := Lib.hid hF
          obtain ⟨rfl, rfl⟩ := sum_none (HO.out hfit) HV.out HK.out
          clear hF hd HN HO hfit
          cases b
          all_goals
            go_upto_region 9 with fail
            go_region_held3 (fun w' => w'.cell? (ad.add k) = some (.int .i64 x) ∧ ad.block < w'.heap.size)
              (first | go_keep | (go_split_ands; exact held_keep (by assumption) (by assumption) (by assumption)))
              (first
                | (go_at_call_of 8 (Value.int IntKind.i64 s); refine (CS.out _).mono ?_; rintro e w1 ⟨u1, rfl, hr1, hb1⟩)
                | (go_at_call_of 8 (Value.int IntKind.i64 x); refine (CX.out _).mono ?_; rintro e w2 ⟨u2, rfl, hr2, hb2⟩)
                | (go_at_call 11; refine (plus_any u1 u2 _ _ _ (hr1.below (by assumption)) hr2 rfl rfl).mono ?_; rintro e w3 ⟨u3, l3, rfl, hr3, hl3, hv3, hb3⟩)
                | (go_at_call 10; refine (fits_any u3 l3 _ _ hr3 (by omega)).mono ?_; rintro e w4 ⟨rfl, hb4⟩))
            have HB4 := Lib.hid (below_then (below_of_drew hb1) (below_then hb2 (below_then hb3 hb4)))
            have hc4 := below_cell HB4.out had hc2
            simp only [dg_val, HF2.out, Bool.not_true, Bool.not_false]
            clear hr1 hr2 hr3 hb1 hb2 hb3 hb4 hv3 hl3
            go_split_ands
            go_wp2_with fail
            refine (awake_any _).mono ?_
            rintro e w5 ⟨rfl, hb5⟩
            go_wp2_with fail
            go_ret
            exact ⟨rfl, below_then HB.out (below_then HB4.out hb5)⟩
      · have HN2 := Lib.hid (HN.out hfit)
        obtain ⟨f0, f1⟩ := hfit
        clear HN HO CS CX
        rcases hs2 with ⟨s1, s2⟩ | ⟨s1, s2⟩
        all_goals
          go_wp2_with fail
          go_quiet (fail)
          go_wp2_with fail
          exact ⟨⟨k + 1, s + x, rfl, by go_num, by omega, HN2.out, below_drewN HB.out _⟩, by simp [intOf] <;> omega⟩
    · obtain ⟨rfl, rfl⟩ := sum_done (HS.out.all (by omega)) HV.out HK.out
      go_wp2_with fail
      refine (awake_any _).mono ?_
      rintro e w5 ⟨rfl, hb5⟩
      go_wp2_with fail
      go_ret
      exact ⟨rfl, below_then HB.out hb5⟩
/-- A row of integers that came in, as the statement's frame tells of it. -/
theorem cells_of_row {w : World} {a : Option Addr} {len cap : Nat} {zs : List Int}
    (h : (a = none ∧ len = 0 ∧ cap = 0 ∧ zs = []) ∨ ∃ x, a = some x ∧ len ≤ cap ∧ cap ≤ maxLen ∧ zs.length = cap ∧ (∀ i, i < zs.length → w.cell? (x.add i) = some (.int .i64 (zs.getD i 0))) ∧ ∀ n ∈ zs, (Lit.int .i64 n).wf = true) :
    len ≤ maxLen ∧ ∃ l : List Int, l.length = len ∧ Cells w a l.length (icell l) ∧ ∀ x ∈ l, Fit x := by
  rcases h with ⟨rfl, rfl, rfl, rfl⟩ | ⟨x, rfl, hl, hm, hz, hc, hw⟩
  · exact ⟨Nat.zero_le _, [], rfl, Cells.none_, fun x hx => by simp at hx⟩
  · refine ⟨by omega, zs.take len, by rw [List.length_take]; omega, fun i hi => ?_, fun n hn => fit_of (hw n (List.mem_of_mem_take hn))⟩
    rw [List.length_take] at hi
    have h1 := hc i (by omega)
    have h2 : (zs.take len).getD i 0 = zs.getD i 0 := by
      simp only [List.getD]
      rw [List.getElem?_take, if_pos (by omega)]
    refine ⟨x, rfl, ?_, by rw [h1]; unfold icell; rw [h2]⟩
    have := World.block_lt_of_cell? w _ h1
    rwa [add_block] at this

theorem sums_row (a : Option Addr) (len cap : Nat) (zs : List Int) (w : World)
    (h : (a = none ∧ len = 0 ∧ cap = 0 ∧ zs = []) ∨ ∃ x, a = some x ∧ len ≤ cap ∧ cap ≤ maxLen ∧ zs.length = cap ∧ (∀ i, i < zs.length → w.cell? (x.add i) = some (.int .i64 (zs.getD i 0))) ∧ ∀ n ∈ zs, (Lit.int .i64 n).wf = true) :
    Calls Try.prog 4 #[.slice a len cap] w (TrueIs w) := by
  obtain ⟨hm, l, rfl, hc, hf⟩ := cells_of_row h
  unfold maxLen at hm
  by_cases h : 100 < l.length
  · exact sums_long a _ cap w h (by omega)
  · exact sums_any l a cap w hc (by omega) hf
end Go.Proofs.Ytedpkphbpkkhbaa.SatWalk
