/-
  What the theorem uses of the texts below it.
-/
import Derived.Below
import Derived.Laws.OwnMore
import Derived.Deep.Draws
import Derived.Deep.OwnRows
import Derived.Lib.Hide
import Derived.OwnWalk
import Derived.Deep.QuietTactic
import Derived.BigQuiet
import Derived.Lib.SliceRun
import Derived.Test.YtophhiejggnaeaaRows
import Derived.WalkKit
import Derived.WalkSpells
import Derived.WalkLawsBesides
import Derived.Laws.StructEq
import Derived.LoopTactic
import Derived.Deep.CutBlock
import Derived.Deep.DeepCutAuto
import Derived.Deep.RegionHeld3
import Derived.ArgAppend
import Derived.Test.YtophhiejggnaeaaPa3
namespace Go.Proofs.Ytophhiejggnaeaa.StepMem
open Go.RowKit Go.Proofs.Ytophhiejggnaeaa.SpanPlain Go.Proofs.Ytophhiejggnaeaa.StepPlain Go.Proofs.Ytophhiejggnaeaa.Mem Go.Proofs.Ytophhiejggnaeaa.SpanMem
theorem steps_t : ElemT Try.prog 22 59 2 16 := ElemT.mk_ (.agg #[.int .i64 0, .int .i64 0]) Try.underlying22 (by kernel_rfl) rfl (by decide) (by decide)
theorem last_cell (d : List Sp) (s : Sp) : (svals (d ++ [s]))[d.length * 2 + 1]? = some (.int .i64 s.2) := by
  have h := (svals_at (d ++ [s]) d.length (by simp)).2
  rw [h]
  simp [spCell, List.getD]
theorem snoc_ways (c : List Sp) : c = [] ∨ ∃ d s, c = d ++ [s] := by
  by_cases h : c = []
  · exact .inl h
  · exact .inr ⟨c.dropLast, c.getLast h, (List.dropLast_concat_getLast h).symm⟩
theorem svals_snoc (d : List Sp) (s : Sp) : svals (d ++ [s]) = svals d ++ [.int .i64 s.1, .int .i64 s.2] := by rw [svals_append]; rfl
theorem spans_of_own {base n : Nat} {w : World} {v : Value} {l : List Sp} {e : TypeId} (h : OwnN e 2 base w v n (svals l)) (hn : n = l.length) : SpansIs l w v := by
  subst hn
  rcases h.form with ⟨h1, h2, _⟩ | ⟨g, c, hv, _, _, hn, _, hr, _⟩
  · exact .inl ⟨h1, List.eq_nil_of_length_eq_zero h2⟩
  · exact .inr ⟨_, c, hv, hr, hn⟩
end Go.Proofs.Ytophhiejggnaeaa.StepMem
namespace Go.Proofs.Ytophhiejggnaeaa.SpanRef
open Go.RowKit Go.Proofs.Ytophhiejggnaeaa.SpanPlain Go.Proofs.Ytophhiejggnaeaa.Mem Go.Proofs.Ytophhiejggnaeaa.SpanMem
def BoolIs (b : Bool) (w : World) (e : Ending) (w' : World) : Prop := e = .returned (.bool b) ∧ Below w.heap.size w w'
end Go.Proofs.Ytophhiejggnaeaa.SpanRef
namespace Go.Proofs.Ytophhiejggnaeaa.SpanRef
open Go.RowKit Go.Proofs.Ytophhiejggnaeaa.SpanPlain Go.Proofs.Ytophhiejggnaeaa.Mem Go.Proofs.Ytophhiejggnaeaa.SpanMem
set_option maxHeartbeats 800000 in
theorem may_any (s : Sp) (w : World) : Calls Try.prog 51 #[spV s] w (BoolIs (mayB s) w) := by
  have hs := may_cases s
  obtain ⟨a, b⟩ := s
  unfold spV
  dsimp only at hs ⊢
  generalize mayB (a, b) = B at *
  rcases hs with ⟨rfl, h1, h2, h3⟩ | ⟨rfl, h1⟩ | ⟨rfl, h1, h2⟩ | ⟨rfl, h1, h2, h3⟩
  all_goals
    go_enter Try.func51, Try.ntmps51
    go_wp2_with fail
    go_ret
    exact ⟨rfl, (Below.refl _ _).alloc (Nat.le_refl _) _⟩
end Go.Proofs.Ytophhiejggnaeaa.SpanRef
namespace Go.Proofs.Ytophhiejggnaeaa.SpanRef
open Go.RowKit Go.Proofs.Ytophhiejggnaeaa.SpanPlain Go.Proofs.Ytophhiejggnaeaa.Mem Go.Proofs.Ytophhiejggnaeaa.SpanMem
set_option maxHeartbeats 1600000 in
theorem has_any (l : List Sp) (A : Option Addr) (c : Nat) (t : Int) (w : World) (hA : Pairs w A l.length (spCell l)) (hl : l.length ≤ 9000) :
    Calls Try.prog 42 #[.slice A l.length c, .int .i64 t] w (BoolIs (anyB l t) w) := by
  have HA := Lib.hid hA
  clear hA
  go_enter Try.func42, Try.ntmps42
  go_wp2_with fail
  go_loopw [5] (fun i wr => ∃ k : Nat, i = .int .i64 k ∧ k ≤ l.length ∧ Hid (anyB (l.take k) t = false) ∧ Hid (Below w.heap.size w wr)) (fun i _ => l.length - (intOf i).toNat)
  case atStart => exact ⟨0, rfl, Nat.zero_le _, rfl, Below.refl _ _⟩
  case round =>
    obtain ⟨k, rfl, hk, HS, HB⟩ := hrel
    by_cases hlt : k < l.length
    · obtain ⟨ad, rfl, had, c1, c2⟩ := (HA.out.below HB.out) k hlt
      have hs := has_cases (l.getD k (0, 0)) t
      have C1 := Lib.hid (fun w => may_any (l.getD k (0, 0)) w)
      have HN := Lib.hid (fun h => any_next hlt HS.out h)
      have HF := Lib.hid (fun h => any_found (t := t) hlt h)
      unfold spV at C1
      unfold spCell at c1 c2
      dsimp only at c1 c2
      generalize l.getD k (0, 0) = s at *
      rcases hs with ⟨hh, hm⟩ | ⟨hh, hm, h1⟩ | ⟨hh, hm, h1, h2⟩ | ⟨hh, hm, h1, h2⟩
      all_goals
        rw [hm] at C1
        have HH := Lib.hid hh
        have HA1 := Lib.hid had
        clear hh hm had
        go_wp2_with fail
        refine (C1.out _).mono ?_
        rintro e w1 ⟨rfl, hb1⟩
        obtain ⟨_, d1, d2⟩ := pair_below hb1 HA1.out c1 c2
        have HB1 := Lib.hid (below_then HB.out hb1)
        clear hb1
        go_wp2_with fail
        first
          | exact ⟨⟨k + 1, by go_num, by omega, HN.out HH.out, HB1.out⟩, by simp [intOf] <;> omega⟩
          | (go_ret; exact ⟨by rw [HF.out HH.out]; rfl, HB1.out⟩)
    · go_wp2_with fail
      go_ret
      exact ⟨by rw [any_all (by omega) HS.out]; rfl, HB.out⟩
theorem has_is (l : List Sp) (v : Value) (t : Int) (w : World) (h : SpansIs l w v) (hl : l.length ≤ 9000) : Calls Try.prog 42 #[v, .int .i64 t] w (BoolIs (anyB l t) w) := by
  obtain ⟨A, c, rfl, hp⟩ := h.open_
  exact has_any l A c t w hp hl
end Go.Proofs.Ytophhiejggnaeaa.SpanRef
namespace Go.Proofs.Ytophhiejggnaeaa.SpanRef
open Go.RowKit Go.Proofs.Ytophhiejggnaeaa.SpanPlain Go.Proofs.Ytophhiejggnaeaa.Mem Go.Proofs.Ytophhiejggnaeaa.SpanMem
def PutIs (l : List Int) (w : World) (e : Ending) (w' : World) : Prop := ∃ v, e = .returned v ∧ IntsIs l w' v ∧ Below w.heap.size w w'
theorem atTo_succ (l : List Int) (n : Int) (k : Nat) : atTo l n (k + 1) = if l.getD k 0 < n then k + 1 else atTo l n k := rfl
theorem put_next {l : List Int} {n : Int} {k : Nat} (hk : k < l.length) (h : n ∉ l.take k) (hn : l.getD k 0 ≠ n) : n ∉ l.take (k + 1) := by
  rw [List.take_succ_eq_append_getElem hk, List.mem_append]
  rintro (g | g)
  · exact h g
  · simp at g
    rw [getD_el hk] at hn
    exact hn g.symm
set_option maxHeartbeats 1600000 in
theorem put_any (l : List Int) (n : Int) (v : Value) (w : World) (hv : IntsIs l w v) (hl : l.length ≤ 9000) :
    Calls Try.prog 52 #[v, .int .i64 n] w (PutIs (putL l n) w) := by
  obtain ⟨ad, c, rfl, hA, hc1, hc2⟩ := hv
  have HA := Lib.hid hA
  clear hA
  unfold maxLen at hc2
  go_enter Try.func52, Try.ntmps52
  go_wp2_with fail
  go_loop [5, 6] (fun a i => ∃ k : Nat, a = .int .i64 (atTo l n k : Nat) ∧ i = .int .i64 k ∧ k ≤ l.length ∧ Hid (n ∉ l.take k)) (fun _ i => l.length - (intOf i).toNat)
  case atStart => exact ⟨0, rfl, rfl, Nat.zero_le _, by simp [Hid]⟩
  case round =>
    obtain ⟨k, rfl, rfl, hk, HN⟩ := hrel
    by_cases hlt : k < l.length
    · have hc3 := HA.out.int hlt
      have hm : l.getD k 0 ∈ l := getD_mem hlt
      have hcase : ((l.getD k 0 == n) = true) ∨ ((l.getD k 0 == n) = false ∧ decide (l.getD k 0 < n) = true ∧ atTo l n (k + 1) = k + 1) ∨ ((l.getD k 0 == n) = false ∧ decide (l.getD k 0 < n) = false ∧ atTo l n (k + 1) = atTo l n k) := by
        by_cases h1 : l.getD k 0 = n
        · left; exact beq_iff_eq.2 h1
        · by_cases h2 : l.getD k 0 < n
          · right; left; exact ⟨beq_eq_false_iff_ne.2 h1, decide_eq_true h2, (atTo_succ l n k).trans (if_pos h2)⟩
          · right; right; exact ⟨beq_eq_false_iff_ne.2 h1, decide_eq_false h2, (atTo_succ l n k).trans (if_neg h2)⟩
      have HX := Lib.hid (fun h => put_next hlt HN.out h)
      have HM := Lib.hid hm
      clear hm
      generalize l.getD k 0 = x at *
      rcases hcase with h1 | ⟨h1, h2, h3⟩ | ⟨h1, h2, h3⟩
      · have e : x = n := by simpa using h1
        subst e
        go_wp2_with fail
        go_ret
        exact ⟨_, rfl, by rw [putL_in HM.out]; exact ⟨ad, c, rfl, HA.out, hc1, by unfold maxLen; omega⟩, Below.refl _ _⟩
      · have H3 := Lib.hid h3
        clear h3
        have hne : x ≠ n := by simpa using h1
        have HN2 := Lib.hid (HX.out hne)
        clear hne
        go_wp2_with fail
        exact ⟨⟨k + 1, by rw [H3.out]; go_num, by go_num, by omega, HN2⟩, by simp [intOf] <;> omega⟩
      · have H3 := Lib.hid h3
        clear h3
        have hne : x ≠ n := by simpa using h1
        have HN2 := Lib.hid (HX.out hne)
        clear hne
        go_wp2_with fail
        exact ⟨⟨k + 1, by rw [H3.out], by go_num, by omega, HN2⟩, by simp [intOf] <;> omega⟩
    · obtain rfl : k = l.length := by omega
      have HP := Lib.hid (putL_out (l := l) (n := n) (by have := HN.out; rwa [List.take_length] at this))
      have hat := atTo_le l n l.length
      generalize hq : atTo l n l.length = q at *
      clear hq
      clear hlt
      have HO := Lib.hid (OwnR.new w 3 1)
      have HB := Lib.hid ((Below.refl w.heap.size w).alloc (Nat.le_refl _) (.cells #[] 3))
      have hcase : c = q ∨ ¬ c = q := Classical.em _
      have HD := Lib.hid ((HA.out.below HB.out).drop q)
      rcases hcase with hcq | hcq
      · have he : l.drop q = [] := List.drop_of_length_le (by omega)
        have HE := Lib.hid he
        clear he
        go_wp2_with (at_builtin; refine push_raw ints_t rfl (.tmp 29) (.tmp 32) rfl w.heap.size _ 0 [] rfl HO.out ad _ _ [] rfl ?h1a ?h1b ?h1c ?h1d ?_)
        case h1a => omega
        case h1b => exact raw_nil (HA.out.below HB.out)
        case h1d => omega
        intro v1 w1 hown1 hb1
        have H1 : Hid (OwnR 3 1 w.heap.size w1 v1 (l.drop q).length (ivals (l.drop q))) := by
          have e : l.length - q = 0 := by omega
          rw [e] at hown1
          rw [HE.out]
          exact hown1
        have H2 : Hid (IntsIs (l.drop q) w1 v1) := OwnR.ints H1.out rfl
        clear hown1 H1
        have HB1 := Lib.hid (HB.out.trans (hb1.mono (by simp)))
        clear hb1
        obtain ⟨a1, k1, hv1, hr1, hk1, hk2⟩ := H2.out
        have HR1 := Lib.hid hr1
        clear H2 hr1 hk2
        subst hv1
        have HO2 := Lib.hid (OwnR.new w1 3 1)
        have HB2 := Lib.hid ((Below.refl w1.heap.size w1).alloc (Nat.le_refl _) (.cells #[] 3))
        have HT := Lib.hid (((HA.out.below HB1.out).below HB2.out).take q)
        go_wp2_with (at_builtin; refine push_raw ints_t rfl (.tmp 34) (.tmp 37) rfl w1.heap.size _ 0 [] rfl HO2.out ad q _ (ivals (l.take q)) rfl ?h2a ?h2b ?h2c ?h2d ?_)
        case h2a => simp [ivals_len]; omega
        case h2b => rw [← ivals_take]; exact HT.out
        case h2c => exact ivals_cell _
        case h2d => omega
        intro v2 w2 hown2 hb2
        have HO3 := Lib.hid hown2
        have HB3 := Lib.hid (HB2.out.trans hb2)
        clear hown2 hb2 HT
        go_wp2_with (at_builtin; refine push_raw ints_t rfl (.tmp 38) (.tmp 40) rfl w1.heap.size _ _ _ rfl (HO3.out.alloc _) ⟨w2.heap.size, 0, none⟩ 1 1 [.int .i64 n] rfl ?h3a ?h3b ?h3c ?h3d ?_)
        case h3a => rfl
        case h3b => exact Raw.alloc w2 #[.int .i64 n] _
        case h3c => exact one_cell
        case h3d => omega
        intro v3 w3 hown3 hb3
        have HO4 := Lib.hid hown3
        have HB4 := Lib.hid (HB3.out.trans (((Below.refl w1.heap.size w2).alloc HB3.out.size _).trans hb3))
        clear hown3 hb3
        go_wp2_with (at_builtin; refine push_raw ints_t rfl (.tmp 41) (.tmp 42) rfl w1.heap.size _ _ _ rfl HO4.out a1 _ k1 (ivals (l.drop q)) rfl ?h4a ?h4b ?h4c ?h4d ?_)
        case h4a => simp [ivals_len]
        case h4b => exact HR1.out.below HB4.out
        case h4c => exact ivals_cell _
        case h4d => omega
        intro v4 w4 hown4 hb4
        go_wp2_with fail
        go_ret
        refine ⟨_, rfl, ?_, HB1.out.trans ((HB4.out.trans hb4).mono HB1.out.size)⟩
        have hp := HP.out
        rw [hp]
        have h5 : OwnR 3 1 w1.heap.size w4 v4 (l.take q ++ ([n] ++ l.drop q)).length (ivals (l.take q ++ ([n] ++ l.drop q))) := hown4.cast (by simp; omega) (by simp [ivals])
        exact OwnR.ints h5 rfl
      · go_wp2_with (at_builtin; refine push_raw ints_t rfl (.tmp 29) (.tmp 32) rfl w.heap.size _ 0 [] rfl HO.out (ad.add q) (l.length - q) (c - q) (ivals (l.drop q)) rfl ?h5a ?h5b ?h5c ?h5d ?_)
        case h5a => simp [ivals_len]
        case h5b => rw [← ivals_drop]; exact HD.out
        case h5c => exact ivals_cell _
        case h5d => omega
        intro v1 w1 hown1 hb1
        have H1 : Hid (OwnR 3 1 w.heap.size w1 v1 (l.drop q).length (ivals (l.drop q))) := by
          rw [List.length_drop]
          exact hown1
        have H2 : Hid (IntsIs (l.drop q) w1 v1) := OwnR.ints H1.out rfl
        clear hown1 H1
        have HB1 := Lib.hid (HB.out.trans (hb1.mono (by simp)))
        clear hb1
        obtain ⟨a1, k1, hv1, hr1, hk1, hk2⟩ := H2.out
        have HR1 := Lib.hid hr1
        clear H2 hr1 hk2
        subst hv1
        have HO2 := Lib.hid (OwnR.new w1 3 1)
        have HB2 := Lib.hid ((Below.refl w1.heap.size w1).alloc (Nat.le_refl _) (.cells #[] 3))
        have HT := Lib.hid (((HA.out.below HB1.out).below HB2.out).take q)
        go_wp2_with (at_builtin; refine push_raw ints_t rfl (.tmp 34) (.tmp 37) rfl w1.heap.size _ 0 [] rfl HO2.out ad q _ (ivals (l.take q)) rfl ?h6a ?h6b ?h6c ?h6d ?_)
        case h6a => simp [ivals_len]; omega
        case h6b => rw [← ivals_take]; exact HT.out
        case h6c => exact ivals_cell _
        case h6d => omega
        intro v2 w2 hown2 hb2
        have HO3 := Lib.hid hown2
        have HB3 := Lib.hid (HB2.out.trans hb2)
        clear hown2 hb2 HT
        go_wp2_with (at_builtin; refine push_raw ints_t rfl (.tmp 38) (.tmp 40) rfl w1.heap.size _ _ _ rfl (HO3.out.alloc _) ⟨w2.heap.size, 0, none⟩ 1 1 [.int .i64 n] rfl ?h7a ?h7b ?h7c ?h7d ?_)
        case h7a => rfl
        case h7b => exact Raw.alloc w2 #[.int .i64 n] _
        case h7c => exact one_cell
        case h7d => omega
        intro v3 w3 hown3 hb3
        have HO4 := Lib.hid hown3
        have HB4 := Lib.hid (HB3.out.trans (((Below.refl w1.heap.size w2).alloc HB3.out.size _).trans hb3))
        clear hown3 hb3
        go_wp2_with (at_builtin; refine push_raw ints_t rfl (.tmp 41) (.tmp 42) rfl w1.heap.size _ _ _ rfl HO4.out a1 _ k1 (ivals (l.drop q)) rfl ?h8a ?h8b ?h8c ?h8d ?_)
        case h8a => simp [ivals_len]
        case h8b => exact HR1.out.below HB4.out
        case h8c => exact ivals_cell _
        case h8d => omega
        intro v4 w4 hown4 hb4
        go_wp2_with fail
        go_ret
        refine ⟨_, rfl, ?_, HB1.out.trans ((HB4.out.trans hb4).mono HB1.out.size)⟩
        have hp := HP.out
        rw [hp]
        have h5 : OwnR 3 1 w1.heap.size w4 v4 (l.take q ++ ([n] ++ l.drop q)).length (ivals (l.take q ++ ([n] ++ l.drop q))) := hown4.cast (by simp; omega) (by simp [ivals])
        exact OwnR.ints h5 rfl
end Go.Proofs.Ytophhiejggnaeaa.SpanRef
namespace Go.Proofs.Ytophhiejggnaeaa.SpanRef
open Go.RowKit Go.Proofs.Ytophhiejggnaeaa.SpanPlain Go.Proofs.Ytophhiejggnaeaa.Mem Go.Proofs.Ytophhiejggnaeaa.SpanMem
theorem ends_take {l : List Sp} {k : Nat} (hk : k < l.length) : endsL (l.take (k + 1)) = endsStep (endsL (l.take k)) (l.getD k (0, 0)) := by
  rw [List.take_succ_eq_append_getElem hk, endsL_snoc]
  simp [List.getD, hk]
theorem ends_take_len {l : List Sp} {k : Nat} (hl : l.length ≤ 4000) : (endsL (l.take k)).length ≤ 8000 := by
  have := (ends_spec (l.take k)).2.2
  rw [List.length_take] at this
  omega
set_option maxHeartbeats 3200000 in
theorem ends_any (l : List Sp) (v : Value) (w : World) (hv : SpansIs l w v) (hl : l.length ≤ 4000) : Calls Try.prog 40 #[v] w (PutIs (endsL l) w) := by
  obtain ⟨A, c, rfl, hA⟩ := hv.open_
  have HA := Lib.hid hA
  clear hA hv
  go_enter Try.func40, Try.ntmps40
  go_wp2_with fail
  go_loopw [3, 4] (fun o i wr => ∃ (k : Nat) (v : Value), v = o ∧ i = .int .i64 k ∧ k ≤ l.length ∧ Hid (IntsIs (endsL (l.take k)) wr v) ∧ Hid (Below w.heap.size w wr)) (fun _ i _ => l.length - (intOf i).toNat)
  case atStart => exact ⟨0, _, rfl, rfl, Nat.zero_le _, OwnR.ints (OwnR.new w 3 1) rfl, (Below.refl _ _).alloc (Nat.le_refl _) _⟩
  case round =>
    obtain ⟨k, v, hv, rfl, hk, HV, HB⟩ := hrel
    subst hv
    by_cases hlt : k < l.length
    · obtain ⟨ad, rfl, had, c1, c2⟩ := (HA.out.below HB.out) k hlt
      have HE := Lib.hid (ends_take hlt)
      have HL := Lib.hid (ends_take_len (l := l) (k := k) hl)
      have C1 := Lib.hid (fun w => may_any (l.getD k (0, 0)) w)
      unfold spV at C1
      unfold spCell at c1 c2
      dsimp only at c1 c2
      generalize l.getD k (0, 0) = s at *
      generalize endsL (l.take k) = o at *
      cases hm : mayB s with
      | false =>
        rw [hm] at C1
        have HM := Lib.hid hm
        clear hm
        go_wp2_with fail
        refine (C1.out _).mono ?_
        rintro e w1 ⟨rfl, hb1⟩
        have HB1 := Lib.hid hb1
        clear hb1
        go_wp2_with fail
        exact ⟨⟨k + 1, _, rfl, by go_num, by omega, by rw [HE.out]; unfold endsStep; rw [if_neg (by rw [HM.out]; simp)]; exact HV.out.below HB1.out, below_then HB.out HB1.out⟩, by simp [intOf] <;> omega⟩
      | true =>
        rw [hm] at C1
        have HM := Lib.hid hm
        clear hm
        go_wp2_with fail
        refine (C1.out _).mono ?_
        rintro e w1 ⟨rfl, hb1⟩
        obtain ⟨had1, d1, d2⟩ := pair_below hb1 had c1 c2
        have HB1 := Lib.hid hb1
        clear hb1 c1 c2 had
        have P1 := Lib.hid (put_any o s.1 v w1 (HV.out.below HB1.out) (by have := HL.out; omega))
        have hl2 := putL_len o s.1
        go_upto_region 6 with fail
        go_region_held3 (fun w' => w'.cell? (ad.add (k * 2)) = some (.int .i64 s.1) ∧ w'.cell? ⟨(ad.add (k * 2)).block, (ad.add (k * 2)).off + 1, none⟩ = some (.int .i64 s.2) ∧ ad.block < w'.heap.size)
          (first | go_keep | (go_split_ands; exact pairs_held (by assumption) (by assumption) (by assumption) (by assumption)))
          (first
            | (go_at_call_of 52 v; (refine (put_any o s.1 v _ (IntsIs.drew (HV.out.below HB1.out)) (by have := HL.out; omega)).mono ?_; rintro e w2 ⟨v1, rfl, hi1, hb2⟩))
            | (go_at_call_of 52 v1; (refine (put_any (putL o s.1) s.2 v1 _ hi1 (by have := HL.out; omega)).mono ?_; rintro e w3 ⟨v2, rfl, hi2, hb3⟩)))
        have HB3 := Lib.hid (below_then HB.out (below_then HB1.out (below_then (below_of_drew hb2) hb3)))
        have HI := Lib.hid hi2
        clear hb2 hb3 hi1 hi2 hl2 P1
        go_wp2_with fail
        exact ⟨⟨k + 1, _, rfl, by go_num, by omega, by rw [HE.out]; unfold endsStep; rw [if_pos HM.out]; exact HI.out, HB3.out⟩, by simp [intOf] <;> omega⟩
    · go_wp2_with fail
      go_ret
      have h := HV.out
      rw [List.take_of_length_le (by omega)] at h
      exact ⟨_, rfl, h, HB.out⟩
end Go.Proofs.Ytophhiejggnaeaa.SpanRef
namespace Go.Proofs.Ytophhiejggnaeaa.SpanRef
open Go.RowKit Go.Proofs.Ytophhiejggnaeaa.SpanPlain Go.Proofs.Ytophhiejggnaeaa.Mem Go.Proofs.Ytophhiejggnaeaa.SpanMem
theorem same_take {a b : List Sp} {k : Nat} (ha : k < a.length) (hb : k < b.length) (h : a.take k = b.take k) (he : a.getD k (0, 0) = b.getD k (0, 0)) : a.take (k + 1) = b.take (k + 1) := by
  rw [List.take_succ_eq_append_getElem ha, List.take_succ_eq_append_getElem hb, h]
  simp [List.getD, ha, hb] at he
  rw [he]
theorem same_not {a b : List Sp} {k : Nat} (ha : k < a.length) (hb : k < b.length) (he : a.getD k (0, 0) ≠ b.getD k (0, 0)) : a ≠ b := fun h => by subst h; exact he rfl
end Go.Proofs.Ytophhiejggnaeaa.SpanRef
namespace Go.Proofs.Ytophhiejggnaeaa.SpanRef
open Go.RowKit Go.Proofs.Ytophhiejggnaeaa.SpanPlain Go.Proofs.Ytophhiejggnaeaa.Mem Go.Proofs.Ytophhiejggnaeaa.SpanMem
end Go.Proofs.Ytophhiejggnaeaa.SpanRef
namespace Go.Proofs.Ytophhiejggnaeaa.SpanRef
open Go.RowKit Go.Proofs.Ytophhiejggnaeaa.SpanPlain Go.Proofs.Ytophhiejggnaeaa.Mem Go.Proofs.Ytophhiejggnaeaa.SpanMem
theorem snoc_cases (c : List Sp) : c = [] ∨ ∃ d s, c = d ++ [s] := by
  by_cases h : c = []
  · exact .inl h
  · exact .inr ⟨c.dropLast, c.getLast h, (List.dropLast_concat_getLast h).symm⟩
theorem svals_last (d : List Sp) (s : Sp) (y : Int) : (svals (d ++ [s])).set (d.length * 2 + 1) (.int .i64 y) = svals (d ++ [(s.1, y)]) := by
  rw [svals_append, svals_append, List.set_append_right _ _ (by rw [svals_len]; omega), svals_len]
  have e : d.length * 2 + 1 - d.length * 2 = 1 := by omega
  rw [e]
  rfl
theorem svals_end (d : List Sp) (s : Sp) : (svals (d ++ [s]))[d.length * 2 + 1]? = some (.int .i64 s.2) := by
  have h := (svals_at (d ++ [s]) d.length (by simp)).2
  rw [h]
  simp [spCell, List.getD]
end Go.Proofs.Ytophhiejggnaeaa.SpanRef
namespace Go.Proofs.Ytophhiejggnaeaa.SpanWalk
open Go.RowKit Go.Proofs.Ytophhiejggnaeaa.SpanPlain Go.Proofs.Ytophhiejggnaeaa.Mem Go.Proofs.Ytophhiejggnaeaa.SpanMem Go.Proofs.Ytophhiejggnaeaa.SpanRef
theorem below_alloc (w : World) (o : Obj) : Below w.heap.size w (w.alloc o) := (Below.refl _ _).alloc (Nat.le_refl _) o
end Go.Proofs.Ytophhiejggnaeaa.SpanWalk
namespace Go.Proofs.Ytophhiejggnaeaa.StepRef
open Go.RowKit Go.Proofs.Ytophhiejggnaeaa.SpanPlain Go.Proofs.Ytophhiejggnaeaa.StepPlain Go.Proofs.Ytophhiejggnaeaa.Mem Go.Proofs.Ytophhiejggnaeaa.SpanMem Go.Proofs.Ytophhiejggnaeaa.StepMem Go.Proofs.Ytophhiejggnaeaa.SpanRef
theorem below_alloc (w : World) (o : Obj) : Below w.heap.size w (w.alloc o) := (Below.refl _ _).alloc (Nat.le_refl _) o
def IntQ (n : Int) (w : World) (e : Ending) (w' : World) : Prop := e = .returned (.int .i64 n) ∧ w = w'
theorem val_take {s : List Sp} {k : Nat} (hk : k < s.length) (t : Int) : val (s.take (k + 1)) t = if (s.getD k (0, 0)).1 ≤ t then (s.getD k (0, 0)).2 else val (s.take k) t := by
  rw [List.take_succ_eq_append_getElem hk, val_snoc, getSp hk]
def BoolD (b : Bool) (w : World) (e : Ending) (w' : World) : Prop := e = .returned (.bool b) ∧ ∃ n, w' = w.drewN n
theorem pair_zero {w : World} {A : Option Addr} {n : Nat} {f : Nat → Value × Value} (h : Pairs w A n f) (hn : 0 < n) : ∃ ad, A = some ad ∧ ad.block < w.heap.size ∧ w.cell? ad = some (f 0).1 ∧ w.cell? ⟨ad.block, ad.off + 1, none⟩ = some (f 0).2 := by
  obtain ⟨ad, rfl, had, c1, c2⟩ := h 0 hn
  have e : ad.add (0 * 2) = ad := by unfold Addr.add; simp
  rw [e] at c1 c2
  exact ⟨ad, rfl, had, c1, c2⟩
def IntB (n : Int) (w : World) (e : Ending) (w' : World) : Prop := e = .returned (.int .i64 n) ∧ Below w.heap.size w w'
theorem add_len (s : List Sp) (x : Sp) : (addSpans s x).length = s.length + 1 := by unfold addSpans; rw [List.length_cons, List.length_map]
end Go.Proofs.Ytophhiejggnaeaa.StepRef
namespace Go.Proofs.Ytophhiejggnaeaa.StepRef
open Go.RowKit Go.Proofs.Ytophhiejggnaeaa.SpanPlain Go.Proofs.Ytophhiejggnaeaa.StepPlain Go.Proofs.Ytophhiejggnaeaa.Mem Go.Proofs.Ytophhiejggnaeaa.SpanMem Go.Proofs.Ytophhiejggnaeaa.StepMem Go.Proofs.Ytophhiejggnaeaa.SpanRef
theorem ok_ways (s : List Sp) (k : Nat) : (decide ((s.getD k (0, 0)).2 < 0) = true ∧ Hid (okB s k = false)) ∨ (decide ((s.getD k (0, 0)).2 < 0) = false ∧ decide (256 < (s.getD k (0, 0)).2) = true ∧ Hid (okB s k = false)) ∨
    (decide ((s.getD k (0, 0)).2 < 0) = false ∧ decide (256 < (s.getD k (0, 0)).2) = false ∧ decide ((4503599627370496 : Int) < (s.getD k (0, 0)).1) = true ∧ Hid (okB s k = false)) ∨
    (decide ((s.getD k (0, 0)).2 < 0) = false ∧ decide (256 < (s.getD k (0, 0)).2) = false ∧ decide ((4503599627370496 : Int) < (s.getD k (0, 0)).1) = false ∧ ((k = 0 ∧ Hid (okB s k = true)) ∨
      (0 < k ∧ decide ((s.getD k (0, 0)).1 ≤ (s.getD (k - 1) (0, 0)).1) = true ∧ Hid (okB s k = false)) ∨ (0 < k ∧ decide ((s.getD k (0, 0)).1 ≤ (s.getD (k - 1) (0, 0)).1) = false ∧ ((s.getD k (0, 0)).2 == (s.getD (k - 1) (0, 0)).2) = true ∧ Hid (okB s k = false)) ∨
      (0 < k ∧ decide ((s.getD k (0, 0)).1 ≤ (s.getD (k - 1) (0, 0)).1) = false ∧ ((s.getD k (0, 0)).2 == (s.getD (k - 1) (0, 0)).2) = false ∧ Hid (okB s k = true)))) := by
  unfold okB
  generalize s.getD k (0, 0) = x
  generalize s.getD (k - 1) (0, 0) = y
  by_cases h1 : x.2 < 0
  · exact .inl ⟨decide_eq_true h1, by rw [decide_eq_false (by omega : ¬ 0 ≤ x.2)]; rfl⟩
  · by_cases h2 : 256 < x.2
    · exact .inr (.inl ⟨decide_eq_false h1, decide_eq_true h2, by rw [decide_eq_false (by omega : ¬ x.2 ≤ 256), Bool.and_false]; rfl⟩)
    · by_cases h3 : 4503599627370496 < x.1
      · exact .inr (.inr (.inl ⟨decide_eq_false h1, decide_eq_false h2, decide_eq_true h3, by rw [decide_eq_false (by omega : ¬ x.1 ≤ 4503599627370496), Bool.and_false]; rfl⟩))
      · refine .inr (.inr (.inr ⟨decide_eq_false h1, decide_eq_false h2, decide_eq_false h3, ?_⟩))
        rw [decide_eq_true (by omega : 0 ≤ x.2), decide_eq_true (by omega : x.2 ≤ 256), decide_eq_true (by omega : x.1 ≤ 4503599627370496)]
        by_cases h4 : k = 0
        · exact .inl ⟨h4, by rw [decide_eq_true h4]; rfl⟩
        · rw [decide_eq_false h4]
          by_cases h5 : x.1 ≤ y.1
          · exact .inr (.inl ⟨by omega, decide_eq_true h5, by rw [decide_eq_false (by omega : ¬ y.1 < x.1)]; rfl⟩)
          · rw [decide_eq_true (by omega : y.1 < x.1)]
            cases h6 : (x.2 == y.2) with
            | true => exact .inr (.inr (.inl ⟨by omega, decide_eq_false h5, rfl, rfl⟩))
            | false => exact .inr (.inr (.inr ⟨by omega, decide_eq_false h5, rfl, rfl⟩))
theorem chk_no {s : List Sp} {k : Nat} (hk : k < s.length) (h : okB s k = false) : chkB s = false := by
  cases hc : chkB s with
  | false => rfl
  | true =>
    unfold chkB at hc
    rw [Bool.and_eq_true] at hc
    rw [allTo_lt hc.1 hk] at h; cases h
theorem chk_end {s : List Sp} (h : allTo s s.length = true) : (s.length = 0 ∧ Hid (chkB s = false)) ∨ (0 < s.length ∧ decide (0 ≤ (s.getD 0 (0, 0)).1) = false ∧ Hid (chkB s = false)) ∨
    (0 < s.length ∧ decide (0 ≤ (s.getD 0 (0, 0)).1) = true ∧ decide ((s.getD 0 (0, 0)).1 ≤ 1125899906842624) = false ∧ Hid (chkB s = false)) ∨ (0 < s.length ∧ decide (0 ≤ (s.getD 0 (0, 0)).1) = true ∧ decide ((s.getD 0 (0, 0)).1 ≤ 1125899906842624) = true ∧ Hid (chkB s = true)) := by
  unfold chkB
  rw [h, Bool.true_and]
  by_cases h1 : 0 < s.length
  · rw [decide_eq_true h1, Bool.true_and]
    cases h2 : decide (0 ≤ (s.getD 0 (0, 0)).1) with
    | false => exact .inr (.inl ⟨h1, rfl, rfl⟩)
    | true =>
      cases h3 : decide ((s.getD 0 (0, 0)).1 ≤ 1125899906842624) with
      | false => exact .inr (.inr (.inl ⟨h1, rfl, rfl, rfl⟩))
      | true => exact .inr (.inr (.inr ⟨h1, rfl, rfl, rfl⟩))
  · exact .inl ⟨by omega, by rw [decide_eq_false h1]; rfl⟩
set_option maxHeartbeats 3200000 in
theorem check4 (s : List Sp) (v : Value) (w : World) (hv : SpansIs s w v) (hl : s.length ≤ 9000) : Calls Try.prog 34 #[v] w (BoolD (chkB s) w) := by
  obtain ⟨A, c, rfl, hA⟩ := hv.open_
  have HA := Lib.hid hA
  clear hA hv
  go_enter Try.func34, Try.ntmps34
  go_wp2_with fail
  go_loopw [3] (fun i wr => ∃ k : Nat, i = .int .i64 k ∧ k ≤ s.length ∧ Hid (allTo s k = true) ∧ Hid (∃ q, wr = w.drewN q)) (fun i _ => s.length - (intOf i).toNat)
  case atStart => exact ⟨0, rfl, Nat.zero_le _, rfl, ⟨0, rfl⟩⟩
  case round =>
    obtain ⟨k, rfl, hk, HS, HW⟩ := hrel
    obtain ⟨q, rfl⟩ := HW.out
    by_cases hlt : k < s.length
    · obtain ⟨ad, rfl, had, c1, c2⟩ := HA.out k hlt
      have hways := ok_ways s k
      have HNO := Lib.hid (fun h => chk_no hlt h)
      have HNX : Hid (okB s k = true → allTo s (k + 1) = true) := fun h => by rw [allTo_succ, HS.out, h]; rfl
      have hlt2 : (k : Int) < (s.length : Int) := by omega
      have i0 : (0 : Int) ≤ (k : Int) := Int.natCast_nonneg _
      by_cases hk0 : k = 0
      · subst hk0
        unfold spCell at c1 c2
        dsimp only at c1 c2
        generalize s.getD 0 (0, 0) = x at *
        clear had HW
        have e : ad.add (0 * 2) = ad := by unfold Addr.add; simp
        rw [e] at c1 c2
        clear e
        rcases hways with ⟨h1, HO⟩ | ⟨h1, h2, HO⟩ | ⟨h1, h2, h3, HO⟩ | ⟨h1, h2, h3, ⟨_, HO⟩ | ⟨h, _⟩ | ⟨h, _⟩ | ⟨h, _⟩⟩
        · go_wp2_with fail
          go_quiet (fail)
          go_wp2_with fail
          go_ret
          exact ⟨by rw [HNO.out HO.out]; rfl, _, World.drewN_drewN _ _ _⟩
        · go_wp2_with fail
          go_quiet (fail)
          go_wp2_with fail
          go_ret
          exact ⟨by rw [HNO.out HO.out]; rfl, _, World.drewN_drewN _ _ _⟩
        · go_wp2_with fail
          go_quiet (fail)
          go_wp2_with fail
          go_ret
          exact ⟨by rw [HNO.out HO.out]; rfl, _, World.drewN_drewN _ _ _⟩
        · go_wp2_with fail
          go_quiet (fail)
          go_wp2_with fail
          exact ⟨⟨1, by go_num, by omega, HNX.out HO.out, ⟨_, rfl⟩⟩, by simp [intOf] <;> omega⟩
        all_goals omega
      · obtain ⟨ad2, e2, _, d1, d2⟩ := HA.out (k - 1) (by omega)
        injection e2 with e2
        subst e2
        unfold spCell at c1 c2 d1 d2
        dsimp only at c1 c2 d1 d2
        generalize s.getD k (0, 0) = x at *
        generalize s.getD (k - 1) (0, 0) = y at *
        have j0 : (0 : Int) < (k : Int) := by omega
        have j1 : IntKind.i64.wrap ((k : Int) - 1) = (k : Int) - 1 := by rw [IntKind.wrap_i64]; omega
        have j2 : (0 : Int) ≤ (k : Int) - 1 := by omega
        have j3 : (k : Int) - 1 < (s.length : Int) := by omega
        have j4 : ((k : Int) - 1).toNat = k - 1 := by omega
        have j5 : 0 < k := by omega
        have j6 : (1 : Int) ≤ (k : Int) := by omega
        clear had HW hk0
        rcases hways with ⟨h1, HO⟩ | ⟨h1, h2, HO⟩ | ⟨h1, h2, h3, HO⟩ | ⟨h1, h2, h3, ⟨h, _⟩ | ⟨_, h4, HO⟩ | ⟨_, h4, h5, HO⟩ | ⟨_, h4, h5, HO⟩⟩
        · go_wp2_with fail
          go_quiet (fail)
          go_wp2_with fail
          go_ret
          exact ⟨by rw [HNO.out HO.out]; rfl, _, World.drewN_drewN _ _ _⟩
        · go_wp2_with fail
          go_quiet (fail)
          go_wp2_with fail
          go_ret
          exact ⟨by rw [HNO.out HO.out]; rfl, _, World.drewN_drewN _ _ _⟩
        · go_wp2_with fail
          go_quiet (fail)
          go_wp2_with fail
          go_ret
          exact ⟨by rw [HNO.out HO.out]; rfl, _, World.drewN_drewN _ _ _⟩
        · omega
        · go_wp2_with fail
          go_quiet (fail)
          go_wp2_with fail
          go_ret
          exact ⟨by rw [HNO.out HO.out]; rfl, _, World.drewN_drewN _ _ _⟩
        · go_wp2_with fail
          go_quiet (fail)
          go_wp2_with fail
          go_ret
          exact ⟨by rw [HNO.out HO.out]; rfl, _, World.drewN_drewN _ _ _⟩
        · go_wp2_with fail
          go_quiet (fail)
          go_wp2_with fail
          exact ⟨⟨k + 1, by go_num, by omega, HNX.out HO.out, ⟨_, rfl⟩⟩, by simp [intOf] <;> omega⟩
    · have hend := chk_end (s := s) (by have h := HS.out; rwa [show k = s.length by omega] at h)
      rcases hend with ⟨h0, HO⟩ | ⟨h0, h1, HO⟩ | ⟨h0, h1, h2, HO⟩ | ⟨h0, h1, h2, HO⟩
      · go_wp2_with fail
        go_ret
        exact ⟨by rw [HO.out]; rfl, q, rfl⟩
      all_goals
        obtain ⟨ad, rfl, had, c1, c2⟩ := pair_zero HA.out h0
        unfold spCell at c1 c2
        dsimp only at c1 c2
        have i0 : (0 : Int) < (s.length : Int) := by omega
        generalize s.getD 0 (0, 0) = x at *
        clear had HW
        go_wp2_with fail
        go_ret
        exact ⟨by rw [HO.out]; rfl, q, rfl⟩
end Go.Proofs.Ytophhiejggnaeaa.StepRef
namespace Go.Proofs.Ytophhiejggnaeaa.StepRef
open Go.RowKit Go.Proofs.Ytophhiejggnaeaa.SpanPlain Go.Proofs.Ytophhiejggnaeaa.StepPlain Go.Proofs.Ytophhiejggnaeaa.Mem Go.Proofs.Ytophhiejggnaeaa.SpanMem Go.Proofs.Ytophhiejggnaeaa.StepMem Go.Proofs.Ytophhiejggnaeaa.SpanRef
set_option maxHeartbeats 800000 in
theorem within4 (s : List Sp) (v : Value) (t : Int) (w : World) (hv : SpansIs s w v) (hl : s.length ≤ 9000) : Calls Try.prog 41 #[v, .int .i64 t] w (IntQ (val s t) w) := by
  obtain ⟨A, c, rfl, hA⟩ := hv.open_
  have HA := Lib.hid hA
  clear hA hv
  go_enter Try.func41, Try.ntmps41
  go_wp2_with fail
  go_loop [5, 6] (fun n i => ∃ k : Nat, n = .int .i64 (val (s.take k) t) ∧ i = .int .i64 k ∧ k ≤ s.length) (fun _ i => s.length - (intOf i).toNat)
  case atStart => exact ⟨0, rfl, rfl, Nat.zero_le _⟩
  case round =>
    obtain ⟨k, rfl, rfl, hk⟩ := hrel
    by_cases hlt : k < s.length
    · obtain ⟨ad, rfl, had, c1, c2⟩ := HA.out k hlt
      have HV := Lib.hid (val_take hlt t)
      unfold spCell at c1 c2
      dsimp only at c1 c2
      generalize s.getD k (0, 0) = x at *
      generalize val (s.take k) t = n at *
      by_cases hx : x.1 ≤ t
      · have HX := Lib.hid (HV.out.trans (if_pos hx))
        clear HV
        go_wp2_with fail
        exact ⟨⟨k + 1, by rw [HX.out], by go_num, by omega⟩, by simp [intOf] <;> omega⟩
      · have HX := Lib.hid (HV.out.trans (if_neg hx))
        clear HV
        go_wp2_with fail
        exact ⟨⟨k + 1, by rw [HX.out], by go_num, by omega⟩, by simp [intOf] <;> omega⟩
    · go_wp2_with fail
      go_ret
      exact ⟨by rw [List.take_of_length_le (by omega)]; rfl, rfl⟩
end Go.Proofs.Ytophhiejggnaeaa.StepRef
namespace Go.Proofs.Ytophhiejggnaeaa.StepRef
open Go.RowKit Go.Proofs.Ytophhiejggnaeaa.SpanPlain Go.Proofs.Ytophhiejggnaeaa.StepPlain Go.Proofs.Ytophhiejggnaeaa.Mem Go.Proofs.Ytophhiejggnaeaa.SpanMem Go.Proofs.Ytophhiejggnaeaa.StepMem Go.Proofs.Ytophhiejggnaeaa.SpanRef
theorem min_ways (x y : Sp) (n : Int) : (decide (x.1 < y.1) = false ∧ Hid (minStep x n y = n)) ∨ (decide (x.1 < y.1) = true ∧ decide (y.1 < x.2) = false ∧ Hid (minStep x n y = n)) ∨
    (decide (x.1 < y.1) = true ∧ decide (y.1 < x.2) = true ∧ decide (y.2 < n) = false ∧ Hid (minStep x n y = n)) ∨ (decide (x.1 < y.1) = true ∧ decide (y.1 < x.2) = true ∧ decide (y.2 < n) = true ∧ Hid (minStep x n y = y.2)) := by
  unfold minStep
  by_cases h1 : x.1 < y.1
  · by_cases h2 : y.1 < x.2
    · by_cases h3 : y.2 < n
      · exact .inr (.inr (.inr ⟨decide_eq_true h1, decide_eq_true h2, decide_eq_true h3, if_pos ⟨h1, h2, h3⟩⟩))
      · exact .inr (.inr (.inl ⟨decide_eq_true h1, decide_eq_true h2, decide_eq_false h3, if_neg (fun h => h3 h.2.2)⟩))
    · exact .inr (.inl ⟨decide_eq_true h1, decide_eq_false h2, if_neg (fun h => h2 h.2.1)⟩)
  · exact .inl ⟨decide_eq_false h1, if_neg (fun h => h1 h.1)⟩
set_option maxHeartbeats 3200000 in
theorem min4 (s : List Sp) (x : Sp) (v : Value) (w : World) (hv : SpansIs s w v) (hl : s.length ≤ 9000) : Calls Try.prog 39 #[v, spV x] w (IntB (minTo s x s.length) w) := by
  obtain ⟨A, c, rfl, hA⟩ := hv.open_
  obtain ⟨x1, x2⟩ := x
  have HW := Lib.hid (within4 s (.slice A s.length c) x1 (w.alloc (.cells #[.int .i64 x1, .int .i64 x2] 74)) (hv.below (below_alloc _ _)) hl)
  have HB := Lib.hid (Box2.new w (.int .i64 x1) (.int .i64 x2) 74)
  have HA := Lib.hid (hA.below (below_alloc w (.cells #[.int .i64 x1, .int .i64 x2] 74)))
  have HL := Lib.hid (below_alloc w (.cells #[.int .i64 x1, .int .i64 x2] 74))
  have hm0 : Hid (minTo s (x1, x2) 0 = val s x1) := rfl
  unfold spV
  dsimp only
  clear hA hv
  go_enter Try.func39, Try.ntmps39
  go_wp2_with fail
  refine HW.out.mono ?_
  rintro e w1 ⟨rfl, rfl⟩
  go_wp2_with fail
  generalize w.alloc (.cells #[.int .i64 x1, .int .i64 x2] 74) = W at *
  go_loopw [5, 6] (fun n i wr => ∃ k : Nat, n = .int .i64 (minTo s (x1, x2) k) ∧ i = .int .i64 k ∧ k ≤ s.length ∧ Hid (∃ q, wr = W.drewN q)) (fun _ i _ => s.length - (intOf i).toNat)
  case atStart => exact ⟨0, by rw [hm0.out], rfl, Nat.zero_le _, ⟨0, rfl⟩⟩
  case round =>
    obtain ⟨k, rfl, rfl, hk, HQ⟩ := hrel
    obtain ⟨q, rfl⟩ := HQ.out
    by_cases hlt : k < s.length
    · obtain ⟨ad, rfl, had, c1, c2⟩ := HA.out k hlt
      obtain ⟨b0, b1, b2, b3, b4⟩ := HB.out
      have hways := min_ways (x1, x2) (s.getD k (0, 0)) (minTo s (x1, x2) k)
      have HN := Lib.hid (min_next (x := (x1, x2)) hlt)
      have hlt2 : (k : Int) < (s.length : Int) := by omega
      have i0 : (0 : Int) ≤ (k : Int) := Int.natCast_nonneg _
      unfold spCell at c1 c2
      dsimp only at c1 c2 hways
      generalize s.getD k (0, 0) = y at *
      generalize minTo s (x1, x2) k = n at *
      clear had HQ b0 b3 b4 HW
      rcases hways with ⟨h1, HM⟩ | ⟨h1, h2, HM⟩ | ⟨h1, h2, h3, HM⟩ | ⟨h1, h2, h3, HM⟩
      all_goals
        go_wp2_with fail
        go_quiet (fail)
        go_wp2_with fail
        exact ⟨⟨k + 1, by rw [HN.out, HM.out], by go_num, by omega, ⟨_, rfl⟩⟩, by simp [intOf] <;> omega⟩
    · obtain rfl : k = s.length := by omega
      go_wp2_with fail
      go_ret
      exact ⟨rfl, below_drewN HL.out q⟩
end Go.Proofs.Ytophhiejggnaeaa.StepRef
namespace Go.Proofs.Ytophhiejggnaeaa.StepRef
open Go.RowKit Go.Proofs.Ytophhiejggnaeaa.SpanPlain Go.Proofs.Ytophhiejggnaeaa.StepPlain Go.Proofs.Ytophhiejggnaeaa.Mem Go.Proofs.Ytophhiejggnaeaa.SpanMem Go.Proofs.Ytophhiejggnaeaa.StepMem Go.Proofs.Ytophhiejggnaeaa.SpanRef
theorem same_take {a b : List Sp} {k : Nat} (ha : k < a.length) (hb : k < b.length) (h : a.take k = b.take k) (he : a.getD k (0, 0) = b.getD k (0, 0)) : a.take (k + 1) = b.take (k + 1) := by
  rw [List.take_succ_eq_append_getElem ha, List.take_succ_eq_append_getElem hb, h]
  simp [List.getD, ha, hb] at he
  rw [he]
theorem same_not {a b : List Sp} {k : Nat} (he : a.getD k (0, 0) ≠ b.getD k (0, 0)) : a ≠ b := fun h => by subst h; exact he rfl
set_option maxHeartbeats 1600000 in
theorem same4 (a b : List Sp) (v u : Value) (w : World) (hv : SpansIs a w v) (hu : SpansIs b w u) (hl : a.length ≤ 4000) (hm : b.length ≤ 4000) : Calls Try.prog 16 #[v, u] w (BoolD (decide (a = b)) w) := by
  obtain ⟨A, c, rfl, hA⟩ := hv.open_
  obtain ⟨B, d, rfl, hB⟩ := hu.open_
  have HA := Lib.hid hA
  have HB := Lib.hid hB
  clear hA hB hv hu
  by_cases hlen : a.length = b.length
  · rw [← hlen] at HB ⊢
    have HL := Lib.hid hlen
    clear hlen hm
    go_enter Try.func16, Try.ntmps16
    go_wp2_with fail
    go_loopw [5] (fun i wr => ∃ k : Nat, i = .int .i64 k ∧ k ≤ a.length ∧ Hid (a.take k = b.take k) ∧ Hid (∃ q, wr = w.drewN q)) (fun i _ => a.length - (intOf i).toNat)
    case atStart => exact ⟨0, rfl, Nat.zero_le _, rfl, ⟨0, rfl⟩⟩
    case round =>
      obtain ⟨k, rfl, hk, HS, HW⟩ := hrel
      obtain ⟨q, rfl⟩ := HW.out
      by_cases hlt : k < a.length
      · obtain ⟨ad, rfl, had, c1, c2⟩ := HA.out k hlt
        obtain ⟨bd, rfl, hbd, d1, d2⟩ := HB.out k hlt
        have hlb : k < b.length := by rw [← HL.out]; exact hlt
        have HN := Lib.hid (fun h => same_take hlt hlb HS.out h)
        have HX := Lib.hid (fun h => same_not (a := a) (b := b) (k := k) h)
        unfold spCell at c1 c2 d1 d2
        dsimp only at c1 c2 d1 d2
        generalize a.getD k (0, 0) = s at *
        generalize b.getD k (0, 0) = r at *
        have hlt2 : (k : Int) < (a.length : Int) := by omega
        clear had hbd HW hlb
        by_cases he : s = r
        · subst he
          have HN2 := Lib.hid (HN.out rfl)
          go_wp2_with fail
          go_quiet (fail)
          go_wp2_with fail
          exact ⟨⟨k + 1, by go_num, by omega, HN2.out, ⟨_, rfl⟩⟩, by simp [intOf] <;> omega⟩
        · have HX2 := Lib.hid (HX.out he)
          have hne : (s.1 == r.1) = false ∨ ((s.1 == r.1) = true ∧ (s.2 == r.2) = false) := by
            by_cases h1 : s.1 = r.1
            · right; exact ⟨beq_iff_eq.2 h1, beq_eq_false_iff_ne.2 fun h2 => he (Prod.ext h1 h2)⟩
            · left; exact beq_eq_false_iff_ne.2 h1
          clear he
          rcases hne with h1 | ⟨h1, h2⟩
          all_goals
            go_wp2_with fail
            go_quiet (fail)
            go_wp2_with fail
            go_ret
            exact ⟨by rw [decide_eq_false HX2.out]; rfl, _, World.drewN_drewN _ _ _⟩
      · have h := HS.out
        rw [List.take_of_length_le (by omega), List.take_of_length_le (by rw [← HL.out]; omega)] at h
        have H := Lib.hid h
        clear h
        go_wp2_with fail
        go_ret
        exact ⟨by rw [decide_eq_true H.out]; rfl, q, rfl⟩
  · have hne : ((a.length : Int) != (b.length : Int)) = true := by rw [bne_iff_ne]; omega
    have H : Hid (a ≠ b) := fun h => hlen (by rw [h])
    clear hlen
    go_enter Try.func16, Try.ntmps16
    go_wp2_with fail
    go_ret
    exact ⟨by rw [decide_eq_false H.out]; rfl, 0, rfl⟩
end Go.Proofs.Ytophhiejggnaeaa.StepRef
namespace Go.Proofs.Ytophhiejggnaeaa.StepWalk
open Go.RowKit Go.Proofs.Ytophhiejggnaeaa.SpanPlain Go.Proofs.Ytophhiejggnaeaa.StepPlain Go.Proofs.Ytophhiejggnaeaa.Mem Go.Proofs.Ytophhiejggnaeaa.SpanMem Go.Proofs.Ytophhiejggnaeaa.StepMem Go.Proofs.Ytophhiejggnaeaa.SpanRef Go.Proofs.Ytophhiejggnaeaa.StepRef
/-- A slice whose memory, if there is any, is new from block B on. -/
def NewAt (B : Nat) (v : Value) : Prop := ∀ a n c, v = .slice (some a) n c → B ≤ a.block
theorem NewAt.nil {B : Nat} : NewAt B (.slice none 0 0) := fun _ _ _ h => by cases h
theorem NewAt.mono {B B' : Nat} {v : Value} (h : NewAt B v) (hb : B' ≤ B) : NewAt B' v := fun a n c e => Nat.le_trans hb (h a n c e)
theorem NewAt.own {e : TypeId} {k base n B : Nat} {w : World} {v : Value} {xs : List Value} (h : OwnN e k base w v n xs) (hb : B ≤ base) : NewAt B v := fun a m c e => by
  rcases h.form with ⟨h1, _⟩ | ⟨g, c', h1, h2, _⟩
  · rw [h1] at e; cases e
  · rw [h1] at e
    injection e with e
    injection e with e
    subst e
    exact Nat.le_trans hb h2
theorem NewAt.cut {B : Nat} {a : Addr} {n c m k : Nat} (h : NewAt B (.slice (some a) n c)) : NewAt B (.slice (some a) m k) := fun b i j e => by
  injection e with e
  injection e with e
  subst e
  exact h _ _ _ rfl
def PairIs (n : Int) (b : Bool) (w : World) (e : Ending) (w' : World) : Prop := e = .returned (.tuple #[.int .i64 n, .bool b]) ∧ Below w.heap.size w w'
def atB (s : List Sp) (t : Int) : Bool := chkB s && decide (head s ≤ t) && decide (t < 4503599627370496)
def atN (s : List Sp) (t : Int) : Int := if atB s t then val s t else 0
def minB (s : List Sp) (x : Sp) : Bool := chkB s && mayB x && decide (head s ≤ x.1)
def MinSays (s : List Sp) (x : Sp) (w : World) (e : Ending) (w' : World) : Prop := ∃ n, e = .returned (.tuple #[.int .i64 n, .bool (minB s x)]) ∧ ((minB s x = true ∧ MinOf s x n) ∨ (minB s x = false ∧ n = 0)) ∧ Below w.heap.size w w'
def AddSays (s : List Sp) (x : Sp) (n : Int) (w : World) (e : Ending) (w' : World) : Prop := ∃ v r, e = .returned v ∧ SpansIs r w' v ∧ AddIs s x n r ∧ Below w.heap.size w w' ∧ NewAt w.heap.size v
end Go.Proofs.Ytophhiejggnaeaa.StepWalk
namespace Go.Proofs.Ytophhiejggnaeaa.GapRef
open Go.RowKit Go.Proofs.Ytophhiejggnaeaa.SpanPlain Go.Proofs.Ytophhiejggnaeaa.StepPlain Go.Proofs.Ytophhiejggnaeaa.GapPlain Go.Proofs.Ytophhiejggnaeaa.Mem Go.Proofs.Ytophhiejggnaeaa.SpanMem Go.Proofs.Ytophhiejggnaeaa.StepMem Go.Proofs.Ytophhiejggnaeaa.SpanRef Go.Proofs.Ytophhiejggnaeaa.StepRef
theorem mayg_ways (s : List Sp) (w n : Int) : (mayG s w n = false ∧ chkB s = false) ∨ (mayG s w n = false ∧ chkB s = true ∧ decide (1 ≤ w) = false) ∨ (mayG s w n = false ∧ chkB s = true ∧ decide (1 ≤ w) = true ∧ decide (w ≤ 256) = false) ∨
    (mayG s w n = false ∧ chkB s = true ∧ decide (1 ≤ w) = true ∧ decide (w ≤ 256) = true ∧ decide (1 ≤ n) = false) ∨ (mayG s w n = false ∧ chkB s = true ∧ decide (1 ≤ w) = true ∧ decide (w ≤ 256) = true ∧ decide (1 ≤ n) = true ∧ decide (n ≤ 1099511627776) = false) ∨
    (mayG s w n = true ∧ chkB s = true ∧ decide (1 ≤ w) = true ∧ decide (w ≤ 256) = true ∧ decide (1 ≤ n) = true ∧ decide (n ≤ 1099511627776) = true) := by
  unfold mayG
  cases chkB s <;> cases decide (1 ≤ w) <;> cases decide (w ≤ 256) <;> cases decide (1 ≤ n) <;> cases decide (n ≤ 1099511627776) <;> simp
set_option maxHeartbeats 1600000 in
theorem may6 (s : List Sp) (a n : Int) (v : Value) (w : World) (hv : SpansIs s w v) (hl : s.length ≤ 9000) : Calls Try.prog 24 #[v, .int .i64 a, .int .i64 n] w (BoolIs (mayG s a n) w) := by
  have CC := Lib.hid (check4 s v w hv hl)
  have hw := mayg_ways s a n
  clear hv
  rcases hw with ⟨hm, hc⟩ | ⟨hm, hc, h1⟩ | ⟨hm, hc, h1, h2⟩ | ⟨hm, hc, h1, h2, h3⟩ | ⟨hm, hc, h1, h2, h3, h4⟩ | ⟨hm, hc, h1, h2, h3, h4⟩
  all_goals
    rw [hc] at CC
    rw [hm]
    clear hm hc
    go_enter Try.func24, Try.ntmps24
    go_wp2_with fail
    refine CC.out.mono ?_
    rintro e w1 ⟨rfl, q, rfl⟩
    go_wp2_with fail
    go_ret
    exact ⟨rfl, below_drewN (Below.refl _ _) q⟩
theorem roomb_ways (s : List Sp) (a w n : Int) : (roomB s a w n = false ∧ decide (head s ≤ a) = false) ∨ (roomB s a w n = false ∧ decide (head s ≤ a) = true ∧ decide (a ≤ 1125899906842624) = false) ∨
    (decide (head s ≤ a) = true ∧ decide (a ≤ 1125899906842624) = true ∧ roomB s a w n = decide (w ≤ minTo s (a, a + n) s.length)) := by
  unfold roomB
  cases decide (head s ≤ a) <;> cases decide (a ≤ 1125899906842624) <;> simp
set_option maxHeartbeats 1600000 in
theorem ok6 (s : List Sp) (a m n : Int) (v : Value) (w : World) (hv : SpansIs s w v) (hl : s.length ≤ 9000) (hc : Chk s) (hn1 : 1 ≤ n) (hn2 : n ≤ 1099511627776) :
    Calls Try.prog 25 #[v, .int .i64 a, .int .i64 m, .int .i64 n] w (BoolIs (roomB s a m n) w) := by
  have CM := Lib.hid (min4 s (a, a + n) v w hv hl)
  obtain ⟨A, c, rfl, hA⟩ := hv.open_
  obtain ⟨ad, rfl, had, c1, _⟩ := pair_zero hA hc.pos
  have hh : (spCell s 0).1 = .int .i64 (head s) := rfl
  rw [hh] at c1
  have hlz : (0 : Int) < (s.length : Int) := by have := hc.pos; omega
  have hlo := hc.lo
  have hw := roomb_ways s a m n
  unfold spV at CM
  dsimp only at CM
  clear hv hA hh hc
  generalize head s = h at *
  rcases hw with ⟨hr, h1⟩ | ⟨hr, h1, h2⟩ | ⟨h1, h2, hr⟩
  · rw [hr]
    clear hr CM
    go_enter Try.func25, Try.ntmps25
    go_wp2_with fail
    go_ret
    exact ⟨rfl, Below.refl _ _⟩
  · rw [hr]
    clear hr CM
    go_enter Try.func25, Try.ntmps25
    go_wp2_with fail
    go_ret
    exact ⟨rfl, Below.refl _ _⟩
  · have a1 := of_decide_eq_true h1
    have a2 := of_decide_eq_true h2
    generalize minTo s (a, a + n) s.length = x at *
    generalize roomB s a m n = R at *
    subst hr
    cases hx : decide (m ≤ x)
    all_goals
      go_enter Try.func25, Try.ntmps25
      go_wp2_with fail
      refine CM.out.mono ?_
      rintro e w1 ⟨rfl, hb1⟩
      have HB1 := Lib.hid hb1
      clear hb1
      go_wp2_with fail
      go_ret
      exact ⟨rfl, HB1.out⟩
end Go.Proofs.Ytophhiejggnaeaa.GapRef
namespace Go.Proofs.Ytophhiejggnaeaa.GapRef
open Go.RowKit Go.Proofs.Ytophhiejggnaeaa.SpanPlain Go.Proofs.Ytophhiejggnaeaa.StepPlain Go.Proofs.Ytophhiejggnaeaa.GapPlain Go.Proofs.Ytophhiejggnaeaa.Mem Go.Proofs.Ytophhiejggnaeaa.SpanMem Go.Proofs.Ytophhiejggnaeaa.StepMem Go.Proofs.Ytophhiejggnaeaa.SpanRef Go.Proofs.Ytophhiejggnaeaa.StepRef
theorem drop_at {s : List Sp} {k : Nat} (h : k < s.length) : s.drop k = nth s k :: s.drop (k + 1) := by unfold nth; rw [getSp h, List.drop_eq_getElem_cons h]
end Go.Proofs.Ytophhiejggnaeaa.GapRef
namespace Go.Proofs.Ytophhiejggnaeaa.GapRef
open Go.RowKit Go.Proofs.Ytophhiejggnaeaa.SpanPlain Go.Proofs.Ytophhiejggnaeaa.StepPlain Go.Proofs.Ytophhiejggnaeaa.GapPlain Go.Proofs.Ytophhiejggnaeaa.Mem Go.Proofs.Ytophhiejggnaeaa.SpanMem Go.Proofs.Ytophhiejggnaeaa.StepMem Go.Proofs.Ytophhiejggnaeaa.SpanRef Go.Proofs.Ytophhiejggnaeaa.StepRef
end Go.Proofs.Ytophhiejggnaeaa.GapRef
namespace Go.Proofs.Ytophhiejggnaeaa.GapWalk
open Go.RowKit Go.Proofs.Ytophhiejggnaeaa.SpanPlain Go.Proofs.Ytophhiejggnaeaa.StepPlain Go.Proofs.Ytophhiejggnaeaa.GapPlain Go.Proofs.Ytophhiejggnaeaa.Mem Go.Proofs.Ytophhiejggnaeaa.SpanMem Go.Proofs.Ytophhiejggnaeaa.StepMem Go.Proofs.Ytophhiejggnaeaa.SpanRef Go.Proofs.Ytophhiejggnaeaa.StepRef Go.Proofs.Ytophhiejggnaeaa.GapRef
def FitSays (s : List Sp) (f m n : Int) (w : World) (e : Ending) (w' : World) : Prop := ∃ r b, e = .returned (.tuple #[.int .i64 r, .bool b]) ∧ FitIs s f m n r b ∧ Below w.heap.size w w'
def WideSays (s : List Sp) (a n : Int) (w : World) (e : Ending) (w' : World) : Prop := ∃ m, e = .returned (.int .i64 m) ∧ WideIs s a n m ∧ Below w.heap.size w w'
end Go.Proofs.Ytophhiejggnaeaa.GapWalk
namespace Go.Proofs.Ytophhiejggnaeaa.StepRef
open Go.RowKit Go.Proofs.Ytophhiejggnaeaa.SpanPlain Go.Proofs.Ytophhiejggnaeaa.StepPlain Go.Proofs.Ytophhiejggnaeaa.Mem Go.Proofs.Ytophhiejggnaeaa.SpanMem Go.Proofs.Ytophhiejggnaeaa.StepMem Go.Proofs.Ytophhiejggnaeaa.SpanRef
theorem OwnR.one (w : World) (e : TypeId) (k : IntKind) (n : Int) : OwnR e 1 w.heap.size (w.alloc (.cells #[.int k n] e)) (.slice (some ⟨w.heap.size, 0, none⟩) 1 1) 1 [.int k n] :=
  ⟨World.ownsRow_lit w #[.int k n] 1 (Nat.le_refl _) (by decide) rfl, by simp, by simp⟩
end Go.Proofs.Ytophhiejggnaeaa.StepRef
namespace Go.Proofs.Ytophhiejggnaeaa.StepRef
open Go.RowKit Go.Proofs.Ytophhiejggnaeaa.SpanPlain Go.Proofs.Ytophhiejggnaeaa.StepPlain Go.Proofs.Ytophhiejggnaeaa.Mem Go.Proofs.Ytophhiejggnaeaa.SpanMem Go.Proofs.Ytophhiejggnaeaa.StepMem Go.Proofs.Ytophhiejggnaeaa.SpanRef
theorem own_one (w : World) (e : TypeId) (a b : Int) : OwnN e 2 w.heap.size (w.alloc (.cells #[.int .i64 a, .int .i64 b] e)) (.slice (some ⟨w.heap.size, 0, none⟩) 1 1) 1 [.int .i64 a, .int .i64 b] :=
  ⟨World.ownsRow_lit w #[.int .i64 a, .int .i64 b] 1 (Nat.le_refl _) (by decide) rfl, by simp⟩
end Go.Proofs.Ytophhiejggnaeaa.StepRef
namespace Go.Proofs.Ytophhiejggnaeaa.StepRef
open Go.RowKit Go.Proofs.Ytophhiejggnaeaa.SpanPlain Go.Proofs.Ytophhiejggnaeaa.StepPlain Go.Proofs.Ytophhiejggnaeaa.Mem Go.Proofs.Ytophhiejggnaeaa.SpanMem Go.Proofs.Ytophhiejggnaeaa.StepMem Go.Proofs.Ytophhiejggnaeaa.SpanRef
/-- The same, and that it lies in new memory. -/
def AddTellsN (s : List Sp) (x : Sp) (n : Int) (w : World) (e : Ending) (w' : World) : Prop :=
  ∃ v r b, e = .returned (.tuple #[v, .bool b]) ∧ SpansIs r w' v ∧ r.length ≤ 700 ∧ ((b = true ∧ Rep r (head s) (addF s x n)) ∨ (b = false ∧ r = [] ∧ addOut s x n)) ∧ Below w.heap.size w w' ∧ ∀ a m c, v = .slice (some a) m c → w.heap.size ≤ a.block
theorem own_new {e : TypeId} {k base n B : Nat} {w : World} {v : Value} {xs : List Value} (h : OwnN e k base w v n xs) (hb : B ≤ base) : ∀ a m c, v = .slice (some a) m c → B ≤ a.block := fun a m c e => by
  rcases h.form with ⟨h1, _⟩ | ⟨g, c2, hv, hg, _⟩
  · rw [h1] at e; cases e
  · rw [hv] at e
    injection e with e
    injection e with e
    subst e
    exact Nat.le_trans hb hg
def AddA (s : List Sp) (x : Sp) (B : Nat) (w wr : World) (v : Value) (k : Nat) : Prop := OwnN 74 2 B wr v (addSpans (s.take k) x).length (svals (addSpans (s.take k) x)) ∧ Below B w wr
theorem own_one_at {w : World} {n : Nat} (h : w.heap.size = n) (e : TypeId) (a b : Int) : OwnN e 2 n (w.alloc (.cells #[.int .i64 a, .int .i64 b] e)) (.slice (some ⟨n, 0, none⟩) 1 1) 1 [.int .i64 a, .int .i64 b] := by
  subst h; exact own_one w e a b
def AddB (s : List Sp) (x : Sp) (n : Int) (el : List Int) (w wr : World) (v : Value) (k : Nat) : Prop :=
  OwnN 59 2 w.heap.size wr v (buildL (addF s x n) ((el.take k).filter (keepB s x))).length (svals (buildL (addF s x n) ((el.take k).filter (keepB s x)))) ∧ (∀ e ∈ (el.take k).filter (keepB s x), 0 ≤ addF s x n e ∧ addF s x n e ≤ 256) ∧ Below w.heap.size w wr
theorem spans_take {s : List Sp} {x : Sp} {k : Nat} (hk : k < s.length) : addSpans (s.take (k + 1)) x = addSpans (s.take k) x ++ [((s.getD k (0, 0)).1, 4503599627370496)] := by
  unfold addSpans
  rw [List.take_succ_eq_append_getElem hk, List.map_append, getSp hk]
  rfl
theorem spans_len (s : List Sp) (x : Sp) (k : Nat) : (addSpans (s.take k) x).length ≤ k + 1 := by
  unfold addSpans
  rw [List.length_cons, List.length_map, List.length_take]
  omega
theorem keep_take {s : List Sp} {x : Sp} {el : List Int} {k : Nat} (hk : k < el.length) : (el.take (k + 1)).filter (keepB s x) = (el.take k).filter (keepB s x) ++ if keepB s x (el.getD k 0) then [el.getD k 0] else [] := by
  rw [List.take_succ_eq_append_getElem hk, List.filter_append, getD_el hk, List.filter_cons, List.filter_nil]
theorem keep_ways (s : List Sp) (x : Sp) (e : Int) : (decide (val s e < 0) = true ∧ Hid (keepB s x e = false)) ∨ (decide (val s e < 0) = false ∧ (e == 4503599627370496) = false ∧ Hid (keepB s x e = true)) ∨
    (decide (val s e < 0) = false ∧ (e == 4503599627370496) = true ∧ (e != x.2) = false ∧ Hid (keepB s x e = true)) ∨ (decide (val s e < 0) = false ∧ (e == 4503599627370496) = true ∧ (e != x.2) = true ∧ (lastAt s != 4503599627370496) = true ∧ Hid (keepB s x e = false)) ∨
    (decide (val s e < 0) = false ∧ (e == 4503599627370496) = true ∧ (e != x.2) = true ∧ (lastAt s != 4503599627370496) = false ∧ Hid (keepB s x e = true)) := by
  unfold keepB
  cases decide (val s e < 0) with
  | true => exact .inl ⟨rfl, rfl⟩
  | false =>
    cases (e == 4503599627370496) with
    | false => exact .inr (.inl ⟨rfl, rfl, rfl⟩)
    | true =>
      cases (e != x.2) with
      | false => exact .inr (.inr (.inl ⟨rfl, rfl, rfl, rfl⟩))
      | true =>
        cases (lastAt s != 4503599627370496) with
        | true => exact .inr (.inr (.inr (.inl ⟨rfl, rfl, rfl, rfl, rfl⟩)))
        | false => exact .inr (.inr (.inr (.inr ⟨rfl, rfl, rfl, rfl, rfl⟩)))
theorem sp_one {w : World} {n : Nat} (e : w.heap.size = n) (s : Sp) (T : TypeId) : SpansIs [s] (w.alloc (.cells #[.int .i64 s.1, .int .i64 s.2] T)) (.slice (some ⟨n, 0, none⟩) 1 1) := by
  subst e; exact .inr ⟨_, _, rfl, Raw.alloc w #[.int .i64 s.1, .int .i64 s.2] T, Nat.le_refl _⟩
theorem last_pair {w : World} {A : Option Addr} {s : List Sp} (h : Pairs w A s.length (spCell s)) (hn : 0 < s.length) : ∃ ad, A = some ad ∧ ad.block < w.heap.size ∧ w.cell? (ad.add ((s.length - 1) * 2)) = some (.int .i64 (lastAt s)) := by
  obtain ⟨ad, rfl, had, c1, _⟩ := h (s.length - 1) (by omega)
  exact ⟨ad, rfl, had, c1⟩
theorem addF_at (s : List Sp) (x : Sp) (n e : Int) : addF s x n e = if hasB x e then val s e + n else val s e := rfl
theorem has_one (x : Sp) (t : Int) (v : Value) (w : World) (h : SpansIs [x] w v) : Calls Try.prog 42 #[v, .int .i64 t] w (BoolIs (hasB x t) w) := by
  have h1 := has_is [x] v t w h (by simp)
  rwa [any_cons, any_nil, Bool.or_false] at h1
theorem val_range {s : List Sp} (h : Chk s) (t : Int) : -1 ≤ val s t ∧ val s t ≤ 256 := by
  by_cases ht : head s ≤ t
  · have := h.val_free ht; omega
  · rw [h.val_early (by omega)]; omega
set_option maxRecDepth 100000 in
set_option maxHeartbeats 6400000 in
theorem add4n (s : List Sp) (x : Sp) (n : Int) (v : Value) (w : World) (hv : SpansIs s w v) (hl : s.length ≤ 200) (hc : Chk s) (hx : May x) (hn1 : -256 ≤ n) (hn2 : n ≤ 256) :
    Calls Try.prog 26 #[v, spV x, .int .i64 n] w (AddTellsN s x n w) := by
  obtain ⟨A, c, rfl, hA⟩ := hv.open_
  have HC := Lib.hid hc
  have HX := Lib.hid hx
  have HV := Lib.hid (hv.below (below_alloc w (.cells #[.int .i64 x.1, .int .i64 x.2] 74)))
  have HBX := Lib.hid (Box2.new w (.int .i64 x.1) (.int .i64 x.2) 74)
  have HA := Lib.hid (hA.below (below_alloc w (.cells #[.int .i64 x.1, .int .i64 x.2] 74)))
  have HL0 := Lib.hid (below_alloc w (.cells #[.int .i64 x.1, .int .i64 x.2] 74))
  have hpos := hc.pos
  clear hA hv hc hx
  unfold spV
  go_enter Try.func26, Try.ntmps26
  go_upto_region 2 with fail
  have hsz : (w.alloc (.cells #[.int .i64 x.1, .int .i64 x.2] 74)).heap.size = w.heap.size + 1 := by simp
  have HSZ := Lib.hid hsz
  clear hsz
  generalize w.alloc (.cells #[.int .i64 x.1, .int .i64 x.2] 74) = W at *
  have HO := Lib.hid (own_one_at HSZ.out 74 x.1 x.2)
  go_wp2_with fail
  go_loopw [8, 9] (fun o i wr => ∃ (k : Nat) (v : Value), v = o ∧ i = .int .i64 k ∧ k ≤ s.length ∧ Hid (AddA s x (w.heap.size + 1) W wr v k)) (fun _ i _ => s.length - (intOf i).toNat)
  case atStart => exact ⟨0, _, rfl, rfl, Nat.zero_le _, HO.out, (Below.refl _ _).alloc (by rw [HSZ.out]; exact Nat.le_refl _) _⟩
  case round =>
    obtain ⟨k, o, hov, rfl, hk, HL⟩ := hrel
    subst hov
    by_cases hlt : k < s.length
    · obtain ⟨hown, hbl⟩ := HL.out
      obtain ⟨ad, rfl, had, c1, c2⟩ := (HA.out.below (by rw [HSZ.out]; exact hbl)) k hlt
      have HS := Lib.hid (spans_take (x := x) hlt)
      have hsl := spans_len s x k
      have hsize := hbl.size
      rw [HSZ.out] at hsize
      have HOW := Lib.hid hown
      have HBL := Lib.hid hbl
      unfold spCell at c1 c2
      dsimp only at c1 c2
      clear hown hbl HL had
      unfold AddA
      generalize s.getD k (0, 0) = y at *
      generalize addSpans (s.take k) x = sp at *
      have HOA := Lib.hid (HOW.out.alloc (.cells #[.int .i64 y.1, .int .i64 4503599627370496] 74))
      go_wp2_with (at_builtin; refine push_own spans_t rfl (.tmp 22) (.tmp 29) rfl (w.heap.size + 1) _ _ _ rfl HOA.out _ 1 [.int .i64 y.1, .int .i64 4503599627370496] rfl rfl ?h1a two_cells ?h1b ?_)
      case h1a => exact raw_at rfl #[.int .i64 y.1, .int .i64 4503599627370496] _
      case h1b => omega
      intro v3 w3 ho3 hb3 hg3
      have HO3 := Lib.hid ho3
      have HB3 := Lib.hid ((HBL.out.alloc hsize _).trans hb3)
      clear ho3 hb3 hg3
      go_wp2_with fail
      exact ⟨⟨k + 1, _, rfl, by go_num, by omega, HO3.out.cast (by rw [HS.out]; simp) (by rw [HS.out]; exact (svals_snoc sp (y.1, 4503599627370496)).symm), HB3.out⟩, by simp [intOf] <;> omega⟩
    · obtain ⟨hown, hbl⟩ := HL.out
      rw [List.take_of_length_le (by omega)] at hown
      have hsp : SpansIs (addSpans s x) wr o := spans_of_own hown rfl
      have hal := add_len s x
      have HE := Lib.hid (ends_any (addSpans s x) o wr hsp (by omega))
      have hel : (endsL (addSpans s x)).length ≤ 402 := by have := (ends_spec (addSpans s x)).2.2; omega
      have HEL := Lib.hid (show addEnds s x = (endsL (addSpans s x)).filter (keepB s x) from rfl)
      have HB1 := Lib.hid (show Below W.heap.size W wr by rw [HSZ.out]; exact hbl)
      clear hown hbl HL hsp hal
      generalize endsL (addSpans s x) = es at *
      go_wp2_with fail
      refine HE.out.mono ?_
      rintro e w2 ⟨ve, rfl, hE, hb2⟩
      obtain ⟨ea, ec, rfl, hre, _, _⟩ := hE
      have HRE := Lib.hid hre
      have HB2 := Lib.hid (below_then HB1.out hb2)
      have HO2 := Lib.hid (OwnR.new w2 59 2).toN
      clear hre hb2 HE HO
      go_wp2_with fail
      go_loopw [11, 12] (fun o i wr => ∃ (k : Nat) (v : Value), v = o ∧ i = .int .i64 k ∧ k ≤ es.length ∧ Hid (AddB s x n es w2 wr v k)) (fun _ i _ => es.length - (intOf i).toNat)
      case atStart => exact ⟨0, _, rfl, rfl, Nat.zero_le _, HO2.out, fun e he => by simp at he, (Below.refl _ _).alloc (Nat.le_refl _) _⟩
      case round =>
        obtain ⟨k, o, hov, rfl, hk, HL⟩ := hrel
        subst hov
        by_cases hlt : k < es.length
        · obtain ⟨hown, hall, hbl⟩ := HL.out
          have c1 := (HRE.out.below hbl).int hlt
          have HAB := Lib.hid (fun (w' : World) (hb : Below w2.heap.size w2 w') => last_pair (HA.out.below (below_then HB2.out hb)) hpos)
          obtain ⟨ad, hAd, had, c2⟩ := HAB.out wr hbl
          subst hAd
          have hbx := (HBX.out.below HB2.out).under hbl (Nat.lt_of_lt_of_le (by rw [HSZ.out]; exact Nat.lt_succ_self _) HB2.out.size)
          obtain ⟨b0, b1, b2, _, _⟩ := hbx
          have HKT := Lib.hid (keep_take (s := s) (x := x) hlt)
          have hkw := keep_ways s x (es.getD k 0)
          have HF := Lib.hid (addF_at s x n (es.getD k 0))
          have HIN := Lib.hid (getD_mem hlt)
          have CW := Lib.hid (within4 s (.slice (some ad) s.length c) (es.getD k 0) wr (HV.out.below (below_then HB2.out hbl)) (by omega))
          have i0 : (0 : Int) ≤ (k : Int) := Int.natCast_nonneg _
          have i1 : (k : Int) < (es.length : Int) := by omega
          have j1 : IntKind.i64.wrap ((s.length : Int) - 1) = (s.length : Int) - 1 := by rw [IntKind.wrap_i64]; omega
          have j2 : (0 : Int) ≤ (s.length : Int) - 1 := by omega
          have j3 : (s.length : Int) - 1 < (s.length : Int) := by omega
          have j4 : ((s.length : Int) - 1).toNat = s.length - 1 := by omega
          have j5 : (1 : Int) ≤ (s.length : Int) := by omega
          have HOW := Lib.hid hown
          have HALL := Lib.hid hall
          have HBL := Lib.hid hbl
          have HKB := Lib.hid (show ∀ e, e ∈ es → keepB s x e = true → e ∈ addEnds s x from fun e h1 h2 => by rw [HEL.out]; exact List.mem_filter.2 ⟨h1, h2⟩)
          have HOUT := Lib.hid (show keepB s x (es.getD k 0) = true → ¬ (0 ≤ addF s x n (es.getD k 0) ∧ addF s x n (es.getD k 0) ≤ 256) → addOut s x n from fun h1 h2 => ⟨_, ((keep_iff HC.out).1 h1).1, h2⟩)
          have hvr := val_range HC.out (es.getD k 0)
          have HBT := Lib.hid (build_snoc (addF s x n) ((es.take k).filter (keepB s x)) (es.getD k 0))
          have HALN := Lib.hid (show (0 ≤ addF s x n (es.getD k 0) ∧ addF s x n (es.getD k 0) ≤ 256) → ∀ e ∈ (es.take k).filter (keepB s x) ++ [es.getD k 0], 0 ≤ addF s x n e ∧ addF s x n e ≤ 256 from fun h e he => by
            rcases List.mem_append.1 he with he | he
            · exact HALL.out e he
            · simp at he; subst he; exact h)
          have hbl3 : (buildL (addF s x n) ((es.take k).filter (keepB s x))).length ≤ k := by
            have h1 := build_len (addF s x n) ((es.take k).filter (keepB s x))
            have h2 := List.length_filter_le (keepB s x) (es.take k)
            rw [List.length_take] at h2
            omega
          have CH := Lib.hid (fun (W : World) v (h : SpansIs [x] W v) => has_one x (es.getD k 0) v W h)
          have HAS := Lib.hid (add_first (addF s x n) (es.getD k 0))
          have HAE : Hid (∀ d q, q.2 = addF s x n (es.getD k 0) → addStep (addF s x n) (d ++ [q]) (es.getD k 0) = d ++ [q]) := fun d q h => add_same h
          have HAN : Hid (∀ d q, q.2 ≠ addF s x n (es.getD k 0) → addStep (addF s x n) (d ++ [q]) (es.getD k 0) = d ++ [q] ++ [(es.getD k 0, addF s x n (es.getD k 0))]) := fun d q h => add_new h
          have hea := (HRE.out.below hbl).intlt hlt
          clear hown hall hbl HL had HAB
          unfold AddB
          generalize es.getD k 0 = t at *
          generalize lastAt s = la at *
          generalize val s t = f at *
          generalize hasB x t = h at *
          generalize addF s x n t = F at *
          generalize hK : keepB s x t = K at *
          clear hK
          go_wp2_with fail
          refine CW.out.mono ?_
          rintro e w3 ⟨rfl, rfl⟩
          go_upto_region 12 with fail
          go_cut [73] from 46 to 73 (fun c wc => c = .bool (!K) ∧ ∃ q, wc = wr.drewN q)
          case first =>
            clear CW HKT HF HIN HOW HALL HBL HKB HOUT HBT HALN CH HAS HAE HAN HO2 HEL HB1 HA HV
            rcases hkw with ⟨k1, HO⟩ | ⟨k1, k2, HO⟩ | ⟨k1, k2, k3, HO⟩ | ⟨k1, k2, k3, k4, HO⟩ | ⟨k1, k2, k3, k4, HO⟩
            all_goals
              obtain rfl := HO.out
              clear HO
              go_wp2_with fail
              go_quiet (fail)
              go_wp2_with fail
              go_meet
              exact ⟨rfl, _, rfl⟩
          case rest =>
            obtain ⟨rfl, q, rfl⟩ := hcut
            clear hkw CW
            cases K with
            | false =>
              go_wp2_with fail
              exact ⟨⟨k + 1, _, rfl, by go_num, by omega, by rw [HKT.out]; simpa using HOW.out.drewN q, by rw [HKT.out]; simpa using HALL.out, below_drewN HBL.out q⟩, by simp [intOf] <;> omega⟩
            | true =>
              have HKN : Hid ((es.take (k + 1)).filter (keepB s x) = (es.take k).filter (keepB s x) ++ [t]) := by rw [HKT.out]; rfl
              have e1 : (wr.drewN q).cell? (ea.add k) = some (.int .i64 t) := c1
              have e2 : (wr.drewN q).cell? ⟨w.heap.size, 0, none⟩ = some (.int .i64 x.1) := b1
              have e3 : (wr.drewN q).cell? ⟨w.heap.size, 1, none⟩ = some (.int .i64 x.2) := b2
              have HOW5 := Lib.hid (HOW.out.drewN q)
              have HBL5 := Lib.hid (below_drewN HBL.out q)
              have HE0 : Hid (ea.block < (wr.drewN q).heap.size) := hea
              have HE1 : Hid (w.heap.size < (wr.drewN q).heap.size) := b0
              clear c1 c2 b0 b1 b2 hea HOW HBL HKT HEL
              go_wp2_with fail
              generalize wr.drewN q = W5 at *
              go_region_held3 (fun w' => w'.cell? (ea.add k) = some (.int .i64 t) ∧ w'.cell? ⟨w.heap.size, 0, none⟩ = some (.int .i64 x.1) ∧ w'.cell? ⟨w.heap.size, 1, none⟩ = some (.int .i64 x.2))
                (first | go_keep | (go_split_ands; exact ⟨(hb5.cell (p := ea.add k) (by rw [add_block]; have := HE0.out; simp; omega)).trans (by assumption), (hb5.cell (p := ⟨w.heap.size, 0, none⟩) (by have := HE1.out; simp; omega)).trans (by assumption), (hb5.cell (p := ⟨w.heap.size, 1, none⟩) (by have := HE1.out; simp; omega)).trans (by assumption)⟩))
                (first | (go_at_call_of 42 (Value.slice (some ⟨W5.heap.size, 0, none⟩) 1 1); (refine (CH.out (W5.alloc (.cells #[.int .i64 x.1, .int .i64 x.2] 74)).drew _ (sp_one rfl x 74)).mono ?_; rintro e w5 ⟨rfl, hb6⟩; have hb5 := below_of_drew hb6; clear hb6)))
              have HO5 := Lib.hid ((HOW5.out.alloc (.cells #[.int .i64 x.1, .int .i64 x.2] 74)).below hb5)
              have HBL6 := Lib.hid ((HBL5.out.alloc HBL5.out.size _).trans (hb5.mono (by have := HBL5.out.size; simp; omega)))
              have d1 : w5.cell? (ea.add k) = some (.int .i64 t) := ((below_then (below_alloc W5 (.cells #[.int .i64 x.1, .int .i64 x.2] 74)) hb5).cell (p := ea.add k) (by rw [add_block]; exact HE0.out)).trans e1
              clear hb5 HOW5 HBL5 CH HE0 HE1
              go_upto_if 80 with fail
              go_cut [13] from 81 to 83 (fun c wc => c = .int .i64 F ∧ w5 = wc)
              case first =>
                cases h with
                | true =>
                  obtain rfl : F = f + n := HF.out
                  clear HF HALL HALN HKB HBT HAS HAE HAN HKN HOUT HBL6 HO5
                  obtain ⟨v1, v2⟩ := hvr
                  go_wp2_with fail
                  go_meet
                  exact ⟨rfl, rfl⟩
                | false =>
                  obtain rfl : F = f := HF.out
                  clear HF HALL HALN HKB HBT HAS HAE HAN HKN HOUT HBL6 HO5
                  go_wp2_with fail
                  go_meet
                  exact ⟨rfl, rfl⟩
              case rest =>
                obtain ⟨rfl, rfl⟩ := hcut
                clear HF hvr
                have hways : (decide (F < 0) = true ∧ Hid (addOut s x n)) ∨ (decide (F < 0) = false ∧ decide (256 < F) = true ∧ Hid (addOut s x n)) ∨ (decide (F < 0) = false ∧ decide (256 < F) = false ∧ Hid (0 ≤ F ∧ F ≤ 256)) := by
                  by_cases h1 : F < 0
                  · exact .inl ⟨decide_eq_true h1, HOUT.out (by trivial) (by omega)⟩
                  · by_cases h2 : 256 < F
                    · exact .inr (.inl ⟨decide_eq_false h1, decide_eq_true h2, HOUT.out (by trivial) (by omega)⟩)
                    · exact .inr (.inr ⟨decide_eq_false h1, decide_eq_false h2, ⟨by omega, by omega⟩⟩)
                clear HOUT
                rcases hways with ⟨h1, HO⟩ | ⟨h1, h2, HO⟩ | ⟨h1, h2, HR⟩
                · go_wp2_with fail
                  go_ret2
                  exact ⟨_, [], false, rfl, .inl ⟨rfl, rfl⟩, by simp, .inr ⟨rfl, rfl, HO.out⟩, below_then HL0.out (below_then HB2.out HBL6.out), fun _ _ _ h => by cases h⟩
                · go_wp2_with fail
                  go_ret2
                  exact ⟨_, [], false, rfl, .inl ⟨rfl, rfl⟩, by simp, .inr ⟨rfl, rfl, HO.out⟩, below_then HL0.out (below_then HB2.out HBL6.out), fun _ _ _ h => by cases h⟩
                · have HAL2 := Lib.hid (HALN.out HR.out)
                  clear HALN HALL HR
                  generalize buildL (addF s x n) ((es.take k).filter (keepB s x)) = out at *
                  have hsn := snoc_ways out
                  rcases hsn with rfl | ⟨d, q, rfl⟩
                  · have HE := Lib.hid (HBT.out.trans HAS.out)
                    have HOA := Lib.hid (HO5.out.alloc (.cells #[.int .i64 t, .int .i64 F] 59))
                    clear HBT HAS HAE HAN
                    obtain ⟨B, cb, rfl⟩ := HO5.out.shape
                    go_wp2_with (at_builtin; refine push_own steps_t rfl (.tmp 104) (.tmp 111) rfl w2.heap.size _ _ _ rfl HOA.out _ 1 [.int .i64 t, .int .i64 F] rfl rfl ?h3a two_cells ?h3b ?_)
                    case h3a => exact raw_at (by simp) #[.int .i64 t, .int .i64 F] _
                    case h3b => simp <;> omega
                    intro v6 w6 ho6 hb6 hg6
                    have HO6 := Lib.hid ho6
                    have HB6 := Lib.hid ((HBL6.out.alloc HBL6.out.size _).trans hb6)
                    clear ho6 hb6 hg6
                    go_wp2_with fail
                    exact ⟨⟨k + 1, _, rfl, by go_num, by omega, by rw [HKN.out, HE.out]; exact HO6.out, by rw [HKN.out]; exact HAL2.out, HB6.out⟩, by simp [intOf] <;> omega⟩
                  · have hdl : d.length + 1 ≤ k := by simpa using hbl3
                    have HOQ : Hid (OwnN 59 2 w2.heap.size w5 o (d.length + 1) (svals (d ++ [q]))) := by
                      have h := HO5.out
                      rw [List.length_append, List.length_singleton] at h
                      exact h
                    obtain ⟨g, cap, hv, hg1, hg2, hgc, _⟩ := HOQ.out.there
                    have ce := hgc _ _ (last_cell d q)
                    clear hgc
                    subst hv
                    have q0 : (0 : Int) ≤ (d.length : Int) := Int.natCast_nonneg _
                    have q1 : (d.length : Int) < (d.length : Int) + 1 := by omega
                    have q2 : IntKind.i64.wrap ((d.length : Int) + 1 - 1) = (d.length : Int) := by rw [IntKind.wrap_i64]; omega
                    by_cases hq : q.2 = F
                    · have hq2 : (q.2 != F) = false := by simp [hq]
                      have HE := Lib.hid (HBT.out.trans (HAE.out d q hq))
                      clear HBT HAS HAE HAN hq
                      go_wp2_with fail
                      exact ⟨⟨k + 1, _, rfl, by go_num, by omega, by rw [HKN.out, HE.out]; exact HOQ.out.cast (by simp) rfl, by rw [HKN.out]; exact HAL2.out, HBL6.out⟩, by simp [intOf] <;> omega⟩
                    · have hq2 : (q.2 != F) = true := by simpa using hq
                      have HE := Lib.hid (HBT.out.trans (HAN.out d q hq))
                      have HOA := Lib.hid (HOQ.out.alloc (.cells #[.int .i64 t, .int .i64 F] 59))
                      clear HBT HAS HAE HAN hq
                      go_wp2_with (at_builtin; refine push_own steps_t rfl (.tmp 104) (.tmp 111) rfl w2.heap.size _ _ _ rfl HOA.out _ 1 [.int .i64 t, .int .i64 F] rfl rfl ?h4a two_cells ?h4b ?_)
                      case h4a => exact raw_at (by simp) #[.int .i64 t, .int .i64 F] _
                      case h4b => simp <;> omega
                      intro v6 w6 ho6 hb6 hg6
                      have HO6 := Lib.hid ho6
                      have HB6 := Lib.hid ((HBL6.out.alloc HBL6.out.size _).trans hb6)
                      clear ho6 hb6 hg6
                      go_wp2_with fail
                      exact ⟨⟨k + 1, _, rfl, by go_num, by omega, by rw [HKN.out, HE.out]; exact HO6.out.cast (by simp) (svals_snoc (d ++ [q]) (t, F)).symm, by rw [HKN.out]; exact HAL2.out, HB6.out⟩, by simp [intOf] <;> omega⟩
        · obtain ⟨hown, hall, hbl⟩ := HL.out
          rw [List.take_of_length_le (by omega), ← HEL.out] at hown hall
          have HD := Lib.hid (add_rep HC.out HX.out hall)
          have hbl3 : (buildL (addF s x n) (addEnds s x)).length ≤ 700 := by
            have h1 := build_len (addF s x n) (addEnds s x)
            have h2 := List.length_filter_le (keepB s x) es
            rw [← HEL.out] at h2
            omega
          have HOW := Lib.hid hown
          have HBL2 := Lib.hid hbl
          clear hown hall hbl HL
          go_wp2_with fail
          go_ret2
          exact ⟨_, _, true, rfl, spans_of_own HOW.out rfl, hbl3, .inl ⟨rfl, HD.out⟩, below_then HL0.out (below_then HB2.out HBL2.out), own_new HOW.out (below_then HL0.out HB2.out).size⟩
end Go.Proofs.Ytophhiejggnaeaa.StepRef
namespace Go.Proofs.Ytophhiejggnaeaa.ShaRef
open Go.RowKit Go.Proofs.Ytophhiejggnaeaa.SpanPlain Go.Proofs.Ytophhiejggnaeaa.StepPlain Go.Proofs.Ytophhiejggnaeaa.GapPlain Go.Proofs.Ytophhiejggnaeaa.JobPlain Go.Proofs.Ytophhiejggnaeaa.ShaPlain Go.Proofs.Ytophhiejggnaeaa.Mem Go.Proofs.Ytophhiejggnaeaa.SpanMem Go.Proofs.Ytophhiejggnaeaa.StepMem Go.Proofs.Ytophhiejggnaeaa.JobMem Go.Proofs.Ytophhiejggnaeaa.OrdMem Go.Proofs.Ytophhiejggnaeaa.SpanRef Go.Proofs.Ytophhiejggnaeaa.StepRef Go.Proofs.Ytophhiejggnaeaa.GapRef
def BoolS (b : Bool) (w : World) (e : Ending) (w' : World) : Prop := e = .returned (.bool b) ∧ Below w.heap.size w w'
theorem box_s (w : World) (o : Obj) : Below w.heap.size w (w.alloc o) := (Below.refl _ _).alloc (Nat.le_refl _) o
theorem thenS {w w1 w2 : World} (h : Below w.heap.size w w1) (h2 : Below w1.heap.size w1 w2) : Below w.heap.size w w2 := h.trans (h2.mono h.size)
set_option maxHeartbeats 1600000 in
theorem ok15 (s : List Sp) (a : Int) (j : Jb) (v : Value) (w : World) (hv : SpansIs s w v) (hl : s.length ≤ 9000) : Calls Try.prog 10 #[v, .int .i64 a, jobV j] w (BoolS (okG s a j.width j.est) w) := by
  have HX := Lib.hid (JobBox.new w j 45)
  have HB := Lib.hid (box_s w (.cells #[.int .i64 j.id, .string j.user, .int .i64 j.width, .int .i64 j.est, .int .i64 j.prio, .int .i64 j.sub, .int .i64 j.state, .int .i64 j.start, .int .i64 j.fin] 45))
  have CM := Lib.hid (may6 s j.width j.est v (w.alloc (.cells #[.int .i64 j.id, .string j.user, .int .i64 j.width, .int .i64 j.est, .int .i64 j.prio, .int .i64 j.sub, .int .i64 j.state, .int .i64 j.start, .int .i64 j.fin] 45)) (hv.below HB.out) hl)
  have CF : Hid (mayG s j.width j.est = true → ∀ W, Below w.heap.size w W → Calls Try.prog 25 #[v, .int .i64 a, .int .i64 j.width, .int .i64 j.est] W (BoolIs (roomB s a j.width j.est) W)) := fun h W hW => ok6 s a j.width j.est v W (hv.below hW) hl (mayG_iff.1 h).1 (mayG_iff.1 h).2.2.1 (mayG_iff.1 h).2.2.2
  obtain ⟨A, c, rfl, _⟩ := hv.open_
  unfold okG
  clear hv
  unfold jobV jobA
  generalize roomB s a j.width j.est = F at *
  cases hm : mayG s j.width j.est with
  | false =>
    rw [hm] at CM
    clear hm CF
    go_enter Try.func10, Try.ntmps10
    go_upto_region 1 with fail
    generalize w.alloc (.cells #[.int .i64 j.id, .string j.user, .int .i64 j.width, .int .i64 j.est, .int .i64 j.prio, .int .i64 j.sub, .int .i64 j.state, .int .i64 j.start, .int .i64 j.fin] 45) = W0 at *
    obtain ⟨y, y0, y1, y2, y3, y4, y5, y6, y7, y8, _, _, _, _, _, _, _, _, _⟩ := HX.out
    go_wp2_with fail
    refine CM.out.mono ?_
    rintro e w1 ⟨rfl, hb1⟩
    have HB1 := Lib.hid (thenS HB.out hb1)
    clear hb1
    go_wp2_with fail
    go_ret
    exact ⟨rfl, HB1.out⟩
  | true =>
    have CG := Lib.hid (CF.out hm)
    rw [hm] at CM
    clear hm CF
    go_enter Try.func10, Try.ntmps10
    go_upto_region 1 with fail
    generalize w.alloc (.cells #[.int .i64 j.id, .string j.user, .int .i64 j.width, .int .i64 j.est, .int .i64 j.prio, .int .i64 j.sub, .int .i64 j.state, .int .i64 j.start, .int .i64 j.fin] 45) = W0 at *
    obtain ⟨y, y0, y1, y2, y3, y4, y5, y6, y7, y8, _, _, _, _, _, _, _, _, _⟩ := HX.out
    go_wp2_with fail
    refine CM.out.mono ?_
    rintro e w1 ⟨rfl, hb1⟩
    have HB1 := Lib.hid (thenS HB.out hb1)
    obtain ⟨z, z0, z1, z2, z3, z4, z5, z6, z7, z8, _, _, _, _, _, _, _, _, _⟩ := HX.out.below hb1
    clear hb1 y y0 y1 y2 y3 y4 y5 y6 y7 y8
    go_wp2_with fail
    refine (CG.out _ HB1.out).mono ?_
    rintro e w2 ⟨rfl, hb2⟩
    have HB2 := Lib.hid (thenS HB1.out hb2)
    clear hb2
    go_wp2_with fail
    go_ret
    exact ⟨by cases F <;> rfl, HB2.out⟩
def LayTells (s : List Sp) (a : Int) (j : Jb) (w : World) (e : Ending) (w' : World) : Prop := ∃ v r, e = .returned v ∧ SpansIs r w' v ∧ AddIs s (runS a j) (-j.width) r ∧ Below w.heap.size w w' ∧ ∀ a m c, v = .slice (some a) m c → w.heap.size ≤ a.block
set_option maxHeartbeats 1600000 in
theorem lay15 (s : List Sp) (a : Int) (j : Jb) (v : Value) (w : World) (hv : SpansIs s w v) (hl : s.length ≤ 200) (hok : okG s a j.width j.est = true) : Calls Try.prog 11 #[v, .int .i64 a, jobV j] w (LayTells s a j w) := by
  obtain ⟨hc, hww, hee, hhd, h0, hmt, hx, hnb, hno⟩ := room_may hok
  have HX := Lib.hid (JobBox.new w j 45)
  have HB := Lib.hid (box_s w (.cells #[.int .i64 j.id, .string j.user, .int .i64 j.width, .int .i64 j.est, .int .i64 j.prio, .int .i64 j.sub, .int .i64 j.state, .int .i64 j.start, .int .i64 j.fin] 45))
  have CA : Hid (∀ W, Below w.heap.size w W → Calls Try.prog 26 #[v, spV (runS a j), .int .i64 (-j.width)] W (AddTellsN s (runS a j) (-j.width) W)) := fun W hW => add4n s (runS a j) (-j.width) v W (hv.below hW) hl hc hx (by omega) (by omega)
  have HNB := Lib.hid hnb
  have HNO := Lib.hid hno
  have hw1 : IntKind.i64.wrap (a + j.est) = a + j.est := by rw [IntKind.wrap_i64]; omega
  have hw2 : IntKind.i64.wrap (-j.width) = -j.width := by rw [IntKind.wrap_i64]; omega
  obtain ⟨A, c, rfl, _⟩ := hv.open_
  clear hv hc hww hhd hx hnb hno hok
  unfold spV runS at CA
  unfold jobV jobA
  go_enter Try.func11, Try.ntmps11
  go_upto_region 1 with fail
  generalize w.alloc (.cells #[.int .i64 j.id, .string j.user, .int .i64 j.width, .int .i64 j.est, .int .i64 j.prio, .int .i64 j.sub, .int .i64 j.state, .int .i64 j.start, .int .i64 j.fin] 45) = W0 at *
  obtain ⟨y, y0, y1, y2, y3, y4, y5, y6, y7, y8, _, _, _, _, _, _, _, _, _⟩ := HX.out
  go_wp2_with fail
  refine (CA.out _ HB.out).mono ?_
  rintro e w1 ⟨u, r, b, rfl, hs, hrl, hcase, hb1, hn1⟩
  have HB1 := Lib.hid (thenS HB.out hb1)
  have HS := Lib.hid hs
  have HR : Hid (AddIs s (runS a j) (-j.width) r) := by
    rcases hcase with ⟨_, h⟩ | ⟨_, _, h⟩
    · exact .inr (.inr ⟨HNB.out, h⟩)
    · exact absurd h HNO.out
  have HN1 : Hid (∀ a m c, u = .slice (some a) m c → w.heap.size ≤ a.block) := fun a m c e => Nat.le_trans HB.out.size (hn1 a m c e)
  clear hb1 hs hcase hrl hn1
  go_wp2_with fail
  go_ret
  exact ⟨_, r, rfl, HS.out, HR.out, HB1.out, HN1.out⟩
end Go.Proofs.Ytophhiejggnaeaa.ShaRef
namespace Go.Proofs.Ytophhiejggnaeaa.Mem
open Go.RowKit
def IntsAt (l : List Int) (w : World) (v : Value) : Prop := ∃ A c, v = .slice A l.length c ∧ l.length ≤ c ∧ Cells w A l.length (icell l)
section
variable {l : List Int} {w w' : World} {v : Value}
theorem IntsAt.below (h : IntsAt l w v) (hb : Below w.heap.size w w') : IntsAt l w' v := by
  obtain ⟨A, c, e, hc, hA⟩ := h
  exact ⟨A, c, e, hc, hA.below hb⟩
theorem IntsAt.nil (w : World) : IntsAt [] w (.slice none 0 0) := ⟨none, 0, rfl, Nat.le_refl _, Cells.none_⟩
theorem IntsAt.own {e : TypeId} {base n : Nat} (h : OwnN e 1 base w v n (ivals l)) (hn : n = l.length) : IntsAt l w v := by
  subst hn
  have hs := h.src
  rcases hs with ⟨e0, h0, _⟩ | ⟨a, c, e0, hr⟩
  · have hl : l = [] := List.length_eq_zero_iff.1 h0
    subst hl
    subst e0
    exact IntsAt.nil w
  · obtain ⟨A, c2, e2⟩ := h.shape
    have hcap : l.length ≤ c := by
      have h3 := h.form
      subst e0
      rcases h3 with h3 | h3
      · exact absurd h3.1 (by simp)
      · obtain ⟨g, c3, e3, h4⟩ := h3
        injection e3 with _ _ e3
        omega
    exact ⟨some a, c, e0, hcap, fun i hi => ⟨a, rfl, hr.intlt hi, hr.int hi⟩⟩
end
end Go.Proofs.Ytophhiejggnaeaa.Mem
