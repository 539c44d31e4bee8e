/-
  Words for the walks of the document's answers; of which function soever. The walks of the document's answers for layer 3: May. The walks of the document's answers for layer 3: Has. The walks of the document's answers for layer 3: put, Ends. The walks of the document's answers for layer 3: Ends. The walk of the document's answer for layer 3: Same. The walk of the document's answer for layer 3: Total. The walk of the document's answer for layer 3: Less. What layer 3's functions answer: the posts that the law texts name.
-/
import Derived.Test.YtonapgbokbeopaaSpanMem
import Derived.WalkKit
import Derived.WalkSpells
import Derived.WalkLawsBesides
import Derived.Deep.QuietTactic
import Derived.BigQuiet
import Derived.LoopTactic
import Derived.Test.YtonapgbokbeopaaSpanPlain
import Derived.Deep.RegionHeld3
import Derived.Deep.CutBlock
import Derived.Deep.DeepCutAuto
namespace Go.Proofs.Ytonapgbokbeopaa.SpanRef
open Go.RowKit Go.Proofs.Ytonapgbokbeopaa.SpanPlain Go.Proofs.Ytonapgbokbeopaa.Mem Go.Proofs.Ytonapgbokbeopaa.SpanMem
def BoolIs (b : Bool) (w : World) (e : Ending) (w' : World) : Prop := e = .returned (.bool b) ∧ Below w.heap.size w w'
end Go.Proofs.Ytonapgbokbeopaa.SpanRef
namespace Go.Proofs.Ytonapgbokbeopaa.SpanRef
open Go.RowKit Go.Proofs.Ytonapgbokbeopaa.SpanPlain Go.Proofs.Ytonapgbokbeopaa.Mem Go.Proofs.Ytonapgbokbeopaa.SpanMem
set_option maxHeartbeats 800000 in
theorem may_any (s : Sp) (w : World) : Calls Try.prog 43 #[spV s] w (BoolIs (mayB s) w) := by
  have hs := may_cases s
  obtain ⟨a, b⟩ := s
  unfold spV
  dsimp only at hs ⊢
  generalize mayB (a, b) = B at *
  rcases hs with ⟨rfl, h1, h2, h3⟩ | ⟨rfl, h1⟩ | ⟨rfl, h1, h2⟩ | ⟨rfl, h1, h2, h3⟩
  all_goals
    go_enter Try.func43, Try.ntmps43
    go_wp2_with fail
    go_ret
    exact ⟨rfl, (Below.refl _ _).alloc (Nat.le_refl _) _⟩
end Go.Proofs.Ytonapgbokbeopaa.SpanRef
namespace Go.Proofs.Ytonapgbokbeopaa.SpanRef
open Go.RowKit Go.Proofs.Ytonapgbokbeopaa.SpanPlain Go.Proofs.Ytonapgbokbeopaa.Mem Go.Proofs.Ytonapgbokbeopaa.SpanMem
set_option maxHeartbeats 1600000 in
theorem has_any (l : List Sp) (A : Option Addr) (c : Nat) (t : Int) (w : World) (hA : Pairs w A l.length (spCell l)) (hl : l.length ≤ 9000) :
    Calls Try.prog 30 #[.slice A l.length c, .int .i64 t] w (BoolIs (anyB l t) w) := by
  have HA := Lib.hid hA
  clear hA
  go_enter Try.func30, Try.ntmps30
  go_wp2_with fail
  go_loopw [5] (fun i wr => ∃ k : Nat, i = .int .i64 k ∧ k ≤ l.length ∧ Hid (anyB (l.take k) t = false) ∧ Hid (Below w.heap.size w wr)) (fun i _ => l.length - (intOf i).toNat)
  case atStart => exact ⟨0, rfl, Nat.zero_le _, rfl, Below.refl _ _⟩
  case round =>
    obtain ⟨k, rfl, hk, HS, HB⟩ := hrel
    by_cases hlt : k < l.length
    · obtain ⟨ad, rfl, had, c1, c2⟩ := (HA.out.below HB.out) k hlt
      have hs := has_cases (l.getD k (0, 0)) t
      have C1 := Lib.hid (fun w => may_any (l.getD k (0, 0)) w)
      have HN := Lib.hid (fun h => any_next hlt HS.out h)
      have HF := Lib.hid (fun h => any_found (t := t) hlt h)
      unfold spV at C1
      unfold spCell at c1 c2
      dsimp only at c1 c2
      generalize l.getD k (0, 0) = s at *
      rcases hs with ⟨hh, hm⟩ | ⟨hh, hm, h1⟩ | ⟨hh, hm, h1, h2⟩ | ⟨hh, hm, h1, h2⟩
      all_goals
        rw [hm] at C1
        have HH := Lib.hid hh
        have HA1 := Lib.hid had
        clear hh hm had
        go_wp2_with fail
        refine (C1.out _).mono ?_
        rintro e w1 ⟨rfl, hb1⟩
        obtain ⟨_, d1, d2⟩ := pair_below hb1 HA1.out c1 c2
        have HB1 := Lib.hid (below_then HB.out hb1)
        clear hb1
        go_wp2_with fail
        first
          | exact ⟨⟨k + 1, by go_num, by omega, HN.out HH.out, HB1.out⟩, by simp [intOf] <;> omega⟩
          | (go_ret; exact ⟨by rw [HF.out HH.out]; rfl, HB1.out⟩)
    · go_wp2_with fail
      go_ret
      exact ⟨by rw [any_all (by omega) HS.out]; rfl, HB.out⟩
theorem has_is (l : List Sp) (v : Value) (t : Int) (w : World) (h : SpansIs l w v) (hl : l.length ≤ 9000) : Calls Try.prog 30 #[v, .int .i64 t] w (BoolIs (anyB l t) w) := by
  obtain ⟨A, c, rfl, hp⟩ := h.open_
  exact has_any l A c t w hp hl
end Go.Proofs.Ytonapgbokbeopaa.SpanRef
namespace Go.Proofs.Ytonapgbokbeopaa.SpanRef
open Go.RowKit Go.Proofs.Ytonapgbokbeopaa.SpanPlain Go.Proofs.Ytonapgbokbeopaa.Mem Go.Proofs.Ytonapgbokbeopaa.SpanMem
def PutIs (l : List Int) (w : World) (e : Ending) (w' : World) : Prop := ∃ v, e = .returned v ∧ IntsIs l w' v ∧ Below w.heap.size w w'
theorem atTo_succ (l : List Int) (n : Int) (k : Nat) : atTo l n (k + 1) = if l.getD k 0 < n then k + 1 else atTo l n k := rfl
theorem put_next {l : List Int} {n : Int} {k : Nat} (hk : k < l.length) (h : n ∉ l.take k) (hn : l.getD k 0 ≠ n) : n ∉ l.take (k + 1) := by
  rw [List.take_succ_eq_append_getElem hk, List.mem_append]
  rintro (g | g)
  · exact h g
  · simp at g
    rw [getD_el hk] at hn
    exact hn g.symm
set_option maxHeartbeats 1600000 in
theorem put_any (l : List Int) (n : Int) (v : Value) (w : World) (hv : IntsIs l w v) (hl : l.length ≤ 9000) :
    Calls Try.prog 44 #[v, .int .i64 n] w (PutIs (putL l n) w) := by
  obtain ⟨ad, c, rfl, hA, hc1, hc2⟩ := hv
  have HA := Lib.hid hA
  clear hA
  unfold maxLen at hc2
  go_enter Try.func44, Try.ntmps44
  go_wp2_with fail
  go_loop [5, 6] (fun a i => ∃ k : Nat, a = .int .i64 (atTo l n k : Nat) ∧ i = .int .i64 k ∧ k ≤ l.length ∧ Hid (n ∉ l.take k)) (fun _ i => l.length - (intOf i).toNat)
  case atStart => exact ⟨0, rfl, rfl, Nat.zero_le _, by simp [Hid]⟩
  case round =>
    obtain ⟨k, rfl, rfl, hk, HN⟩ := hrel
    by_cases hlt : k < l.length
    · have hc3 := HA.out.int hlt
      have hm : l.getD k 0 ∈ l := getD_mem hlt
      have hcase : ((l.getD k 0 == n) = true) ∨ ((l.getD k 0 == n) = false ∧ decide (l.getD k 0 < n) = true ∧ atTo l n (k + 1) = k + 1) ∨ ((l.getD k 0 == n) = false ∧ decide (l.getD k 0 < n) = false ∧ atTo l n (k + 1) = atTo l n k) := by
        by_cases h1 : l.getD k 0 = n
        · left; exact beq_iff_eq.2 h1
        · by_cases h2 : l.getD k 0 < n
          · right; left; exact ⟨beq_eq_false_iff_ne.2 h1, decide_eq_true h2, (atTo_succ l n k).trans (if_pos h2)⟩
          · right; right; exact ⟨beq_eq_false_iff_ne.2 h1, decide_eq_false h2, (atTo_succ l n k).trans (if_neg h2)⟩
      have HX := Lib.hid (fun h => put_next hlt HN.out h)
      have HM := Lib.hid hm
      clear hm
      generalize l.getD k 0 = x at *
      rcases hcase with h1 | ⟨h1, h2, h3⟩ | ⟨h1, h2, h3⟩
      · have e : x = n := by simpa using h1
        subst e
        go_wp2_with fail
        go_ret
        exact ⟨_, rfl, by rw [putL_in HM.out]; exact ⟨ad, c, rfl, HA.out, hc1, by unfold maxLen; omega⟩, Below.refl _ _⟩
      · have H3 := Lib.hid h3
        clear h3
        have hne : x ≠ n := by simpa using h1
        have HN2 := Lib.hid (HX.out hne)
        clear hne
        go_wp2_with fail
        exact ⟨⟨k + 1, by rw [H3.out]; go_num, by go_num, by omega, HN2⟩, by simp [intOf] <;> omega⟩
      · have H3 := Lib.hid h3
        clear h3
        have hne : x ≠ n := by simpa using h1
        have HN2 := Lib.hid (HX.out hne)
        clear hne
        go_wp2_with fail
        exact ⟨⟨k + 1, by rw [H3.out], by go_num, by omega, HN2⟩, by simp [intOf] <;> omega⟩
    · obtain rfl : k = l.length := by omega
      have HP := Lib.hid (putL_out (l := l) (n := n) (by have := HN.out; rwa [List.take_length] at this))
      have hat := atTo_le l n l.length
      generalize hq : atTo l n l.length = q at *
      clear hq
      clear hlt
      have HO := Lib.hid (OwnR.new w 3 1)
      have HB := Lib.hid ((Below.refl w.heap.size w).alloc (Nat.le_refl _) (.cells #[] 3))
      have hcase : c = q ∨ ¬ c = q := Classical.em _
      have HD := Lib.hid ((HA.out.below HB.out).drop q)
      rcases hcase with hcq | hcq
      · have he : l.drop q = [] := List.drop_of_length_le (by omega)
        have HE := Lib.hid he
        clear he
        go_wp2_with (at_builtin; refine push_raw ints_t rfl (.tmp 29) (.tmp 32) rfl w.heap.size _ 0 [] rfl HO.out ad _ _ [] rfl ?h1a ?h1b ?h1c ?h1d ?_)
        case h1a => omega
        case h1b => exact raw_nil (HA.out.below HB.out)
        case h1d => omega
        intro v1 w1 hown1 hb1
        have H1 : Hid (OwnR 3 1 w.heap.size w1 v1 (l.drop q).length (ivals (l.drop q))) := by
          have e : l.length - q = 0 := by omega
          rw [e] at hown1
          rw [HE.out]
          exact hown1
        have H2 : Hid (IntsIs (l.drop q) w1 v1) := OwnR.ints H1.out rfl
        clear hown1 H1
        have HB1 := Lib.hid (HB.out.trans (hb1.mono (by simp)))
        clear hb1
        obtain ⟨a1, k1, hv1, hr1, hk1, hk2⟩ := H2.out
        have HR1 := Lib.hid hr1
        clear H2 hr1 hk2
        subst hv1
        have HO2 := Lib.hid (OwnR.new w1 3 1)
        have HB2 := Lib.hid ((Below.refl w1.heap.size w1).alloc (Nat.le_refl _) (.cells #[] 3))
        have HT := Lib.hid (((HA.out.below HB1.out).below HB2.out).take q)
        go_wp2_with (at_builtin; refine push_raw ints_t rfl (.tmp 34) (.tmp 37) rfl w1.heap.size _ 0 [] rfl HO2.out ad q _ (ivals (l.take q)) rfl ?h2a ?h2b ?h2c ?h2d ?_)
        case h2a => simp [ivals_len]; omega
        case h2b => rw [← ivals_take]; exact HT.out
        case h2c => exact ivals_cell _
        case h2d => omega
        intro v2 w2 hown2 hb2
        have HO3 := Lib.hid hown2
        have HB3 := Lib.hid (HB2.out.trans hb2)
        clear hown2 hb2 HT
        go_wp2_with (at_builtin; refine push_raw ints_t rfl (.tmp 38) (.tmp 40) rfl w1.heap.size _ _ _ rfl (HO3.out.alloc _) ⟨w2.heap.size, 0, none⟩ 1 1 [.int .i64 n] rfl ?h3a ?h3b ?h3c ?h3d ?_)
        case h3a => rfl
        case h3b => exact Raw.alloc w2 #[.int .i64 n] _
        case h3c => exact one_cell
        case h3d => omega
        intro v3 w3 hown3 hb3
        have HO4 := Lib.hid hown3
        have HB4 := Lib.hid (HB3.out.trans (((Below.refl w1.heap.size w2).alloc HB3.out.size _).trans hb3))
        clear hown3 hb3
        go_wp2_with (at_builtin; refine push_raw ints_t rfl (.tmp 41) (.tmp 42) rfl w1.heap.size _ _ _ rfl HO4.out a1 _ k1 (ivals (l.drop q)) rfl ?h4a ?h4b ?h4c ?h4d ?_)
        case h4a => simp [ivals_len]
        case h4b => exact HR1.out.below HB4.out
        case h4c => exact ivals_cell _
        case h4d => omega
        intro v4 w4 hown4 hb4
        go_wp2_with fail
        go_ret
        refine ⟨_, rfl, ?_, HB1.out.trans ((HB4.out.trans hb4).mono HB1.out.size)⟩
        have hp := HP.out
        rw [hp]
        have h5 : OwnR 3 1 w1.heap.size w4 v4 (l.take q ++ ([n] ++ l.drop q)).length (ivals (l.take q ++ ([n] ++ l.drop q))) := hown4.cast (by simp; omega) (by simp [ivals])
        exact OwnR.ints h5 rfl
      · go_wp2_with (at_builtin; refine push_raw ints_t rfl (.tmp 29) (.tmp 32) rfl w.heap.size _ 0 [] rfl HO.out (ad.add q) (l.length - q) (c - q) (ivals (l.drop q)) rfl ?h5a ?h5b ?h5c ?h5d ?_)
        case h5a => simp [ivals_len]
        case h5b => rw [← ivals_drop]; exact HD.out
        case h5c => exact ivals_cell _
        case h5d => omega
        intro v1 w1 hown1 hb1
        have H1 : Hid (OwnR 3 1 w.heap.size w1 v1 (l.drop q).length (ivals (l.drop q))) := by
          rw [List.length_drop]
          exact hown1
        have H2 : Hid (IntsIs (l.drop q) w1 v1) := OwnR.ints H1.out rfl
        clear hown1 H1
        have HB1 := Lib.hid (HB.out.trans (hb1.mono (by simp)))
        clear hb1
        obtain ⟨a1, k1, hv1, hr1, hk1, hk2⟩ := H2.out
        have HR1 := Lib.hid hr1
        clear H2 hr1 hk2
        subst hv1
        have HO2 := Lib.hid (OwnR.new w1 3 1)
        have HB2 := Lib.hid ((Below.refl w1.heap.size w1).alloc (Nat.le_refl _) (.cells #[] 3))
        have HT := Lib.hid (((HA.out.below HB1.out).below HB2.out).take q)
        go_wp2_with (at_builtin; refine push_raw ints_t rfl (.tmp 34) (.tmp 37) rfl w1.heap.size _ 0 [] rfl HO2.out ad q _ (ivals (l.take q)) rfl ?h6a ?h6b ?h6c ?h6d ?_)
        case h6a => simp [ivals_len]; omega
        case h6b => rw [← ivals_take]; exact HT.out
        case h6c => exact ivals_cell _
        case h6d => omega
        intro v2 w2 hown2 hb2
        have HO3 := Lib.hid hown2
        have HB3 := Lib.hid (HB2.out.trans hb2)
        clear hown2 hb2 HT
        go_wp2_with (at_builtin; refine push_raw ints_t rfl (.tmp 38) (.tmp 40) rfl w1.heap.size _ _ _ rfl (HO3.out.alloc _) ⟨w2.heap.size, 0, none⟩ 1 1 [.int .i64 n] rfl ?h7a ?h7b ?h7c ?h7d ?_)
        case h7a => rfl
        case h7b => exact Raw.alloc w2 #[.int .i64 n] _
        case h7c => exact one_cell
        case h7d => omega
        intro v3 w3 hown3 hb3
        have HO4 := Lib.hid hown3
        have HB4 := Lib.hid (HB3.out.trans (((Below.refl w1.heap.size w2).alloc HB3.out.size _).trans hb3))
        clear hown3 hb3
        go_wp2_with (at_builtin; refine push_raw ints_t rfl (.tmp 41) (.tmp 42) rfl w1.heap.size _ _ _ rfl HO4.out a1 _ k1 (ivals (l.drop q)) rfl ?h8a ?h8b ?h8c ?h8d ?_)
        case h8a => simp [ivals_len]
        case h8b => exact HR1.out.below HB4.out
        case h8c => exact ivals_cell _
        case h8d => omega
        intro v4 w4 hown4 hb4
        go_wp2_with fail
        go_ret
        refine ⟨_, rfl, ?_, HB1.out.trans ((HB4.out.trans hb4).mono HB1.out.size)⟩
        have hp := HP.out
        rw [hp]
        have h5 : OwnR 3 1 w1.heap.size w4 v4 (l.take q ++ ([n] ++ l.drop q)).length (ivals (l.take q ++ ([n] ++ l.drop q))) := hown4.cast (by simp; omega) (by simp [ivals])
        exact OwnR.ints h5 rfl
end Go.Proofs.Ytonapgbokbeopaa.SpanRef
namespace Go.Proofs.Ytonapgbokbeopaa.SpanRef
open Go.RowKit Go.Proofs.Ytonapgbokbeopaa.SpanPlain Go.Proofs.Ytonapgbokbeopaa.Mem Go.Proofs.Ytonapgbokbeopaa.SpanMem
theorem ends_take {l : List Sp} {k : Nat} (hk : k < l.length) : endsL (l.take (k + 1)) = endsStep (endsL (l.take k)) (l.getD k (0, 0)) := by
  rw [List.take_succ_eq_append_getElem hk, endsL_snoc]
  simp [List.getD, hk]
theorem ends_take_len {l : List Sp} {k : Nat} (hl : l.length ≤ 4000) : (endsL (l.take k)).length ≤ 8000 := by
  have := (ends_spec (l.take k)).2.2
  rw [List.length_take] at this
  omega
set_option maxHeartbeats 3200000 in
theorem ends_any (l : List Sp) (v : Value) (w : World) (hv : SpansIs l w v) (hl : l.length ≤ 4000) : Calls Try.prog 29 #[v] w (PutIs (endsL l) w) := by
  obtain ⟨A, c, rfl, hA⟩ := hv.open_
  have HA := Lib.hid hA
  clear hA hv
  go_enter Try.func29, Try.ntmps29
  go_wp2_with fail
  go_loopw [3, 4] (fun o i wr => ∃ (k : Nat) (v : Value), v = o ∧ i = .int .i64 k ∧ k ≤ l.length ∧ Hid (IntsIs (endsL (l.take k)) wr v) ∧ Hid (Below w.heap.size w wr)) (fun _ i _ => l.length - (intOf i).toNat)
  case atStart => exact ⟨0, _, rfl, rfl, Nat.zero_le _, OwnR.ints (OwnR.new w 3 1) rfl, (Below.refl _ _).alloc (Nat.le_refl _) _⟩
  case round =>
    obtain ⟨k, v, hv, rfl, hk, HV, HB⟩ := hrel
    subst hv
    by_cases hlt : k < l.length
    · obtain ⟨ad, rfl, had, c1, c2⟩ := (HA.out.below HB.out) k hlt
      have HE := Lib.hid (ends_take hlt)
      have HL := Lib.hid (ends_take_len (l := l) (k := k) hl)
      have C1 := Lib.hid (fun w => may_any (l.getD k (0, 0)) w)
      unfold spV at C1
      unfold spCell at c1 c2
      dsimp only at c1 c2
      generalize l.getD k (0, 0) = s at *
      generalize endsL (l.take k) = o at *
      cases hm : mayB s with
      | false =>
        rw [hm] at C1
        have HM := Lib.hid hm
        clear hm
        go_wp2_with fail
        refine (C1.out _).mono ?_
        rintro e w1 ⟨rfl, hb1⟩
        have HB1 := Lib.hid hb1
        clear hb1
        go_wp2_with fail
        exact ⟨⟨k + 1, _, rfl, by go_num, by omega, by rw [HE.out]; unfold endsStep; rw [if_neg (by rw [HM.out]; simp)]; exact HV.out.below HB1.out, below_then HB.out HB1.out⟩, by simp [intOf] <;> omega⟩
      | true =>
        rw [hm] at C1
        have HM := Lib.hid hm
        clear hm
        go_wp2_with fail
        refine (C1.out _).mono ?_
        rintro e w1 ⟨rfl, hb1⟩
        obtain ⟨had1, d1, d2⟩ := pair_below hb1 had c1 c2
        have HB1 := Lib.hid hb1
        clear hb1 c1 c2 had
        have P1 := Lib.hid (put_any o s.1 v w1 (HV.out.below HB1.out) (by have := HL.out; omega))
        have hl2 := putL_len o s.1
        go_upto_region 6 with fail
        go_region_held3 (fun w' => w'.cell? (ad.add (k * 2)) = some (.int .i64 s.1) ∧ w'.cell? ⟨(ad.add (k * 2)).block, (ad.add (k * 2)).off + 1, none⟩ = some (.int .i64 s.2) ∧ ad.block < w'.heap.size)
          (first | go_keep | (go_split_ands; exact pairs_held (by assumption) (by assumption) (by assumption) (by assumption)))
          (first
            | (go_at_call_of 44 v; (refine (put_any o s.1 v _ (IntsIs.drew (HV.out.below HB1.out)) (by have := HL.out; omega)).mono ?_; rintro e w2 ⟨v1, rfl, hi1, hb2⟩))
            | (go_at_call_of 44 v1; (refine (put_any (putL o s.1) s.2 v1 _ hi1 (by have := HL.out; omega)).mono ?_; rintro e w3 ⟨v2, rfl, hi2, hb3⟩)))
        have HB3 := Lib.hid (below_then HB.out (below_then HB1.out (below_then (below_of_drew hb2) hb3)))
        have HI := Lib.hid hi2
        clear hb2 hb3 hi1 hi2 hl2 P1
        go_wp2_with fail
        exact ⟨⟨k + 1, _, rfl, by go_num, by omega, by rw [HE.out]; unfold endsStep; rw [if_pos HM.out]; exact HI.out, HB3.out⟩, by simp [intOf] <;> omega⟩
    · go_wp2_with fail
      go_ret
      have h := HV.out
      rw [List.take_of_length_le (by omega)] at h
      exact ⟨_, rfl, h, HB.out⟩
end Go.Proofs.Ytonapgbokbeopaa.SpanRef
namespace Go.Proofs.Ytonapgbokbeopaa.SpanRef
open Go.RowKit Go.Proofs.Ytonapgbokbeopaa.SpanPlain Go.Proofs.Ytonapgbokbeopaa.Mem Go.Proofs.Ytonapgbokbeopaa.SpanMem
def SameIs (b : Bool) (w : World) (e : Ending) (w' : World) : Prop := e = .returned (.bool b) ∧ ∃ n, w' = w.drewN n
theorem same_take {a b : List Sp} {k : Nat} (ha : k < a.length) (hb : k < b.length) (h : a.take k = b.take k) (he : a.getD k (0, 0) = b.getD k (0, 0)) : a.take (k + 1) = b.take (k + 1) := by
  rw [List.take_succ_eq_append_getElem ha, List.take_succ_eq_append_getElem hb, h]
  simp [List.getD, ha, hb] at he
  rw [he]
theorem same_not {a b : List Sp} {k : Nat} (ha : k < a.length) (hb : k < b.length) (he : a.getD k (0, 0) ≠ b.getD k (0, 0)) : a ≠ b := fun h => by subst h; exact he rfl
end Go.Proofs.Ytonapgbokbeopaa.SpanRef
namespace Go.Proofs.Ytonapgbokbeopaa.SpanRef
open Go.RowKit Go.Proofs.Ytonapgbokbeopaa.SpanPlain Go.Proofs.Ytonapgbokbeopaa.Mem Go.Proofs.Ytonapgbokbeopaa.SpanMem
/-- How many times a cover's spans have together. -/
theorem tot_take {l : List Sp} {k : Nat} (hk : k < l.length) : totL (l.take (k + 1)) = totL (l.take k) + (l.getD k (0, 0)).2 - (l.getD k (0, 0)).1 := by
  rw [List.take_succ_eq_append_getElem hk, totL_snoc]
  simp [List.getD, hk]
theorem cov_take {l : List Sp} (h : Cov l) (k : Nat) : Cov (l.take k) := ⟨fun s hs => h.1 s (List.mem_of_mem_take hs), h.2.sublist (List.take_sublist k l)⟩
theorem cov_at {l : List Sp} (h : Cov l) {k : Nat} (hk : k < l.length) : May (l.getD k (0, 0)) := by
  have e : l.getD k (0, 0) = l[k] := by simp [List.getD, hk]
  rw [e]; exact h.1 _ (List.getElem_mem hk)
end Go.Proofs.Ytonapgbokbeopaa.SpanRef
namespace Go.Proofs.Ytonapgbokbeopaa.SpanRef
open Go.RowKit Go.Proofs.Ytonapgbokbeopaa.SpanPlain Go.Proofs.Ytonapgbokbeopaa.Mem Go.Proofs.Ytonapgbokbeopaa.SpanMem
/-- What Less answers. -/
def LessIs (l m : List Sp) (w : World) (e : Ending) (w' : World) : Prop := ∃ v c, e = .returned v ∧ SpansIs c w' v ∧ LessOf l m c ∧ c.length ≤ 2 * (l.length + m.length) ∧ Below w.heap.size w w'
/-- How the loop of Less stands. -/
def LessLoop (l m : List Sp) (e : List Int) (w1 wr : World) (v : Value) (k : Nat) : Prop :=
  ∃ c, OwnR 40 2 w1.heap.size wr v c.length (svals c) ∧ LessAt l m e k c ∧ c.length ≤ k ∧ Below w1.heap.size w1 wr
theorem cell_kept {w w' : World} {a : Addr} {k : Nat} {v : Value} (hb : Below w.heap.size w w') (hl : a.block < w.heap.size) (h : w.cell? (a.add k) = some v) : w'.cell? (a.add k) = some v := (hb.cell (by rw [add_block]; exact hl)).trans h
theorem cell_kept_at {w w' : World} {b i : Nat} {v : Value} (hb : Below w.heap.size w w') (hl : b < w.heap.size) (h : w.cell? ⟨b, i, none⟩ = some v) : w'.cell? ⟨b, i, none⟩ = some v := (hb.cell (p := ⟨b, i, none⟩) hl).trans h
theorem snoc_cases (c : List Sp) : c = [] ∨ ∃ d s, c = d ++ [s] := by
  by_cases h : c = []
  · exact .inl h
  · exact .inr ⟨c.dropLast, c.getLast h, (List.dropLast_concat_getLast h).symm⟩
theorem svals_last (d : List Sp) (s : Sp) (y : Int) : (svals (d ++ [s])).set (d.length * 2 + 1) (.int .i64 y) = svals (d ++ [(s.1, y)]) := by
  rw [svals_append, svals_append, List.set_append_right _ _ (by rw [svals_len]; omega), svals_len]
  have e : d.length * 2 + 1 - d.length * 2 = 1 := by omega
  rw [e]
  rfl
theorem svals_end (d : List Sp) (s : Sp) : (svals (d ++ [s]))[d.length * 2 + 1]? = some (.int .i64 s.2) := by
  have h := (svals_at (d ++ [s]) d.length (by simp)).2
  rw [h]
  simp [spCell, List.getD]
end Go.Proofs.Ytonapgbokbeopaa.SpanRef
namespace Go.Proofs.Ytonapgbokbeopaa.SpanWalk
open Go.RowKit Go.Proofs.Ytonapgbokbeopaa.SpanPlain Go.Proofs.Ytonapgbokbeopaa.Mem Go.Proofs.Ytonapgbokbeopaa.SpanMem Go.Proofs.Ytonapgbokbeopaa.SpanRef
def IntIs (n : Int) (w : World) (e : Ending) (w' : World) : Prop := e = .returned (.int .i64 n) ∧ Below w.heap.size w w'
def lenL (s : Sp) : Int := if mayB s then s.2 - s.1 else 0
def MeetIs (m : Sp × Bool) (w : World) (e : Ending) (w' : World) : Prop := e = .returned (.tuple #[spV m.1, .bool m.2]) ∧ Below w.heap.size w w'
def TrueIs (w : World) (e : Ending) (w' : World) : Prop := e = .returned (.bool true) ∧ Below w.heap.size w w'
/-- Total: of the cover. -/
def TotalIs (l : List Sp) (w : World) (e : Ending) (w' : World) : Prop := ∃ c, LessOf l [] c ∧ e = .returned (.int .i64 (totL c)) ∧ Below w.heap.size w w'
/-- What Less answers, from the cover alone: its length follows. -/
theorem less_is {l m c : List Sp} {w w' : World} {v : Value} (h1 : SpansIs c w' v) (h2 : LessOf l m c) (h3 : Below w.heap.size w w') : LessIs l m w (.returned v) w' :=
  ⟨v, c, rfl, h1, h2, by have := cov_len h2; omega, h3⟩
theorem Raw_one (s : Sp) (w : World) (T : TypeId) : SpansIs [s] (w.alloc (.cells #[.int .i64 s.1, .int .i64 s.2] T)) (.slice (some ⟨w.heap.size, 0, none⟩) 1 1) :=
  .inr ⟨_, _, rfl, Raw.alloc w #[.int .i64 s.1, .int .i64 s.2] T, Nat.le_refl _⟩
theorem Raw_two (s t : Sp) (w : World) (T : TypeId) : SpansIs [s, t] (w.alloc (.cells #[.int .i64 s.1, .int .i64 s.2, .int .i64 t.1, .int .i64 t.2] T)) (.slice (some ⟨w.heap.size, 0, none⟩) 2 2) :=
  .inr ⟨_, _, rfl, Raw.alloc w #[.int .i64 s.1, .int .i64 s.2, .int .i64 t.1, .int .i64 t.2] T, Nat.le_refl _⟩
theorem any_one (s : Sp) (t : Int) : anyB [s] t = hasB s t := by rw [any_cons, any_nil, Bool.or_false]
theorem below_alloc (w : World) (o : Obj) : Below w.heap.size w (w.alloc o) := (Below.refl _ _).alloc (Nat.le_refl _) o
theorem nil_is (w : World) : SpansIs [] w (.slice none 0 0) := .inl ⟨rfl, rfl⟩
/-- The first of some spans, as a walk at index 0 reads it. -/
theorem first_cells {s : Sp} {l : List Sp} {w : World} {v : Value} (h : SpansIs (s :: l) w v) : ∃ ad c, v = .slice (some ad) (l.length + 1) c ∧ ad.block < w.heap.size ∧ w.cell? ad = some (.int .i64 s.1) ∧ w.cell? ⟨ad.block, ad.off + 1, none⟩ = some (.int .i64 s.2) := by
  obtain ⟨A, c, rfl, hp⟩ := h.open_
  obtain ⟨ad, rfl, had, c1, c2⟩ := hp 0 (by simp)
  have e : ad.add (0 * 2) = ad := by unfold Addr.add; simp
  rw [e] at c1 c2
  exact ⟨ad, c, rfl, had, c1, c2⟩
theorem first_held {w w' : World} {a : Addr} {u v : Value} (hb : Below w.heap.size w w') (h1 : w.cell? a = some u) (h2 : w.cell? ⟨a.block, a.off + 1, none⟩ = some v) (hl : a.block < w.heap.size) :
    w'.cell? a = some u ∧ w'.cell? ⟨a.block, a.off + 1, none⟩ = some v ∧ a.block < w'.heap.size :=
  ⟨(hb.cell hl).trans h1, (hb.cell (p := ⟨a.block, a.off + 1, none⟩) hl).trans h2, Nat.lt_of_lt_of_le hl hb.size⟩
end Go.Proofs.Ytonapgbokbeopaa.SpanWalk
