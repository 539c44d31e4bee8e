/-
  The walks of the document's answers for layer 3: put, Ends.
-/
import Derived.Test.YtalopnkdnlkdoaaSpanRefA
import Derived.Test.YtalopnkdnlkdoaaSpanPlain
namespace Go.Proofs.Ytalopnkdnlkdoaa.SpanRef
open Go.RowKit Go.Proofs.Ytalopnkdnlkdoaa.SpanPlain Go.Proofs.Ytalopnkdnlkdoaa.Mem Go.Proofs.Ytalopnkdnlkdoaa.SpanMem
def PutIs (l : List Int) (w : World) (e : Ending) (w' : World) : Prop := ∃ v, e = .returned v ∧ IntsIs l w' v ∧ Below w.heap.size w w'
theorem atTo_succ (l : List Int) (n : Int) (k : Nat) : atTo l n (k + 1) = if l.getD k 0 < n then k + 1 else atTo l n k := rfl
theorem put_next {l : List Int} {n : Int} {k : Nat} (hk : k < l.length) (h : n ∉ l.take k) (hn : l.getD k 0 ≠ n) : n ∉ l.take (k + 1) := by
  rw [List.take_succ_eq_append_getElem hk, List.mem_append]
  rintro (g | g)
  · exact h g
  · simp at g
    rw [getD_el hk] at hn
    exact hn g.symm
set_option maxHeartbeats 1600000 in
theorem put_any (l : List Int) (n : Int) (v : Value) (w : World) (hv : IntsIs l w v) (hl : l.length ≤ 9000) :
    Calls Try.prog 39 #[v, .int .i64 n] w (PutIs (putL l n) w) := by
  obtain ⟨ad, c, rfl, hA, hc1, hc2⟩ := hv
  have HA := Lib.hid hA
  clear hA
  unfold maxLen at hc2
  go_enter Try.func39, Try.ntmps39
  go_wp2_with fail
  go_loop [5, 6] (fun a i => ∃ k : Nat, a = .int .i64 (atTo l n k : Nat) ∧ i = .int .i64 k ∧ k ≤ l.length ∧ Hid (n ∉ l.take k)) (fun _ i => l.length - (intOf i).toNat)
  case atStart => exact ⟨0, rfl, rfl, Nat.zero_le _, by simp [Hid]⟩
  case round =>
    obtain ⟨k, rfl, rfl, hk, HN⟩ := hrel
    by_cases hlt : k < l.length
    · have hc3 := HA.out.int hlt
      have hm : l.getD k 0 ∈ l := getD_mem hlt
      have hcase : ((l.getD k 0 == n) = true) ∨ ((l.getD k 0 == n) = false ∧ decide (l.getD k 0 < n) = true ∧ atTo l n (k + 1) = k + 1) ∨ ((l.getD k 0 == n) = false ∧ decide (l.getD k 0 < n) = false ∧ atTo l n (k + 1) = atTo l n k) := by
        by_cases h1 : l.getD k 0 = n
        · left; exact beq_iff_eq.2 h1
        · by_cases h2 : l.getD k 0 < n
          · right; left; exact ⟨beq_eq_false_iff_ne.2 h1, decide_eq_true h2, (atTo_succ l n k).trans (if_pos h2)⟩
          · right; right; exact ⟨beq_eq_false_iff_ne.2 h1, decide_eq_false h2, (atTo_succ l n k).trans (if_neg h2)⟩
      have HX := Lib.hid (fun h => put_next hlt HN.out h)
      have HM := Lib.hid hm
      clear hm
      generalize l.getD k 0 = x at *
      rcases hcase with h1 | ⟨h1, h2, h3⟩ | ⟨h1, h2, h3⟩
      · have e : x = n := by simpa using h1
        subst e
        go_wp2_with fail
        go_ret
        exact ⟨_, rfl, by rw [putL_in HM.out]; exact ⟨ad, c, rfl, HA.out, hc1, by unfold maxLen; omega⟩, Below.refl _ _⟩
      · have H3 := Lib.hid h3
        clear h3
        have hne : x ≠ n := by simpa using h1
        have HN2 := Lib.hid (HX.out hne)
        clear hne
        go_wp2_with fail
        exact ⟨⟨k + 1, by rw [H3.out]; go_num, by go_num, by omega, HN2⟩, by simp [intOf] <;> omega⟩
      · have H3 := Lib.hid h3
        clear h3
        have hne : x ≠ n := by simpa using h1
        have HN2 := Lib.hid (HX.out hne)
        clear hne
        go_wp2_with fail
        exact ⟨⟨k + 1, by rw [H3.out], by go_num, by omega, HN2⟩, by simp [intOf] <;> omega⟩
    · obtain rfl : k = l.length := by omega
      have HP := Lib.hid (putL_out (l := l) (n := n) (by have := HN.out; rwa [List.take_length] at this))
      have hat := atTo_le l n l.length
      generalize hq : atTo l n l.length = q at *
      clear hq
      clear hlt
      have HO := Lib.hid (OwnR.new w 3 1)
      have HB := Lib.hid ((Below.refl w.heap.size w).alloc (Nat.le_refl _) (.cells #[] 3))
      have hcase : c = q ∨ ¬ c = q := Classical.em _
      have HD := Lib.hid ((HA.out.below HB.out).drop q)
      rcases hcase with hcq | hcq
      · have he : l.drop q = [] := List.drop_of_length_le (by omega)
        have HE := Lib.hid he
        clear he
        go_wp2_with (at_builtin; refine push_raw ints_t rfl (.tmp 29) (.tmp 32) rfl w.heap.size _ 0 [] rfl HO.out ad _ _ [] rfl ?h1a ?h1b ?h1c ?h1d ?_)
        case h1a => omega
        case h1b => exact raw_nil (HA.out.below HB.out)
        case h1d => omega
        intro v1 w1 hown1 hb1
        have H1 : Hid (OwnR 3 1 w.heap.size w1 v1 (l.drop q).length (ivals (l.drop q))) := by
          have e : l.length - q = 0 := by omega
          rw [e] at hown1
          rw [HE.out]
          exact hown1
        have H2 : Hid (IntsIs (l.drop q) w1 v1) := OwnR.ints H1.out rfl
        clear hown1 H1
        have HB1 := Lib.hid (HB.out.trans (hb1.mono (by simp)))
        clear hb1
        obtain ⟨a1, k1, hv1, hr1, hk1, hk2⟩ := H2.out
        have HR1 := Lib.hid hr1
        clear H2 hr1 hk2
        subst hv1
        have HO2 := Lib.hid (OwnR.new w1 3 1)
        have HB2 := Lib.hid ((Below.refl w1.heap.size w1).alloc (Nat.le_refl _) (.cells #[] 3))
        have HT := Lib.hid (((HA.out.below HB1.out).below HB2.out).take q)
        go_wp2_with (at_builtin; refine push_raw ints_t rfl (.tmp 34) (.tmp 37) rfl w1.heap.size _ 0 [] rfl HO2.out ad q _ (ivals (l.take q)) rfl ?h2a ?h2b ?h2c ?h2d ?_)
        case h2a => simp [ivals_len]; omega
        case h2b => rw [← ivals_take]; exact HT.out
        case h2c => exact ivals_cell _
        case h2d => omega
        intro v2 w2 hown2 hb2
        have HO3 := Lib.hid hown2
        have HB3 := Lib.hid (HB2.out.trans hb2)
        clear hown2 hb2 HT
        go_wp2_with (at_builtin; refine push_raw ints_t rfl (.tmp 38) (.tmp 40) rfl w1.heap.size _ _ _ rfl (HO3.out.alloc _) ⟨w2.heap.size, 0, none⟩ 1 1 [.int .i64 n] rfl ?h3a ?h3b ?h3c ?h3d ?_)
        case h3a => rfl
        case h3b => exact Raw.alloc w2 #[.int .i64 n] _
        case h3c => exact one_cell
        case h3d => omega
        intro v3 w3 hown3 hb3
        have HO4 := Lib.hid hown3
        have HB4 := Lib.hid (HB3.out.trans (((Below.refl w1.heap.size w2).alloc HB3.out.size _).trans hb3))
        clear hown3 hb3
        go_wp2_with (at_builtin; refine push_raw ints_t rfl (.tmp 41) (.tmp 42) rfl w1.heap.size _ _ _ rfl HO4.out a1 _ k1 (ivals (l.drop q)) rfl ?h4a ?h4b ?h4c ?h4d ?_)
        case h4a => simp [ivals_len]
        case h4b => exact HR1.out.below HB4.out
        case h4c => exact ivals_cell _
        case h4d => omega
        intro v4 w4 hown4 hb4
        go_wp2_with fail
        go_ret
        refine ⟨_, rfl, ?_, HB1.out.trans ((HB4.out.trans hb4).mono HB1.out.size)⟩
        have hp := HP.out
        rw [hp]
        have h5 : OwnR 3 1 w1.heap.size w4 v4 (l.take q ++ ([n] ++ l.drop q)).length (ivals (l.take q ++ ([n] ++ l.drop q))) := hown4.cast (by simp; omega) (by simp [ivals])
        exact OwnR.ints h5 rfl
      · go_wp2_with (at_builtin; refine push_raw ints_t rfl (.tmp 29) (.tmp 32) rfl w.heap.size _ 0 [] rfl HO.out (ad.add q) (l.length - q) (c - q) (ivals (l.drop q)) rfl ?h5a ?h5b ?h5c ?h5d ?_)
        case h5a => simp [ivals_len]
        case h5b => rw [← ivals_drop]; exact HD.out
        case h5c => exact ivals_cell _
        case h5d => omega
        intro v1 w1 hown1 hb1
        have H1 : Hid (OwnR 3 1 w.heap.size w1 v1 (l.drop q).length (ivals (l.drop q))) := by
          rw [List.length_drop]
          exact hown1
        have H2 : Hid (IntsIs (l.drop q) w1 v1) := OwnR.ints H1.out rfl
        clear hown1 H1
        have HB1 := Lib.hid (HB.out.trans (hb1.mono (by simp)))
        clear hb1
        obtain ⟨a1, k1, hv1, hr1, hk1, hk2⟩ := H2.out
        have HR1 := Lib.hid hr1
        clear H2 hr1 hk2
        subst hv1
        have HO2 := Lib.hid (OwnR.new w1 3 1)
        have HB2 := Lib.hid ((Below.refl w1.heap.size w1).alloc (Nat.le_refl _) (.cells #[] 3))
        have HT := Lib.hid (((HA.out.below HB1.out).below HB2.out).take q)
        go_wp2_with (at_builtin; refine push_raw ints_t rfl (.tmp 34) (.tmp 37) rfl w1.heap.size _ 0 [] rfl HO2.out ad q _ (ivals (l.take q)) rfl ?h6a ?h6b ?h6c ?h6d ?_)
        case h6a => simp [ivals_len]; omega
        case h6b => rw [← ivals_take]; exact HT.out
        case h6c => exact ivals_cell _
        case h6d => omega
        intro v2 w2 hown2 hb2
        have HO3 := Lib.hid hown2
        have HB3 := Lib.hid (HB2.out.trans hb2)
        clear hown2 hb2 HT
        go_wp2_with (at_builtin; refine push_raw ints_t rfl (.tmp 38) (.tmp 40) rfl w1.heap.size _ _ _ rfl (HO3.out.alloc _) ⟨w2.heap.size, 0, none⟩ 1 1 [.int .i64 n] rfl ?h7a ?h7b ?h7c ?h7d ?_)
        case h7a => rfl
        case h7b => exact Raw.alloc w2 #[.int .i64 n] _
        case h7c => exact one_cell
        case h7d => omega
        intro v3 w3 hown3 hb3
        have HO4 := Lib.hid hown3
        have HB4 := Lib.hid (HB3.out.trans (((Below.refl w1.heap.size w2).alloc HB3.out.size _).trans hb3))
        clear hown3 hb3
        go_wp2_with (at_builtin; refine push_raw ints_t rfl (.tmp 41) (.tmp 42) rfl w1.heap.size _ _ _ rfl HO4.out a1 _ k1 (ivals (l.drop q)) rfl ?h8a ?h8b ?h8c ?h8d ?_)
        case h8a => simp [ivals_len]
        case h8b => exact HR1.out.below HB4.out
        case h8c => exact ivals_cell _
        case h8d => omega
        intro v4 w4 hown4 hb4
        go_wp2_with fail
        go_ret
        refine ⟨_, rfl, ?_, HB1.out.trans ((HB4.out.trans hb4).mono HB1.out.size)⟩
        have hp := HP.out
        rw [hp]
        have h5 : OwnR 3 1 w1.heap.size w4 v4 (l.take q ++ ([n] ++ l.drop q)).length (ivals (l.take q ++ ([n] ++ l.drop q))) := hown4.cast (by simp; omega) (by simp [ivals])
        exact OwnR.ints h5 rfl
end Go.Proofs.Ytalopnkdnlkdoaa.SpanRef
