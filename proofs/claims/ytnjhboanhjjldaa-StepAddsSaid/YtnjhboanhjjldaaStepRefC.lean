/-
  The walk of the document's answer for layer 4: Of.
-/
import Derived.Test.YtnjhboanhjjldaaStepRefB
namespace Go.Proofs.Ytnjhboanhjjldaa.StepRef
open Go.RowKit Go.Proofs.Ytnjhboanhjjldaa.SpanPlain Go.Proofs.Ytnjhboanhjjldaa.StepPlain Go.Proofs.Ytnjhboanhjjldaa.Mem Go.Proofs.Ytnjhboanhjjldaa.SpanMem Go.Proofs.Ytnjhboanhjjldaa.StepMem Go.Proofs.Ytnjhboanhjjldaa.SpanRef

/-- What Of answers. -/
def OfTells (p t : Int) (l : List By) (w : World) (e : Ending) (w' : World) : Prop := ∃ v s c, e = .returned (.tuple #[v, .int .i64 c]) ∧ OfIs p t l s c ∧ SpansIs s w' v ∧ s.length ≤ 700 ∧ Below w.heap.size w w'
theorem ofs_arg {p t : Int} {l : List By} {w w' : World} (h : ofBad p t l) (hb : Below w.heap.size w w') : OfTells p t l w (.returned (.tuple #[.slice none 0 0, .int .i64 1])) w' := ⟨_, [], 1, rfl, .inl ⟨h, rfl, rfl⟩, .inl ⟨rfl, rfl⟩, by simp, hb⟩
def OfLoop (p t : Int) (l : List By) (w wr : World) (v : Value) (k : Nat) : Prop :=
  OwnN 41 2 w.heap.size wr v (buildL (freeL p l) ((turnsL t l).take k)).length (svals (buildL (freeL p l) ((turnsL t l).take k))) ∧ (∀ x ∈ (turnsL t l).take k, 0 ≤ freeL p l x) ∧ Below w.heap.size w wr
theorem build_take (P : Int → Int) {e : List Int} {k : Nat} (hk : k < e.length) : buildL P (e.take (k + 1)) = addStep P (buildL P (e.take k)) (e.getD k 0) := by
  rw [List.take_succ_eq_append_getElem hk, build_snoc, getD_el hk]
theorem take_all {P : Int → Prop} {e : List Int} {k : Nat} (hk : k < e.length) (h : ∀ x ∈ e.take k, P x) (hx : P (e.getD k 0)) : ∀ x ∈ e.take (k + 1), P x := by
  intro x hm
  rw [List.take_succ_eq_append_getElem hk, List.mem_append] at hm
  rcases hm with hm | hm
  · exact h x hm
  · simp at hm; subst hm; rwa [← getD_el hk]
theorem turns_len {t : Int} {l : List By} (hl : l.length ≤ 310) : (turnsL t l).length ≤ 621 := by
  have h1 := (ends_spec (busySp l)).2.2
  rw [busy_at (fun _ => trivial)] at h1
  have h2 := List.length_filter_le (fun e => decide (t < e)) (endsL (busySp l))
  unfold turnsL
  rw [List.length_cons]
  omega
theorem build_take_len (P : Int → Int) (e : List Int) (k : Nat) : (buildL P (e.take k)).length ≤ k := by
  have := build_len P (e.take k)
  rw [List.length_take] at this
  omega
theorem some_bad {l : List By} {k : Nat} (hk : k < l.length) (h : byB (byCell l k) = false) : ∃ b ∈ l, byB b = false := ⟨_, by rw [by_at hk]; exact List.getElem_mem hk, h⟩
theorem all_next {l : List By} {k : Nat} (hk : k < l.length) (h : ∀ b ∈ l.take k, byB b = true) (hx : byB (byCell l k) = true) : ∀ b ∈ l.take (k + 1), byB b = true := by
  intro b hm
  rw [List.take_succ_eq_append_getElem hk, List.mem_append] at hm
  rcases hm with hm | hm
  · exact h b hm
  · simp at hm; subst hm; rwa [← by_at hk]
theorem of_ways (p t : Int) {l : List By} (h : ∀ b ∈ l, byB b = true) : (decide (p < 1) = true ∧ Hid (ofBad p t l)) ∨ (decide (p < 1) = false ∧ decide (256 < p) = true ∧ Hid (ofBad p t l)) ∨ (decide (p < 1) = false ∧ decide (256 < p) = false ∧ decide (t < 0) = true ∧ Hid (ofBad p t l)) ∨
    (decide (p < 1) = false ∧ decide (256 < p) = false ∧ decide (t < 0) = false ∧ decide ((1125899906842624 : Int) < t) = true ∧ Hid (ofBad p t l)) ∨
    (decide (p < 1) = false ∧ decide (256 < p) = false ∧ decide (t < 0) = false ∧ decide ((1125899906842624 : Int) < t) = false ∧ decide ((300 : Int) < (l.length : Int)) = true ∧ Hid (ofBad p t l)) ∨
    (decide (p < 1) = false ∧ decide (256 < p) = false ∧ decide (t < 0) = false ∧ decide ((1125899906842624 : Int) < t) = false ∧ decide ((300 : Int) < (l.length : Int)) = false ∧ Hid (¬ ofBad p t l)) := by
  by_cases h1 : p < 1
  · exact .inl ⟨decide_eq_true h1, .inr (.inl h1)⟩
  · by_cases h2 : 256 < p
    · exact .inr (.inl ⟨decide_eq_false h1, decide_eq_true h2, .inr (.inr (.inl h2))⟩)
    · by_cases h3 : t < 0
      · exact .inr (.inr (.inl ⟨decide_eq_false h1, decide_eq_false h2, decide_eq_true h3, .inr (.inr (.inr (.inl h3)))⟩))
      · by_cases h4 : 1125899906842624 < t
        · exact .inr (.inr (.inr (.inl ⟨decide_eq_false h1, decide_eq_false h2, decide_eq_false h3, decide_eq_true h4, .inr (.inr (.inr (.inr (.inl h4))))⟩)))
        · by_cases h5 : 300 < l.length
          · exact .inr (.inr (.inr (.inr (.inl ⟨decide_eq_false h1, decide_eq_false h2, decide_eq_false h3, decide_eq_false h4, decide_eq_true (by omega), .inr (.inr (.inr (.inr (.inr h5))))⟩))))
          · refine .inr (.inr (.inr (.inr (.inr ⟨decide_eq_false h1, decide_eq_false h2, decide_eq_false h3, decide_eq_false h4, decide_eq_false (by omega), fun hb => ?_⟩))))
            rcases hb with ⟨b, hb, hx⟩ | hb | hb | hb | hb | hb
            · rw [h b hb] at hx; cases hx
            all_goals omega

set_option maxRecDepth 100000 in
set_option maxHeartbeats 3200000 in
theorem of4 (p t : Int) (l : List By) (v : Value) (w : World) (hv : BusyIs l w v) (hl : l.length ≤ 310) : Calls Try.prog 8 #[.int .i64 p, .int .i64 t, v] w (OfTells p t l w) := by
  obtain ⟨A, c, rfl, hA⟩ := hv.open_
  have HV := Lib.hid hv
  have HA := Lib.hid hA
  clear hA hv
  go_enter Try.func8, Try.ntmps8
  go_wp2_with fail
  go_loopw [8] (fun i wr => ∃ k : Nat, i = .int .i64 k ∧ k ≤ l.length ∧ Hid ((∀ b ∈ l.take k, byB b = true) ∧ Below w.heap.size w wr)) (fun i _ => l.length - (intOf i).toNat)
  case atStart => exact ⟨0, rfl, Nat.zero_le _, fun b hb => by simp at hb, Below.refl _ _⟩
  case round =>
    obtain ⟨k, rfl, hk, HL⟩ := hrel
    by_cases hlt : k < l.length
    · obtain ⟨hall, hbl⟩ := HL.out
      obtain ⟨ad, rfl, had, c1, c2, c3⟩ := (HA.out.below hbl) k hlt
      have C1 := Lib.hid (fun w => may4 (byCell l k) w)
      have HBAD := Lib.hid (fun h => some_bad hlt h)
      have HALL := Lib.hid (fun h => all_next hlt hall h)
      have HBL := Lib.hid hbl
      unfold byV at C1
      clear hall hbl HL had
      generalize byCell l k = b at *
      cases hm : byB b with
      | false =>
        rw [hm] at C1
        have HB := Lib.hid (HBAD.out hm)
        clear hm HBAD HALL
        go_wp2_with fail
        refine (C1.out _).mono ?_
        rintro e w1 ⟨rfl, hb1⟩
        have HB1 := Lib.hid (below_then HBL.out hb1)
        clear hb1
        go_wp2_with fail
        go_ret2
        exact ofs_arg (.inl HB.out) HB1.out
      | true =>
        rw [hm] at C1
        have HN := Lib.hid (HALL.out hm)
        clear hm HBAD HALL
        go_wp2_with fail
        refine (C1.out _).mono ?_
        rintro e w1 ⟨rfl, hb1⟩
        have HB1 := Lib.hid (below_then HBL.out hb1)
        clear hb1
        go_wp2_with fail
        exact ⟨⟨k + 1, by go_num, by omega, HN.out, HB1.out⟩, by simp [intOf] <;> omega⟩
    · obtain ⟨hall, hbl⟩ := HL.out
      rw [List.take_of_length_le (by omega)] at hall
      have hways := of_ways p t hall
      have HALL := Lib.hid hall
      have HBL := Lib.hid hbl
      clear hall hbl HL
      rcases hways with ⟨h1, HB⟩ | ⟨h1, h2, HB⟩ | ⟨h1, h2, h3, HB⟩ | ⟨h1, h2, h3, h4, HB⟩ | ⟨h1, h2, h3, h4, h5, HB⟩ | ⟨h1, h2, h3, h4, h5, HB⟩
      · go_wp2_with fail
        go_ret2
        exact ofs_arg HB.out HBL.out
      · go_wp2_with fail
        go_ret2
        exact ofs_arg HB.out HBL.out
      · go_wp2_with fail
        go_ret2
        exact ofs_arg HB.out HBL.out
      · go_wp2_with fail
        go_ret2
        exact ofs_arg HB.out HBL.out
      · go_wp2_with fail
        go_ret2
        exact ofs_arg HB.out HBL.out
      · have CT := Lib.hid (turns4 t l (.slice A l.length c) wr (HV.out.below HBL.out) (by omega))
        have htl := turns_len (t := t) hl
        go_wp2_with fail
        refine CT.out.mono ?_
        rintro e w2 ⟨ve, rfl, hE, hb2⟩
        obtain ⟨ea, ec, rfl, hre, _, _⟩ := hE
        obtain ⟨_, hp1, hp2, _, _, _⟩ := not_bad HB.out
        have HRE := Lib.hid hre
        have HB2 := Lib.hid (below_then HBL.out hb2)
        have HO2 := Lib.hid (OwnR.new w2 41 2).toN
        clear hre hb2 CT h1 h2 h3 h4 h5
        go_wp2_with fail
        go_loopw [10, 11] (fun o i wr => ∃ (k : Nat) (v : Value), v = o ∧ i = .int .i64 k ∧ k ≤ (turnsL t l).length ∧ Hid (OfLoop p t l w2 wr v k)) (fun _ i _ => (turnsL t l).length - (intOf i).toNat)
        case atStart => exact ⟨0, _, rfl, rfl, Nat.zero_le _, HO2.out, fun x hx => by simp at hx, (Below.refl _ _).alloc (Nat.le_refl _) _⟩
        case round =>
          obtain ⟨k, o, hov, rfl, hk, HL⟩ := hrel
          subst hov
          by_cases hlt : k < (turnsL t l).length
          · obtain ⟨hown, hall, hbl⟩ := HL.out
            have c1 := (HRE.out.below hbl).int hlt
            have CF := Lib.hid (free4 p l (.slice A l.length c) ((turnsL t l).getD k 0) wr (HV.out.below (below_then HB2.out hbl)) HALL.out (by omega) hp2 (by omega))
            have HOV := Lib.hid (fun h => of_over HB.out (getD_mem hlt) h)
            have HNX := Lib.hid (fun h => take_all (P := fun x => 0 ≤ freeL p l x) hlt hall h)
            have HBT := Lib.hid (build_take (freeL p l) hlt)
            have hbl3 := build_take_len (freeL p l) (turnsL t l) k
            have HOW := Lib.hid hown
            have HBL2 := Lib.hid hbl
            clear hown hall hbl HL
            unfold OfLoop
            generalize (turnsL t l).getD k 0 = x at *
            generalize buildL (freeL p l) ((turnsL t l).take k) = out at *
            cases hn0 : decide (freeL p l x < 0) with
            | true =>
              have HOV2 := Lib.hid (HOV.out (of_decide_eq_true hn0))
              generalize freeL p l x = n at *
              clear HOV HNX HBT
              go_wp2_with fail
              refine CF.out.mono ?_
              rintro e w3 ⟨rfl, rfl⟩
              go_wp2_with fail
              go_ret2
              exact ⟨_, [], 11, rfl, HOV2.out, .inl ⟨rfl, rfl⟩, by simp, HB2.out.trans (HBL2.out.mono HB2.out.size)⟩
            | false =>
              have HNX2 := Lib.hid (HNX.out (by have := of_decide_eq_false hn0; omega))
              have hsn := snoc_ways out
              have HAS : Hid (addStep (freeL p l) [] x = [] ++ [(x, freeL p l x)]) := add_first _ _
              have HAE : Hid (∀ d q, q.2 = freeL p l x → addStep (freeL p l) (d ++ [q]) x = d ++ [q]) := fun d q h => add_same h
              have HAN : Hid (∀ d q, q.2 ≠ freeL p l x → addStep (freeL p l) (d ++ [q]) x = d ++ [q] ++ [(x, freeL p l x)]) := fun d q h => add_new h
              have HOA := Lib.hid (HOW.out.alloc (.cells #[.int .i64 x, .int .i64 (freeL p l x)] 41))
              generalize hfn : freeL p l x = n at *
              clear hfn HNX HOV
              rcases hsn with rfl | ⟨d, q, rfl⟩
              · have HE := Lib.hid (HBT.out.trans HAS.out)
                clear HBT HAS HAE HAN
                obtain ⟨B, cb, rfl⟩ := HOW.out.shape
                go_wp2_with fail
                refine CF.out.mono ?_
                rintro e w3 ⟨rfl, rfl⟩
                go_wp2_with (at_builtin; refine push_own steps_t rfl (.tmp 77) (.tmp 84) rfl w2.heap.size _ _ _ rfl HOA.out _ 1 [.int .i64 x, .int .i64 n] rfl rfl ?h1a two_cells ?h1b ?_)
                case h1a => exact raw_at (by simp) #[.int .i64 x, .int .i64 n] _
                case h1b => simp <;> omega
                intro v3 w3 ho3 hb3 hg3
                have HO3 := Lib.hid ho3
                have HB3 := Lib.hid ((HBL2.out.alloc HBL2.out.size _).trans hb3)
                clear ho3 hb3 hg3
                go_wp2_with fail
                exact ⟨⟨k + 1, _, rfl, by go_num, by omega, HO3.out.cast (by rw [HE.out]; simp) (by rw [HE.out, svals_snoc]), HNX2.out, HB3.out⟩, by simp [intOf] <;> omega⟩
              · have hdl : d.length + 1 ≤ k := by simpa using hbl3
                have HOQ : Hid (OwnN 41 2 w2.heap.size wr o (d.length + 1) (svals (d ++ [q]))) := by
                  have h := HOW.out
                  rw [List.length_append, List.length_singleton] at h
                  exact h
                obtain ⟨g, cap, hv, hg1, hg2, hgc, _⟩ := HOQ.out.there
                have ce := hgc _ _ (last_cell d q)
                clear hgc
                subst hv
                have q0 : (0 : Int) ≤ (d.length : Int) := Int.natCast_nonneg _
                have q1 : (d.length : Int) < (d.length : Int) + 1 := by omega
                have q2 : IntKind.i64.wrap ((d.length : Int) + 1 - 1) = (d.length : Int) := by rw [IntKind.wrap_i64]; omega
                by_cases hq : q.2 = n
                · have hq2 : (q.2 != n) = false := by simp [hq]
                  have HE := Lib.hid (HBT.out.trans (HAE.out d q hq))
                  clear HBT HAS HAE HAN hq
                  go_wp2_with fail
                  refine CF.out.mono ?_
                  rintro e w3 ⟨rfl, rfl⟩
                  go_wp2_with fail
                  exact ⟨⟨k + 1, _, rfl, by go_num, by omega, HOQ.out.cast (by rw [HE.out]; simp) (by rw [HE.out]), HNX2.out, HBL2.out⟩, by simp [intOf] <;> omega⟩
                · have hq2 : (q.2 != n) = true := by simpa using hq
                  have HE := Lib.hid (HBT.out.trans (HAN.out d q hq))
                  have HOA := Lib.hid (HOQ.out.alloc (.cells #[.int .i64 x, .int .i64 n] 41))
                  clear HBT HAS HAE HAN hq
                  go_wp2_with fail
                  refine CF.out.mono ?_
                  rintro e w3 ⟨rfl, rfl⟩
                  go_wp2_with (at_builtin; refine push_own steps_t rfl (.tmp 77) (.tmp 84) rfl w2.heap.size _ _ _ rfl HOA.out _ 1 [.int .i64 x, .int .i64 n] rfl rfl ?h2a two_cells ?h2b ?_)
                  case h2a => exact raw_at (by simp) #[.int .i64 x, .int .i64 n] _
                  case h2b => simp <;> omega
                  intro v3 w3 ho3 hb3 hg3
                  have HO3 := Lib.hid ho3
                  have HB3 := Lib.hid ((HBL2.out.alloc HBL2.out.size _).trans hb3)
                  clear ho3 hb3 hg3
                  go_wp2_with fail
                  exact ⟨⟨k + 1, _, rfl, by go_num, by omega, HO3.out.cast (by rw [HE.out]; simp) (by rw [HE.out]; exact (svals_snoc (d ++ [q]) (x, n)).symm), HNX2.out, HB3.out⟩, by simp [intOf] <;> omega⟩
          · obtain ⟨hown, hall, hbl⟩ := HL.out
            rw [List.take_of_length_le (by omega)] at hown hall
            have HD := Lib.hid (of_done HB.out hall)
            have hbl3 := build_len (freeL p l) (turnsL t l)
            have HOW := Lib.hid hown
            have HBL2 := Lib.hid hbl
            clear hown hall hbl HL
            go_wp2_with fail
            go_ret2
            exact ⟨_, _, 0, rfl, HD.out, spans_of_own HOW.out rfl, by omega, HB2.out.trans (HBL2.out.mono HB2.out.size)⟩
end Go.Proofs.Ytnjhboanhjjldaa.StepRef
