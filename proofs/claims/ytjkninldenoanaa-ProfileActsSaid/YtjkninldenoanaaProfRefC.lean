/-
  The walk of the document's answer for layer 5: Steps.
-/
import Derived.Test.YtjkninldenoanaaProfRefB
namespace Go.Proofs.Ytjkninldenoanaa.ProfRef
open Go.RowKit Go.Proofs.Ytjkninldenoanaa.SpanPlain Go.Proofs.Ytjkninldenoanaa.StepPlain Go.Proofs.Ytjkninldenoanaa.ProfPlain Go.Proofs.Ytjkninldenoanaa.Mem Go.Proofs.Ytjkninldenoanaa.SpanMem Go.Proofs.Ytjkninldenoanaa.StepMem Go.Proofs.Ytjkninldenoanaa.SpanRef Go.Proofs.Ytjkninldenoanaa.StepRef

/-- The steps of a profile. -/
def stepsL (x : Prof) : List Sp := buildL (freeL x.p x.l) (turnsL x.t x.l)
def StepsIs (x : Prof) (w : World) (e : Ending) (w' : World) : Prop := ∃ v, e = .returned v ∧ SpansIs (stepsL x) w' v ∧ (stepsL x).length ≤ 700 ∧ Below w.heap.size w w'
def StepsLoop (P : Int → Int) (es : List Int) (w wr : World) (v : Value) (k : Nat) : Prop :=
  OwnN 62 2 w.heap.size wr v (buildL P (es.take k)).length (svals (buildL P (es.take k))) ∧ Below w.heap.size w wr
theorem built_take (P : Int → Int) {e : List Int} {k : Nat} (hk : k < e.length) : buildL P (e.take (k + 1)) = addStep P (buildL P (e.take k)) (e.getD k 0) := by
  rw [List.take_succ_eq_append_getElem hk, build_snoc, getD_el hk]
theorem built_take_len (P : Int → Int) (e : List Int) (k : Nat) : (buildL P (e.take k)).length ≤ k := by
  have := build_len P (e.take k)
  rw [List.length_take] at this
  omega

set_option maxHeartbeats 3200000 in
theorem steps5 (x : Prof) (v : Value) (w : World) (hv : BusyIs x.l w v) (hx : Prof.Ok x) : Calls Try.prog 33 #[profV x v] w (StepsIs x w) := by
  obtain ⟨A, c, rfl, _⟩ := hv.open_
  have HB := Lib.hid (below_alloc w (.cells #[.int .i64 x.p, .int .i64 x.t, .slice A x.l.length c] 33))
  have HP := Lib.hid (Box3.new w (.int .i64 x.p) (.int .i64 x.t) (.slice A x.l.length c) 33)
  have HT := Lib.hid (fun (w' : World) (hb : Below w.heap.size w w') => turns4 x.t x.l (.slice A x.l.length c) w' (hv.below hb) (by have := hx.len; omega))
  have HF := Lib.hid (fun t (w' : World) (hb : Below w.heap.size w w') => free5 x (.slice A x.l.length c) t w' (hv.below hb) hx)
  have hlen := turns_len2 x.t x.l
  have hx2 := hx.len
  have HSL : Hid (stepsL x = buildL (freeL x.p x.l) (turnsL x.t x.l)) := rfl
  unfold profV at *
  clear hv hx
  go_enter Try.func33, Try.ntmps33
  go_wp2_with fail
  refine (HT.out _ HB.out).mono ?_
  rintro e w1 ⟨ve, rfl, hE, hb1⟩
  obtain ⟨ea, ec, rfl, hre, _, _⟩ := hE
  have HRE := Lib.hid hre
  have HP1 := Lib.hid (HP.out.below hb1)
  have HB1 := Lib.hid (below_then HB.out hb1)
  have HO := Lib.hid (OwnR.new w1 62 2).toN
  clear hre hb1 HT HP
  generalize turnsL x.t x.l = es at *
  go_wp2_with fail
  go_loopw [4, 5] (fun o i wr => ∃ (k : Nat) (v : Value), v = o ∧ i = .int .i64 k ∧ k ≤ es.length ∧ Hid (StepsLoop (freeL x.p x.l) es w1 wr v k)) (fun _ i _ => es.length - (intOf i).toNat)
  case atStart => exact ⟨0, _, rfl, rfl, Nat.zero_le _, HO.out, (Below.refl _ _).alloc (Nat.le_refl _) _⟩
  case round =>
    obtain ⟨k, o, hov, rfl, hk, HL⟩ := hrel
    subst hov
    by_cases hlt : k < es.length
    · obtain ⟨hown, hbl⟩ := HL.out
      have c1 := (HRE.out.below hbl).int hlt
      have hea := (HRE.out.below hbl).intlt hlt
      obtain ⟨p0, p1, p2, p3⟩ := HP1.out.below hbl
      have HFK := Lib.hid (fun (w' : World) (hb : Below wr.heap.size wr w') => HF.out (es.getD k 0) w' (below_then (below_then HB1.out hbl) hb))
      have HBT := Lib.hid (built_take (freeL x.p x.l) hlt)
      have hbl3 := built_take_len (freeL x.p x.l) es k
      have HAS : Hid (addStep (freeL x.p x.l) [] (es.getD k 0) = [] ++ [(es.getD k 0, freeL x.p x.l (es.getD k 0))]) := add_first _ _
      have HAE : Hid (∀ d q, q.2 = freeL x.p x.l (es.getD k 0) → addStep (freeL x.p x.l) (d ++ [q]) (es.getD k 0) = d ++ [q]) := fun d q h => add_same h
      have HAN : Hid (∀ d q, q.2 ≠ freeL x.p x.l (es.getD k 0) → addStep (freeL x.p x.l) (d ++ [q]) (es.getD k 0) = d ++ [q] ++ [(es.getD k 0, freeL x.p x.l (es.getD k 0))]) := fun d q h => add_new h
      have HOW := Lib.hid hown
      have HW := Lib.hid hbl
      have i0 : (0 : Int) ≤ (k : Int) := Int.natCast_nonneg _
      have i1 : (k : Int) < (es.length : Int) := by omega
      clear hown hbl HL
      unfold StepsLoop
      generalize es.getD k 0 = y at *
      generalize freeL x.p x.l y = m at *
      generalize buildL (freeL x.p x.l) (es.take k) = out at *
      go_wp2_with fail
      go_region_held3 (fun w' => w'.cell? (ea.add k) = some (.int .i64 y) ∧ w'.cell? ⟨w.heap.size, 0, none⟩ = some (.int .i64 x.p) ∧ w'.cell? ⟨w.heap.size, 1, none⟩ = some (.int .i64 x.t) ∧ w'.cell? ⟨w.heap.size, 2, none⟩ = some (.slice A x.l.length c))
        (first | go_keep | (go_split_ands; exact ⟨(hb5.cell (p := ea.add k) (by rw [add_block]; exact hea)).trans (by assumption), (hb5.cell (p := ⟨w.heap.size, 0, none⟩) p0).trans (by assumption), (hb5.cell (p := ⟨w.heap.size, 1, none⟩) p0).trans (by assumption), (hb5.cell (p := ⟨w.heap.size, 2, none⟩) p0).trans (by assumption)⟩))
        (first | (go_at_call_of 32 (Value.agg #[.int .i64 x.p, .int .i64 x.t, .slice A x.l.length c]); (refine (HFK.out _ (Below.refl _ _).drew).mono ?_; rintro e w5 ⟨rfl, hb4⟩; have hb5 := below_of_drew hb4; clear hb4)))
      have f1 := (hb5.cell (p := ea.add k) (by rw [add_block]; exact hea)).trans c1
      have HB5 := Lib.hid (HW.out.trans (hb5.mono HW.out.size))
      have HO5 := Lib.hid (HOW.out.below hb5)
      clear hb5 hea p0 p1 p2 p3 c1 HOW HW HFK
      have hsn := snoc_ways out
      rcases hsn with rfl | ⟨d, q, rfl⟩
      · have HE := Lib.hid (HBT.out.trans HAS.out)
        have HOA := Lib.hid (HO5.out.alloc (.cells #[.int .i64 y, .int .i64 m] 62))
        clear HBT HAS HAE HAN
        obtain ⟨B, cb, rfl⟩ := HO5.out.shape
        go_wp2_with (at_builtin; refine push_own steps_t rfl (.tmp 39) (.tmp 46) rfl w1.heap.size _ _ _ rfl HOA.out _ 1 [.int .i64 y, .int .i64 m] rfl rfl ?h1a two_cells ?h1b ?_)
        case h1a => exact raw_at (by simp) #[.int .i64 y, .int .i64 m] _
        case h1b => simp <;> omega
        intro v6 w6 ho6 hb6 hg6
        have HO6 := Lib.hid ho6
        have HB6 := Lib.hid ((HB5.out.alloc HB5.out.size _).trans hb6)
        clear ho6 hb6 hg6
        go_wp2_with fail
        exact ⟨⟨k + 1, _, rfl, by go_num, by omega, HO6.out.cast (by rw [HE.out]; simp) (by rw [HE.out, svals_snoc]), HB6.out⟩, by simp [intOf] <;> omega⟩
      · have hdl : d.length + 1 ≤ k := by simpa using hbl3
        have HOQ : Hid (OwnN 62 2 w1.heap.size w5 o (d.length + 1) (svals (d ++ [q]))) := by
          have h := HO5.out
          rw [List.length_append, List.length_singleton] at h
          exact h
        obtain ⟨g, cap, hv, hg1, hg2, hgc, _⟩ := HOQ.out.there
        have ce := hgc _ _ (last_cell d q)
        clear hgc
        subst hv
        have q0 : (0 : Int) ≤ (d.length : Int) := Int.natCast_nonneg _
        have q1 : (d.length : Int) < (d.length : Int) + 1 := by omega
        have q2 : IntKind.i64.wrap ((d.length : Int) + 1 - 1) = (d.length : Int) := by rw [IntKind.wrap_i64]; omega
        by_cases hq : q.2 = m
        · have hq2 : (q.2 != m) = false := by simp [hq]
          have HE := Lib.hid (HBT.out.trans (HAE.out d q hq))
          clear HBT HAS HAE HAN hq
          go_wp2_with fail
          exact ⟨⟨k + 1, _, rfl, by go_num, by omega, HOQ.out.cast (by rw [HE.out]; simp) (by rw [HE.out]), HB5.out⟩, by simp [intOf] <;> omega⟩
        · have hq2 : (q.2 != m) = true := by simpa using hq
          have HE := Lib.hid (HBT.out.trans (HAN.out d q hq))
          have HOA := Lib.hid (HOQ.out.alloc (.cells #[.int .i64 y, .int .i64 m] 62))
          clear HBT HAS HAE HAN hq
          go_wp2_with (at_builtin; refine push_own steps_t rfl (.tmp 39) (.tmp 46) rfl w1.heap.size _ _ _ rfl HOA.out _ 1 [.int .i64 y, .int .i64 m] rfl rfl ?h2a two_cells ?h2b ?_)
          case h2a => exact raw_at (by simp) #[.int .i64 y, .int .i64 m] _
          case h2b => simp <;> omega
          intro v6 w6 ho6 hb6 hg6
          have HO6 := Lib.hid ho6
          have HB6 := Lib.hid ((HB5.out.alloc HB5.out.size _).trans hb6)
          clear ho6 hb6 hg6
          go_wp2_with fail
          exact ⟨⟨k + 1, _, rfl, by go_num, by omega, HO6.out.cast (by rw [HE.out]; simp) (by rw [HE.out]; exact (svals_snoc (d ++ [q]) (y, m)).symm), HB6.out⟩, by simp [intOf] <;> omega⟩
    · obtain ⟨hown, hbl⟩ := HL.out
      rw [List.take_of_length_le (by omega), ← HSL.out] at hown
      have hl3 : (stepsL x).length ≤ 700 := by
        rw [HSL.out]
        have := build_len (freeL x.p x.l) es
        omega
      have HOW := Lib.hid hown
      have HW := Lib.hid hbl
      clear hown hbl HL
      go_wp2_with fail
      go_ret
      exact ⟨_, rfl, spans_of_own HOW.out rfl, hl3, HB1.out.trans (HW.out.mono HB1.out.size)⟩
end Go.Proofs.Ytjkninldenoanaa.ProfRef
