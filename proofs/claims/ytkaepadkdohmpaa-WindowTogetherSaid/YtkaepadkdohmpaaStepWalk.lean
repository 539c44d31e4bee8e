/-
  The walk of layer 4's code: Of. (With it all of layer 4's six functions are walked.)
-/
import Derived.Test.YtkaepadkdohmpaaStepWalkH
namespace Go.Proofs.Ytkaepadkdohmpaa.StepWalk
open Go.RowKit Go.Proofs.Ytkaepadkdohmpaa.SpanPlain Go.Proofs.Ytkaepadkdohmpaa.StepPlain Go.Proofs.Ytkaepadkdohmpaa.Mem Go.Proofs.Ytkaepadkdohmpaa.SpanMem Go.Proofs.Ytkaepadkdohmpaa.StepMem Go.Proofs.Ytkaepadkdohmpaa.SpanRef Go.Proofs.Ytkaepadkdohmpaa.StepRef
theorem ofs_ways (p t : Int) (l : List By) : (decide (p < 1) = true ∧ Hid (ofBad p t l)) ∨ (decide (p < 1) = false ∧ decide (256 < p) = true ∧ Hid (ofBad p t l)) ∨ (decide (p < 1) = false ∧ decide (256 < p) = false ∧ begB t = false ∧ Hid (ofBad p t l)) ∨
    (decide (p < 1) = false ∧ decide (256 < p) = false ∧ begB t = true ∧ busyB l = false ∧ Hid (ofBad p t l)) ∨ (decide (p < 1) = false ∧ decide (256 < p) = false ∧ begB t = true ∧ busyB l = true ∧ Hid (¬ ofBad p t l)) := by
  by_cases h1 : p < 1
  · exact .inl ⟨decide_eq_true h1, .inr (.inl h1)⟩
  · by_cases h2 : 256 < p
    · exact .inr (.inl ⟨decide_eq_false h1, decide_eq_true h2, .inr (.inr (.inl h2))⟩)
    · cases h3 : begB t with
      | false =>
        refine .inr (.inr (.inl ⟨decide_eq_false h1, decide_eq_false h2, rfl, ?_⟩))
        unfold begB at h3
        simp only [Bool.and_eq_false_iff, decide_eq_false_iff_not] at h3
        rcases h3 with h3 | h3
        · exact .inr (.inr (.inr (.inl (by omega))))
        · exact .inr (.inr (.inr (.inr (.inl (by omega)))))
      | true =>
        unfold begB at h3
        simp only [Bool.and_eq_true, decide_eq_true_eq] at h3
        cases h4 : busyB l with
        | false =>
          refine .inr (.inr (.inr (.inl ⟨decide_eq_false h1, decide_eq_false h2, rfl, rfl, ?_⟩)))
          unfold busyB at h4
          simp only [Bool.and_eq_false_iff, decide_eq_false_iff_not, List.all_eq_false] at h4
          rcases h4 with h4 | ⟨b, hb, h4⟩
          · exact .inr (.inr (.inr (.inr (.inr (by omega)))))
          · exact .inl ⟨b, hb, by simpa using h4⟩
        | true =>
          refine .inr (.inr (.inr (.inr ⟨decide_eq_false h1, decide_eq_false h2, rfl, rfl, fun h => ?_⟩)))
          unfold busyB at h4
          simp only [Bool.and_eq_true, decide_eq_true_eq, List.all_eq_true] at h4
          rcases h with ⟨b, hb, h⟩ | h | h | h | h | h
          · rw [h4.2 b hb] at h; cases h
          all_goals omega
theorem of_arg {p t : Int} {l : List By} (h : ofBad p t l) {w w' : World} (hb : Below w.heap.size w w') : OfSays p t l w (.returned (.tuple #[.slice none 0 0, .int .i64 1])) w' := ⟨_, [], 1, rfl, .inl ⟨h, rfl, rfl⟩, .inl ⟨rfl, rfl⟩, hb, NewAt.nil⟩
theorem tot_range {p t : Int} {l : List By} (hl : ∀ b ∈ l, byB b = true) (hp : 1 ≤ p ∧ p ≤ 256) {k : Nat} (hk : k ≤ (turnsL t l).length) (h : ∀ x ∈ (turnsL t l).take k, 0 ≤ freeL p l x) : 0 ≤ tot (turnF p t l) ((turnsL t l).take k) ∧ tot (turnF p t l) ((turnsL t l).take k) ≤ 256 := by
  cases k with
  | zero => exact ⟨Int.le_refl _, by show (0 : Int) ≤ 256; omega⟩
  | succ k =>
    rw [tot_take hl (by omega)]
    have := free_le hl ((turnsL t l).getD k 0) p
    have hm : (turnsL t l).getD k 0 ∈ (turnsL t l).take (k + 1) := by
      rw [List.take_succ_eq_append_getElem (by omega), getD_el (by omega)]; exact List.mem_append_right _ (List.mem_singleton_self _)
    exact ⟨h _ hm, by omega⟩
/-- The steps at the first times. -/
def stepsTo (p t : Int) (l : List By) (k : Nat) : List Sp := ((turnsL t l).take k).map fun x => (x, freeL p l x)
theorem steps_len {p t : Int} {l : List By} {k : Nat} (hk : k ≤ (turnsL t l).length) : (stepsTo p t l k).length = k := by unfold stepsTo; rw [List.length_map, List.length_take]; omega
theorem steps_next {p t : Int} {l : List By} {k : Nat} (hk : k < (turnsL t l).length) : stepsTo p t l (k + 1) = stepsTo p t l k ++ [((turnsL t l).getD k 0, freeL p l ((turnsL t l).getD k 0))] := by
  unfold stepsTo
  rw [List.take_succ_eq_append_getElem hk, List.map_append, getD_el hk]; rfl
/-- How the loop of Of stands. -/
def OfLoop2 (p t : Int) (l : List By) (w2 wr : World) (v : Value) (k : Nat) : Prop :=
  OwnN 35 2 w2.heap.size wr v k (svals (stepsTo p t l k)) ∧ (∀ x ∈ (turnsL t l).take k, 0 ≤ freeL p l x) ∧ Below w2.heap.size w2 wr
theorem grown_of_below {w w' : World} (h : Below w.heap.size w w') : w.grownBy w' none := ⟨h.os, h.tape, h.output, h.size, fun i hi _ => h.block i hi⟩
set_option maxRecDepth 100000 in
set_option maxHeartbeats 3200000 in
theorem ofS (p t : Int) (l : List By) (v : Value) (w : World) (hv : BusyIs l w v) (hl : l.length ≤ 310) : Calls Try.prog 23 #[.int .i64 p, .int .i64 t, v] w (OfSays p t l w) := by
  have CB := Lib.hid (fun W => isBegS t W)
  have CY := Lib.hid (busyS l v w hv hl)
  have HV := Lib.hid hv
  obtain ⟨A, c, rfl, hA⟩ := hv.open_
  clear hA hv
  rcases ofs_ways p t l with ⟨h1, HB⟩ | ⟨h1, h2, HB⟩ | ⟨h1, h2, h3, HB⟩ | ⟨h1, h2, h3, h4, HB⟩ | ⟨h1, h2, h3, h4, HB⟩
  · go_enter Try.func23, Try.ntmps23
    go_wp2_with fail
    go_ret2
    exact of_arg HB.out (Below.refl _ _)
  · go_enter Try.func23, Try.ntmps23
    go_wp2_with fail
    go_ret2
    exact of_arg HB.out (Below.refl _ _)
  · rw [h3] at CB
    clear h3
    go_enter Try.func23, Try.ntmps23
    go_wp2_with fail
    refine (CB.out _).mono ?_
    rintro e w1 ⟨rfl, rfl⟩
    go_wp2_with fail
    go_ret2
    exact of_arg HB.out (Below.refl _ _)
  · rw [h3] at CB
    rw [h4] at CY
    clear h3 h4
    go_enter Try.func23, Try.ntmps23
    go_wp2_with fail
    refine (CB.out _).mono ?_
    rintro e w1 ⟨rfl, rfl⟩
    go_wp2_with fail
    refine CY.out.mono ?_
    rintro e w1 ⟨rfl, hb1⟩
    have HB1 := Lib.hid hb1
    clear hb1
    go_wp2_with fail
    go_ret2
    exact of_arg HB.out HB1.out
  · rw [h3] at CB
    rw [h4] at CY
    obtain ⟨hall, hp1, hp2, ht1, ht2, hl3⟩ := not_bad HB.out
    have HALL := Lib.hid hall
    clear h3 h4 hall
    go_enter Try.func23, Try.ntmps23
    go_wp2_with fail
    refine (CB.out _).mono ?_
    rintro e w1 ⟨rfl, rfl⟩
    go_wp2_with fail
    refine CY.out.mono ?_
    rintro e w1 ⟨rfl, hb1⟩
    have HB1 := Lib.hid hb1
    have CT := Lib.hid (turnsS p t l _ w1 (HV.out.below hb1) hl3 HALL.out ⟨hp1, hp2⟩ ⟨ht1, ht2⟩)
    clear hb1 CB CY
    go_wp2_with fail
    refine CT.out.mono ?_
    rintro e w2 ⟨b, n, D, rfl, hm2, hn2, htell, hb2⟩
    have HB2 := Lib.hid (below_then HB1.out hb2)
    have HT := Lib.hid htell
    have CR := Lib.hid (risingS _ _ b n D w2 hm2 htell (by omega) t (by rw [key_iff]; exact .inl rfl))
    clear hb2 hm2 htell CT HB1
    go_wp2_with fail
    refine CR.out.mono ?_
    rintro e w3 ⟨vr, ks, rfl, hks, hri, hme, hkn, hm3, hb3⟩
    obtain rfl := KeysOf.eq ⟨hri, hme⟩ HALL.out
    obtain ⟨ad, cr, rfl, hraw, _, _⟩ := hks
    have HRAW := Lib.hid hraw
    have HM3 := Lib.hid hm3
    have HB3 := Lib.hid (below_then HB2.out hb3)
    have htl := turns_len (t := t) hl
    clear hri hme hraw hm3 hb3 CR HB2
    go_wp2_with fail
    go_loopw [9, 10, 36] (fun o f i wr => ∃ (k : Nat) (v : Value), v = o ∧ f = .int .i64 (tot (turnF p t l) ((turnsL t l).take k)) ∧ i = .int .i64 k ∧ k ≤ (turnsL t l).length ∧ Hid (OfLoop2 p t l w3 wr v k)) (fun _ _ i _ => (turnsL t l).length - (intOf i).toNat)
    case atStart => exact ⟨0, _, rfl, rfl, rfl, Nat.zero_le _, OwnN.nil (Nat.le_refl _), fun x hx => by simp at hx, Below.refl _ _⟩
    case round =>
      obtain ⟨k, o, hov, rfl, rfl, hk, HL⟩ := hrel
      subst hov
      obtain ⟨hown, hge, hbl⟩ := HL.out
      by_cases hlt : k < (turnsL t l).length
      · have c1 := (HRAW.out.below hbl).int hlt
        have HM := Lib.hid (HM3.out.kept (grown_of_below hbl) (by simp))
        obtain ⟨r1, r2⟩ := tot_range (p := p) (t := t) HALL.out ⟨hp1, hp2⟩ hk hge
        have hx1 := turns_ge _ (getD_mem hlt)
        have hx2 := turns_top ht2 _ (getD_mem hlt)
        obtain ⟨r3, r4⟩ := turn_range (t := t) HALL.out ⟨hp1, hp2⟩ ((turnsL t l).getD k 0)
        have HNX := Lib.hid (tot_next (p := p) HALL.out hlt)
        have HTK := Lib.hid (tot_take (p := p) HALL.out hlt)
        have HOV := Lib.hid (fun h => of_over HB.out (getD_mem hlt) h)
        have HGE := Lib.hid (fun h => take_all (P := fun x => 0 ≤ freeL p l x) hlt hge h)
        have HSN := Lib.hid (steps_next (p := p) hlt)
        have hlt2 : (k : Int) < ((turnsL t l).length : Int) := by omega
        have i0 : (0 : Int) ≤ (k : Int) := Int.natCast_nonneg _
        have HOW := Lib.hid hown
        have HBL := Lib.hid hbl
        have HKEY := Lib.hid (Maps.keyOf_int_mk (P := Try.prog) (k := 3) Try.underlying3 (wf64 (x := (turnsL t l).getD k 0) (by omega) (by omega)))
        obtain ⟨B, cb, hsh⟩ := hown.shape
        subst hsh
        clear hown hge hbl HL
        unfold OfLoop2
        generalize (turnsL t l).getD k 0 = x at *
        generalize tot (turnF p t l) ((turnsL t l).take k) = T at *
        generalize hF : turnF p t l x = F at *
        have HF := Lib.hid hF
        clear hF
        generalize freeL p l x = G at *
        obtain rfl : G = T + F := HNX.out.symm
        go_wp2_with (at_lookup; refine wpList_lookup_own_int _ rfl _ _ 79 rfl 3 3 .i64 intLaw Try.underlying79 Try.underlying3 (intZero _) b n D rfl HM.out _ _ rfl HKEY.out ?_)
        intro c4 hat _
        obtain rfl : c4 = F := (HT.out.look hat).trans HF.out
        clear hat
        by_cases hn0 : T + c4 < 0
        · have hn1 : decide (T + c4 < 0) = true := decide_eq_true hn0
          have HOV2 := Lib.hid (HOV.out hn0)
          clear hn0 HOV HGE HNX HTK HSN
          go_wp2_with fail
          go_ret2
          exact ⟨_, [], 11, rfl, HOV2.out, .inl ⟨rfl, rfl⟩, HB3.out.trans (HBL.out.mono HB3.out.size), NewAt.nil⟩
        · have hn1 : decide (T + c4 < 0) = false := decide_eq_false hn0
          have HGE2 := Lib.hid (HGE.out (by omega))
          have HO1 := Lib.hid (HOW.out.alloc (.cells #[.int .i64 x, .int .i64 (T + c4)] 35))
          clear HOV HGE HNX
          go_wp2_with (at_builtin; refine push_own steps_t rfl (.tmp 47) (.tmp 51) rfl w3.heap.size _ _ _ rfl HO1.out _ 1 [.int .i64 x, .int .i64 (T + c4)] rfl rfl ?h1a two_cells ?h1b ?_)
          case h1a => exact raw_at (by simp) #[.int .i64 x, .int .i64 (T + c4)] _
          case h1b => omega
          intro v5 w5 ho5 hb5 _
          have HO5 := Lib.hid ho5
          have HB5 := Lib.hid ((HBL.out.alloc HBL.out.size _).trans hb5)
          clear ho5 hb5
          go_wp2_with fail
          exact ⟨⟨k + 1, _, rfl, by rw [HTK.out], by go_num, by omega, by rw [HSN.out, svals_snoc]; exact HO5.out, HGE2.out, HB5.out⟩, by simp [intOf] <;> omega⟩
      · obtain rfl : k = (turnsL t l).length := by omega
        have hpos : 0 < (turnsL t l).length := by unfold turnsL; simp
        have HD : Hid (OfIs p t l (joinL (stepsTo p t l (turnsL t l).length)) 0) := by
          unfold stepsTo
          rw [List.take_length] at hge ⊢
          rw [join_build]
          exact of_done HB.out hge
        have hsl := steps_len (p := p) (t := t) (l := l) (Nat.le_refl _)
        have HBL := Lib.hid hbl
        rcases hown.form with ⟨_, h0, _⟩ | ⟨g, cg, rfl, _, _, hcg, _, _, _, hor⟩
        · omega
        · have CJ := Lib.hid (joinedS (stepsTo p t l (turnsL t l).length) w3.heap.size g cg wr (by rw [hsl]; exact hor) (by rw [hsl]; exact hcg) (by rw [hsl]; omega))
          rw [hsl] at CJ
          clear hown hge hbl HL hor
          go_wp2_with fail
          refine CJ.out.mono ?_
          rintro e w9 ⟨v9, rfl, hs9, hb9, hn9⟩
          have HN9 := Lib.hid (hn9.mono HB3.out.size)
          have HS9 := Lib.hid hs9
          have HB9 := Lib.hid (HB3.out.trans ((HBL.out.trans hb9).mono HB3.out.size))
          clear hs9 hb9 hn9 CJ
          go_wp2_with fail
          go_ret2
          exact ⟨_, _, 0, rfl, HD.out, HS9.out, HB9.out, HN9.out⟩
end Go.Proofs.Ytkaepadkdohmpaa.StepWalk
