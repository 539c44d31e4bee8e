/-
  The walks of the document's answers for layer 5: Least, Most, Steps.
-/
import Derived.Test.YtjkninldenoanaaProfRefA
namespace Go.Proofs.Ytjkninldenoanaa.ProfRef
open Go.RowKit Go.Proofs.Ytjkninldenoanaa.SpanPlain Go.Proofs.Ytjkninldenoanaa.StepPlain Go.Proofs.Ytjkninldenoanaa.ProfPlain Go.Proofs.Ytjkninldenoanaa.Mem Go.Proofs.Ytjkninldenoanaa.SpanMem Go.Proofs.Ytjkninldenoanaa.StepMem Go.Proofs.Ytjkninldenoanaa.SpanRef Go.Proofs.Ytjkninldenoanaa.StepRef

/-- A box of three cells. -/
structure Box3 (w : World) (n : Nat) (x y z : Value) : Prop where
  lt : n < w.heap.size
  c0 : w.cell? ⟨n, 0, none⟩ = some x
  c1 : w.cell? ⟨n, 1, none⟩ = some y
  c2 : w.cell? ⟨n, 2, none⟩ = some z
theorem Box3.new (w : World) (x y z : Value) (T : TypeId) : Box3 (w.alloc (.cells #[x, y, z] T)) w.heap.size x y z :=
  ⟨by simp, box_cell (Below.refl _ _) (j := 0) rfl, box_cell (Below.refl _ _) (j := 1) rfl, box_cell (Below.refl _ _) (j := 2) rfl⟩
theorem Box3.below {w w' : World} {n : Nat} {x y z : Value} (h : Box3 w n x y z) (hb : Below w.heap.size w w') : Box3 w' n x y z :=
  ⟨Nat.lt_of_lt_of_le h.lt hb.size, (hb.cell (p := ⟨n, 0, none⟩) h.lt).trans h.c0, (hb.cell (p := ⟨n, 1, none⟩) h.lt).trans h.c1, (hb.cell (p := ⟨n, 2, none⟩) h.lt).trans h.c2⟩
theorem low_ways (P : Int → Int) (n y : Int) : (decide (P y < n) = true ∧ Hid (lowStep P n y = P y)) ∨ (decide (P y < n) = false ∧ Hid (lowStep P n y = n)) := by
  unfold lowStep
  by_cases h : P y < n
  · exact .inl ⟨decide_eq_true h, if_pos h⟩
  · exact .inr ⟨decide_eq_false h, if_neg h⟩
theorem high_ways (P : Int → Int) (n y : Int) : (decide (n < P y) = true ∧ Hid (highStep P n y = P y)) ∨ (decide (n < P y) = false ∧ Hid (highStep P n y = n)) := by
  unfold highStep
  by_cases h : n < P y
  · exact .inl ⟨decide_eq_true h, if_pos h⟩
  · exact .inr ⟨decide_eq_false h, if_neg h⟩

set_option maxHeartbeats 3200000 in
theorem least5 (x : Prof) (s : Sp) (v : Value) (w : World) (hv : BusyIs x.l w v) (hx : Prof.Ok x) : Calls Try.prog 25 #[profV x v, spV s] w (IntB (lowTo (freeL x.p x.l) s (within x.l s) (within x.l s).length) w) := by
  obtain ⟨A, c, rfl, _⟩ := hv.open_
  have HB := Lib.hid (((Below.refl w.heap.size w).alloc (Nat.le_refl _) (.cells #[.int .i64 x.p, .int .i64 x.t, .slice A x.l.length c] 33)).alloc (by simp) (.cells #[.int .i64 s.1, .int .i64 s.2] 25))
  have HP := Lib.hid ((Box3.new w (.int .i64 x.p) (.int .i64 x.t) (.slice A x.l.length c) 33).below (below_alloc _ (.cells #[.int .i64 s.1, .int .i64 s.2] 25)))
  have hbx := Box2.new (w.alloc (.cells #[.int .i64 x.p, .int .i64 x.t, .slice A x.l.length c] 33)) (.int .i64 s.1) (.int .i64 s.2) 25
  have hsz : (w.alloc (.cells #[.int .i64 x.p, .int .i64 x.t, .slice A x.l.length c] 33)).heap.size = w.heap.size + 1 := by simp
  rw [hsz] at hbx
  have HS := Lib.hid hbx
  have HT := Lib.hid (fun (w' : World) (hb : Below w.heap.size w w') => turns5 x s (.slice A x.l.length c) w' (hv.below hb) hx)
  have HF := Lib.hid (fun t (w' : World) (hb : Below w.heap.size w w') => free5 x (.slice A x.l.length c) t w' (hv.below hb) hx)
  have hlen : (within x.l s).length ≤ 2 * x.l.length + 1 := by
    have h1 := turns_len2 s.1 x.l
    have h2 := List.length_filter_le (fun e => decide (e < s.2)) (turnsL s.1 x.l)
    unfold within
    omega
  have hx2 := hx.len
  unfold profV spV at *
  clear hv hx hbx hsz
  go_enter Try.func25, Try.ntmps25
  go_wp2_with fail
  refine (HT.out _ HB.out).mono ?_
  rintro e w1 ⟨ve, rfl, hE, hb1⟩
  obtain ⟨ea, ec, rfl, hre, _, _⟩ := hE
  have HRE := Lib.hid hre
  have HP1 := Lib.hid (HP.out.below hb1)
  obtain ⟨y0, y1, y2, _, _⟩ := HS.out.below hb1
  obtain ⟨p0, p1, p2, p3⟩ := HP1.out
  have HB1 := Lib.hid (HB.out.trans (hb1.mono (by simp; omega)))
  have HF1 := Lib.hid (HF.out s.1 _ HB1.out)
  have hm0 : Hid (lowTo (freeL x.p x.l) s (within x.l s) 0 = freeL x.p x.l s.1) := rfl
  clear hre hb1 HT HS HP
  go_wp2_with fail
  refine HF1.out.mono ?_
  rintro e w2 ⟨rfl, hb2⟩
  have HP2 := Lib.hid (HP1.out.below hb2)
  have HR2 := Lib.hid (HRE.out.below hb2)
  have HB2 := Lib.hid (below_then HB1.out hb2)
  clear hb2 HP1 HRE HF1 HB1 y0 y1 y2 p0 p1 p2 p3
  generalize within x.l s = es at *
  go_wp2_with fail
  go_loopw [6, 7] (fun n i wr => ∃ k : Nat, n = .int .i64 (lowTo (freeL x.p x.l) s es k) ∧ i = .int .i64 k ∧ k ≤ es.length ∧ Hid (Below w2.heap.size w2 wr)) (fun _ i _ => es.length - (intOf i).toNat)
  case atStart => exact ⟨0, by rw [hm0.out], rfl, Nat.zero_le _, Below.refl _ _⟩
  case round =>
    obtain ⟨k, rfl, rfl, hk, HL⟩ := hrel
    by_cases hlt : k < es.length
    · have c1 := (HR2.out.below HL.out).int hlt
      have hea := (HR2.out.below HL.out).intlt hlt
      obtain ⟨p0, p1, p2, p3⟩ := HP2.out.below HL.out
      have HFK := Lib.hid (fun (w' : World) (hb : Below wr.heap.size wr w') => HF.out (es.getD k 0) w' (below_then (below_then HB2.out HL.out) hb))
      have hways := low_ways (freeL x.p x.l) (lowTo (freeL x.p x.l) s es k) (es.getD k 0)
      have HN := Lib.hid (low_next (P := freeL x.p x.l) (s := s) hlt)
      have i0 : (0 : Int) ≤ (k : Int) := Int.natCast_nonneg _
      have i1 : (k : Int) < (es.length : Int) := by omega
      generalize es.getD k 0 = y at *
      generalize lowTo (freeL x.p x.l) s es k = n at *
      generalize freeL x.p x.l y = m at *
      have HW := Lib.hid HL.out
      rcases hways with ⟨h1, HM⟩ | ⟨h1, HM⟩
      all_goals
        go_wp2_with fail
        go_region_held3 (fun w' => w'.cell? (ea.add k) = some (.int .i64 y) ∧ w'.cell? ⟨w.heap.size, 0, none⟩ = some (.int .i64 x.p) ∧ w'.cell? ⟨w.heap.size, 1, none⟩ = some (.int .i64 x.t) ∧ w'.cell? ⟨w.heap.size, 2, none⟩ = some (.slice A x.l.length c))
          (first | go_keep | (go_split_ands; exact ⟨(hb5.cell (p := ea.add k) (by rw [add_block]; exact hea)).trans (by assumption), (hb5.cell (p := ⟨w.heap.size, 0, none⟩) p0).trans (by assumption), (hb5.cell (p := ⟨w.heap.size, 1, none⟩) p0).trans (by assumption), (hb5.cell (p := ⟨w.heap.size, 2, none⟩) p0).trans (by assumption)⟩))
          (first | (go_at_call_of 32 (Value.agg #[.int .i64 x.p, .int .i64 x.t, .slice A x.l.length c]); (refine (HFK.out _ (Below.refl _ _).drew).mono ?_; rintro e w5 ⟨rfl, hb4⟩; have hb5 := below_of_drew hb4; clear hb4)))
      · have HB5 := Lib.hid (below_then HL.out hb5)
        have f1 := (hb5.cell (p := ea.add k) (by rw [add_block]; exact hea)).trans c1
        have f2 := (hb5.cell (p := ⟨w.heap.size, 0, none⟩) p0).trans p1
        have f3 := (hb5.cell (p := ⟨w.heap.size, 1, none⟩) p0).trans p2
        have f4 := (hb5.cell (p := ⟨w.heap.size, 2, none⟩) p0).trans p3
        have hea5 := Nat.lt_of_lt_of_le hea hb5.size
        have p05 := Nat.lt_of_lt_of_le p0 hb5.size
        have HFL := Lib.hid (fun (w' : World) (hb : Below w5.heap.size w5 w') => HFK.out w' (below_then hb5 hb))
        clear hb5 hea p0 p1 p2 p3 c1
        go_wp2_with fail
        go_region_held3 (fun w' => w'.cell? (ea.add k) = some (.int .i64 y) ∧ w'.cell? ⟨w.heap.size, 0, none⟩ = some (.int .i64 x.p) ∧ w'.cell? ⟨w.heap.size, 1, none⟩ = some (.int .i64 x.t) ∧ w'.cell? ⟨w.heap.size, 2, none⟩ = some (.slice A x.l.length c))
          (first | go_keep | (go_split_ands; exact ⟨(hb7.cell (p := ea.add k) (by rw [add_block]; exact hea5)).trans (by assumption), (hb7.cell (p := ⟨w.heap.size, 0, none⟩) p05).trans (by assumption), (hb7.cell (p := ⟨w.heap.size, 1, none⟩) p05).trans (by assumption), (hb7.cell (p := ⟨w.heap.size, 2, none⟩) p05).trans (by assumption)⟩))
          (first | (go_at_call_of 32 (Value.agg #[.int .i64 x.p, .int .i64 x.t, .slice A x.l.length c]); (refine (HFL.out _ (Below.refl _ _).drew).mono ?_; rintro e w7 ⟨rfl, hb6⟩; have hb7 := below_of_drew hb6; clear hb6)))
        have HB7 := Lib.hid (below_then HB5.out hb7)
        clear hb7
        go_wp2_with fail
        exact ⟨⟨k + 1, by rw [HN.out, HM.out], by go_num, by omega, HB7.out⟩, by simp [intOf] <;> omega⟩
      · have HB5 := Lib.hid (below_then HL.out hb5)
        clear hb5
        go_wp2_with fail
        exact ⟨⟨k + 1, by rw [HN.out, HM.out], by go_num, by omega, HB5.out⟩, by simp [intOf] <;> omega⟩
    · obtain rfl : k = es.length := by omega
      go_wp2_with fail
      go_ret
      exact ⟨rfl, below_then HB2.out HL.out⟩

set_option maxHeartbeats 3200000 in
theorem most5 (x : Prof) (s : Sp) (v : Value) (w : World) (hv : BusyIs x.l w v) (hx : Prof.Ok x) : Calls Try.prog 24 #[profV x v, spV s] w (IntB (highTo (freeL x.p x.l) s (within x.l s) (within x.l s).length) w) := by
  obtain ⟨A, c, rfl, _⟩ := hv.open_
  have HB := Lib.hid (((Below.refl w.heap.size w).alloc (Nat.le_refl _) (.cells #[.int .i64 x.p, .int .i64 x.t, .slice A x.l.length c] 33)).alloc (by simp) (.cells #[.int .i64 s.1, .int .i64 s.2] 25))
  have HP := Lib.hid ((Box3.new w (.int .i64 x.p) (.int .i64 x.t) (.slice A x.l.length c) 33).below (below_alloc _ (.cells #[.int .i64 s.1, .int .i64 s.2] 25)))
  have hbx := Box2.new (w.alloc (.cells #[.int .i64 x.p, .int .i64 x.t, .slice A x.l.length c] 33)) (.int .i64 s.1) (.int .i64 s.2) 25
  have hsz : (w.alloc (.cells #[.int .i64 x.p, .int .i64 x.t, .slice A x.l.length c] 33)).heap.size = w.heap.size + 1 := by simp
  rw [hsz] at hbx
  have HS := Lib.hid hbx
  have HT := Lib.hid (fun (w' : World) (hb : Below w.heap.size w w') => turns5 x s (.slice A x.l.length c) w' (hv.below hb) hx)
  have HF := Lib.hid (fun t (w' : World) (hb : Below w.heap.size w w') => free5 x (.slice A x.l.length c) t w' (hv.below hb) hx)
  have hlen : (within x.l s).length ≤ 2 * x.l.length + 1 := by
    have h1 := turns_len2 s.1 x.l
    have h2 := List.length_filter_le (fun e => decide (e < s.2)) (turnsL s.1 x.l)
    unfold within
    omega
  have hx2 := hx.len
  unfold profV spV at *
  clear hv hx hbx hsz
  go_enter Try.func24, Try.ntmps24
  go_wp2_with fail
  refine (HT.out _ HB.out).mono ?_
  rintro e w1 ⟨ve, rfl, hE, hb1⟩
  obtain ⟨ea, ec, rfl, hre, _, _⟩ := hE
  have HRE := Lib.hid hre
  have HP1 := Lib.hid (HP.out.below hb1)
  obtain ⟨y0, y1, y2, _, _⟩ := HS.out.below hb1
  obtain ⟨p0, p1, p2, p3⟩ := HP1.out
  have HB1 := Lib.hid (HB.out.trans (hb1.mono (by simp; omega)))
  have HF1 := Lib.hid (HF.out s.1 _ HB1.out)
  have hm0 : Hid (highTo (freeL x.p x.l) s (within x.l s) 0 = freeL x.p x.l s.1) := rfl
  clear hre hb1 HT HS HP
  go_wp2_with fail
  refine HF1.out.mono ?_
  rintro e w2 ⟨rfl, hb2⟩
  have HP2 := Lib.hid (HP1.out.below hb2)
  have HR2 := Lib.hid (HRE.out.below hb2)
  have HB2 := Lib.hid (below_then HB1.out hb2)
  clear hb2 HP1 HRE HF1 HB1 y0 y1 y2 p0 p1 p2 p3
  generalize within x.l s = es at *
  go_wp2_with fail
  go_loopw [6, 7] (fun n i wr => ∃ k : Nat, n = .int .i64 (highTo (freeL x.p x.l) s es k) ∧ i = .int .i64 k ∧ k ≤ es.length ∧ Hid (Below w2.heap.size w2 wr)) (fun _ i _ => es.length - (intOf i).toNat)
  case atStart => exact ⟨0, by rw [hm0.out], rfl, Nat.zero_le _, Below.refl _ _⟩
  case round =>
    obtain ⟨k, rfl, rfl, hk, HL⟩ := hrel
    by_cases hlt : k < es.length
    · have c1 := (HR2.out.below HL.out).int hlt
      have hea := (HR2.out.below HL.out).intlt hlt
      obtain ⟨p0, p1, p2, p3⟩ := HP2.out.below HL.out
      have HFK := Lib.hid (fun (w' : World) (hb : Below wr.heap.size wr w') => HF.out (es.getD k 0) w' (below_then (below_then HB2.out HL.out) hb))
      have hways := high_ways (freeL x.p x.l) (highTo (freeL x.p x.l) s es k) (es.getD k 0)
      have HN := Lib.hid (high_next (P := freeL x.p x.l) (s := s) hlt)
      have i0 : (0 : Int) ≤ (k : Int) := Int.natCast_nonneg _
      have i1 : (k : Int) < (es.length : Int) := by omega
      generalize es.getD k 0 = y at *
      generalize highTo (freeL x.p x.l) s es k = n at *
      generalize freeL x.p x.l y = m at *
      have HW := Lib.hid HL.out
      rcases hways with ⟨h1, HM⟩ | ⟨h1, HM⟩
      all_goals
        go_wp2_with fail
        go_region_held3 (fun w' => w'.cell? (ea.add k) = some (.int .i64 y) ∧ w'.cell? ⟨w.heap.size, 0, none⟩ = some (.int .i64 x.p) ∧ w'.cell? ⟨w.heap.size, 1, none⟩ = some (.int .i64 x.t) ∧ w'.cell? ⟨w.heap.size, 2, none⟩ = some (.slice A x.l.length c))
          (first | go_keep | (go_split_ands; exact ⟨(hb5.cell (p := ea.add k) (by rw [add_block]; exact hea)).trans (by assumption), (hb5.cell (p := ⟨w.heap.size, 0, none⟩) p0).trans (by assumption), (hb5.cell (p := ⟨w.heap.size, 1, none⟩) p0).trans (by assumption), (hb5.cell (p := ⟨w.heap.size, 2, none⟩) p0).trans (by assumption)⟩))
          (first | (go_at_call_of 32 (Value.agg #[.int .i64 x.p, .int .i64 x.t, .slice A x.l.length c]); (refine (HFK.out _ (Below.refl _ _).drew).mono ?_; rintro e w5 ⟨rfl, hb4⟩; have hb5 := below_of_drew hb4; clear hb4)))
      · have HB5 := Lib.hid (below_then HL.out hb5)
        have f1 := (hb5.cell (p := ea.add k) (by rw [add_block]; exact hea)).trans c1
        have f2 := (hb5.cell (p := ⟨w.heap.size, 0, none⟩) p0).trans p1
        have f3 := (hb5.cell (p := ⟨w.heap.size, 1, none⟩) p0).trans p2
        have f4 := (hb5.cell (p := ⟨w.heap.size, 2, none⟩) p0).trans p3
        have hea5 := Nat.lt_of_lt_of_le hea hb5.size
        have p05 := Nat.lt_of_lt_of_le p0 hb5.size
        have HFL := Lib.hid (fun (w' : World) (hb : Below w5.heap.size w5 w') => HFK.out w' (below_then hb5 hb))
        clear hb5 hea p0 p1 p2 p3 c1
        go_wp2_with fail
        go_region_held3 (fun w' => w'.cell? (ea.add k) = some (.int .i64 y) ∧ w'.cell? ⟨w.heap.size, 0, none⟩ = some (.int .i64 x.p) ∧ w'.cell? ⟨w.heap.size, 1, none⟩ = some (.int .i64 x.t) ∧ w'.cell? ⟨w.heap.size, 2, none⟩ = some (.slice A x.l.length c))
          (first | go_keep | (go_split_ands; exact ⟨(hb7.cell (p := ea.add k) (by rw [add_block]; exact hea5)).trans (by assumption), (hb7.cell (p := ⟨w.heap.size, 0, none⟩) p05).trans (by assumption), (hb7.cell (p := ⟨w.heap.size, 1, none⟩) p05).trans (by assumption), (hb7.cell (p := ⟨w.heap.size, 2, none⟩) p05).trans (by assumption)⟩))
          (first | (go_at_call_of 32 (Value.agg #[.int .i64 x.p, .int .i64 x.t, .slice A x.l.length c]); (refine (HFL.out _ (Below.refl _ _).drew).mono ?_; rintro e w7 ⟨rfl, hb6⟩; have hb7 := below_of_drew hb6; clear hb6)))
        have HB7 := Lib.hid (below_then HB5.out hb7)
        clear hb7
        go_wp2_with fail
        exact ⟨⟨k + 1, by rw [HN.out, HM.out], by go_num, by omega, HB7.out⟩, by simp [intOf] <;> omega⟩
      · have HB5 := Lib.hid (below_then HL.out hb5)
        clear hb5
        go_wp2_with fail
        exact ⟨⟨k + 1, by rw [HN.out, HM.out], by go_num, by omega, HB5.out⟩, by simp [intOf] <;> omega⟩
    · obtain rfl : k = es.length := by omega
      go_wp2_with fail
      go_ret
      exact ⟨rfl, below_then HB2.out HL.out⟩
end Go.Proofs.Ytjkninldenoanaa.ProfRef
