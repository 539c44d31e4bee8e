/-
  Words for the walks of the document's answers for layer 4; of which function soever. The walk of the document's answer for layer 4: Check. The walk of the document's answer for layer 4: Within. The walk of the document's answer for layer 4: Min. The walk of the document's answer for layer 4: Same. What layer 4's functions answer: the posts that the law texts name; how long answers are.
-/
import Derived.Test.YtonapgbokbeopaaStepMem
import Derived.Test.YtonapgbokbeopaaSpanRef0
namespace Go.Proofs.Ytonapgbokbeopaa.StepRef
open Go.RowKit Go.Proofs.Ytonapgbokbeopaa.SpanPlain Go.Proofs.Ytonapgbokbeopaa.StepPlain Go.Proofs.Ytonapgbokbeopaa.Mem Go.Proofs.Ytonapgbokbeopaa.SpanMem Go.Proofs.Ytonapgbokbeopaa.StepMem Go.Proofs.Ytonapgbokbeopaa.SpanRef
theorem below_alloc (w : World) (o : Obj) : Below w.heap.size w (w.alloc o) := (Below.refl _ _).alloc (Nat.le_refl _) o
theorem by_ways (b : By) : (mayB (b.1, b.2.1) = false ∧ byB b = false) ∨ (mayB (b.1, b.2.1) = true ∧ decide (1 ≤ b.2.2) = false ∧ byB b = false) ∨
    (mayB (b.1, b.2.1) = true ∧ decide (1 ≤ b.2.2) = true ∧ decide (b.2.2 ≤ 256) = false ∧ byB b = false) ∨ (mayB (b.1, b.2.1) = true ∧ decide (1 ≤ b.2.2) = true ∧ decide (b.2.2 ≤ 256) = true ∧ byB b = true) := by
  unfold byB
  cases mayB (b.1, b.2.1) <;> cases decide (1 ≤ b.2.2) <;> cases decide (b.2.2 ≤ 256) <;> simp
def IntQ (n : Int) (w : World) (e : Ending) (w' : World) : Prop := e = .returned (.int .i64 n) ∧ w = w'
theorem free_take {l : List By} {k : Nat} (hk : k < l.length) (p t : Int) : freeL p (l.take (k + 1)) t = if (byCell l k).1 ≤ t ∧ t < (byCell l k).2.1 then freeL p (l.take k) t - (byCell l k).2.2 else freeL p (l.take k) t := by
  rw [List.take_succ_eq_append_getElem hk, free_snoc, by_at hk]
theorem free_bounds {l : List By} (h : ∀ b ∈ l, -256 ≤ b.2.2 ∧ b.2.2 ≤ 256) (p t : Int) (k : Nat) : p - 256 * k ≤ freeL p (l.take k) t ∧ freeL p (l.take k) t ≤ p + 256 * k := by
  have h' : ∀ b ∈ l.take k, -256 ≤ b.2.2 ∧ b.2.2 ≤ 256 := fun b hb => h b (List.mem_of_mem_take hb)
  have h1 := free_range h' t p
  rw [List.length_take] at h1
  omega
theorem by_bounds {l : List By} (h : ∀ b ∈ l, -256 ≤ b.2.2 ∧ b.2.2 ≤ 256) {k : Nat} (hk : k < l.length) : -256 ≤ (byCell l k).2.2 ∧ (byCell l k).2.2 ≤ 256 := h (byCell l k) (by rw [by_at hk]; exact List.getElem_mem hk)
theorem by_wide {b : By} (h : byB b = true) : -256 ≤ b.2.2 ∧ b.2.2 ≤ 256 := by
  unfold byB at h
  simp only [Bool.and_eq_true, decide_eq_true_eq] at h
  omega
/-- How the loop of Turns over the busy times stands. -/
def TurnA (l : List By) (w wr : World) (v : Value) (k : Nat) : Prop := OwnR 40 2 w.heap.size wr v k (svals (busySp (l.take k))) ∧ Below w.heap.size w wr
def TurnB (t : Int) (e : List Int) (w wr : World) (v : Value) (k : Nat) : Prop :=
  OwnR 3 1 w.heap.size wr v (t :: (e.take k).filter fun x => decide (t < x)).length (ivals (t :: (e.take k).filter fun x => decide (t < x))) ∧ Below w.heap.size w wr
theorem busy_take {l : List By} {k : Nat} (hk : k < l.length) : svals (busySp (l.take (k + 1))) = svals (busySp (l.take k)) ++ [.int .i64 (byCell l k).1, .int .i64 (byCell l k).2.1] := by
  rw [List.take_succ_eq_append_getElem hk, by_at hk]
  unfold busySp
  rw [List.map_append, svals_append]
  rfl
theorem filter_take {e : List Int} {k : Nat} (hk : k < e.length) (t : Int) : ((e.take (k + 1)).filter fun x => decide (t < x)) = ((e.take k).filter fun x => decide (t < x)) ++ if t < e.getD k 0 then [e.getD k 0] else [] := by
  rw [List.take_succ_eq_append_getElem hk, List.filter_append, getD_el hk, List.filter_cons, List.filter_nil]
  by_cases h : t < e[k] <;> simp [h]
def TurnsIs (t : Int) (l : List By) (w : World) (e : Ending) (w' : World) : Prop := ∃ v, e = .returned v ∧ IntsIs (turnsL t l) w' v ∧ Below w.heap.size w w'
theorem filter_len (e : List Int) (k : Nat) (t : Int) : ((e.take k).filter fun x => decide (t < x)).length ≤ e.length := by
  have h1 := List.length_filter_le (fun x => decide (t < x)) (e.take k)
  rw [List.length_take] at h1
  omega
theorem trip_held {w w' : World} {a : Addr} {k : Nat} {u v : Value} (hb : Below w.heap.size w w') (h1 : w.cell? (a.add k) = some u) (h2 : w.cell? ⟨(a.add k).block, (a.add k).off + 1, none⟩ = some v) (hl : a.block < w.heap.size) :
    w'.cell? (a.add k) = some u ∧ w'.cell? ⟨(a.add k).block, (a.add k).off + 1, none⟩ = some v := by
  obtain ⟨a1, a2, a3⟩ := pair_below hb hl h1 h2
  exact ⟨a2, a3⟩
theorem val_take {s : List Sp} {k : Nat} (hk : k < s.length) (t : Int) : val (s.take (k + 1)) t = if (s.getD k (0, 0)).1 ≤ t then (s.getD k (0, 0)).2 else val (s.take k) t := by
  rw [List.take_succ_eq_append_getElem hk, val_snoc, getSp hk]
def BoolD (b : Bool) (w : World) (e : Ending) (w' : World) : Prop := e = .returned (.bool b) ∧ ∃ n, w' = w.drewN n
theorem pair_zero {w : World} {A : Option Addr} {n : Nat} {f : Nat → Value × Value} (h : Pairs w A n f) (hn : 0 < n) : ∃ ad, A = some ad ∧ ad.block < w.heap.size ∧ w.cell? ad = some (f 0).1 ∧ w.cell? ⟨ad.block, ad.off + 1, none⟩ = some (f 0).2 := by
  obtain ⟨ad, rfl, had, c1, c2⟩ := h 0 hn
  have e : ad.add (0 * 2) = ad := by unfold Addr.add; simp
  rw [e] at c1 c2
  exact ⟨ad, rfl, had, c1, c2⟩
def IntB (n : Int) (w : World) (e : Ending) (w' : World) : Prop := e = .returned (.int .i64 n) ∧ Below w.heap.size w w'
theorem busy_len (l : List By) (k : Nat) : (busySp (l.take k)).length ≤ l.length := by unfold busySp; rw [List.length_map, List.length_take]; omega
theorem busy_at {l : List By} (h : (busySp l).length = l.length → True) : (busySp l).length = l.length := by unfold busySp; rw [List.length_map]
theorem build_take (P : Int → Int) {e : List Int} {k : Nat} (hk : k < e.length) : buildL P (e.take (k + 1)) = addStep P (buildL P (e.take k)) (e.getD k 0) := by
  rw [List.take_succ_eq_append_getElem hk, build_snoc, getD_el hk]
theorem take_all {P : Int → Prop} {e : List Int} {k : Nat} (hk : k < e.length) (h : ∀ x ∈ e.take k, P x) (hx : P (e.getD k 0)) : ∀ x ∈ e.take (k + 1), P x := by
  intro x hm
  rw [List.take_succ_eq_append_getElem hk, List.mem_append] at hm
  rcases hm with hm | hm
  · exact h x hm
  · simp at hm; subst hm; rwa [← getD_el hk]
theorem turns_len {t : Int} {l : List By} (hl : l.length ≤ 310) : (turnsL t l).length ≤ 621 := by
  have h1 := (ends_spec (busySp l)).2.2
  rw [busy_at (fun _ => trivial)] at h1
  have h2 := List.length_filter_le (fun e => decide (t < e)) (endsL (busySp l))
  unfold turnsL
  rw [List.length_cons]
  omega
theorem build_take_len (P : Int → Int) (e : List Int) (k : Nat) : (buildL P (e.take k)).length ≤ k := by
  have := build_len P (e.take k)
  rw [List.length_take] at this
  omega
theorem some_bad {l : List By} {k : Nat} (hk : k < l.length) (h : byB (byCell l k) = false) : ∃ b ∈ l, byB b = false := ⟨_, by rw [by_at hk]; exact List.getElem_mem hk, h⟩
theorem all_next {l : List By} {k : Nat} (hk : k < l.length) (h : ∀ b ∈ l.take k, byB b = true) (hx : byB (byCell l k) = true) : ∀ b ∈ l.take (k + 1), byB b = true := by
  intro b hm
  rw [List.take_succ_eq_append_getElem hk, List.mem_append] at hm
  rcases hm with hm | hm
  · exact h b hm
  · simp at hm; subst hm; rwa [← by_at hk]
theorem add_len (s : List Sp) (x : Sp) : (addSpans s x).length = s.length + 1 := by unfold addSpans; rw [List.length_cons, List.length_map]
end Go.Proofs.Ytonapgbokbeopaa.StepRef
namespace Go.Proofs.Ytonapgbokbeopaa.StepRef
open Go.RowKit Go.Proofs.Ytonapgbokbeopaa.SpanPlain Go.Proofs.Ytonapgbokbeopaa.StepPlain Go.Proofs.Ytonapgbokbeopaa.Mem Go.Proofs.Ytonapgbokbeopaa.SpanMem Go.Proofs.Ytonapgbokbeopaa.StepMem Go.Proofs.Ytonapgbokbeopaa.SpanRef
theorem ok_ways (s : List Sp) (k : Nat) : (decide ((s.getD k (0, 0)).2 < 0) = true ∧ Hid (okB s k = false)) ∨ (decide ((s.getD k (0, 0)).2 < 0) = false ∧ decide (256 < (s.getD k (0, 0)).2) = true ∧ Hid (okB s k = false)) ∨
    (decide ((s.getD k (0, 0)).2 < 0) = false ∧ decide (256 < (s.getD k (0, 0)).2) = false ∧ decide ((4503599627370496 : Int) < (s.getD k (0, 0)).1) = true ∧ Hid (okB s k = false)) ∨
    (decide ((s.getD k (0, 0)).2 < 0) = false ∧ decide (256 < (s.getD k (0, 0)).2) = false ∧ decide ((4503599627370496 : Int) < (s.getD k (0, 0)).1) = false ∧ ((k = 0 ∧ Hid (okB s k = true)) ∨
      (0 < k ∧ decide ((s.getD k (0, 0)).1 ≤ (s.getD (k - 1) (0, 0)).1) = true ∧ Hid (okB s k = false)) ∨ (0 < k ∧ decide ((s.getD k (0, 0)).1 ≤ (s.getD (k - 1) (0, 0)).1) = false ∧ ((s.getD k (0, 0)).2 == (s.getD (k - 1) (0, 0)).2) = true ∧ Hid (okB s k = false)) ∨
      (0 < k ∧ decide ((s.getD k (0, 0)).1 ≤ (s.getD (k - 1) (0, 0)).1) = false ∧ ((s.getD k (0, 0)).2 == (s.getD (k - 1) (0, 0)).2) = false ∧ Hid (okB s k = true)))) := by
  unfold okB
  generalize s.getD k (0, 0) = x
  generalize s.getD (k - 1) (0, 0) = y
  by_cases h1 : x.2 < 0
  · exact .inl ⟨decide_eq_true h1, by rw [decide_eq_false (by omega : ¬ 0 ≤ x.2)]; rfl⟩
  · by_cases h2 : 256 < x.2
    · exact .inr (.inl ⟨decide_eq_false h1, decide_eq_true h2, by rw [decide_eq_false (by omega : ¬ x.2 ≤ 256), Bool.and_false]; rfl⟩)
    · by_cases h3 : 4503599627370496 < x.1
      · exact .inr (.inr (.inl ⟨decide_eq_false h1, decide_eq_false h2, decide_eq_true h3, by rw [decide_eq_false (by omega : ¬ x.1 ≤ 4503599627370496), Bool.and_false]; rfl⟩))
      · refine .inr (.inr (.inr ⟨decide_eq_false h1, decide_eq_false h2, decide_eq_false h3, ?_⟩))
        rw [decide_eq_true (by omega : 0 ≤ x.2), decide_eq_true (by omega : x.2 ≤ 256), decide_eq_true (by omega : x.1 ≤ 4503599627370496)]
        by_cases h4 : k = 0
        · exact .inl ⟨h4, by rw [decide_eq_true h4]; rfl⟩
        · rw [decide_eq_false h4]
          by_cases h5 : x.1 ≤ y.1
          · exact .inr (.inl ⟨by omega, decide_eq_true h5, by rw [decide_eq_false (by omega : ¬ y.1 < x.1)]; rfl⟩)
          · rw [decide_eq_true (by omega : y.1 < x.1)]
            cases h6 : (x.2 == y.2) with
            | true => exact .inr (.inr (.inl ⟨by omega, decide_eq_false h5, rfl, rfl⟩))
            | false => exact .inr (.inr (.inr ⟨by omega, decide_eq_false h5, rfl, rfl⟩))
theorem chk_no {s : List Sp} {k : Nat} (hk : k < s.length) (h : okB s k = false) : chkB s = false := by
  cases hc : chkB s with
  | false => rfl
  | true =>
    unfold chkB at hc
    rw [Bool.and_eq_true] at hc
    rw [allTo_lt hc.1 hk] at h; cases h
theorem chk_end {s : List Sp} (h : allTo s s.length = true) : (s.length = 0 ∧ Hid (chkB s = false)) ∨ (0 < s.length ∧ decide (0 ≤ (s.getD 0 (0, 0)).1) = false ∧ Hid (chkB s = false)) ∨
    (0 < s.length ∧ decide (0 ≤ (s.getD 0 (0, 0)).1) = true ∧ decide ((s.getD 0 (0, 0)).1 ≤ 1125899906842624) = false ∧ Hid (chkB s = false)) ∨ (0 < s.length ∧ decide (0 ≤ (s.getD 0 (0, 0)).1) = true ∧ decide ((s.getD 0 (0, 0)).1 ≤ 1125899906842624) = true ∧ Hid (chkB s = true)) := by
  unfold chkB
  rw [h, Bool.true_and]
  by_cases h1 : 0 < s.length
  · rw [decide_eq_true h1, Bool.true_and]
    cases h2 : decide (0 ≤ (s.getD 0 (0, 0)).1) with
    | false => exact .inr (.inl ⟨h1, rfl, rfl⟩)
    | true =>
      cases h3 : decide ((s.getD 0 (0, 0)).1 ≤ 1125899906842624) with
      | false => exact .inr (.inr (.inl ⟨h1, rfl, rfl, rfl⟩))
      | true => exact .inr (.inr (.inr ⟨h1, rfl, rfl, rfl⟩))
  · exact .inl ⟨by omega, by rw [decide_eq_false h1]; rfl⟩
set_option maxHeartbeats 3200000 in
theorem check4 (s : List Sp) (v : Value) (w : World) (hv : SpansIs s w v) (hl : s.length ≤ 9000) : Calls Try.prog 8 #[v] w (BoolD (chkB s) w) := by
  obtain ⟨A, c, rfl, hA⟩ := hv.open_
  have HA := Lib.hid hA
  clear hA hv
  go_enter Try.func8, Try.ntmps8
  go_wp2_with fail
  go_loopw [3] (fun i wr => ∃ k : Nat, i = .int .i64 k ∧ k ≤ s.length ∧ Hid (allTo s k = true) ∧ Hid (∃ q, wr = w.drewN q)) (fun i _ => s.length - (intOf i).toNat)
  case atStart => exact ⟨0, rfl, Nat.zero_le _, rfl, ⟨0, rfl⟩⟩
  case round =>
    obtain ⟨k, rfl, hk, HS, HW⟩ := hrel
    obtain ⟨q, rfl⟩ := HW.out
    by_cases hlt : k < s.length
    · obtain ⟨ad, rfl, had, c1, c2⟩ := HA.out k hlt
      have hways := ok_ways s k
      have HNO := Lib.hid (fun h => chk_no hlt h)
      have HNX : Hid (okB s k = true → allTo s (k + 1) = true) := fun h => by rw [allTo_succ, HS.out, h]; rfl
      have hlt2 : (k : Int) < (s.length : Int) := by omega
      have i0 : (0 : Int) ≤ (k : Int) := Int.natCast_nonneg _
      by_cases hk0 : k = 0
      · subst hk0
        unfold spCell at c1 c2
        dsimp only at c1 c2
        generalize s.getD 0 (0, 0) = x at *
        clear had HW
        have e : ad.add (0 * 2) = ad := by unfold Addr.add; simp
        rw [e] at c1 c2
        clear e
        rcases hways with ⟨h1, HO⟩ | ⟨h1, h2, HO⟩ | ⟨h1, h2, h3, HO⟩ | ⟨h1, h2, h3, ⟨_, HO⟩ | ⟨h, _⟩ | ⟨h, _⟩ | ⟨h, _⟩⟩
        · go_wp2_with fail
          go_quiet (fail)
          go_wp2_with fail
          go_ret
          exact ⟨by rw [HNO.out HO.out]; rfl, _, World.drewN_drewN _ _ _⟩
        · go_wp2_with fail
          go_quiet (fail)
          go_wp2_with fail
          go_ret
          exact ⟨by rw [HNO.out HO.out]; rfl, _, World.drewN_drewN _ _ _⟩
        · go_wp2_with fail
          go_quiet (fail)
          go_wp2_with fail
          go_ret
          exact ⟨by rw [HNO.out HO.out]; rfl, _, World.drewN_drewN _ _ _⟩
        · go_wp2_with fail
          go_quiet (fail)
          go_wp2_with fail
          exact ⟨⟨1, by go_num, by omega, HNX.out HO.out, ⟨_, rfl⟩⟩, by simp [intOf] <;> omega⟩
        all_goals omega
      · obtain ⟨ad2, e2, _, d1, d2⟩ := HA.out (k - 1) (by omega)
        injection e2 with e2
        subst e2
        unfold spCell at c1 c2 d1 d2
        dsimp only at c1 c2 d1 d2
        generalize s.getD k (0, 0) = x at *
        generalize s.getD (k - 1) (0, 0) = y at *
        have j0 : (0 : Int) < (k : Int) := by omega
        have j1 : IntKind.i64.wrap ((k : Int) - 1) = (k : Int) - 1 := by rw [IntKind.wrap_i64]; omega
        have j2 : (0 : Int) ≤ (k : Int) - 1 := by omega
        have j3 : (k : Int) - 1 < (s.length : Int) := by omega
        have j4 : ((k : Int) - 1).toNat = k - 1 := by omega
        have j5 : 0 < k := by omega
        have j6 : (1 : Int) ≤ (k : Int) := by omega
        clear had HW hk0
        rcases hways with ⟨h1, HO⟩ | ⟨h1, h2, HO⟩ | ⟨h1, h2, h3, HO⟩ | ⟨h1, h2, h3, ⟨h, _⟩ | ⟨_, h4, HO⟩ | ⟨_, h4, h5, HO⟩ | ⟨_, h4, h5, HO⟩⟩
        · go_wp2_with fail
          go_quiet (fail)
          go_wp2_with fail
          go_ret
          exact ⟨by rw [HNO.out HO.out]; rfl, _, World.drewN_drewN _ _ _⟩
        · go_wp2_with fail
          go_quiet (fail)
          go_wp2_with fail
          go_ret
          exact ⟨by rw [HNO.out HO.out]; rfl, _, World.drewN_drewN _ _ _⟩
        · go_wp2_with fail
          go_quiet (fail)
          go_wp2_with fail
          go_ret
          exact ⟨by rw [HNO.out HO.out]; rfl, _, World.drewN_drewN _ _ _⟩
        · omega
        · go_wp2_with fail
          go_quiet (fail)
          go_wp2_with fail
          go_ret
          exact ⟨by rw [HNO.out HO.out]; rfl, _, World.drewN_drewN _ _ _⟩
        · go_wp2_with fail
          go_quiet (fail)
          go_wp2_with fail
          go_ret
          exact ⟨by rw [HNO.out HO.out]; rfl, _, World.drewN_drewN _ _ _⟩
        · go_wp2_with fail
          go_quiet (fail)
          go_wp2_with fail
          exact ⟨⟨k + 1, by go_num, by omega, HNX.out HO.out, ⟨_, rfl⟩⟩, by simp [intOf] <;> omega⟩
    · have hend := chk_end (s := s) (by have h := HS.out; rwa [show k = s.length by omega] at h)
      rcases hend with ⟨h0, HO⟩ | ⟨h0, h1, HO⟩ | ⟨h0, h1, h2, HO⟩ | ⟨h0, h1, h2, HO⟩
      · go_wp2_with fail
        go_ret
        exact ⟨by rw [HO.out]; rfl, q, rfl⟩
      all_goals
        obtain ⟨ad, rfl, had, c1, c2⟩ := pair_zero HA.out h0
        unfold spCell at c1 c2
        dsimp only at c1 c2
        have i0 : (0 : Int) < (s.length : Int) := by omega
        generalize s.getD 0 (0, 0) = x at *
        clear had HW
        go_wp2_with fail
        go_ret
        exact ⟨by rw [HO.out]; rfl, q, rfl⟩
end Go.Proofs.Ytonapgbokbeopaa.StepRef
namespace Go.Proofs.Ytonapgbokbeopaa.StepRef
open Go.RowKit Go.Proofs.Ytonapgbokbeopaa.SpanPlain Go.Proofs.Ytonapgbokbeopaa.StepPlain Go.Proofs.Ytonapgbokbeopaa.Mem Go.Proofs.Ytonapgbokbeopaa.SpanMem Go.Proofs.Ytonapgbokbeopaa.StepMem Go.Proofs.Ytonapgbokbeopaa.SpanRef
set_option maxHeartbeats 800000 in
theorem within4 (s : List Sp) (v : Value) (t : Int) (w : World) (hv : SpansIs s w v) (hl : s.length ≤ 9000) : Calls Try.prog 10 #[v, .int .i64 t] w (IntQ (val s t) w) := by
  obtain ⟨A, c, rfl, hA⟩ := hv.open_
  have HA := Lib.hid hA
  clear hA hv
  go_enter Try.func10, Try.ntmps10
  go_wp2_with fail
  go_loop [5, 6] (fun n i => ∃ k : Nat, n = .int .i64 (val (s.take k) t) ∧ i = .int .i64 k ∧ k ≤ s.length) (fun _ i => s.length - (intOf i).toNat)
  case atStart => exact ⟨0, rfl, rfl, Nat.zero_le _⟩
  case round =>
    obtain ⟨k, rfl, rfl, hk⟩ := hrel
    by_cases hlt : k < s.length
    · obtain ⟨ad, rfl, had, c1, c2⟩ := HA.out k hlt
      have HV := Lib.hid (val_take hlt t)
      unfold spCell at c1 c2
      dsimp only at c1 c2
      generalize s.getD k (0, 0) = x at *
      generalize val (s.take k) t = n at *
      by_cases hx : x.1 ≤ t
      · have HX := Lib.hid (HV.out.trans (if_pos hx))
        clear HV
        go_wp2_with fail
        exact ⟨⟨k + 1, by rw [HX.out], by go_num, by omega⟩, by simp [intOf] <;> omega⟩
      · have HX := Lib.hid (HV.out.trans (if_neg hx))
        clear HV
        go_wp2_with fail
        exact ⟨⟨k + 1, by rw [HX.out], by go_num, by omega⟩, by simp [intOf] <;> omega⟩
    · go_wp2_with fail
      go_ret
      exact ⟨by rw [List.take_of_length_le (by omega)]; rfl, rfl⟩
end Go.Proofs.Ytonapgbokbeopaa.StepRef
namespace Go.Proofs.Ytonapgbokbeopaa.StepRef
open Go.RowKit Go.Proofs.Ytonapgbokbeopaa.SpanPlain Go.Proofs.Ytonapgbokbeopaa.StepPlain Go.Proofs.Ytonapgbokbeopaa.Mem Go.Proofs.Ytonapgbokbeopaa.SpanMem Go.Proofs.Ytonapgbokbeopaa.StepMem Go.Proofs.Ytonapgbokbeopaa.SpanRef
theorem min_ways (x y : Sp) (n : Int) : (decide (x.1 < y.1) = false ∧ Hid (minStep x n y = n)) ∨ (decide (x.1 < y.1) = true ∧ decide (y.1 < x.2) = false ∧ Hid (minStep x n y = n)) ∨
    (decide (x.1 < y.1) = true ∧ decide (y.1 < x.2) = true ∧ decide (y.2 < n) = false ∧ Hid (minStep x n y = n)) ∨ (decide (x.1 < y.1) = true ∧ decide (y.1 < x.2) = true ∧ decide (y.2 < n) = true ∧ Hid (minStep x n y = y.2)) := by
  unfold minStep
  by_cases h1 : x.1 < y.1
  · by_cases h2 : y.1 < x.2
    · by_cases h3 : y.2 < n
      · exact .inr (.inr (.inr ⟨decide_eq_true h1, decide_eq_true h2, decide_eq_true h3, if_pos ⟨h1, h2, h3⟩⟩))
      · exact .inr (.inr (.inl ⟨decide_eq_true h1, decide_eq_true h2, decide_eq_false h3, if_neg (fun h => h3 h.2.2)⟩))
    · exact .inr (.inl ⟨decide_eq_true h1, decide_eq_false h2, if_neg (fun h => h2 h.2.1)⟩)
  · exact .inl ⟨decide_eq_false h1, if_neg (fun h => h1 h.1)⟩
set_option maxHeartbeats 3200000 in
theorem min4 (s : List Sp) (x : Sp) (v : Value) (w : World) (hv : SpansIs s w v) (hl : s.length ≤ 9000) : Calls Try.prog 42 #[v, spV x] w (IntB (minTo s x s.length) w) := by
  obtain ⟨A, c, rfl, hA⟩ := hv.open_
  obtain ⟨x1, x2⟩ := x
  have HW := Lib.hid (within4 s (.slice A s.length c) x1 (w.alloc (.cells #[.int .i64 x1, .int .i64 x2] 40)) (hv.below (below_alloc _ _)) hl)
  have HB := Lib.hid (Box2.new w (.int .i64 x1) (.int .i64 x2) 40)
  have HA := Lib.hid (hA.below (below_alloc w (.cells #[.int .i64 x1, .int .i64 x2] 40)))
  have HL := Lib.hid (below_alloc w (.cells #[.int .i64 x1, .int .i64 x2] 40))
  have hm0 : Hid (minTo s (x1, x2) 0 = val s x1) := rfl
  unfold spV
  dsimp only
  clear hA hv
  go_enter Try.func42, Try.ntmps42
  go_wp2_with fail
  refine HW.out.mono ?_
  rintro e w1 ⟨rfl, rfl⟩
  go_wp2_with fail
  generalize w.alloc (.cells #[.int .i64 x1, .int .i64 x2] 40) = W at *
  go_loopw [5, 6] (fun n i wr => ∃ k : Nat, n = .int .i64 (minTo s (x1, x2) k) ∧ i = .int .i64 k ∧ k ≤ s.length ∧ Hid (∃ q, wr = W.drewN q)) (fun _ i _ => s.length - (intOf i).toNat)
  case atStart => exact ⟨0, by rw [hm0.out], rfl, Nat.zero_le _, ⟨0, rfl⟩⟩
  case round =>
    obtain ⟨k, rfl, rfl, hk, HQ⟩ := hrel
    obtain ⟨q, rfl⟩ := HQ.out
    by_cases hlt : k < s.length
    · obtain ⟨ad, rfl, had, c1, c2⟩ := HA.out k hlt
      obtain ⟨b0, b1, b2, b3, b4⟩ := HB.out
      have hways := min_ways (x1, x2) (s.getD k (0, 0)) (minTo s (x1, x2) k)
      have HN := Lib.hid (min_next (x := (x1, x2)) hlt)
      have hlt2 : (k : Int) < (s.length : Int) := by omega
      have i0 : (0 : Int) ≤ (k : Int) := Int.natCast_nonneg _
      unfold spCell at c1 c2
      dsimp only at c1 c2 hways
      generalize s.getD k (0, 0) = y at *
      generalize minTo s (x1, x2) k = n at *
      clear had HQ b0 b3 b4 HW
      rcases hways with ⟨h1, HM⟩ | ⟨h1, h2, HM⟩ | ⟨h1, h2, h3, HM⟩ | ⟨h1, h2, h3, HM⟩
      all_goals
        go_wp2_with fail
        go_quiet (fail)
        go_wp2_with fail
        exact ⟨⟨k + 1, by rw [HN.out, HM.out], by go_num, by omega, ⟨_, rfl⟩⟩, by simp [intOf] <;> omega⟩
    · obtain rfl : k = s.length := by omega
      go_wp2_with fail
      go_ret
      exact ⟨rfl, below_drewN HL.out q⟩
end Go.Proofs.Ytonapgbokbeopaa.StepRef
namespace Go.Proofs.Ytonapgbokbeopaa.StepRef
open Go.RowKit Go.Proofs.Ytonapgbokbeopaa.SpanPlain Go.Proofs.Ytonapgbokbeopaa.StepPlain Go.Proofs.Ytonapgbokbeopaa.Mem Go.Proofs.Ytonapgbokbeopaa.SpanMem Go.Proofs.Ytonapgbokbeopaa.StepMem Go.Proofs.Ytonapgbokbeopaa.SpanRef
theorem same_take {a b : List Sp} {k : Nat} (ha : k < a.length) (hb : k < b.length) (h : a.take k = b.take k) (he : a.getD k (0, 0) = b.getD k (0, 0)) : a.take (k + 1) = b.take (k + 1) := by
  rw [List.take_succ_eq_append_getElem ha, List.take_succ_eq_append_getElem hb, h]
  simp [List.getD, ha, hb] at he
  rw [he]
theorem same_not {a b : List Sp} {k : Nat} (he : a.getD k (0, 0) ≠ b.getD k (0, 0)) : a ≠ b := fun h => by subst h; exact he rfl
set_option maxHeartbeats 1600000 in
theorem same4 (a b : List Sp) (v u : Value) (w : World) (hv : SpansIs a w v) (hu : SpansIs b w u) (hl : a.length ≤ 4000) (hm : b.length ≤ 4000) : Calls Try.prog 14 #[v, u] w (BoolD (decide (a = b)) w) := by
  obtain ⟨A, c, rfl, hA⟩ := hv.open_
  obtain ⟨B, d, rfl, hB⟩ := hu.open_
  have HA := Lib.hid hA
  have HB := Lib.hid hB
  clear hA hB hv hu
  by_cases hlen : a.length = b.length
  · rw [← hlen] at HB ⊢
    have HL := Lib.hid hlen
    clear hlen hm
    go_enter Try.func14, Try.ntmps14
    go_wp2_with fail
    go_loopw [5] (fun i wr => ∃ k : Nat, i = .int .i64 k ∧ k ≤ a.length ∧ Hid (a.take k = b.take k) ∧ Hid (∃ q, wr = w.drewN q)) (fun i _ => a.length - (intOf i).toNat)
    case atStart => exact ⟨0, rfl, Nat.zero_le _, rfl, ⟨0, rfl⟩⟩
    case round =>
      obtain ⟨k, rfl, hk, HS, HW⟩ := hrel
      obtain ⟨q, rfl⟩ := HW.out
      by_cases hlt : k < a.length
      · obtain ⟨ad, rfl, had, c1, c2⟩ := HA.out k hlt
        obtain ⟨bd, rfl, hbd, d1, d2⟩ := HB.out k hlt
        have hlb : k < b.length := by rw [← HL.out]; exact hlt
        have HN := Lib.hid (fun h => same_take hlt hlb HS.out h)
        have HX := Lib.hid (fun h => same_not (a := a) (b := b) (k := k) h)
        unfold spCell at c1 c2 d1 d2
        dsimp only at c1 c2 d1 d2
        generalize a.getD k (0, 0) = s at *
        generalize b.getD k (0, 0) = r at *
        have hlt2 : (k : Int) < (a.length : Int) := by omega
        clear had hbd HW hlb
        by_cases he : s = r
        · subst he
          have HN2 := Lib.hid (HN.out rfl)
          go_wp2_with fail
          go_quiet (fail)
          go_wp2_with fail
          exact ⟨⟨k + 1, by go_num, by omega, HN2.out, ⟨_, rfl⟩⟩, by simp [intOf] <;> omega⟩
        · have HX2 := Lib.hid (HX.out he)
          have hne : (s.1 == r.1) = false ∨ ((s.1 == r.1) = true ∧ (s.2 == r.2) = false) := by
            by_cases h1 : s.1 = r.1
            · right; exact ⟨beq_iff_eq.2 h1, beq_eq_false_iff_ne.2 fun h2 => he (Prod.ext h1 h2)⟩
            · left; exact beq_eq_false_iff_ne.2 h1
          clear he
          rcases hne with h1 | ⟨h1, h2⟩
          all_goals
            go_wp2_with fail
            go_quiet (fail)
            go_wp2_with fail
            go_ret
            exact ⟨by rw [decide_eq_false HX2.out]; rfl, _, World.drewN_drewN _ _ _⟩
      · have h := HS.out
        rw [List.take_of_length_le (by omega), List.take_of_length_le (by rw [← HL.out]; omega)] at h
        have H := Lib.hid h
        clear h
        go_wp2_with fail
        go_ret
        exact ⟨by rw [decide_eq_true H.out]; rfl, q, rfl⟩
  · have hne : ((a.length : Int) != (b.length : Int)) = true := by rw [bne_iff_ne]; omega
    have H : Hid (a ≠ b) := fun h => hlen (by rw [h])
    clear hlen
    go_enter Try.func14, Try.ntmps14
    go_wp2_with fail
    go_ret
    exact ⟨by rw [decide_eq_false H.out]; rfl, 0, rfl⟩
end Go.Proofs.Ytonapgbokbeopaa.StepRef
namespace Go.Proofs.Ytonapgbokbeopaa.StepWalk
open Go.RowKit Go.Proofs.Ytonapgbokbeopaa.SpanPlain Go.Proofs.Ytonapgbokbeopaa.StepPlain Go.Proofs.Ytonapgbokbeopaa.Mem Go.Proofs.Ytonapgbokbeopaa.SpanMem Go.Proofs.Ytonapgbokbeopaa.StepMem Go.Proofs.Ytonapgbokbeopaa.SpanRef Go.Proofs.Ytonapgbokbeopaa.StepRef
def TrueIs (w : World) (e : Ending) (w' : World) : Prop := e = .returned (.bool true) ∧ Below w.heap.size w w'
/-- A slice whose memory, if there is any, is new from block B on. -/
def NewAt (B : Nat) (v : Value) : Prop := ∀ a n c, v = .slice (some a) n c → B ≤ a.block
theorem NewAt.nil {B : Nat} : NewAt B (.slice none 0 0) := fun _ _ _ h => by cases h
theorem NewAt.mono {B B' : Nat} {v : Value} (h : NewAt B v) (hb : B' ≤ B) : NewAt B' v := fun a n c e => Nat.le_trans hb (h a n c e)
theorem NewAt.own {e : TypeId} {k base n B : Nat} {w : World} {v : Value} {xs : List Value} (h : OwnN e k base w v n xs) (hb : B ≤ base) : NewAt B v := fun a m c e => by
  rcases h.form with ⟨h1, _⟩ | ⟨g, c', h1, h2, _⟩
  · rw [h1] at e; cases e
  · rw [h1] at e
    injection e with e
    injection e with e
    subst e
    exact Nat.le_trans hb h2
theorem NewAt.cut {B : Nat} {a : Addr} {n c m k : Nat} (h : NewAt B (.slice (some a) n c)) : NewAt B (.slice (some a) m k) := fun b i j e => by
  injection e with e
  injection e with e
  subst e
  exact h _ _ _ rfl
def OfSays (p t : Int) (l : List By) (w : World) (e : Ending) (w' : World) : Prop := ∃ v s c, e = .returned (.tuple #[v, .int .i64 c]) ∧ OfIs p t l s c ∧ SpansIs s w' v ∧ Below w.heap.size w w' ∧ NewAt w.heap.size v
def PairIs (n : Int) (b : Bool) (w : World) (e : Ending) (w' : World) : Prop := e = .returned (.tuple #[.int .i64 n, .bool b]) ∧ Below w.heap.size w w'
def atB (s : List Sp) (t : Int) : Bool := chkB s && decide (head s ≤ t) && decide (t < 4503599627370496)
def atN (s : List Sp) (t : Int) : Int := if atB s t then val s t else 0
def minB (s : List Sp) (x : Sp) : Bool := chkB s && mayB x && decide (head s ≤ x.1)
def MinSays (s : List Sp) (x : Sp) (w : World) (e : Ending) (w' : World) : Prop := ∃ n, e = .returned (.tuple #[.int .i64 n, .bool (minB s x)]) ∧ ((minB s x = true ∧ MinOf s x n) ∨ (minB s x = false ∧ n = 0)) ∧ Below w.heap.size w w'
def AddSays (s : List Sp) (x : Sp) (n : Int) (w : World) (e : Ending) (w' : World) : Prop := ∃ v r, e = .returned v ∧ SpansIs r w' v ∧ AddIs s x n r ∧ Below w.heap.size w w' ∧ NewAt w.heap.size v
def TrimIs (s : List Sp) (t : Int) (r : List Sp) : Prop := ((chkB s = false ∨ 1125899906842624 < t) ∧ r = []) ∨ (chkB s = true ∧ t ≤ 1125899906842624 ∧ t ≤ head s ∧ r = s) ∨ (chkB s = true ∧ t ≤ 1125899906842624 ∧ head s < t ∧ Rep r t (val s))
def TrimSays (s : List Sp) (t : Int) (w : World) (e : Ending) (w' : World) : Prop := ∃ v r, e = .returned v ∧ SpansIs r w' v ∧ TrimIs s t r ∧ Below w.heap.size w w' ∧ NewAt w.heap.size v
theorem rep_free {r : List Sp} {h : Int} {P : Int → Int} (a : Rep r h P) {t : Int} (ht : h ≤ t) : 0 ≤ P t ∧ P t ≤ 256 := by
  have := a.1.val_free (t := t) (by rw [a.2.1]; exact ht)
  rwa [a.2.2 t ht] at this
theorem of_len {p t : Int} {l : List By} {s : List Sp} {c : Int} (h : OfIs p t l s c) : s.length ≤ 2 * l.length + 1 := by
  rcases h with ⟨_, rfl, _⟩ | ⟨_, _, rfl, _⟩ | ⟨h1, _, h2⟩
  · simp
  · simp
  · have h3 := of_done h1 (fun x hx => (rep_free h2 (turns_ge x hx)).1)
    rcases h3 with ⟨h4, _⟩ | ⟨_, _, _, h4⟩ | ⟨_, _, h4⟩
    · exact absurd h4 h1
    · cases h4
    · rw [h2.unique h4]
      have h5 := build_len (freeL p l) (turnsL t l)
      have h6 := (ends_spec (busySp l)).2.2
      rw [busy_at (fun _ => trivial)] at h6
      have h7 := List.length_filter_le (fun e => decide (t < e)) (endsL (busySp l))
      unfold turnsL at h5
      rw [List.length_cons] at h5
      unfold turnsL
      omega
theorem add_len_of {s r : List Sp} {x : Sp} {n : Int} (h : AddIs s x n r) : r.length ≤ 2 * s.length + 2 := by
  rcases h with ⟨_, rfl⟩ | ⟨_, _, rfl⟩ | ⟨h1, h2⟩
  · simp
  · simp
  · obtain ⟨hc, hx, _⟩ := not_addBad h1
    have h3 := add_rep (n := n) hc hx (fun e he => rep_free h2 ((keep_iff hc).1 (List.mem_filter.1 he).2).1)
    rw [h2.unique h3]
    have h5 := build_len (addF s x n) (addEnds s x)
    have h6 := (ends_spec (addSpans s x)).2.2
    rw [add_len] at h6
    have h7 := List.length_filter_le (keepB s x) (endsL (addSpans s x))
    have e : addEnds s x = (endsL (addSpans s x)).filter (keepB s x) := rfl
    rw [← e] at h7
    omega
theorem trim_len_of {s r : List Sp} {t : Int} (h : TrimIs s t r) : r.length ≤ s.length + 1 := by
  rcases h with ⟨_, rfl⟩ | ⟨_, _, _, rfl⟩ | ⟨h1, h2, h3, h4⟩
  · simp
  · omega
  · rw [h4.unique (trim_rep ((chk_iff s).1 h1) (by omega) h2)]
    unfold trimL
    rw [List.length_cons]
    have := List.length_filter_le (fun y : Sp => decide (t < y.1)) s
    omega
/-- What Trim of the document tells. -/
theorem trim_same {s r : List Sp} {t : Int} (h : TrimIs s t r) (h1 : chkB s = true) (h2 : t ≤ 1125899906842624) : r = if t ≤ head s then s else trimL s t := by
  rcases h with ⟨h3 | h3, _⟩ | ⟨_, _, h3, rfl⟩ | ⟨_, _, h3, h4⟩
  · rw [h1] at h3; cases h3
  · omega
  · rw [if_pos h3]
  · rw [if_neg (by omega)]
    exact h4.unique (trim_rep ((chk_iff s).1 h1) (by omega) h2)
/-- The example of the statements. -/
def exB : List By := [(2, 4, 3)]
def exS : List Sp := [(0, 5), (2, 2), (4, 5)]
theorem ex_of : OfIs 5 0 exB exS 0 := by
  refine .inr (.inr ⟨fun h => ?_, rfl, ⟨(chk_iff exS).1 (by decide), rfl, fun t ht => ?_⟩⟩)
  · rcases h with ⟨b, hb, hx⟩ | h | h | h | h | h
    · simp [exB] at hb
      subst hb
      revert hx
      decide
    all_goals (revert h; decide)
  · unfold val valFrom freeL exS exB
    simp only [List.foldl_cons, List.foldl_nil]
    by_cases h1 : (2 : Int) ≤ t <;> by_cases h2 : (4 : Int) ≤ t <;> simp [h1, h2, ht] <;> omega
theorem ex_min : MinOf exS (1, 3) 2 := by
  refine ⟨⟨2, by decide, by decide, by decide⟩, fun t h1 h2 => ?_⟩
  unfold val valFrom exS
  simp only [List.foldl_cons, List.foldl_nil]
  dsimp only at h1 h2
  by_cases h3 : (2 : Int) ≤ t <;> by_cases h4 : (4 : Int) ≤ t <;> simp [h3, h4, show (0 : Int) ≤ t by omega]
theorem ex_minB : minB exS (1, 3) = true := by decide
theorem ex_chk : chkB exS = true := by decide
end Go.Proofs.Ytonapgbokbeopaa.StepWalk
