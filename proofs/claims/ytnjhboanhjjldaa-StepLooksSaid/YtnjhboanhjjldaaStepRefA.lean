/-
  The walks of the document's answers for layer 4: May, Free, Turns.
-/
import Derived.Test.YtnjhboanhjjldaaStepMem
import Derived.Test.YtnjhboanhjjldaaSpanRefC
namespace Go.Proofs.Ytnjhboanhjjldaa.StepRef
open Go.RowKit Go.Proofs.Ytnjhboanhjjldaa.SpanPlain Go.Proofs.Ytnjhboanhjjldaa.StepPlain Go.Proofs.Ytnjhboanhjjldaa.Mem Go.Proofs.Ytnjhboanhjjldaa.SpanMem Go.Proofs.Ytnjhboanhjjldaa.StepMem Go.Proofs.Ytnjhboanhjjldaa.SpanRef

theorem below_alloc (w : World) (o : Obj) : Below w.heap.size w (w.alloc o) := (Below.refl _ _).alloc (Nat.le_refl _) o
theorem by_ways (b : By) : (mayB (b.1, b.2.1) = false ∧ byB b = false) ∨ (mayB (b.1, b.2.1) = true ∧ decide (1 ≤ b.2.2) = false ∧ byB b = false) ∨
    (mayB (b.1, b.2.1) = true ∧ decide (1 ≤ b.2.2) = true ∧ decide (b.2.2 ≤ 256) = false ∧ byB b = false) ∨ (mayB (b.1, b.2.1) = true ∧ decide (1 ≤ b.2.2) = true ∧ decide (b.2.2 ≤ 256) = true ∧ byB b = true) := by
  unfold byB
  cases mayB (b.1, b.2.1) <;> cases decide (1 ≤ b.2.2) <;> cases decide (b.2.2 ≤ 256) <;> simp

set_option maxHeartbeats 800000 in
theorem may4 (b : By) (w : World) : Calls Try.prog 26 #[byV b] w (BoolIs (byB b) w) := by
  have hs := by_ways b
  have C1 := Lib.hid (fun w => may_any (b.1, b.2.1) w)
  obtain ⟨f, t, x⟩ := b
  unfold byV
  unfold spV at C1
  dsimp only at hs C1 ⊢
  rcases hs with ⟨hm, hh⟩ | ⟨hm, h1, hh⟩ | ⟨hm, h1, h2, hh⟩ | ⟨hm, h1, h2, hh⟩
  all_goals
    rw [hm] at C1
    rw [hh]
    clear hh hm
    go_enter Try.func26, Try.ntmps26
    go_wp2_with fail
    refine (C1.out _).mono ?_
    rintro e w1 ⟨rfl, hb1⟩
    have d1 := box_cell hb1 (j := 2) (u := .int .i64 x) rfl
    have HB1 := Lib.hid hb1
    clear hb1
    go_wp2_with fail
    go_ret
    exact ⟨rfl, below_then (below_alloc _ _) HB1.out⟩

def IntQ (n : Int) (w : World) (e : Ending) (w' : World) : Prop := e = .returned (.int .i64 n) ∧ w = w'
theorem free_take {l : List By} {k : Nat} (hk : k < l.length) (p t : Int) : freeL p (l.take (k + 1)) t = if (byCell l k).1 ≤ t ∧ t < (byCell l k).2.1 then freeL p (l.take k) t - (byCell l k).2.2 else freeL p (l.take k) t := by
  rw [List.take_succ_eq_append_getElem hk, free_snoc, by_at hk]
theorem free_bounds {l : List By} (h : ∀ b ∈ l, -256 ≤ b.2.2 ∧ b.2.2 ≤ 256) (p t : Int) (k : Nat) : p - 256 * k ≤ freeL p (l.take k) t ∧ freeL p (l.take k) t ≤ p + 256 * k := by
  have h' : ∀ b ∈ l.take k, -256 ≤ b.2.2 ∧ b.2.2 ≤ 256 := fun b hb => h b (List.mem_of_mem_take hb)
  have h1 := free_range h' t p
  rw [List.length_take] at h1
  omega
theorem by_bounds {l : List By} (h : ∀ b ∈ l, -256 ≤ b.2.2 ∧ b.2.2 ≤ 256) {k : Nat} (hk : k < l.length) : -256 ≤ (byCell l k).2.2 ∧ (byCell l k).2.2 ≤ 256 := h (byCell l k) (by rw [by_at hk]; exact List.getElem_mem hk)
theorem by_wide {b : By} (h : byB b = true) : -256 ≤ b.2.2 ∧ b.2.2 ≤ 256 := by
  unfold byB at h
  simp only [Bool.and_eq_true, decide_eq_true_eq] at h
  omega

set_option maxHeartbeats 1600000 in
theorem free4w (p : Int) (l : List By) (v : Value) (t : Int) (w : World) (hv : BusyIs l w v) (hb : ∀ b ∈ l, -256 ≤ b.2.2 ∧ b.2.2 ≤ 256) (hp1 : 0 ≤ p) (hp2 : p ≤ 256) (hl : l.length ≤ 400) :
    Calls Try.prog 12 #[.int .i64 p, v, .int .i64 t] w (IntQ (freeL p l t) w) := by
  obtain ⟨A, c, rfl, hA⟩ := hv.open_
  have HA := Lib.hid hA
  have HBY := Lib.hid hb
  clear hA hv hb
  go_enter Try.func12, Try.ntmps12
  go_wp2_with fail
  go_loop [0, 7] (fun n i => ∃ k : Nat, n = .int .i64 (freeL p (l.take k) t) ∧ i = .int .i64 k ∧ k ≤ l.length) (fun _ i => l.length - (intOf i).toNat)
  case atStart => exact ⟨0, rfl, rfl, Nat.zero_le _⟩
  case round =>
    obtain ⟨k, rfl, rfl, hk⟩ := hrel
    by_cases hlt : k < l.length
    · obtain ⟨ad, rfl, had, c1, c2, c3⟩ := HA.out k hlt
      have HF := Lib.hid (free_take hlt p t)
      obtain ⟨f1, f2⟩ := free_bounds HBY.out p t k
      obtain ⟨x1, x2⟩ := by_bounds HBY.out hlt
      generalize byCell l k = b at *
      generalize freeL p (l.take k) t = n at *
      have hcase : (decide (b.1 ≤ t) = true ∧ decide (t < b.2.1) = true ∧ Hid (freeL p (l.take (k + 1)) t = n - b.2.2)) ∨ (decide (b.1 ≤ t) = true ∧ decide (t < b.2.1) = false ∧ Hid (freeL p (l.take (k + 1)) t = n)) ∨ (decide (b.1 ≤ t) = false ∧ Hid (freeL p (l.take (k + 1)) t = n)) := by
        by_cases h1 : b.1 ≤ t
        · by_cases h2 : t < b.2.1
          · exact .inl ⟨decide_eq_true h1, decide_eq_true h2, HF.out.trans (if_pos ⟨h1, h2⟩)⟩
          · exact .inr (.inl ⟨decide_eq_true h1, decide_eq_false h2, HF.out.trans (if_neg (fun h => h2 h.2))⟩)
        · exact .inr (.inr ⟨decide_eq_false h1, HF.out.trans (if_neg (fun h => h1 h.1))⟩)
      clear HF had
      have hlt2 : (k : Int) < (l.length : Int) := by omega
      rcases hcase with ⟨h1, h2, HX⟩ | ⟨h1, h2, HX⟩ | ⟨h1, HX⟩
      all_goals
        go_wp2_with fail
        exact ⟨⟨k + 1, by rw [HX.out], by go_num, by omega⟩, by simp [intOf] <;> omega⟩
    · go_wp2_with fail
      go_ret
      exact ⟨by rw [List.take_of_length_le (by omega)]; rfl, rfl⟩

theorem free4 (p : Int) (l : List By) (v : Value) (t : Int) (w : World) (hv : BusyIs l w v) (hb : ∀ b ∈ l, byB b = true) (hp1 : 0 ≤ p) (hp2 : p ≤ 256) (hl : l.length ≤ 400) :
    Calls Try.prog 12 #[.int .i64 p, v, .int .i64 t] w (IntQ (freeL p l t) w) := free4w p l v t w hv (fun b h => by_wide (hb b h)) hp1 hp2 hl

/-- How the loop of Turns over the busy times stands. -/
def TurnA (l : List By) (w wr : World) (v : Value) (k : Nat) : Prop := OwnR 36 2 w.heap.size wr v k (svals (busySp (l.take k))) ∧ Below w.heap.size w wr
def TurnB (t : Int) (e : List Int) (w wr : World) (v : Value) (k : Nat) : Prop :=
  OwnR 3 1 w.heap.size wr v (t :: (e.take k).filter fun x => decide (t < x)).length (ivals (t :: (e.take k).filter fun x => decide (t < x))) ∧ Below w.heap.size w wr
theorem busy_take {l : List By} {k : Nat} (hk : k < l.length) : svals (busySp (l.take (k + 1))) = svals (busySp (l.take k)) ++ [.int .i64 (byCell l k).1, .int .i64 (byCell l k).2.1] := by
  rw [List.take_succ_eq_append_getElem hk, by_at hk]
  unfold busySp
  rw [List.map_append, svals_append]
  rfl
theorem filter_take {e : List Int} {k : Nat} (hk : k < e.length) (t : Int) : ((e.take (k + 1)).filter fun x => decide (t < x)) = ((e.take k).filter fun x => decide (t < x)) ++ if t < e.getD k 0 then [e.getD k 0] else [] := by
  rw [List.take_succ_eq_append_getElem hk, List.filter_append, getD_el hk, List.filter_cons, List.filter_nil]
  by_cases h : t < e[k] <;> simp [h]
def TurnsIs (t : Int) (l : List By) (w : World) (e : Ending) (w' : World) : Prop := ∃ v, e = .returned v ∧ IntsIs (turnsL t l) w' v ∧ Below w.heap.size w w'
theorem filter_len (e : List Int) (k : Nat) (t : Int) : ((e.take k).filter fun x => decide (t < x)).length ≤ e.length := by
  have h1 := List.length_filter_le (fun x => decide (t < x)) (e.take k)
  rw [List.length_take] at h1
  omega
theorem trip_held {w w' : World} {a : Addr} {k : Nat} {u v : Value} (hb : Below w.heap.size w w') (h1 : w.cell? (a.add k) = some u) (h2 : w.cell? ⟨(a.add k).block, (a.add k).off + 1, none⟩ = some v) (hl : a.block < w.heap.size) :
    w'.cell? (a.add k) = some u ∧ w'.cell? ⟨(a.add k).block, (a.add k).off + 1, none⟩ = some v := by
  obtain ⟨a1, a2, a3⟩ := pair_below hb hl h1 h2
  exact ⟨a2, a3⟩
end Go.Proofs.Ytnjhboanhjjldaa.StepRef
