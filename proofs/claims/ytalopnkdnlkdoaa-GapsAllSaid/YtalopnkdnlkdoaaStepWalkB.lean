/-
  The walks of layer 4's code: the search for the last step that is not behind a time.
-/
import Derived.Test.YtalopnkdnlkdoaaStepWalkA
namespace Go.Proofs.Ytalopnkdnlkdoaa.StepWalk
open Go.RowKit Go.Proofs.Ytalopnkdnlkdoaa.SpanPlain Go.Proofs.Ytalopnkdnlkdoaa.StepPlain Go.Proofs.Ytalopnkdnlkdoaa.Mem Go.Proofs.Ytalopnkdnlkdoaa.SpanMem Go.Proofs.Ytalopnkdnlkdoaa.StepMem Go.Proofs.Ytalopnkdnlkdoaa.SpanRef Go.Proofs.Ytalopnkdnlkdoaa.StepRef
def IntW (n : Int) (w : World) (e : Ending) (w' : World) : Prop := e = .returned (.int .i64 n) ∧ w = w'
def cmpI (x y : Int) : Int := if x < y then -1 else if x = y then 0 else 1
theorem cmp_lt (x y : Int) : decide (cmpI x y < 0) = decide (x < y) := by
  unfold cmpI
  by_cases h1 : x < y
  · simp [h1]
  · by_cases h2 : x = y <;> simp [h1, h2]
theorem cmp_eq (x y : Int) : (cmpI x y == 0) = decide (x = y) := by
  unfold cmpI
  by_cases h1 : x < y
  · simp [h1]; omega
  · by_cases h2 : x = y <;> simp [h1, h2]
theorem cmpS (x y : Int) (w : World) : Calls Try.prog 38 #[.int .i64 x, .int .i64 y] w (IntW (cmpI x y) w) := by
  refine (Try.cmp_Compare_int x y w).mono ?_
  rintro e w' ⟨rfl, rfl⟩
  refine ⟨?_, rfl⟩
  unfold Lib.compareInt cmpI
  congr 2
  split
  · rfl
  · split <;> split <;> omega
theorem int_eq {k : IntKind} {a b : Int} (h : a = b) : Value.int k a = Value.int k b := by rw [h]
theorem ret_eq {k : IntKind} {a b : Int} (h : a = b) : Ending.returned (.int k a) = .returned (.int k b) := by rw [h]
/-- What the closure answers: it keeps a box of its own. -/
def IntBox (n : Int) (y : Sp) (w : World) (e : Ending) (w' : World) : Prop := e = .returned (.int .i64 n) ∧ w' = w.alloc (.cells #[.int .i64 y.1, .int .i64 y.2] 31)
theorem atS1 (y : Sp) (t : Int) (w : World) : Calls Try.prog 37 #[spV y, .int .i64 t] w (IntBox (cmpI y.1 t) y w) := by
  have C1 := Lib.hid (fun w => cmpS y.1 t w)
  unfold spV
  generalize cmpI y.1 t = n at *
  go_enter Try.func37, Try.ntmps37
  go_wp2_with (go_at_call 38; refine (C1.out _).mono ?_; rintro e w1 ⟨rfl, rfl⟩)
  go_ret
  exact ⟨rfl, rfl⟩
/-- How many steps are ahead of a time. -/
def SearchIs (s : List Sp) (t : Int) (w : World) (e : Ending) (w' : World) : Prop := ∃ k : Nat, e = .returned (.tuple #[.int .i64 k, .bool (decide (k < s.length) && decide ((nth s k).1 = t))]) ∧ k ≤ s.length ∧ (∀ j, j < k → (nth s j).1 < t) ∧ (∀ j, k ≤ j → j < s.length → t ≤ (nth s j).1) ∧ Below w.heap.size w w'
/-- How the search stands. -/
def SearchAt (s : List Sp) (t : Int) (i j : Nat) : Prop := i ≤ j ∧ j ≤ s.length ∧ (∀ m, m < i → (nth s m).1 < t) ∧ ∀ m, j ≤ m → m < s.length → t ≤ (nth s m).1
theorem search_low {s : List Sp} (hu : Up s) {t : Int} {i j : Nat} (h : SearchAt s t i j) (hij : i < j) (hx : (nth s ((i + j) / 2)).1 < t) : SearchAt s t ((i + j) / 2 + 1) j := by
  obtain ⟨h1, h2, h3, h4⟩ := h
  refine ⟨by omega, h2, fun m hm => ?_, h4⟩
  have := hu.le (i := m) (j := (i + j) / 2) (by omega) (by omega)
  omega
theorem search_high {s : List Sp} (hu : Up s) {t : Int} {i j : Nat} (h : SearchAt s t i j) (hij : i < j) (hx : ¬ (nth s ((i + j) / 2)).1 < t) : SearchAt s t i ((i + j) / 2) := by
  obtain ⟨h1, h2, h3, h4⟩ := h
  refine ⟨by omega, by omega, h3, fun m hm hl => ?_⟩
  have := hu.le (i := (i + j) / 2) (j := m) (by omega) (by omega)
  omega
set_option maxRecDepth 100000 in
set_option maxHeartbeats 1600000 in
theorem searchS (s : List Sp) (t : Int) (v : Value) (w : World) (hv : SpansIs s w v) (hu : Up s) (hl : s.length ≤ 2000) :
    Calls Try.prog 36 #[v, .int .i64 t, .func (.func 37) #[] #[]] w (SearchIs s t w) := by
  obtain ⟨A, c, rfl, hA⟩ := hv.open_
  have HA := Lib.hid hA
  have HU := Lib.hid hu
  clear hA hv hu
  go_enter Try.func36, Try.ntmps36
  go_wp2_with fail
  go_loopw [9, 10] (fun a b wr => ∃ i j : Nat, a = .int .i64 i ∧ b = .int .i64 j ∧ i ≤ j ∧ j ≤ s.length ∧ Hid (SearchAt s t i j ∧ Below w.heap.size w wr)) (fun a b _ => (intOf b).toNat - (intOf a).toNat)
  case atStart => exact ⟨0, s.length, rfl, rfl, Nat.zero_le _, Nat.le_refl _, ⟨Nat.zero_le _, Nat.le_refl _, fun m hm => absurd hm (Nat.not_lt_zero _), fun m h1 h2 => by omega⟩, Below.refl _ _⟩
  case round =>
    obtain ⟨i, j, rfl, rfl, hij, hj, HL⟩ := hrel
    obtain ⟨hat, hbl⟩ := HL.out
    by_cases hlt : i < j
    · obtain ⟨ad, rfl, had, c1, c2⟩ := nth_cells (HA.out.below hbl) (show (i + j) / 2 < s.length by omega)
      have C1 := Lib.hid (fun w => atS1 (nth s ((i + j) / 2)) t w)
      have HLOW := Lib.hid (fun h => search_low HU.out hat hlt h)
      have HHIGH := Lib.hid (fun h => search_high HU.out hat hlt h)
      have HBL := Lib.hid hbl
      have hcl := cmp_lt (nth s ((i + j) / 2)).1 t
      unfold spV at C1
      clear hat hbl HL
      generalize nth s ((i + j) / 2) = x at *
      generalize cmpI x.1 t = q at *
      by_cases hx : x.1 < t
      · rw [decide_eq_true hx] at hcl
        have HS := Lib.hid (HLOW.out hx)
        clear HLOW HHIGH hx
        go_wp2_with fail
        refine (C1.out _).mono ?_
        rintro e w1 ⟨rfl, rfl⟩
        go_wp2_with fail
        exact ⟨⟨(i + j) / 2 + 1, j, int_eq (by omega), rfl, by omega, hj, HS.out, HBL.out.alloc HBL.out.size _⟩, by simp [intOf] <;> omega⟩
      · rw [decide_eq_false hx] at hcl
        have HS := Lib.hid (HHIGH.out hx)
        clear HLOW HHIGH hx
        go_wp2_with fail
        refine (C1.out _).mono ?_
        rintro e w1 ⟨rfl, rfl⟩
        go_wp2_with fail
        exact ⟨⟨i, (i + j) / 2, rfl, int_eq (by omega), by omega, by omega, HS.out, HBL.out.alloc HBL.out.size _⟩, by simp [intOf] <;> omega⟩
    · obtain ⟨hat, hbl⟩ := HL.out
      obtain rfl : i = j := by omega
      have HAT := Lib.hid hat
      have HBL := Lib.hid hbl
      clear hat hbl HL
      by_cases hk : i < s.length
      · obtain ⟨ad, rfl, had, c1, c2⟩ := nth_cells (HA.out.below HBL.out) hk
        have C1 := Lib.hid (fun w => atS1 (nth s i) t w)
        have hce := cmp_eq (nth s i).1 t
        have HR : Hid (SearchIs s t w (.returned (.tuple #[.int .i64 i, .bool (decide ((nth s i).1 = t))])) (wr.alloc (.cells #[.int .i64 (nth s i).1, .int .i64 (nth s i).2] 31))) :=
          ⟨i, by rw [decide_eq_true hk]; rfl, hj, HAT.out.2.2.1, HAT.out.2.2.2, HBL.out.alloc HBL.out.size _⟩
        have hk2 : (i : Int) < (s.length : Int) := by omega
        unfold spV at C1
        generalize nth s i = x at *
        generalize cmpI x.1 t = q at *
        generalize decide (x.1 = t) = B at *
        go_wp2_with fail
        refine (C1.out _).mono ?_
        rintro e w1 ⟨rfl, rfl⟩
        cases B
        all_goals
          go_wp2_with fail
          go_ret2
          exact HR.out
      · have HR : Hid (SearchIs s t w (.returned (.tuple #[.int .i64 i, .bool false])) wr) :=
          ⟨i, by rw [decide_eq_false hk]; rfl, hj, HAT.out.2.2.1, HAT.out.2.2.2, HBL.out⟩
        go_wp2_with fail
        go_ret2
        exact HR.out
/-- What last answers. -/
def LastSays (s : List Sp) (t : Int) (w : World) (e : Ending) (w' : World) : Prop := ∃ k : Nat, e = .returned (.int .i64 k) ∧ LastIs s t k ∧ Below w.heap.size w w'
theorem last_of {s : List Sp} {t : Int} {k : Nat} (hu : Up s) (hk : k ≤ s.length) (h1 : ∀ j, j < k → (nth s j).1 < t) (h2 : ∀ j, k ≤ j → j < s.length → t ≤ (nth s j).1) (hp : 0 < s.length) (hh : head s ≤ t) :
    ((decide (k < s.length) && decide ((nth s k).1 = t)) = true ∧ LastIs s t k) ∨ ((decide (k < s.length) && decide ((nth s k).1 = t)) = false ∧ 0 < k ∧ LastIs s t (k - 1)) := by
  by_cases h : k < s.length ∧ (nth s k).1 = t
  · left
    refine ⟨by rw [decide_eq_true h.1, decide_eq_true h.2]; rfl, h.1, by omega, fun j h3 h4 => ?_⟩
    have := hu.lt h3 h4
    omega
  · right
    have h0 : 0 < k := by
      rcases Nat.eq_zero_or_pos k with h3 | h3
      · subst h3
        have := h2 0 (Nat.le_refl _) hp
        unfold head at hh
        exact absurd ⟨hp, by unfold nth at *; omega⟩ h
      · exact h3
    refine ⟨?_, h0, by omega, by have := h1 (k - 1) (by omega); omega, fun j h3 h4 => ?_⟩
    · by_cases h3 : k < s.length
      · rw [decide_eq_true h3, decide_eq_false (fun h4 => h ⟨h3, h4⟩)]; rfl
      · rw [decide_eq_false h3]; rfl
    · have h5 := h2 j (by omega) h4
      by_cases h6 : j = k
      · subst h6
        have : ¬ (nth s j).1 = t := fun h7 => h ⟨h4, h7⟩
        omega
      · have := hu.lt (i := k) (j := j) (by omega) h4
        have := h2 k (Nat.le_refl _) (by omega)
        omega
set_option maxHeartbeats 800000 in
theorem lastS (s : List Sp) (t : Int) (v : Value) (w : World) (hv : SpansIs s w v) (hu : Up s) (hp : 0 < s.length) (hh : head s ≤ t) (hl : s.length ≤ 2000) : Calls Try.prog 31 #[v, .int .i64 t] w (LastSays s t w) := by
  have C1 := Lib.hid (searchS s t v w hv hu hl)
  have HL : Hid (∀ k, k ≤ s.length → (∀ j, j < k → (nth s j).1 < t) → (∀ j, k ≤ j → j < s.length → t ≤ (nth s j).1) → _) := fun k hk h1 h2 => last_of hu hk h1 h2 hp hh
  clear hv hu
  go_enter Try.func31, Try.ntmps31
  go_wp2_with fail
  refine C1.out.mono ?_
  rintro e w1 ⟨k, rfl, hk, h1, h2, hb⟩
  have HB := Lib.hid hb
  have hw := HL.out k hk h1 h2
  clear h1 h2 hb HL C1
  generalize (decide (k < s.length) && decide ((nth s k).1 = t)) = B at *
  rcases hw with ⟨rfl, hi⟩ | ⟨rfl, h0, hi⟩
  · have HI := Lib.hid hi
    clear hi
    go_wp2_with fail
    go_ret
    exact ⟨k, rfl, HI.out, HB.out⟩
  · have HI := Lib.hid hi
    clear hi
    go_wp2_with fail
    go_ret
    exact ⟨k - 1, ret_eq (by omega), HI.out, HB.out⟩
end Go.Proofs.Ytalopnkdnlkdoaa.StepWalk
