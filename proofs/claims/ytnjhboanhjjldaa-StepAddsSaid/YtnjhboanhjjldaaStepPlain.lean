/-
  The plain mathematics of layer 4: steps are told by what is free at each time. (A step is a pair: its time, and how many are free from there on.)
-/
import Derived.Test.YtnjhboanhjjldaaSpanRise
namespace Go.Proofs.Ytnjhboanhjjldaa.StepPlain
open Go.Proofs.Ytnjhboanhjjldaa.SpanPlain

/-- How many are free at a time: what the last step says that is not behind it; n, if none is. -/
def valFrom (n : Int) (s : List Sp) (t : Int) : Int := s.foldl (fun n x => if x.1 ≤ t then x.2 else n) n
def val (s : List Sp) (t : Int) : Int := valFrom (-1) s t
theorem valFrom_cons (n : Int) (x : Sp) (s : List Sp) (t : Int) : valFrom n (x :: s) t = valFrom (if x.1 ≤ t then x.2 else n) s t := rfl
theorem valFrom_snoc (n : Int) (s : List Sp) (x : Sp) (t : Int) : valFrom n (s ++ [x]) t = if x.1 ≤ t then x.2 else valFrom n s t := by unfold valFrom; rw [List.foldl_append]; rfl
theorem val_snoc (s : List Sp) (x : Sp) (t : Int) : val (s ++ [x]) t = if x.1 ≤ t then x.2 else val s t := valFrom_snoc _ _ _ _
theorem valFrom_late {n : Int} {s : List Sp} {t : Int} (h : ∀ x ∈ s, t < x.1) : valFrom n s t = n := by
  induction s generalizing n with
  | nil => rfl
  | cons x s ih =>
    rw [valFrom_cons, if_neg (by have := h x (by simp); omega)]
    exact ih fun y hy => h y (by simp [hy])
theorem valFrom_same {n : Int} {s : List Sp} {t u : Int} (h : ∀ x ∈ s, x.1 ≤ t ↔ x.1 ≤ u) : valFrom n s t = valFrom n s u := by
  induction s generalizing n with
  | nil => rfl
  | cons x s ih =>
    rw [valFrom_cons, valFrom_cons, ih fun y hy => h y (by simp [hy])]
    by_cases h1 : x.1 ≤ t
    · rw [if_pos h1, if_pos ((h x (by simp)).1 h1)]
    · rw [if_neg h1, if_neg (fun h2 => h1 ((h x (by simp)).2 h2))]
theorem valFrom_any {n m : Int} {x : Sp} {s : List Sp} {t : Int} (h : x.1 ≤ t) : valFrom n (x :: s) t = valFrom m (x :: s) t := by
  rw [valFrom_cons, valFrom_cons, if_pos h, if_pos h]
theorem val_in {s : List Sp} {t : Int} {P : Int → Prop} (h : ∀ x ∈ s, P x.2) : ∀ {n : Int}, P n → P (valFrom n s t) := by
  induction s with
  | nil => exact fun h => h
  | cons x s ih =>
    intro n hn
    rw [valFrom_cons]
    refine ih (fun y hy => h y (by simp [hy])) ?_
    split
    · exact h x (by simp)
    · exact hn

/-- Rising times, and no two alike one behind the other. -/
def Alt : List Sp → Prop
  | [] => True
  | [_] => True
  | x :: y :: s => x.1 < y.1 ∧ x.2 ≠ y.2 ∧ Alt (y :: s)
theorem Alt.tail {x : Sp} {s : List Sp} (h : Alt (x :: s)) : Alt s := by
  cases s with
  | nil => trivial
  | cons y s => exact h.2.2
theorem Alt.later {s : List Sp} : ∀ {x : Sp}, Alt (x :: s) → ∀ y ∈ s, x.1 < y.1 := by
  induction s with
  | nil => intro x _ y hy; simp at hy
  | cons z s ih =>
    intro x h y hy
    rcases List.mem_cons.1 hy with rfl | hy
    · exact h.1
    · have := ih h.2.2 y hy
      have := h.1
      omega
theorem Alt.snoc {s : List Sp} {x y : Sp} (h : Alt (s ++ [x])) (h1 : x.1 < y.1) (h2 : x.2 ≠ y.2) : Alt (s ++ [x] ++ [y]) := by
  induction s with
  | nil => exact ⟨h1, h2, trivial⟩
  | cons z s ih =>
    cases s with
    | nil => exact ⟨h.1, h.2.1, h1, h2, trivial⟩
    | cons w s => exact ⟨h.1, h.2.1, ih h.2.2⟩
theorem val_le {x : Sp} {s : List Sp} {t : Int} (h : x.1 ≤ t) : val (x :: s) t = valFrom x.2 s t := by unfold val; rw [valFrom_cons, if_pos h]
theorem valFrom_le {n : Int} {x : Sp} {s : List Sp} {t : Int} (h : x.1 ≤ t) : valFrom n (x :: s) t = valFrom x.2 s t := by rw [valFrom_cons, if_pos h]
theorem Alt.late {x : Sp} {s : List Sp} (h : Alt (x :: s)) {t : Int} (ht : t < x.1) (n : Int) : valFrom n (x :: s) t = n := valFrom_late fun y hy => by
  rcases List.mem_cons.1 hy with rfl | hy
  · exact ht
  · have := h.later y hy; omega
theorem Alt.here {x : Sp} {s : List Sp} (h : Alt (x :: s)) (n : Int) : valFrom n (x :: s) x.1 = x.2 := by rw [valFrom_le (Int.le_refl _), valFrom_late fun y hy => h.later y hy]
/-- Lists of steps that tell the same at each time are the same. -/
theorem alt_unique : ∀ (s r : List Sp) (x y : Sp), Alt (x :: s) → Alt (y :: r) → x.1 = y.1 → (∀ t, x.1 ≤ t → val (x :: s) t = val (y :: r) t) → x :: s = y :: r := by
  intro s
  induction s with
  | nil =>
    intro r x y hs hr he h
    have h0 := h x.1 (Int.le_refl _)
    have e : x = y := Prod.ext he (by
      have h1 := hs.here (-1)
      have h2 := hr.here (-1)
      unfold val at h0
      rw [he] at h1 h0
      rw [h1, h2] at h0
      exact h0)
    subst e
    cases r with
    | nil => rfl
    | cons z r =>
      exfalso
      have hz := hr.1
      have h1 := h z.1 (by omega)
      rw [val_le (by omega), val_le (by omega), hr.2.2.here] at h1
      exact hr.2.1 h1
  | cons x' s ih =>
    intro r x y hs hr he h
    have h0 := h x.1 (Int.le_refl _)
    have e : x = y := Prod.ext he (by
      have h1 := hs.here (-1)
      have h2 := hr.here (-1)
      unfold val at h0
      rw [he] at h1 h0
      rw [h1, h2] at h0
      exact h0)
    subst e
    have hx' := hs.1
    have h' : ∀ t, x.1 ≤ t → valFrom x.2 (x' :: s) t = valFrom x.2 r t := fun t ht => by
      have := h t ht
      rwa [val_le ht, val_le ht] at this
    cases r with
    | nil =>
      exfalso
      have h1 := h' x'.1 (by omega)
      rw [hs.2.2.here] at h1
      exact hs.2.1 h1.symm
    | cons z r =>
      have hz := hr.1
      have e1 : x'.1 = z.1 := by
        rcases Int.lt_trichotomy x'.1 z.1 with hlt | heq | hlt
        · exfalso
          have h1 := h' x'.1 (by omega)
          rw [hs.2.2.here, hr.2.2.late hlt] at h1
          exact hs.2.1 h1.symm
        · exact heq
        · exfalso
          have h1 := h' z.1 (by omega)
          rw [hr.2.2.here, hs.2.2.late hlt] at h1
          exact hr.2.1 h1
      have := ih r x' z hs.2.2 hr.2.2 e1 fun t ht => by
        have h1 := h' t (by omega)
        unfold val
        rw [valFrom_any (m := x.2) ht, valFrom_any (n := -1) (m := x.2) (by omega)]
        exact h1
      rw [this]

/-- Is the step at i a fair one? -/
def okB (s : List Sp) (i : Nat) : Bool := decide (0 ≤ (s.getD i (0, 0)).2) && decide ((s.getD i (0, 0)).2 ≤ 256) && decide ((s.getD i (0, 0)).1 ≤ 4503599627370496) &&
  (decide (i = 0) || (decide ((s.getD (i - 1) (0, 0)).1 < (s.getD i (0, 0)).1) && !((s.getD i (0, 0)).2 == (s.getD (i - 1) (0, 0)).2)))
def allTo (s : List Sp) (k : Nat) : Bool := (List.range k).all (okB s)
theorem allTo_succ (s : List Sp) (k : Nat) : allTo s (k + 1) = (allTo s k && okB s k) := by unfold allTo; rw [List.range_succ, List.all_append]; simp
theorem allTo_lt {s : List Sp} {k : Nat} (h : allTo s k = true) {i : Nat} (hi : i < k) : okB s i = true := List.all_eq_true.1 h i (List.mem_range.2 hi)
/-- Are steps some? -/
def chkB (s : List Sp) : Bool := allTo s s.length && (decide (0 < s.length) && decide (0 ≤ (s.getD 0 (0, 0)).1) && decide ((s.getD 0 (0, 0)).1 ≤ 1125899906842624))
/-- When steps begin. -/
def head (s : List Sp) : Int := (s.getD 0 (0, 0)).1
structure Chk (s : List Sp) : Prop where
  pos : 0 < s.length
  lo : 0 ≤ head s
  hi : head s ≤ 1125899906842624
  alt : Alt s
  free : ∀ x ∈ s, 0 ≤ x.2 ∧ x.2 ≤ 256
  top : ∀ x ∈ s, x.1 ≤ 4503599627370496
theorem alt_of {s : List Sp} (h : ∀ i, i + 1 < s.length → (s.getD i (0, 0)).1 < (s.getD (i + 1) (0, 0)).1 ∧ (s.getD i (0, 0)).2 ≠ (s.getD (i + 1) (0, 0)).2) : Alt s := by
  induction s with
  | nil => trivial
  | cons x s ih =>
    cases s with
    | nil => trivial
    | cons y s =>
      have h0 := h 0 (by simp)
      exact ⟨h0.1, h0.2, ih fun i hi => by have := h (i + 1) (by simpa using hi); simpa using this⟩
theorem alt_at {s : List Sp} (h : Alt s) : ∀ i, i + 1 < s.length → (s.getD i (0, 0)).1 < (s.getD (i + 1) (0, 0)).1 ∧ (s.getD i (0, 0)).2 ≠ (s.getD (i + 1) (0, 0)).2 := by
  induction s with
  | nil => intro i hi; simp at hi
  | cons x s ih =>
    cases s with
    | nil => intro i hi; simp at hi
    | cons y s =>
      intro i hi
      cases i with
      | zero => exact ⟨h.1, h.2.1⟩
      | succ i => have := ih h.2.2 i (by simpa using hi); simpa using this
theorem chk_iff (s : List Sp) : chkB s = true ↔ Chk s := by
  unfold chkB
  simp only [Bool.and_eq_true, decide_eq_true_eq]
  constructor
  · rintro ⟨h, ⟨h1, h2⟩, h3⟩
    have ho : ∀ i, i < s.length → okB s i = true := fun i hi => allTo_lt h hi
    unfold okB at ho
    simp only [Bool.and_eq_true, decide_eq_true_eq, Bool.or_eq_true, Bool.not_eq_true', beq_eq_false_iff_ne] at ho
    refine ⟨h1, h2, h3, alt_of fun i hi => ?_, fun x hx => ?_, fun x hx => ?_⟩
    · rcases (ho (i + 1) hi).2 with h4 | h4
      · omega
      · exact ⟨h4.1, fun e => h4.2 e.symm⟩
    · obtain ⟨i, hi, rfl⟩ := List.mem_iff_getElem.1 hx
      rw [← getSp hi]
      exact (ho i hi).1.1
    · obtain ⟨i, hi, rfl⟩ := List.mem_iff_getElem.1 hx
      rw [← getSp hi]
      exact (ho i hi).1.2
  · intro h
    refine ⟨List.all_eq_true.2 fun i hi => ?_, ⟨h.pos, h.lo⟩, h.hi⟩
    have hi' := List.mem_range.1 hi
    have hm : s.getD i (0, 0) ∈ s := by rw [getSp hi']; exact List.getElem_mem hi'
    unfold okB
    simp only [Bool.and_eq_true, decide_eq_true_eq, Bool.or_eq_true, Bool.not_eq_true', beq_eq_false_iff_ne]
    refine ⟨⟨h.free _ hm, h.top _ hm⟩, ?_⟩
    cases i with
    | zero => exact .inl rfl
    | succ i =>
      have := alt_at h.alt i hi'
      exact .inr ⟨this.1, fun e => this.2 e.symm⟩
theorem chk_false {s : List Sp} (h : chkB s = false) : ¬ Chk s := fun h1 => by rw [(chk_iff s).2 h1] at h; cases h
theorem Chk.head_mem {s : List Sp} (h : Chk s) : s.getD 0 (0, 0) ∈ s := by rw [getSp h.pos]; exact List.getElem_mem h.pos
theorem Chk.cons {s : List Sp} (h : Chk s) : ∃ x r, s = x :: r ∧ head s = x.1 := by
  cases s with
  | nil => have := h.pos; simp at this
  | cons x r => exact ⟨x, r, rfl, rfl⟩
theorem Chk.ge {s : List Sp} (h : Chk s) : ∀ x ∈ s, head s ≤ x.1 := by
  obtain ⟨y, r, rfl, he⟩ := h.cons
  intro x hx
  rw [he]
  rcases List.mem_cons.1 hx with rfl | hx
  · exact Int.le_refl _
  · have := h.alt.later x hx; omega
theorem Chk.val_free {s : List Sp} (h : Chk s) {t : Int} (ht : head s ≤ t) : 0 ≤ val s t ∧ val s t ≤ 256 := by
  obtain ⟨y, r, rfl, he⟩ := h.cons
  unfold val
  rw [valFrom_cons, if_pos (by omega)]
  exact val_in (P := fun n => 0 ≤ n ∧ n ≤ 256) (fun x hx => h.free x (by simp [hx])) (h.free y (by simp))
theorem Chk.val_early {s : List Sp} (h : Chk s) {t : Int} (ht : t < head s) : val s t = -1 := valFrom_late fun x hx => by have := h.ge x hx; omega
/-- Steps that tell a function from a time on. -/
def Rep (s : List Sp) (h : Int) (P : Int → Int) : Prop := Chk s ∧ head s = h ∧ ∀ t, h ≤ t → val s t = P t
theorem Rep.unique {s r : List Sp} {h : Int} {P : Int → Int} (a : Rep s h P) (b : Rep r h P) : s = r := by
  obtain ⟨a1, a2, a3⟩ := a
  obtain ⟨b1, b2, b3⟩ := b
  obtain ⟨x, s', rfl, hx⟩ := a1.cons
  obtain ⟨y, r', rfl, hy⟩ := b1.cons
  exact alt_unique s' r' x y a1.alt b1.alt (by omega) fun t ht => by rw [a3 t (by omega), b3 t (by omega)]
theorem Rep.self {s : List Sp} (h : Chk s) : Rep s (head s) (val s) := ⟨h, rfl, fun _ _ => rfl⟩
theorem Rep.congr {s : List Sp} {h : Int} {P Q : Int → Int} (a : Rep s h P) (e : ∀ t, h ≤ t → P t = Q t) : Rep s h Q := ⟨a.1, a.2.1, fun t ht => by rw [a.2.2 t ht, e t ht]⟩

/-- Steps built along rising times. -/
def addStep (P : Int → Int) (out : List Sp) (x : Int) : List Sp := if out.length = 0 ∨ (out.getD (out.length - 1) (0, 0)).2 ≠ P x then out ++ [(x, P x)] else out
def buildL (P : Int → Int) (e : List Int) : List Sp := e.foldl (addStep P) []
theorem build_snoc (P : Int → Int) (e : List Int) (x : Int) : buildL P (e ++ [x]) = addStep P (buildL P e) x := by unfold buildL; rw [List.foldl_append]; rfl
theorem add_first (P : Int → Int) (x : Int) : addStep P [] x = [(x, P x)] := by unfold addStep; rw [if_pos (.inl rfl)]; rfl
theorem add_same {P : Int → Int} {d : List Sp} {q : Sp} {x : Int} (h : q.2 = P x) : addStep P (d ++ [q]) x = d ++ [q] := by
  unfold addStep
  rw [if_neg]
  simp [List.getD, h]
theorem add_new {P : Int → Int} {d : List Sp} {q : Sp} {x : Int} (h : q.2 ≠ P x) : addStep P (d ++ [q]) x = d ++ [q] ++ [(x, P x)] := by
  unfold addStep
  rw [if_pos]
  right
  simpa [List.getD] using h
/-- What is built along some times. -/
def BuiltOf (P : Int → Int) (e : List Int) (s : List Sp) : Prop :=
  (e = [] ∧ s = []) ∨ ∃ d q x, s = d ++ [q] ∧ e.getLast? = some x ∧ q.1 ≤ x ∧ q.2 = P x ∧ Alt s ∧ head s = e.getD 0 0 ∧ (∀ y ∈ s, y.1 ∈ e ∧ y.2 = P y.1) ∧ ∀ y ∈ e, val s y = P y
theorem last_max {e : List Int} (hr : Rise e) {x : Int} (hx : e.getLast? = some x) : ∀ y ∈ e, y ≤ x := by
  intro y hy
  obtain ⟨i, hi, rfl⟩ := List.mem_iff_getElem.1 hy
  have h1 : e.length ≠ 0 := by omega
  rw [List.getLast?_eq_getElem?, List.getElem?_eq_getElem (by omega)] at hx
  injection hx with hx
  have := hr.le (i := i) (j := e.length - 1) (by omega) (by omega)
  rw [getD_el hi, getD_el (by omega)] at this
  omega
theorem build_spec (P : Int → Int) : ∀ e : List Int, Rise e → BuiltOf P e (buildL P e) := by
  refine Util.snoc_ind (fun _ => .inl ⟨rfl, rfl⟩) fun e x ih hr => ?_
  rw [build_snoc]
  have hre : Rise e := (List.pairwise_append.1 hr).1
  have hlt : ∀ y ∈ e, y < x := fun y hy => (List.pairwise_append.1 hr).2.2 y hy x (by simp)
  right
  rcases ih hre with ⟨rfl, he⟩ | ⟨d, q, z, he, hz, h1, h2, h3, h4, h5, h6⟩
  · rw [he, add_first]
    refine ⟨[], (x, P x), x, rfl, rfl, Int.le_refl _, rfl, trivial, rfl, fun y hy => ?_, fun y hy => ?_⟩
    · simp at hy; subst hy; simp
    · simp at hy; subst hy; unfold val; rw [valFrom_cons, if_pos (Int.le_refl _)]; rfl
  · rw [he]
    have hzx : z < x := hlt z (List.mem_of_getLast? hz)
    have hne : e ≠ [] := fun h => by rw [h] at hz; cases hz
    have hlen : 0 < e.length := List.length_pos_iff.2 hne
    have hh : (e ++ [x]).getD 0 0 = e.getD 0 0 := by rw [List.getD_eq_getElem?_getD, List.getD_eq_getElem?_getD, List.getElem?_append_left hlen]
    have hold : ∀ y ∈ d ++ [q], y.1 ≤ z := fun y hy => last_max hre hz _ (h5 y (by rw [he]; exact hy)).1
    by_cases hq : q.2 = P x
    · rw [add_same hq]
      refine ⟨d, q, x, rfl, by simp, by omega, hq, by rw [← he]; exact h3, by rw [hh, ← he]; exact h4, fun y hy => ?_, fun y hy => ?_⟩
      · have := h5 y (by rw [he]; exact hy)
        exact ⟨by simp [this.1], this.2⟩
      · rcases List.mem_append.1 hy with hy | hy
        · rw [← he]; exact h6 y hy
        · simp at hy; subst hy
          rw [val_snoc, if_pos (by omega), hq]
    · rw [add_new hq]
      refine ⟨d ++ [q], (x, P x), x, rfl, by simp, Int.le_refl _, rfl, ?_, ?_, fun y hy => ?_, fun y hy => ?_⟩
      · rw [he] at h3; exact h3.snoc (by dsimp only; omega) hq
      · rw [hh, ← h4, he]
        unfold head
        rw [List.getD_eq_getElem?_getD, List.getD_eq_getElem?_getD, List.getElem?_append_left (by simp)]
      · rcases List.mem_append.1 hy with hy | hy
        · have := h5 y (by rw [he]; exact hy)
          exact ⟨by simp [this.1], this.2⟩
        · simp at hy; subst hy; simp
      · rw [val_snoc]
        rcases List.mem_append.1 hy with hy | hy
        · rw [if_neg (by have := hlt y hy; dsimp only; omega), ← he]; exact h6 y hy
        · simp at hy; subst hy; rw [if_pos (Int.le_refl _)]
/-- The last of rising times that is not behind one. -/
theorem floor_el : ∀ e : List Int, Rise e → e ≠ [] → ∀ t, e.getD 0 0 ≤ t → ∃ x ∈ e, x ≤ t ∧ ∀ y ∈ e, y ≤ t → y ≤ x := by
  refine Util.snoc_ind (fun _ h => absurd rfl h) fun e x ih hr _ t ht => ?_
  have hre : Rise e := (List.pairwise_append.1 hr).1
  have hlt : ∀ y ∈ e, y < x := fun y hy => (List.pairwise_append.1 hr).2.2 y hy x (by simp)
  by_cases hx : x ≤ t
  · refine ⟨x, by simp, hx, fun y hy _ => ?_⟩
    rcases List.mem_append.1 hy with hy | hy
    · have := hlt y hy; omega
    · simp at hy; omega
  · have hne : e ≠ [] := fun h => by subst h; simp at ht; omega
    have hlen : 0 < e.length := List.length_pos_iff.2 hne
    have hh : (e ++ [x]).getD 0 0 = e.getD 0 0 := by rw [List.getD_eq_getElem?_getD, List.getD_eq_getElem?_getD, List.getElem?_append_left hlen]
    obtain ⟨z, hz, h1, h2⟩ := ih hre hne t (by omega)
    refine ⟨z, by simp [hz], h1, fun y hy hyt => ?_⟩
    rcases List.mem_append.1 hy with hy | hy
    · exact h2 y hy hyt
    · simp at hy; omega
/-- A function that turns only at some times. -/
def TurnsAt (P : Int → Int) (e : List Int) : Prop := ∀ t x, x ∈ e → x ≤ t → (∀ y ∈ e, y ≤ t → y ≤ x) → P t = P x
theorem built_val {P : Int → Int} {e : List Int} {s : List Sp} (hr : Rise e) (hb : BuiltOf P e s) (ht : TurnsAt P e) (hne : e ≠ []) {t : Int} (h0 : e.getD 0 0 ≤ t) : val s t = P t := by
  rcases hb with ⟨h, _⟩ | ⟨d, q, x, _, _, _, _, _, _, h5, h6⟩
  · exact absurd h hne
  · obtain ⟨z, hz, h1, h2⟩ := floor_el e hr hne t h0
    rw [ht t z hz h1 h2, ← h6 z hz]
    refine valFrom_same fun y hy => ⟨fun h => h2 _ (h5 y hy).1 h, fun h => by omega⟩
theorem built_rep {P : Int → Int} {e : List Int} (hr : Rise e) (ht : TurnsAt P e) (hne : e ≠ []) (h0 : 0 ≤ e.getD 0 0) (h1 : e.getD 0 0 ≤ 1125899906842624) (htop : ∀ x ∈ e, x ≤ 4503599627370496) (hf : ∀ x ∈ e, 0 ≤ P x ∧ P x ≤ 256) :
    Rep (buildL P e) (e.getD 0 0) P := by
  have hb := build_spec P e hr
  have hv := fun t => built_val hr hb ht hne (t := t)
  rcases hb with ⟨h, _⟩ | ⟨d, q, x, he, _, _, _, h3, h4, h5, _⟩
  · exact absurd h hne
  · refine ⟨⟨by rw [he]; simp, by rw [h4]; exact h0, by rw [h4]; exact h1, h3, fun y hy => by rw [(h5 y hy).2]; exact hf _ (h5 y hy).1, fun y hy => htop _ (h5 y hy).1⟩, h4, hv⟩
theorem build_len (P : Int → Int) : ∀ e : List Int, (buildL P e).length ≤ e.length := by
  refine Util.snoc_ind (Nat.le_refl _) fun e x ih => ?_
  rw [build_snoc, List.length_append]
  unfold addStep
  split
  · rw [List.length_append]; simp; omega
  · simp; omega
end Go.Proofs.Ytnjhboanhjjldaa.StepPlain
