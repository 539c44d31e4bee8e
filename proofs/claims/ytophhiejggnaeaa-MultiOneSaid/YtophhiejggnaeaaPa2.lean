/-
  What the theorem uses of the texts below it.
-/
import Derived.Below
import Derived.Laws.OwnMore
import Derived.Deep.Draws
import Derived.Deep.OwnRows
import Derived.Lib.Hide
import Derived.OwnWalk
import Derived.Deep.QuietTactic
import Derived.BigQuiet
import Derived.Lib.SliceRun
import Derived.Test.YtophhiejggnaeaaPa1
namespace Go.Proofs.Ytophhiejggnaeaa.StepPlain
open Go.Proofs.Ytophhiejggnaeaa.SpanPlain
/-- How many are free at a time: what the last step says that is not behind it; n, if none is. -/
def valFrom (n : Int) (s : List Sp) (t : Int) : Int := s.foldl (fun n x => if x.1 ≤ t then x.2 else n) n
def val (s : List Sp) (t : Int) : Int := valFrom (-1) s t
theorem valFrom_cons (n : Int) (x : Sp) (s : List Sp) (t : Int) : valFrom n (x :: s) t = valFrom (if x.1 ≤ t then x.2 else n) s t := rfl
theorem valFrom_snoc (n : Int) (s : List Sp) (x : Sp) (t : Int) : valFrom n (s ++ [x]) t = if x.1 ≤ t then x.2 else valFrom n s t := by unfold valFrom; rw [List.foldl_append]; rfl
theorem val_snoc (s : List Sp) (x : Sp) (t : Int) : val (s ++ [x]) t = if x.1 ≤ t then x.2 else val s t := valFrom_snoc _ _ _ _
theorem valFrom_late {n : Int} {s : List Sp} {t : Int} (h : ∀ x ∈ s, t < x.1) : valFrom n s t = n := by
  induction s generalizing n with
  | nil => rfl
  | cons x s ih =>
    rw [valFrom_cons, if_neg (by have := h x (by simp); omega)]
    exact ih fun y hy => h y (by simp [hy])
theorem valFrom_same {n : Int} {s : List Sp} {t u : Int} (h : ∀ x ∈ s, x.1 ≤ t ↔ x.1 ≤ u) : valFrom n s t = valFrom n s u := by
  induction s generalizing n with
  | nil => rfl
  | cons x s ih =>
    rw [valFrom_cons, valFrom_cons, ih fun y hy => h y (by simp [hy])]
    by_cases h1 : x.1 ≤ t
    · rw [if_pos h1, if_pos ((h x (by simp)).1 h1)]
    · rw [if_neg h1, if_neg (fun h2 => h1 ((h x (by simp)).2 h2))]
theorem valFrom_any {n m : Int} {x : Sp} {s : List Sp} {t : Int} (h : x.1 ≤ t) : valFrom n (x :: s) t = valFrom m (x :: s) t := by
  rw [valFrom_cons, valFrom_cons, if_pos h, if_pos h]
theorem val_in {s : List Sp} {t : Int} {P : Int → Prop} (h : ∀ x ∈ s, P x.2) : ∀ {n : Int}, P n → P (valFrom n s t) := by
  induction s with
  | nil => exact fun h => h
  | cons x s ih =>
    intro n hn
    rw [valFrom_cons]
    refine ih (fun y hy => h y (by simp [hy])) ?_
    split
    · exact h x (by simp)
    · exact hn
/-- Rising times, and no two alike one behind the other. -/
def Alt : List Sp → Prop
  | [] => True
  | [_] => True
  | x :: y :: s => x.1 < y.1 ∧ x.2 ≠ y.2 ∧ Alt (y :: s)
theorem Alt.tail {x : Sp} {s : List Sp} (h : Alt (x :: s)) : Alt s := by
  cases s with
  | nil => trivial
  | cons y s => exact h.2.2
theorem Alt.later {s : List Sp} : ∀ {x : Sp}, Alt (x :: s) → ∀ y ∈ s, x.1 < y.1 := by
  induction s with
  | nil => intro x _ y hy; simp at hy
  | cons z s ih =>
    intro x h y hy
    rcases List.mem_cons.1 hy with rfl | hy
    · exact h.1
    · have := ih h.2.2 y hy
      have := h.1
      omega
theorem Alt.snoc {s : List Sp} {x y : Sp} (h : Alt (s ++ [x])) (h1 : x.1 < y.1) (h2 : x.2 ≠ y.2) : Alt (s ++ [x] ++ [y]) := by
  induction s with
  | nil => exact ⟨h1, h2, trivial⟩
  | cons z s ih =>
    cases s with
    | nil => exact ⟨h.1, h.2.1, h1, h2, trivial⟩
    | cons w s => exact ⟨h.1, h.2.1, ih h.2.2⟩
theorem val_le {x : Sp} {s : List Sp} {t : Int} (h : x.1 ≤ t) : val (x :: s) t = valFrom x.2 s t := by unfold val; rw [valFrom_cons, if_pos h]
theorem valFrom_le {n : Int} {x : Sp} {s : List Sp} {t : Int} (h : x.1 ≤ t) : valFrom n (x :: s) t = valFrom x.2 s t := by rw [valFrom_cons, if_pos h]
theorem Alt.late {x : Sp} {s : List Sp} (h : Alt (x :: s)) {t : Int} (ht : t < x.1) (n : Int) : valFrom n (x :: s) t = n := valFrom_late fun y hy => by
  rcases List.mem_cons.1 hy with rfl | hy
  · exact ht
  · have := h.later y hy; omega
theorem Alt.here {x : Sp} {s : List Sp} (h : Alt (x :: s)) (n : Int) : valFrom n (x :: s) x.1 = x.2 := by rw [valFrom_le (Int.le_refl _), valFrom_late fun y hy => h.later y hy]
/-- Lists of steps that tell the same at each time are the same. -/
theorem alt_unique : ∀ (s r : List Sp) (x y : Sp), Alt (x :: s) → Alt (y :: r) → x.1 = y.1 → (∀ t, x.1 ≤ t → val (x :: s) t = val (y :: r) t) → x :: s = y :: r := by
  intro s
  induction s with
  | nil =>
    intro r x y hs hr he h
    have h0 := h x.1 (Int.le_refl _)
    have e : x = y := Prod.ext he (by
      have h1 := hs.here (-1)
      have h2 := hr.here (-1)
      unfold val at h0
      rw [he] at h1 h0
      rw [h1, h2] at h0
      exact h0)
    subst e
    cases r with
    | nil => rfl
    | cons z r =>
      exfalso
      have hz := hr.1
      have h1 := h z.1 (by omega)
      rw [val_le (by omega), val_le (by omega), hr.2.2.here] at h1
      exact hr.2.1 h1
  | cons x' s ih =>
    intro r x y hs hr he h
    have h0 := h x.1 (Int.le_refl _)
    have e : x = y := Prod.ext he (by
      have h1 := hs.here (-1)
      have h2 := hr.here (-1)
      unfold val at h0
      rw [he] at h1 h0
      rw [h1, h2] at h0
      exact h0)
    subst e
    have hx' := hs.1
    have h' : ∀ t, x.1 ≤ t → valFrom x.2 (x' :: s) t = valFrom x.2 r t := fun t ht => by
      have := h t ht
      rwa [val_le ht, val_le ht] at this
    cases r with
    | nil =>
      exfalso
      have h1 := h' x'.1 (by omega)
      rw [hs.2.2.here] at h1
      exact hs.2.1 h1.symm
    | cons z r =>
      have hz := hr.1
      have e1 : x'.1 = z.1 := by
        rcases Int.lt_trichotomy x'.1 z.1 with hlt | heq | hlt
        · exfalso
          have h1 := h' x'.1 (by omega)
          rw [hs.2.2.here, hr.2.2.late hlt] at h1
          exact hs.2.1 h1.symm
        · exact heq
        · exfalso
          have h1 := h' z.1 (by omega)
          rw [hr.2.2.here, hs.2.2.late hlt] at h1
          exact hr.2.1 h1
      have := ih r x' z hs.2.2 hr.2.2 e1 fun t ht => by
        have h1 := h' t (by omega)
        unfold val
        rw [valFrom_any (m := x.2) ht, valFrom_any (n := -1) (m := x.2) (by omega)]
        exact h1
      rw [this]
/-- Is the step at i a fair one? -/
def okB (s : List Sp) (i : Nat) : Bool := decide (0 ≤ (s.getD i (0, 0)).2) && decide ((s.getD i (0, 0)).2 ≤ 256) && decide ((s.getD i (0, 0)).1 ≤ 4503599627370496) &&
  (decide (i = 0) || (decide ((s.getD (i - 1) (0, 0)).1 < (s.getD i (0, 0)).1) && !((s.getD i (0, 0)).2 == (s.getD (i - 1) (0, 0)).2)))
def allTo (s : List Sp) (k : Nat) : Bool := (List.range k).all (okB s)
theorem allTo_succ (s : List Sp) (k : Nat) : allTo s (k + 1) = (allTo s k && okB s k) := by unfold allTo; rw [List.range_succ, List.all_append]; simp
theorem allTo_lt {s : List Sp} {k : Nat} (h : allTo s k = true) {i : Nat} (hi : i < k) : okB s i = true := List.all_eq_true.1 h i (List.mem_range.2 hi)
/-- Are steps some? -/
def chkB (s : List Sp) : Bool := allTo s s.length && (decide (0 < s.length) && decide (0 ≤ (s.getD 0 (0, 0)).1) && decide ((s.getD 0 (0, 0)).1 ≤ 1125899906842624))
/-- When steps begin. -/
def head (s : List Sp) : Int := (s.getD 0 (0, 0)).1
structure Chk (s : List Sp) : Prop where
  pos : 0 < s.length
  lo : 0 ≤ head s
  hi : head s ≤ 1125899906842624
  alt : Alt s
  free : ∀ x ∈ s, 0 ≤ x.2 ∧ x.2 ≤ 256
  top : ∀ x ∈ s, x.1 ≤ 4503599627370496
theorem alt_of {s : List Sp} (h : ∀ i, i + 1 < s.length → (s.getD i (0, 0)).1 < (s.getD (i + 1) (0, 0)).1 ∧ (s.getD i (0, 0)).2 ≠ (s.getD (i + 1) (0, 0)).2) : Alt s := by
  induction s with
  | nil => trivial
  | cons x s ih =>
    cases s with
    | nil => trivial
    | cons y s =>
      have h0 := h 0 (by simp)
      exact ⟨h0.1, h0.2, ih fun i hi => by have := h (i + 1) (by simpa using hi); simpa using this⟩
theorem alt_at {s : List Sp} (h : Alt s) : ∀ i, i + 1 < s.length → (s.getD i (0, 0)).1 < (s.getD (i + 1) (0, 0)).1 ∧ (s.getD i (0, 0)).2 ≠ (s.getD (i + 1) (0, 0)).2 := by
  induction s with
  | nil => intro i hi; simp at hi
  | cons x s ih =>
    cases s with
    | nil => intro i hi; simp at hi
    | cons y s =>
      intro i hi
      cases i with
      | zero => exact ⟨h.1, h.2.1⟩
      | succ i => have := ih h.2.2 i (by simpa using hi); simpa using this
theorem chk_iff (s : List Sp) : chkB s = true ↔ Chk s := by
  unfold chkB
  simp only [Bool.and_eq_true, decide_eq_true_eq]
  constructor
  · rintro ⟨h, ⟨h1, h2⟩, h3⟩
    have ho : ∀ i, i < s.length → okB s i = true := fun i hi => allTo_lt h hi
    unfold okB at ho
    simp only [Bool.and_eq_true, decide_eq_true_eq, Bool.or_eq_true, Bool.not_eq_true', beq_eq_false_iff_ne] at ho
    refine ⟨h1, h2, h3, alt_of fun i hi => ?_, fun x hx => ?_, fun x hx => ?_⟩
    · rcases (ho (i + 1) hi).2 with h4 | h4
      · omega
      · exact ⟨h4.1, fun e => h4.2 e.symm⟩
    · obtain ⟨i, hi, rfl⟩ := List.mem_iff_getElem.1 hx
      rw [← getSp hi]
      exact (ho i hi).1.1
    · obtain ⟨i, hi, rfl⟩ := List.mem_iff_getElem.1 hx
      rw [← getSp hi]
      exact (ho i hi).1.2
  · intro h
    refine ⟨List.all_eq_true.2 fun i hi => ?_, ⟨h.pos, h.lo⟩, h.hi⟩
    have hi' := List.mem_range.1 hi
    have hm : s.getD i (0, 0) ∈ s := by rw [getSp hi']; exact List.getElem_mem hi'
    unfold okB
    simp only [Bool.and_eq_true, decide_eq_true_eq, Bool.or_eq_true, Bool.not_eq_true', beq_eq_false_iff_ne]
    refine ⟨⟨h.free _ hm, h.top _ hm⟩, ?_⟩
    cases i with
    | zero => exact .inl rfl
    | succ i =>
      have := alt_at h.alt i hi'
      exact .inr ⟨this.1, fun e => this.2 e.symm⟩
theorem chk_false {s : List Sp} (h : chkB s = false) : ¬ Chk s := fun h1 => by rw [(chk_iff s).2 h1] at h; cases h
theorem Chk.head_mem {s : List Sp} (h : Chk s) : s.getD 0 (0, 0) ∈ s := by rw [getSp h.pos]; exact List.getElem_mem h.pos
theorem Chk.cons {s : List Sp} (h : Chk s) : ∃ x r, s = x :: r ∧ head s = x.1 := by
  cases s with
  | nil => have := h.pos; simp at this
  | cons x r => exact ⟨x, r, rfl, rfl⟩
theorem Chk.ge {s : List Sp} (h : Chk s) : ∀ x ∈ s, head s ≤ x.1 := by
  obtain ⟨y, r, rfl, he⟩ := h.cons
  intro x hx
  rw [he]
  rcases List.mem_cons.1 hx with rfl | hx
  · exact Int.le_refl _
  · have := h.alt.later x hx; omega
theorem Chk.val_free {s : List Sp} (h : Chk s) {t : Int} (ht : head s ≤ t) : 0 ≤ val s t ∧ val s t ≤ 256 := by
  obtain ⟨y, r, rfl, he⟩ := h.cons
  unfold val
  rw [valFrom_cons, if_pos (by omega)]
  exact val_in (P := fun n => 0 ≤ n ∧ n ≤ 256) (fun x hx => h.free x (by simp [hx])) (h.free y (by simp))
theorem Chk.val_early {s : List Sp} (h : Chk s) {t : Int} (ht : t < head s) : val s t = -1 := valFrom_late fun x hx => by have := h.ge x hx; omega
/-- Steps that tell a function from a time on. -/
def Rep (s : List Sp) (h : Int) (P : Int → Int) : Prop := Chk s ∧ head s = h ∧ ∀ t, h ≤ t → val s t = P t
theorem Rep.unique {s r : List Sp} {h : Int} {P : Int → Int} (a : Rep s h P) (b : Rep r h P) : s = r := by
  obtain ⟨a1, a2, a3⟩ := a
  obtain ⟨b1, b2, b3⟩ := b
  obtain ⟨x, s', rfl, hx⟩ := a1.cons
  obtain ⟨y, r', rfl, hy⟩ := b1.cons
  exact alt_unique s' r' x y a1.alt b1.alt (by omega) fun t ht => by rw [a3 t (by omega), b3 t (by omega)]
theorem Rep.self {s : List Sp} (h : Chk s) : Rep s (head s) (val s) := ⟨h, rfl, fun _ _ => rfl⟩
theorem Rep.congr {s : List Sp} {h : Int} {P Q : Int → Int} (a : Rep s h P) (e : ∀ t, h ≤ t → P t = Q t) : Rep s h Q := ⟨a.1, a.2.1, fun t ht => by rw [a.2.2 t ht, e t ht]⟩
/-- Steps built along rising times. -/
def addStep (P : Int → Int) (out : List Sp) (x : Int) : List Sp := if out.length = 0 ∨ (out.getD (out.length - 1) (0, 0)).2 ≠ P x then out ++ [(x, P x)] else out
def buildL (P : Int → Int) (e : List Int) : List Sp := e.foldl (addStep P) []
theorem build_snoc (P : Int → Int) (e : List Int) (x : Int) : buildL P (e ++ [x]) = addStep P (buildL P e) x := by unfold buildL; rw [List.foldl_append]; rfl
theorem add_first (P : Int → Int) (x : Int) : addStep P [] x = [(x, P x)] := by unfold addStep; rw [if_pos (.inl rfl)]; rfl
theorem add_same {P : Int → Int} {d : List Sp} {q : Sp} {x : Int} (h : q.2 = P x) : addStep P (d ++ [q]) x = d ++ [q] := by
  unfold addStep
  rw [if_neg]
  simp [List.getD, h]
theorem add_new {P : Int → Int} {d : List Sp} {q : Sp} {x : Int} (h : q.2 ≠ P x) : addStep P (d ++ [q]) x = d ++ [q] ++ [(x, P x)] := by
  unfold addStep
  rw [if_pos]
  right
  simpa [List.getD] using h
/-- What is built along some times. -/
def BuiltOf (P : Int → Int) (e : List Int) (s : List Sp) : Prop :=
  (e = [] ∧ s = []) ∨ ∃ d q x, s = d ++ [q] ∧ e.getLast? = some x ∧ q.1 ≤ x ∧ q.2 = P x ∧ Alt s ∧ head s = e.getD 0 0 ∧ (∀ y ∈ s, y.1 ∈ e ∧ y.2 = P y.1) ∧ ∀ y ∈ e, val s y = P y
theorem last_max {e : List Int} (hr : Rise e) {x : Int} (hx : e.getLast? = some x) : ∀ y ∈ e, y ≤ x := by
  intro y hy
  obtain ⟨i, hi, rfl⟩ := List.mem_iff_getElem.1 hy
  have h1 : e.length ≠ 0 := by omega
  rw [List.getLast?_eq_getElem?, List.getElem?_eq_getElem (by omega)] at hx
  injection hx with hx
  have := hr.le (i := i) (j := e.length - 1) (by omega) (by omega)
  rw [getD_el hi, getD_el (by omega)] at this
  omega
theorem build_spec (P : Int → Int) : ∀ e : List Int, Rise e → BuiltOf P e (buildL P e) := by
  refine Util.snoc_ind (fun _ => .inl ⟨rfl, rfl⟩) fun e x ih hr => ?_
  rw [build_snoc]
  have hre : Rise e := (List.pairwise_append.1 hr).1
  have hlt : ∀ y ∈ e, y < x := fun y hy => (List.pairwise_append.1 hr).2.2 y hy x (by simp)
  right
  rcases ih hre with ⟨rfl, he⟩ | ⟨d, q, z, he, hz, h1, h2, h3, h4, h5, h6⟩
  · rw [he, add_first]
    refine ⟨[], (x, P x), x, rfl, rfl, Int.le_refl _, rfl, trivial, rfl, fun y hy => ?_, fun y hy => ?_⟩
    · simp at hy; subst hy; simp
    · simp at hy; subst hy; unfold val; rw [valFrom_cons, if_pos (Int.le_refl _)]; rfl
  · rw [he]
    have hzx : z < x := hlt z (List.mem_of_getLast? hz)
    have hne : e ≠ [] := fun h => by rw [h] at hz; cases hz
    have hlen : 0 < e.length := List.length_pos_iff.2 hne
    have hh : (e ++ [x]).getD 0 0 = e.getD 0 0 := by rw [List.getD_eq_getElem?_getD, List.getD_eq_getElem?_getD, List.getElem?_append_left hlen]
    have hold : ∀ y ∈ d ++ [q], y.1 ≤ z := fun y hy => last_max hre hz _ (h5 y (by rw [he]; exact hy)).1
    by_cases hq : q.2 = P x
    · rw [add_same hq]
      refine ⟨d, q, x, rfl, by simp, by omega, hq, by rw [← he]; exact h3, by rw [hh, ← he]; exact h4, fun y hy => ?_, fun y hy => ?_⟩
      · have := h5 y (by rw [he]; exact hy)
        exact ⟨by simp [this.1], this.2⟩
      · rcases List.mem_append.1 hy with hy | hy
        · rw [← he]; exact h6 y hy
        · simp at hy; subst hy
          rw [val_snoc, if_pos (by omega), hq]
    · rw [add_new hq]
      refine ⟨d ++ [q], (x, P x), x, rfl, by simp, Int.le_refl _, rfl, ?_, ?_, fun y hy => ?_, fun y hy => ?_⟩
      · rw [he] at h3; exact h3.snoc (by dsimp only; omega) hq
      · rw [hh, ← h4, he]
        unfold head
        rw [List.getD_eq_getElem?_getD, List.getD_eq_getElem?_getD, List.getElem?_append_left (by simp)]
      · rcases List.mem_append.1 hy with hy | hy
        · have := h5 y (by rw [he]; exact hy)
          exact ⟨by simp [this.1], this.2⟩
        · simp at hy; subst hy; simp
      · rw [val_snoc]
        rcases List.mem_append.1 hy with hy | hy
        · rw [if_neg (by have := hlt y hy; dsimp only; omega), ← he]; exact h6 y hy
        · simp at hy; subst hy; rw [if_pos (Int.le_refl _)]
/-- The last of rising times that is not behind one. -/
theorem floor_el : ∀ e : List Int, Rise e → e ≠ [] → ∀ t, e.getD 0 0 ≤ t → ∃ x ∈ e, x ≤ t ∧ ∀ y ∈ e, y ≤ t → y ≤ x := by
  refine Util.snoc_ind (fun _ h => absurd rfl h) fun e x ih hr _ t ht => ?_
  have hre : Rise e := (List.pairwise_append.1 hr).1
  have hlt : ∀ y ∈ e, y < x := fun y hy => (List.pairwise_append.1 hr).2.2 y hy x (by simp)
  by_cases hx : x ≤ t
  · refine ⟨x, by simp, hx, fun y hy _ => ?_⟩
    rcases List.mem_append.1 hy with hy | hy
    · have := hlt y hy; omega
    · simp at hy; omega
  · have hne : e ≠ [] := fun h => by subst h; simp at ht; omega
    have hlen : 0 < e.length := List.length_pos_iff.2 hne
    have hh : (e ++ [x]).getD 0 0 = e.getD 0 0 := by rw [List.getD_eq_getElem?_getD, List.getD_eq_getElem?_getD, List.getElem?_append_left hlen]
    obtain ⟨z, hz, h1, h2⟩ := ih hre hne t (by omega)
    refine ⟨z, by simp [hz], h1, fun y hy hyt => ?_⟩
    rcases List.mem_append.1 hy with hy | hy
    · exact h2 y hy hyt
    · simp at hy; omega
/-- A function that turns only at some times. -/
def TurnsAt (P : Int → Int) (e : List Int) : Prop := ∀ t x, x ∈ e → x ≤ t → (∀ y ∈ e, y ≤ t → y ≤ x) → P t = P x
theorem built_val {P : Int → Int} {e : List Int} {s : List Sp} (hr : Rise e) (hb : BuiltOf P e s) (ht : TurnsAt P e) (hne : e ≠ []) {t : Int} (h0 : e.getD 0 0 ≤ t) : val s t = P t := by
  rcases hb with ⟨h, _⟩ | ⟨d, q, x, _, _, _, _, _, _, h5, h6⟩
  · exact absurd h hne
  · obtain ⟨z, hz, h1, h2⟩ := floor_el e hr hne t h0
    rw [ht t z hz h1 h2, ← h6 z hz]
    refine valFrom_same fun y hy => ⟨fun h => h2 _ (h5 y hy).1 h, fun h => by omega⟩
theorem built_rep {P : Int → Int} {e : List Int} (hr : Rise e) (ht : TurnsAt P e) (hne : e ≠ []) (h0 : 0 ≤ e.getD 0 0) (h1 : e.getD 0 0 ≤ 1125899906842624) (htop : ∀ x ∈ e, x ≤ 4503599627370496) (hf : ∀ x ∈ e, 0 ≤ P x ∧ P x ≤ 256) :
    Rep (buildL P e) (e.getD 0 0) P := by
  have hb := build_spec P e hr
  have hv := fun t => built_val hr hb ht hne (t := t)
  rcases hb with ⟨h, _⟩ | ⟨d, q, x, he, _, _, _, h3, h4, h5, _⟩
  · exact absurd h hne
  · refine ⟨⟨by rw [he]; simp, by rw [h4]; exact h0, by rw [h4]; exact h1, h3, fun y hy => by rw [(h5 y hy).2]; exact hf _ (h5 y hy).1, fun y hy => htop _ (h5 y hy).1⟩, h4, hv⟩
theorem build_len (P : Int → Int) : ∀ e : List Int, (buildL P e).length ≤ e.length := by
  refine Util.snoc_ind (Nat.le_refl _) fun e x ih => ?_
  rw [build_snoc, List.length_append]
  unfold addStep
  split
  · rw [List.length_append]; simp; omega
  · simp; omega
end Go.Proofs.Ytophhiejggnaeaa.StepPlain
namespace Go.Proofs.Ytophhiejggnaeaa.StepPlain
open Go.Proofs.Ytophhiejggnaeaa.SpanPlain
/-- Busy times: from, to, and how wide. -/
abbrev By := Int × Int × Int
def byB (b : By) : Bool := mayB (b.1, b.2.1) && decide (1 ≤ b.2.2) && decide (b.2.2 ≤ 256)
def busySp (l : List By) : List Sp := l.map fun b => (b.1, b.2.1)
/-- The times from one on at which what is free may change. -/
def turnsL (t : Int) (l : List By) : List Int := t :: (endsL (busySp l)).filter fun e => decide (t < e)
theorem turns_rise (t : Int) (l : List By) : Rise (turnsL t l) :=
  List.pairwise_cons.2 ⟨fun y hy => by simpa using (List.mem_filter.1 hy).2, (ends_spec (busySp l)).1.sublist List.filter_sublist⟩
theorem by_may {b : By} (h : byB b = true) : mayB (b.1, b.2.1) = true := by
  unfold byB at h
  simp only [Bool.and_eq_true] at h
  exact h.1.1
def ofBad (p t : Int) (l : List By) : Prop := (∃ b ∈ l, byB b = false) ∨ p < 1 ∨ 256 < p ∨ t < 0 ∨ 1125899906842624 < t ∨ 300 < l.length
theorem not_bad {p t : Int} {l : List By} (h : ¬ ofBad p t l) : (∀ b ∈ l, byB b = true) ∧ 1 ≤ p ∧ p ≤ 256 ∧ 0 ≤ t ∧ t ≤ 1125899906842624 ∧ l.length ≤ 300 := by
  unfold ofBad at h
  simp only [not_or] at h
  refine ⟨fun b hb => ?_, by omega, by omega, by omega, by omega, by omega⟩
  cases hx : byB b with
  | true => rfl
  | false => exact absurd ⟨b, hb, hx⟩ h.1
/-- A step's own time tells its number. -/
theorem val_own {s : List Sp} (h : Alt s) {y : Sp} (hy : y ∈ s) (n : Int) : valFrom n s y.1 = y.2 := by
  induction s generalizing n with
  | nil => simp at hy
  | cons x s ih =>
    rcases List.mem_cons.1 hy with rfl | hy
    · exact h.here n
    · rw [valFrom_le (by have := h.later y hy; omega)]
      exact ih h.tail hy _
theorem alt_rise {s : List Sp} (h : Alt s) : Rise (s.map (·.1)) := by
  induction s with
  | nil => exact List.Pairwise.nil
  | cons x s ih => exact List.pairwise_cons.2 ⟨fun y hy => by obtain ⟨z, hz, rfl⟩ := List.mem_map.1 hy; exact h.later z hz, ih h.tail⟩
theorem Chk.floor {s : List Sp} (h : Chk s) {t : Int} (ht : head s ≤ t) : ∃ y ∈ s, y.1 ≤ t ∧ val s t = y.2 ∧ ∀ z ∈ s, z.1 ≤ t → z.1 ≤ y.1 := by
  obtain ⟨x, r, rfl, hx⟩ := h.cons
  obtain ⟨z, hz, h1, h2⟩ := floor_el _ (alt_rise h.alt) (by simp) t (by show x.1 ≤ t; omega)
  obtain ⟨y, hy, rfl⟩ := List.mem_map.1 hz
  have h3 : ∀ z ∈ x :: r, z.1 ≤ t → z.1 ≤ y.1 := fun z hz hzt => h2 _ (List.mem_map.2 ⟨z, hz, rfl⟩) hzt
  refine ⟨y, hy, h1, ?_, h3⟩
  have := val_own h.alt hy (-1)
  unfold val
  rw [← this]
  exact valFrom_same fun z hz => ⟨fun h4 => h3 z hz h4, fun h4 => by omega⟩
/-- The least number within a span. -/
def MinOf (s : List Sp) (x : Sp) (n : Int) : Prop := (∃ t, x.1 ≤ t ∧ t < x.2 ∧ val s t = n) ∧ ∀ t, x.1 ≤ t → t < x.2 → n ≤ val s t
theorem MinOf.unique {s : List Sp} {x : Sp} {n m : Int} (a : MinOf s x n) (b : MinOf s x m) : n = m := by
  obtain ⟨⟨t, a1, a2, a3⟩, a4⟩ := a
  obtain ⟨⟨u, b1, b2, b3⟩, b4⟩ := b
  have := a4 u b1 b2
  have := b4 t a1 a2
  omega
def minStep (x : Sp) (n : Int) (y : Sp) : Int := if x.1 < y.1 ∧ y.1 < x.2 ∧ y.2 < n then y.2 else n
def minTo (s : List Sp) (x : Sp) (k : Nat) : Int := (s.take k).foldl (minStep x) (val s x.1)
theorem min_next {s : List Sp} {x : Sp} {k : Nat} (hk : k < s.length) : minTo s x (k + 1) = minStep x (minTo s x k) (s.getD k (0, 0)) := by
  unfold minTo
  rw [List.take_succ_eq_append_getElem hk, List.foldl_append, getSp hk]
  rfl
theorem min_inv {s : List Sp} {x : Sp} (h : Chk s) (hx : x.1 < x.2) (k : Nat) (hk : k ≤ s.length) :
    (∃ t, x.1 ≤ t ∧ t < x.2 ∧ val s t = minTo s x k) ∧ minTo s x k ≤ val s x.1 ∧ ∀ y ∈ s.take k, x.1 < y.1 → y.1 < x.2 → minTo s x k ≤ y.2 := by
  induction k with
  | zero => exact ⟨⟨x.1, Int.le_refl _, hx, rfl⟩, Int.le_refl _, fun y hy => by simp at hy⟩
  | succ k ih =>
    obtain ⟨h1, h2, h3⟩ := ih (by omega)
    have hk' : k < s.length := by omega
    have hm : s.getD k (0, 0) ∈ s := by rw [getSp hk']; exact List.getElem_mem hk'
    have hv := val_own h.alt hm (-1)
    rw [min_next hk']
    have hmt : ∀ y, y ∈ s.take (k + 1) → y ∈ s.take k ∨ y = s.getD k (0, 0) := fun y hy => (mem_take_succ hk').1 hy
    generalize s.getD k (0, 0) = z at *
    unfold minStep
    by_cases hc : x.1 < z.1 ∧ z.1 < x.2 ∧ z.2 < minTo s x k
    · rw [if_pos hc]
      refine ⟨⟨z.1, by omega, hc.2.1, hv⟩, by omega, fun y hy a1 a2 => ?_⟩
      rcases hmt y hy with hy | rfl
      · have := h3 y hy a1 a2; omega
      · exact Int.le_refl _
    · rw [if_neg hc]
      refine ⟨h1, h2, fun y hy a1 a2 => ?_⟩
      rcases hmt y hy with hy | rfl
      · exact h3 y hy a1 a2
      · omega
theorem min_spec {s : List Sp} {x : Sp} (h : Chk s) (hx : x.1 < x.2) (hh : head s ≤ x.1) : MinOf s x (minTo s x s.length) := by
  obtain ⟨h1, h2, h3⟩ := min_inv h hx s.length (Nat.le_refl _)
  rw [List.take_length] at h3
  refine ⟨h1, fun t a1 a2 => ?_⟩
  obtain ⟨y, hy, b1, b2, b3⟩ := h.floor (t := t) (by omega)
  rw [b2]
  by_cases hc : x.1 < y.1
  · exact h3 y hy hc (by omega)
  · have e : val s x.1 = val s t := valFrom_same fun z hz => ⟨fun h4 => by omega, fun h4 => by have := b3 z hz h4; omega⟩
    omega
/-- Steps with more free within a span. -/
def addSpans (s : List Sp) (x : Sp) : List Sp := x :: s.map fun y => (y.1, 4503599627370496)
def lastAt (s : List Sp) : Int := (s.getD (s.length - 1) (0, 0)).1
def keepB (s : List Sp) (x : Sp) (e : Int) : Bool := !decide (val s e < 0) && !(e == 4503599627370496 && (e != x.2) && (lastAt s != 4503599627370496))
def addF (s : List Sp) (x : Sp) (n : Int) (t : Int) : Int := if hasB x t then val s t + n else val s t
def addEnds (s : List Sp) (x : Sp) : List Int := (endsL (addSpans s x)).filter (keepB s x)
theorem first_is {e : List Int} (hr : Rise e) {h : Int} (hm : h ∈ e) (hl : ∀ y ∈ e, h ≤ y) : e.getD 0 0 = h := by
  obtain ⟨i, hi, rfl⟩ := List.mem_iff_getElem.1 hm
  have h1 := hl _ (getD_mem (l := e) (i := 0) (by omega))
  have h2 := hr.le (Nat.zero_le i) hi
  rw [getD_el hi] at h2
  omega
theorem keep_iff {s : List Sp} (h : Chk s) {x : Sp} {e : Int} : keepB s x e = true ↔ head s ≤ e ∧ (e = 4503599627370496 → e = x.2 ∨ lastAt s = 4503599627370496) := by
  unfold keepB
  simp only [Bool.and_eq_true, Bool.not_eq_true', decide_eq_false_iff_not, Bool.and_eq_false_iff, beq_eq_false_iff_ne, bne_eq_false_iff_eq]
  constructor
  · rintro ⟨h1, h2⟩
    refine ⟨?_, fun he => ?_⟩
    · rcases Int.lt_or_le e (head s) with h3 | h3
      · rw [h.val_early h3] at h1; omega
      · exact h3
    · rcases h2 with (h2 | h2) | h2
      · exact absurd he h2
      · exact .inl h2
      · exact .inr h2
  · rintro ⟨h1, h2⟩
    refine ⟨by have := (h.val_free h1).1; omega, ?_⟩
    by_cases he : e = 4503599627370496
    · rcases h2 he with h3 | h3
      · exact .inl (.inr h3)
      · exact .inr h3
    · exact .inl (.inl he)
theorem last_at {s : List Sp} (h : Chk s) {y : Sp} (hy : y ∈ s) (he : y.1 = 4503599627370496) : lastAt s = 4503599627370496 := by
  have hp := h.pos
  have hm : s.getD (s.length - 1) (0, 0) ∈ s := by rw [getSp (by omega)]; exact List.getElem_mem _
  have h1 := h.top _ hm
  obtain ⟨i, hi, rfl⟩ := List.mem_iff_getElem.1 hy
  have hr := alt_rise h.alt
  have h2 : (s.getD i (0, 0)).1 ≤ (s.getD (s.length - 1) (0, 0)).1 := by
    rw [getSp hi, getSp (by omega)]
    by_cases e : i = s.length - 1
    · subst e; exact Int.le_refl _
    · have := List.pairwise_iff_getElem.1 hr i (s.length - 1) (by simp; omega) (by simp; omega) (by omega)
      simp at this
      omega
  rw [getSp hi] at h2
  unfold lastAt
  omega
theorem add_mem {s : List Sp} {x : Sp} (h : Chk s) (hx : May x) {e : Int} (he : head s ≤ e) (hc : e = x.1 ∨ e = x.2 ∨ ∃ y ∈ s, y.1 = e) : e ∈ addEnds s x := by
  have hs := (ends_spec (addSpans s x)).2.1 e
  have hh : (head s, 4503599627370496) ∈ addSpans s x := List.mem_cons.2 (.inr (List.mem_map.2 ⟨_, h.head_mem, rfl⟩))
  have hhm : May (head s, 4503599627370496) := ⟨h.lo, by have := h.hi; dsimp only; omega, by dsimp only; omega⟩
  refine List.mem_filter.2 ⟨hs.2 ?_, (keep_iff h).2 ⟨he, fun ht => ?_⟩⟩
  · rcases hc with rfl | rfl | ⟨y, hy, rfl⟩
    · exact ⟨x, by simp [addSpans], hx, .inl rfl⟩
    · exact ⟨x, by simp [addSpans], hx, .inr rfl⟩
    · by_cases ht : y.1 = 4503599627370496
      · exact ⟨_, hh, hhm, .inr ht⟩
      · exact ⟨(y.1, 4503599627370496), List.mem_cons.2 (.inr (List.mem_map.2 ⟨y, hy, rfl⟩)), ⟨by have := h.lo; dsimp only; omega, by have := h.top y hy; dsimp only; omega, by dsimp only; omega⟩, .inl rfl⟩
  · rcases hc with rfl | rfl | ⟨y, hy, rfl⟩
    · have := hx.2.1; have := hx.2.2; omega
    · exact .inl rfl
    · exact .inr (last_at h hy ht)
theorem add_head {s : List Sp} {x : Sp} (h : Chk s) (hx : May x) : (addEnds s x).getD 0 0 = head s := by
  refine first_is ((ends_spec (addSpans s x)).1.sublist List.filter_sublist) (add_mem h hx (Int.le_refl _) (.inr (.inr ⟨_, h.head_mem, rfl⟩))) fun y hy => ?_
  exact ((keep_iff h).1 (List.mem_filter.1 hy).2).1
theorem add_turns {s : List Sp} {x : Sp} {n : Int} (h : Chk s) (hx : May x) : TurnsAt (addF s x n) (addEnds s x) := by
  intro t z hz hzt hmax
  have h0 := ((keep_iff h).1 (List.mem_filter.1 hz).2).1
  have ev : val s t = val s z := valFrom_same fun y hy => ⟨fun h1 => hmax _ (add_mem h hx (h.ge y hy) (.inr (.inr ⟨y, hy, rfl⟩))) h1, fun h1 => by omega⟩
  have eh : hasB x t = hasB x z := by
    apply bool_ext
    rw [hasB_iff, hasB_iff]
    constructor
    · rintro ⟨_, h1, h2⟩
      refine ⟨hx, ?_, by omega⟩
      by_cases h3 : x.1 < head s
      · omega
      · exact hmax _ (add_mem h hx (by omega) (.inl rfl)) h1
    · rintro ⟨_, h1, h2⟩
      refine ⟨hx, by omega, ?_⟩
      rcases Int.lt_or_le t x.2 with h3 | h3
      · exact h3
      · have := hmax _ (add_mem h hx (by omega) (.inr (.inl rfl))) h3; omega
  unfold addF
  rw [ev, eh]
theorem add_rep {s : List Sp} {x : Sp} {n : Int} (h : Chk s) (hx : May x) (hf : ∀ e ∈ addEnds s x, 0 ≤ addF s x n e ∧ addF s x n e ≤ 256) : Rep (buildL (addF s x n) (addEnds s x)) (head s) (addF s x n) := by
  have hm := add_mem h hx (Int.le_refl _) (.inr (.inr ⟨_, h.head_mem, rfl⟩))
  have := built_rep ((ends_spec (addSpans s x)).1.sublist List.filter_sublist) (add_turns (n := n) h hx) (fun e => by rw [show addEnds s x = [] from e] at hm; cases hm) (by rw [show ((endsL (addSpans s x)).filter (keepB s x)).getD 0 0 = head s from add_head h hx]; exact h.lo)
    (by rw [show ((endsL (addSpans s x)).filter (keepB s x)).getD 0 0 = head s from add_head h hx]; exact h.hi) (fun e he => by
      obtain ⟨sp, _, hm, h1⟩ := ((ends_spec (addSpans s x)).2.1 e).1 (List.mem_filter.1 he).1
      have := hm.2.1
      have := hm.2.2
      rcases h1 with rfl | rfl <;> omega) hf
  rwa [show ((endsL (addSpans s x)).filter (keepB s x)).getD 0 0 = head s from add_head h hx] at this
/-- What Add tells. -/
def addBad (s : List Sp) (x : Sp) (n : Int) : Prop := chkB s = false ∨ mayB x = false ∨ n < -256 ∨ 256 < n
def addOut (s : List Sp) (x : Sp) (n : Int) : Prop := ∃ t, head s ≤ t ∧ ¬ (0 ≤ addF s x n t ∧ addF s x n t ≤ 256)
def AddIs (s : List Sp) (x : Sp) (n : Int) (r : List Sp) : Prop := (addBad s x n ∧ r = []) ∨ (¬ addBad s x n ∧ addOut s x n ∧ r = []) ∨ (¬ addBad s x n ∧ Rep r (head s) (addF s x n))
theorem rep_fits {s r : List Sp} {x : Sp} {n : Int} (h : Rep r (head s) (addF s x n)) : ¬ addOut s x n := fun ⟨t, h1, h2⟩ => h2 (by
  have := h.1.val_free (t := t) (by rw [h.2.1]; exact h1)
  rwa [h.2.2 t h1] at this)
theorem AddIs.unique {s r q : List Sp} {x : Sp} {n : Int} (a : AddIs s x n r) (b : AddIs s x n q) : r = q := by
  rcases a with ⟨a1, rfl⟩ | ⟨a1, a2, rfl⟩ | ⟨a1, a2⟩ <;> rcases b with ⟨b1, rfl⟩ | ⟨b1, b2, rfl⟩ | ⟨b1, b2⟩
  · rfl
  · rfl
  · exact absurd a1 b1
  · rfl
  · rfl
  · exact absurd a2 (rep_fits b2)
  · exact absurd b1 a1
  · exact absurd b2 (rep_fits a2)
  · exact a2.unique b2
theorem not_addBad {s : List Sp} {x : Sp} {n : Int} (h : ¬ addBad s x n) : Chk s ∧ May x ∧ -256 ≤ n ∧ n ≤ 256 := by
  unfold addBad at h
  simp only [not_or, Bool.not_eq_false] at h
  exact ⟨(chk_iff s).1 h.1, (mayB_iff x).1 h.2.1, by omega, by omega⟩
theorem add_done {s : List Sp} {x : Sp} {n : Int} (h : ¬ addBad s x n) (hf : ∀ e ∈ addEnds s x, 0 ≤ addF s x n e ∧ addF s x n e ≤ 256) : AddIs s x n (buildL (addF s x n) (addEnds s x)) := by
  obtain ⟨h1, h2, _⟩ := not_addBad h
  exact .inr (.inr ⟨h, add_rep h1 h2 hf⟩)
theorem addF_off {s : List Sp} {x : Sp} {n : Int} (h : x.2 ≤ head s) {t : Int} (ht : head s ≤ t) : addF s x n t = val s t := by
  unfold addF
  rw [has_no (fun h1 => by omega)]
  rfl
/-- A span that is over ahead of the first step. -/
theorem add_none {s : List Sp} {x : Sp} {n : Int} (h : ¬ addBad s x n) (hx : x.2 ≤ head s) : AddIs s x n s :=
  .inr (.inr ⟨h, (Rep.self (not_addBad h).1).congr fun t ht => (addF_off hx ht).symm⟩)
end Go.Proofs.Ytophhiejggnaeaa.StepPlain
namespace Go.Proofs.Ytophhiejggnaeaa.StepPlain
open Go.Proofs.Ytophhiejggnaeaa.SpanPlain
/-- Rising times. -/
def Up (s : List Sp) : Prop := s.Pairwise fun a b => a.1 < b.1
theorem Alt.up {s : List Sp} (h : Alt s) : Up s := by
  have := alt_rise h
  exact List.pairwise_map.1 this
theorem Chk.up {s : List Sp} (h : Chk s) : Up s := h.alt.up
abbrev nth (s : List Sp) (k : Nat) : Sp := s.getD k (0, 0)
theorem nth_mem {s : List Sp} {k : Nat} (h : k < s.length) : nth s k ∈ s := by unfold nth; rw [getSp h]; exact List.getElem_mem h
theorem Up.lt {s : List Sp} (h : Up s) {i j : Nat} (hij : i < j) (hj : j < s.length) : (nth s i).1 < (nth s j).1 := by
  unfold nth
  rw [getSp (by omega), getSp hj]
  exact List.pairwise_iff_getElem.1 h i j (by omega) hj hij
theorem Up.le {s : List Sp} (h : Up s) {i j : Nat} (hij : i ≤ j) (hj : j < s.length) : (nth s i).1 ≤ (nth s j).1 := by
  rcases Nat.lt_or_ge i j with h1 | h1
  · have := h.lt h1 hj; omega
  · obtain rfl : i = j := by omega
    exact Int.le_refl _
theorem valFrom_append (n : Int) (a b : List Sp) (t : Int) : valFrom n (a ++ b) t = valFrom (valFrom n a t) b t := by unfold valFrom; rw [List.foldl_append]
theorem parts_at {s : List Sp} {k : Nat} (h : k < s.length) : s = s.take k ++ nth s k :: s.drop (k + 1) := by
  unfold nth
  rw [getSp h, ← List.drop_eq_getElem_cons h, List.take_append_drop]
/-- Where the last step stands that is not behind a time. -/
structure LastIs (s : List Sp) (t : Int) (k : Nat) : Prop where
  lt : k < s.length
  le : (nth s k).1 ≤ t
  late : ∀ j, k < j → j < s.length → t < (nth s j).1
theorem LastIs.behind {s : List Sp} {t : Int} {k : Nat} (h : LastIs s t k) : ∀ z ∈ s.drop (k + 1), t < z.1 := by
  intro z hz
  obtain ⟨i, hi, rfl⟩ := List.mem_iff_getElem.1 hz
  rw [List.length_drop] at hi
  have := h.late (k + 1 + i) (by omega) (by omega)
  unfold nth at this
  rw [getSp (by omega)] at this
  rw [List.getElem_drop]
  exact this
theorem LastIs.val {s : List Sp} {t : Int} {k : Nat} (h : LastIs s t k) : val s t = (nth s k).2 := by
  have e := parts_at h.lt
  have h2 := h.behind
  have h1 := h.le
  generalize nth s k = y at *
  unfold StepPlain.val
  rw [e, valFrom_append, valFrom_le h1, valFrom_late h2]
/-- The last one has the time itself, if a step has it. -/
theorem LastIs.here {s : List Sp} (hu : Up s) {t : Int} {k : Nat} (h : LastIs s t k) (hm : ∃ y ∈ s, y.1 = t) : (nth s k).1 = t := by
  obtain ⟨y, hy, he⟩ := hm
  obtain ⟨j, hj, rfl⟩ := List.mem_iff_getElem.1 hy
  rw [← getSp hj] at he
  rcases Nat.lt_or_ge k j with h1 | h1
  · have := h.late j h1 hj
    unfold nth at this
    omega
  · have := hu.le h1 h.lt
    have := h.le
    unfold nth at *
    omega
/-- Steps with one at a time. -/
def cutL (s : List Sp) (t : Int) (k : Nat) : List Sp := s.take (k + 1) ++ (if (nth s k).1 < t then [(t, (nth s k).2)] else []) ++ s.drop (k + 1)
section
variable {s : List Sp} {t : Int} {k : Nat}
theorem take_nth (h : k < s.length) : s.take (k + 1) = s.take k ++ [nth s k] := by unfold nth; rw [getSp h, List.take_succ_eq_append_getElem h]
theorem cut_val (h : LastIs s t k) (u : Int) : val (cutL s t k) u = val s u := by
  have e := parts_at h.lt
  have h1 := h.le
  unfold cutL
  rw [take_nth h.lt]
  have e2 : val s u = valFrom (valFrom (-1) (s.take k ++ [nth s k]) u) (s.drop (k + 1)) u := by
    conv => lhs; rw [e]
    unfold StepPlain.val
    rw [← valFrom_append, List.append_assoc]
    rfl
  rw [e2]
  unfold StepPlain.val
  rw [valFrom_append, valFrom_append _ (_ ++ _)]
  congr 1
  generalize nth s k = y at *
  split
  · rw [valFrom_cons]
    show (if t ≤ u then y.2 else _) = _
    split
    · rw [valFrom_snoc, if_pos (by omega)]
    · rfl
  · rfl
theorem cut_mem {y : Sp} (hy : y ∈ cutL s t k) : y ∈ s ∨ y = (t, (nth s k).2) := by
  unfold cutL at hy
  rcases List.mem_append.1 hy with hy | hy
  · rcases List.mem_append.1 hy with hy | hy
    · exact .inl (List.mem_of_mem_take hy)
    · split at hy
      · simp at hy; exact .inr hy
      · simp at hy
  · exact .inl (List.mem_of_mem_drop hy)
theorem mem_cut {y : Sp} (hy : y ∈ s) : y ∈ cutL s t k := by
  unfold cutL
  rw [← List.take_append_drop (k + 1) s] at hy
  rcases List.mem_append.1 hy with hy | hy
  · exact List.mem_append.2 (.inl (List.mem_append.2 (.inl hy)))
  · exact List.mem_append.2 (.inr hy)
theorem cut_at (h : LastIs s t k) : ∃ y ∈ cutL s t k, y.1 = t := by
  by_cases h1 : (nth s k).1 < t
  · exact ⟨(t, (nth s k).2), by unfold cutL; rw [if_pos h1]; simp, rfl⟩
  · exact ⟨nth s k, mem_cut (nth_mem h.lt), by have := h.le; omega⟩
theorem cut_head (h : LastIs s t k) : head (cutL s t k) = head s := by
  unfold head cutL
  have : 0 < (s.take (k + 1)).length := by rw [List.length_take]; have := h.lt; omega
  rw [List.append_assoc, List.getD_eq_getElem?_getD, List.getElem?_append_left this, List.getElem?_take_of_lt (by omega), ← List.getD_eq_getElem?_getD]
theorem cut_len (h : k < s.length) : (cutL s t k).length ≤ s.length + 1 ∧ s.length ≤ (cutL s t k).length := by
  unfold cutL
  split <;> simp <;> omega
theorem cut_up (hu : Up s) (h : LastIs s t k) : Up (cutL s t k) := by
  have h2 := h.behind
  have hd : Up (s.drop (k + 1)) := hu.sublist (List.drop_sublist _ _)
  have ht : Up (s.take (k + 1)) := hu.sublist (List.take_sublist _ _)
  have hle : ∀ z ∈ s.take (k + 1), z.1 ≤ (nth s k).1 := by
    intro z hz
    obtain ⟨i, hi, rfl⟩ := List.mem_iff_getElem.1 hz
    rw [List.length_take] at hi
    have := hu.le (i := i) (j := k) (by omega) h.lt
    rw [List.getElem_take, ← getSp (by omega)]
    exact this
  have hx := h.le
  unfold cutL
  refine List.pairwise_append.2 ⟨?_, hd, fun a ha b hb => ?_⟩
  · refine List.pairwise_append.2 ⟨ht, ?_, fun a ha b hb => ?_⟩
    · split
      · exact List.pairwise_singleton _ _
      · exact List.Pairwise.nil
    · split at hb
      · simp at hb; subst hb
        have := hle a ha
        dsimp only
        omega
      · simp at hb
  · have hb2 := h2 b hb
    rcases List.mem_append.1 ha with ha | ha
    · have := hle a ha; omega
    · split at ha
      · simp at ha; subst ha; exact hb2
      · simp at ha
end
/-- More free from one place on. -/
def bump (n : Int) (l : List Sp) (a : Nat) : Nat → List Sp
  | 0 => l
  | m + 1 => (bump n l a m).set (a + m) ((nth l (a + m)).1, (nth l (a + m)).2 + n)
theorem bump_len (n : Int) (l : List Sp) (a : Nat) : ∀ m, (bump n l a m).length = l.length
  | 0 => rfl
  | m + 1 => by unfold bump; rw [List.length_set, bump_len]
theorem nth_set {l : List Sp} {i j : Nat} {y : Sp} (hi : i < l.length) : nth (l.set i y) j = if i = j then y else nth l j := by
  unfold nth
  simp only [List.getD_eq_getElem?_getD, List.getElem?_set]
  by_cases h : i = j
  · subst h; simp [hi]
  · simp [h]
theorem bump_at {n : Int} {l : List Sp} {a : Nat} {m : Nat} (hm : a + m ≤ l.length) (i : Nat) : nth (bump n l a m) i = if a ≤ i ∧ i < a + m then ((nth l i).1, (nth l i).2 + n) else nth l i := by
  induction m with
  | zero => rw [if_neg (by omega)]; rfl
  | succ m ih =>
    unfold bump
    rw [nth_set (by rw [bump_len]; omega), ih (by omega)]
    by_cases h1 : a + m = i
    · subst h1; rw [if_pos rfl, if_pos (by omega)]
    · rw [if_neg h1]
      by_cases h2 : a ≤ i ∧ i < a + m
      · rw [if_pos h2, if_pos (by omega)]
      · rw [if_neg h2, if_neg (by omega)]
theorem bump_first {n : Int} {l : List Sp} {a m i : Nat} (hm : a + m ≤ l.length) : (nth (bump n l a m) i).1 = (nth l i).1 := by
  rw [bump_at hm]; split <;> rfl
theorem up_of {s : List Sp} (h : ∀ i j, i < j → j < s.length → (nth s i).1 < (nth s j).1) : Up s := by
  refine List.pairwise_iff_getElem.2 fun i j hi hj hij => ?_
  have := h i j hij hj
  unfold nth at this
  rwa [getSp hi, getSp hj] at this
theorem bump_up {n : Int} {l : List Sp} {a m : Nat} (hm : a + m ≤ l.length) (hu : Up l) : Up (bump n l a m) := up_of fun i j hij hj => by
  rw [bump_len] at hj
  rw [bump_first hm, bump_first hm]
  exact hu.lt hij hj
theorem last_up {s r : List Sp} (hl : s.length = r.length) (h : ∀ i, (nth s i).1 = (nth r i).1) {t : Int} {k : Nat} (hk : LastIs s t k) : LastIs r t k :=
  ⟨by rw [← hl]; exact hk.lt, by rw [← h]; exact hk.le, fun j h1 h2 => by rw [← h]; exact hk.late j h1 (by rw [hl]; exact h2)⟩
theorem Up.last {s : List Sp} (hu : Up s) {t : Int} (hp : 0 < s.length) (hh : head s ≤ t) : ∃ k, LastIs s t k := by
  have : ∀ m, m ≤ s.length → 0 < m → ∃ k, k < m ∧ (nth s k).1 ≤ t ∧ ∀ j, k < j → j < m → t < (nth s j).1 := by
    intro m
    induction m with
    | zero => intro _ h; omega
    | succ m ih =>
      intro hm _
      by_cases h0 : m = 0
      · subst h0
        exact ⟨0, by omega, hh, fun j h1 h2 => by omega⟩
      · by_cases h1 : (nth s m).1 ≤ t
        · exact ⟨m, by omega, h1, fun j h2 h3 => by omega⟩
        · obtain ⟨k, h2, h3, h4⟩ := ih (by omega) (by omega)
          refine ⟨k, by omega, h3, fun j h5 h6 => ?_⟩
          by_cases h7 : j = m
          · subst h7; omega
          · exact h4 j h5 (by omega)
  obtain ⟨k, h1, h2, h3⟩ := this s.length (Nat.le_refl _) hp
  exact ⟨k, h1, h2, h3⟩
/-- What more is free, by the times at the two places. -/
theorem bump_val {n : Int} {l : List Sp} {a m : Nat} (hm : a + m < l.length) (hu : Up l) {t : Int} (hh : head l ≤ t) :
    val (bump n l a m) t = if (nth l a).1 ≤ t ∧ t < (nth l (a + m)).1 then val l t + n else val l t := by
  obtain ⟨k, hk⟩ := hu.last (by omega) hh
  have hk2 : LastIs (bump n l a m) t k := last_up (bump_len n l a m).symm (fun i => (bump_first (by omega)).symm) hk
  rw [hk.val, hk2.val, bump_at (by omega)]
  have h1 : a ≤ k ↔ (nth l a).1 ≤ t := by
    constructor
    · intro h; have := hu.le h hk.lt; have := hk.le; omega
    · intro h
      rcases Nat.lt_or_ge k a with h2 | h2
      · have := hk.late a h2 (by omega); omega
      · exact h2
  have h2 : k < a + m ↔ t < (nth l (a + m)).1 := by
    constructor
    · intro h; exact hk.late _ h hm
    · intro h
      rcases Nat.lt_or_ge k (a + m) with h3 | h3
      · exact h3
      · have := hu.le h3 hk.lt; have := hk.le; omega
  by_cases h3 : a ≤ k ∧ k < a + m
  · rw [if_pos h3, if_pos ⟨h1.1 h3.1, h2.1 h3.2⟩]
  · rw [if_neg h3, if_neg (fun h4 => h3 ⟨h1.2 h4.1, h2.2 h4.2⟩)]
/-- Neighbours that are alike, joined. -/
def joinStep (out : List Sp) (y : Sp) : List Sp := if out.length = 0 ∨ (out.getD (out.length - 1) (0, 0)).2 ≠ y.2 then out ++ [y] else out
def joinL (l : List Sp) : List Sp := l.foldl joinStep []
theorem join_snoc (l : List Sp) (y : Sp) : joinL (l ++ [y]) = joinStep (joinL l) y := by unfold joinL; rw [List.foldl_append]; rfl
theorem join_first (y : Sp) : joinStep [] y = [y] := by unfold joinStep; rw [if_pos (.inl rfl)]; rfl
theorem join_same {d : List Sp} {q y : Sp} (h : q.2 = y.2) : joinStep (d ++ [q]) y = d ++ [q] := by
  unfold joinStep
  rw [if_neg]
  simp [List.getD, h]
theorem join_new {d : List Sp} {q y : Sp} (h : q.2 ≠ y.2) : joinStep (d ++ [q]) y = d ++ [q] ++ [y] := by
  unfold joinStep
  rw [if_pos]
  right
  simpa [List.getD] using h
theorem join_spec : ∀ l : List Sp, Up l → (l = [] ∧ joinL l = []) ∨ ∃ d q y, joinL l = d ++ [q] ∧ l.getLast? = some y ∧ q.1 ≤ y.1 ∧ q.2 = y.2 ∧ Alt (joinL l) ∧ head (joinL l) = head l ∧ (∀ z ∈ joinL l, z ∈ l) ∧ ∀ u, val (joinL l) u = val l u := by
  refine Util.snoc_ind (fun _ => .inl ⟨rfl, rfl⟩) fun l y ih hr => ?_
  rw [join_snoc]
  have hrl : Up l := (List.pairwise_append.1 hr).1
  have hlt : ∀ z ∈ l, z.1 < y.1 := fun z hz => (List.pairwise_append.1 hr).2.2 z hz y (by simp)
  right
  rcases ih hrl with ⟨rfl, he⟩ | ⟨d, q, z, he, hz, h1, h2, h3, h4, h5, h6⟩
  · rw [he, join_first]
    exact ⟨[], y, y, rfl, rfl, Int.le_refl _, rfl, trivial, rfl, fun z hz => hz, fun u => rfl⟩
  · have hne : l ≠ [] := fun h => by rw [h] at hz; cases hz
    have hlen : 0 < l.length := List.length_pos_iff.2 hne
    have hzy : z.1 < y.1 := hlt z (List.mem_of_getLast? hz)
    have hh : head (l ++ [y]) = head l := by unfold head; rw [List.getD_eq_getElem?_getD, List.getD_eq_getElem?_getD, List.getElem?_append_left hlen]
    rw [he] at h3 h4 h5 h6 ⊢
    by_cases hq : q.2 = y.2
    · rw [join_same hq]
      refine ⟨d, q, y, rfl, by simp, by omega, hq, h3, by rw [hh, h4], fun w hw => by simp [h5 w hw], fun u => ?_⟩
      rw [val_snoc, val_snoc]
      by_cases hu : y.1 ≤ u
      · rw [if_pos hu, if_pos (by omega), hq]
      · rw [if_neg hu, ← h6 u, val_snoc]
    · rw [join_new hq]
      refine ⟨d ++ [q], y, y, rfl, by simp, Int.le_refl _, rfl, h3.snoc (by omega) hq, ?_, fun w hw => ?_, fun u => ?_⟩
      · rw [hh, ← h4]
        unfold head
        rw [List.getD_eq_getElem?_getD, List.getD_eq_getElem?_getD, List.getElem?_append_left (by simp)]
      · rcases List.mem_append.1 hw with hw | hw
        · simp [h5 w hw]
        · simp at hw; simp [hw]
      · rw [val_snoc (d ++ [q]) y, val_snoc l y, h6 u]
theorem rep_join {l : List Sp} {P : Int → Int} {h : Int} (hu : Up l) (hne : 0 < l.length) (hh : head l = h) (h0 : 0 ≤ h) (h1 : h ≤ 1125899906842624) (hf : ∀ y ∈ l, 0 ≤ y.2 ∧ y.2 ≤ 256) (ht : ∀ y ∈ l, y.1 ≤ 4503599627370496) (hv : ∀ t, h ≤ t → val l t = P t) :
    Rep (joinL l) h P := by
  rcases join_spec l hu with ⟨rfl, _⟩ | ⟨d, q, y, he, _, _, _, h3, h4, h5, h6⟩
  · simp at hne
  · exact ⟨⟨by rw [he]; simp, by rw [h4, hh]; exact h0, by rw [h4, hh]; exact h1, h3, fun z hz => hf z (h5 z hz), fun z hz => ht z (h5 z hz)⟩, by rw [h4, hh], fun t htt => by rw [h6, hv t htt]⟩
theorem join_last : ∀ l : List Sp, l ≠ [] → (joinL l).length ≠ 0 ∧ (nth (joinL l) ((joinL l).length - 1)).2 = (nth l (l.length - 1)).2 := by
  refine Util.snoc_ind (fun h => absurd rfl h) fun l y ih _ => ?_
  have e : nth (l ++ [y]) ((l ++ [y]).length - 1) = y := by unfold nth; simp [List.getD]
  rw [join_snoc, e]
  unfold joinStep
  split
  · have e2 : nth (joinL l ++ [y]) ((joinL l ++ [y]).length - 1) = y := by unfold nth; simp [List.getD]
    rw [e2]
    exact ⟨by simp, rfl⟩
  · rename_i h
    simp only [not_or, Decidable.not_not, ne_eq] at h
    exact ⟨h.1, h.2⟩
/-- A step that is like the one ahead of it is left out. -/
theorem join_take_same {l : List Sp} {k : Nat} (h0 : 0 < k) (hk : k < l.length) (h : (nth l k).2 = (nth l (k - 1)).2) : joinL (l.take (k + 1)) = joinL (l.take k) := by
  rw [take_nth hk, join_snoc]
  have hl := join_last (l.take k) (fun e => by have e2 := congrArg List.length e; rw [List.length_take, List.length_nil] at e2; omega)
  have e : nth (l.take k) ((l.take k).length - 1) = nth l (k - 1) := by
    unfold nth
    rw [List.length_take, List.getD_eq_getElem?_getD, List.getElem?_take_of_lt (by omega), List.getD_eq_getElem?_getD, show min k l.length - 1 = k - 1 by omega]
  rw [e] at hl
  unfold joinStep
  rw [if_neg]
  simp only [not_or, Decidable.not_not, ne_eq]
  exact ⟨hl.1, by rw [h]; exact hl.2⟩
theorem join_take_new {l : List Sp} {k : Nat} (h0 : 0 < k) (hk : k < l.length) (h : (nth l k).2 ≠ (nth l (k - 1)).2) : joinL (l.take (k + 1)) = joinL (l.take k) ++ [nth l k] := by
  rw [take_nth hk, join_snoc]
  have hl := join_last (l.take k) (fun e => by have e2 := congrArg List.length e; rw [List.length_take, List.length_nil] at e2; omega)
  have e : nth (l.take k) ((l.take k).length - 1) = nth l (k - 1) := by
    unfold nth
    rw [List.length_take, List.getD_eq_getElem?_getD, List.getElem?_take_of_lt (by omega), List.getD_eq_getElem?_getD, show min k l.length - 1 = k - 1 by omega]
  rw [e] at hl
  unfold joinStep
  rw [if_pos]
  right
  intro h2
  exact h (h2.symm.trans hl.2)
theorem join_take_one {l : List Sp} (h : 0 < l.length) : joinL (l.take 1) = l.take 1 := by
  rw [show (1 : Nat) = 0 + 1 from rfl, take_nth h]
  exact join_first _
/-- As long as no neighbours are alike, nothing is left out. -/
theorem join_none {l : List Sp} {k : Nat} (hk : k ≤ l.length) (h : ∀ j, 0 < j → j < k → (nth l j).2 ≠ (nth l (j - 1)).2) : joinL (l.take k) = l.take k := by
  induction k with
  | zero => rfl
  | succ k ih =>
    by_cases h0 : k = 0
    · subst h0; exact join_take_one (by omega)
    · rw [join_take_new (by omega) (by omega) (h k (by omega) (by omega)), ih (by omega) (fun j h1 h2 => h j h1 (by omega)), take_nth (by omega)]
end Go.Proofs.Ytophhiejggnaeaa.StepPlain
namespace Go.Proofs.Ytophhiejggnaeaa.StepPlain
open Go.Proofs.Ytophhiejggnaeaa.SpanPlain
/-- A step that may stand where it stands. -/
def okC (s : List Sp) (i : Nat) : Prop := (0 ≤ (nth s i).2 ∧ (nth s i).2 ≤ 256) ∧ (i = 0 ∨ ((nth s (i - 1)).1 < (nth s i).1 ∧ (nth s i).2 ≠ (nth s (i - 1)).2))
theorem check_yes {s : List Sp} (hp : 0 < s.length) (h0 : 0 ≤ head s ∧ head s ≤ 1125899906842624) (hl : (nth s (s.length - 1)).1 ≤ 4503599627370496) (h : ∀ i, i < s.length → okC s i) : chkB s = true := by
  have hu : Up s := by
    have ha : Alt s := alt_of fun i hi => by
      rcases (h (i + 1) hi).2 with h1 | h1
      · omega
      · exact ⟨h1.1, fun e => h1.2 e.symm⟩
    exact ha.up
  refine (chk_iff s).2 ⟨hp, h0.1, h0.2, alt_of fun i hi => ?_, fun x hx => ?_, fun x hx => ?_⟩
  · rcases (h (i + 1) hi).2 with h1 | h1
    · omega
    · exact ⟨h1.1, fun e => h1.2 e.symm⟩
  · obtain ⟨i, hi, rfl⟩ := List.mem_iff_getElem.1 hx
    rw [← getSp hi]
    exact (h i hi).1
  · obtain ⟨i, hi, rfl⟩ := List.mem_iff_getElem.1 hx
    rw [← getSp hi]
    have := hu.le (i := i) (j := s.length - 1) (by omega) (by omega)
    unfold nth at this hl
    omega
theorem check_no {s : List Sp} (h : ¬ (0 < s.length ∧ (0 ≤ head s ∧ head s ≤ 1125899906842624) ∧ (nth s (s.length - 1)).1 ≤ 4503599627370496 ∧ ∀ i, i < s.length → okC s i)) : chkB s = false := by
  cases hc : chkB s with
  | false => rfl
  | true =>
    have c := (chk_iff s).1 hc
    refine absurd ⟨c.pos, ⟨c.lo, c.hi⟩, c.top _ (nth_mem (by have := c.pos; omega)), fun i hi => ⟨c.free _ (nth_mem hi), ?_⟩⟩ h
    by_cases h0 : i = 0
    · exact .inl h0
    · right
      have := alt_at c.alt (i - 1) (by omega)
      rw [show i - 1 + 1 = i by omega] at this
      exact ⟨this.1, fun e => this.2 e.symm⟩
theorem bad_empty {s : List Sp} (h : s.length = 0) : chkB s = false := check_no fun c => by omega
theorem bad_head {s : List Sp} (h : ¬ (0 ≤ head s ∧ head s ≤ 1125899906842624)) : chkB s = false := check_no fun c => h c.2.1
theorem bad_last {s : List Sp} (h : 4503599627370496 < (nth s (s.length - 1)).1) : chkB s = false := check_no fun c => by have := c.2.2.1; omega
theorem bad_at {s : List Sp} {i : Nat} (hi : i < s.length) (h : ¬ okC s i) : chkB s = false := check_no fun c => h (c.2.2.2 i hi)
/-- The least one, from the last step on that is not behind the span's beginning. -/
theorem min_start {s : List Sp} (hu : Up s) {x : Sp} {k : Nat} (h : LastIs s x.1 k) : minTo s x (k + 1) = (nth s k).2 := by
  have hv := h.val
  have : ∀ m, m ≤ k + 1 → minTo s x m = val s x.1 := by
    intro m
    induction m with
    | zero => intro _; rfl
    | succ m ih =>
      intro hm
      rw [min_next (by have := h.lt; omega), ih (by omega)]
      have h1 := hu.le (i := m) (j := k) (by omega) h.lt
      have h2 := h.le
      unfold minStep
      rw [if_neg (by unfold nth at h1 h2; omega)]
  rw [this _ (Nat.le_refl _), hv]
theorem min_more {s : List Sp} (hu : Up s) {x : Sp} {k j : Nat} (h : LastIs s x.1 k) (h1 : k < j) (hj : j < s.length) (h2 : (nth s j).1 < x.2) : minTo s x (j + 1) = min (minTo s x j) (nth s j).2 := by
  have h3 := h.late j h1 hj
  rw [min_next hj]
  unfold minStep nth at *
  by_cases h4 : (s.getD j (0, 0)).2 < minTo s x j
  · rw [if_pos ⟨h3, h2, h4⟩]; omega
  · rw [if_neg (fun h5 => h4 h5.2.2)]; omega
theorem min_end {s : List Sp} (hu : Up s) {x : Sp} {j : Nat} (h2 : j < s.length → x.2 ≤ (nth s j).1) (hj : j ≤ s.length) : minTo s x j = minTo s x s.length := by
  have : ∀ m, j ≤ m → m ≤ s.length → minTo s x m = minTo s x j := by
    intro m
    induction m with
    | zero => intro h3 _; rw [show j = 0 by omega]
    | succ m ih =>
      intro h3 h4
      by_cases h5 : j = m + 1
      · rw [h5]
      · rw [min_next (by omega), ih (by omega) (by omega)]
        have h6 := h2 (by omega)
        have h7 := hu.le (i := j) (j := m) (by omega) (by omega)
        unfold minStep
        rw [if_neg (by unfold nth at h6 h7; omega)]
  exact (this _ hj (Nat.le_refl _)).symm
theorem min_done {s : List Sp} (h : Chk s) {x : Sp} (hx : x.1 < x.2) (hh : head s ≤ x.1) {j : Nat} (h2 : j < s.length → x.2 ≤ (nth s j).1) (hj : j ≤ s.length) : MinOf s x (minTo s x j) := by
  rw [min_end h.up h2 hj]
  exact min_spec h hx hh
/-- Steps that are cut twice: where the span is. -/
structure CutsIs (s m : List Sp) (f t : Int) (a b : Nat) : Prop where
  up : Up m
  hd : head m = head s
  val : ∀ u, val m u = val s u
  fst : ∀ y ∈ m, 0 ≤ y.1 ∧ y.1 ≤ 4503599627370496
  snd : ∀ y ∈ m, 0 ≤ y.2 ∧ y.2 ≤ 256
  first : LastIs m f a
  at_a : (nth m a).1 = f
  lt_b : b < m.length
  at_b : (nth m b).1 = t
  len : m.length ≤ s.length + 2
theorem cuts_is {s : List Sp} (h : Chk s) {f t : Int} {i j : Nat} (hf : head s ≤ f) (hft : f < t) (ht : t ≤ 4503599627370496) (hi : LastIs s f i) (hj : LastIs (cutL s f i) t j) :
    ∃ a b, CutsIs s (cutL (cutL s f i) t j) f t a b ∧ a < b ∧ ∀ k, LastIs (cutL (cutL s f i) t j) f k → k = a := by
  have u1 := cut_up h.up hi
  have u2 := cut_up u1 hj
  have hlo := h.lo
  have hge := h.ge
  have hd1 := cut_head hi
  have hd2 := cut_head hj
  have hm2 : ∀ y ∈ cutL (cutL s f i) t j, y ∈ s ∨ y = (f, (nth s i).2) ∨ y = (t, (nth (cutL s f i) j).2) := fun y hy => by
    rcases cut_mem hy with hy | hy
    · rcases cut_mem hy with hy | hy
      · exact .inl hy
      · exact .inr (.inl hy)
    · exact .inr (.inr hy)
  have hsnd1 : ∀ y ∈ cutL s f i, 0 ≤ y.2 ∧ y.2 ≤ 256 := fun y hy => by
    rcases cut_mem hy with hy | rfl
    · exact h.free y hy
    · have := h.free _ (nth_mem hi.lt); exact this
  have hsnd : ∀ y ∈ cutL (cutL s f i) t j, 0 ≤ y.2 ∧ y.2 ≤ 256 := fun y hy => by
    rcases cut_mem hy with hy | rfl
    · exact hsnd1 y hy
    · have := hsnd1 _ (nth_mem hj.lt); exact this
  have hp : 0 < (cutL (cutL s f i) t j).length := by have := (cut_len (t := t) hj.lt).2; have := (cut_len (t := f) hi.lt).2; have := hi.lt; omega
  have hfst : ∀ y ∈ cutL (cutL s f i) t j, 0 ≤ y.1 ∧ y.1 ≤ 4503599627370496 := fun y hy => by
    rcases hm2 y hy with hy | rfl | rfl
    · have := hge y hy; have := h.top y hy; omega
    · dsimp only; omega
    · dsimp only; omega
  have hmf : ∃ y ∈ cutL (cutL s f i) t j, y.1 = f := by obtain ⟨y, hy, e⟩ := cut_at hi; exact ⟨y, mem_cut hy, e⟩
  have hmt := cut_at hj
  obtain ⟨a, ha⟩ := u2.last (t := f) hp (by rw [hd2, hd1]; exact hf)
  obtain ⟨b, hb⟩ := u2.last (t := t) hp (by rw [hd2, hd1]; omega)
  have ea := ha.here u2 hmf
  have eb := hb.here u2 hmt
  have l1 := (cut_len (t := t) hj.lt).1
  have l2 := (cut_len (t := f) hi.lt).1
  refine ⟨a, b, ⟨u2, by rw [hd2, hd1], fun u => by rw [cut_val hj, cut_val hi], hfst, hsnd, ha, ea, hb.lt, eb, by omega⟩, ?_, fun k hk => ?_⟩
  · rcases Nat.lt_or_ge a b with h3 | h3
    · exact h3
    · have := u2.le h3 ha.lt; omega
  · rcases Nat.lt_trichotomy k a with h3 | h3 | h3
    · have := hk.late a h3 ha.lt; omega
    · exact h3
    · have := ha.late k h3 hk.lt; have := hk.le; omega
section
variable {s m : List Sp} {x : Sp} {n : Int} {a b : Nat}
theorem in_span (hx : May x) {t : Int} (ht : head s ≤ t) : hasB x t = true ↔ max x.1 (head s) ≤ t ∧ t < x.2 := by
  rw [hasB_iff]
  constructor
  · rintro ⟨_, h1, h2⟩; exact ⟨by omega, h2⟩
  · rintro ⟨h1, h2⟩; exact ⟨hx, by omega, h2⟩
theorem cuts_ge (c : CutsIs s m (max x.1 (head s)) x.2 a b) {i : Nat} (hi : i < m.length) : head s ≤ (nth m i).1 := by
  have := c.up.le (Nat.zero_le i) hi
  have := c.hd
  unfold head at *
  unfold nth at *
  omega
/-- One step out of bounds. -/
theorem cuts_out (h : ¬ addBad s x n) (c : CutsIs s m (max x.1 (head s)) x.2 a b) {i : Nat} (h1 : a ≤ i) (h2 : i < b) (ho : ¬ (0 ≤ (nth m i).2 + n ∧ (nth m i).2 + n ≤ 256)) : AddIs s x n [] := by
  obtain ⟨_, hx, _⟩ := not_addBad h
  have hib : i < m.length := by have := c.lt_b; omega
  have hge := cuts_ge c hib
  have g1 := c.up.le h1 hib
  have g2 := c.up.lt h2 c.lt_b
  have ea := c.at_a
  have eb := c.at_b
  have hv : val m (nth m i).1 = (nth m i).2 := LastIs.val ⟨hib, Int.le_refl _, fun j h3 h4 => c.up.lt h3 h4⟩
  refine .inr (.inl ⟨h, ⟨(nth m i).1, hge, fun hh => ho ?_⟩, rfl⟩)
  unfold addF at hh
  rw [(in_span hx hge).2 ⟨by omega, by omega⟩] at hh
  rw [← c.val, hv] at hh
  simpa using hh
/-- All within bounds: joined they are the steps. -/
theorem cuts_done (h : ¬ addBad s x n) (c : CutsIs s m (max x.1 (head s)) x.2 a b) (hab : a ≤ b) (hf : ∀ i, a ≤ i → i < b → 0 ≤ (nth m i).2 + n ∧ (nth m i).2 + n ≤ 256) : AddIs s x n (joinL (bump n m a (b - a))) := by
  obtain ⟨hc, hx, _⟩ := not_addBad h
  have hb := c.lt_b
  have hlen : a + (b - a) < m.length := by omega
  have hh : head (bump n m a (b - a)) = head s := by
    rw [← c.hd]
    have := bump_first (n := n) (l := m) (a := a) (m := b - a) (i := 0) (by omega)
    unfold head
    unfold nth at this
    exact this
  refine .inr (.inr ⟨h, rep_join (bump_up (by omega) c.up) (by rw [bump_len]; omega) hh hc.lo hc.hi (fun y hy => ?_) (fun y hy => ?_) fun t ht => ?_⟩)
  · obtain ⟨i, hi, rfl⟩ := List.mem_iff_getElem.1 hy
    rw [bump_len] at hi
    rw [← getSp (by rw [bump_len]; exact hi)]
    show 0 ≤ (nth _ i).2 ∧ (nth _ i).2 ≤ 256
    rw [bump_at (by omega)]
    by_cases h1 : a ≤ i ∧ i < a + (b - a)
    · rw [if_pos h1]; exact hf i h1.1 (by omega)
    · rw [if_neg h1]; exact c.snd _ (nth_mem hi)
  · obtain ⟨i, hi, rfl⟩ := List.mem_iff_getElem.1 hy
    rw [bump_len] at hi
    rw [← getSp (by rw [bump_len]; exact hi)]
    show (nth _ i).1 ≤ _
    rw [bump_first (by omega)]
    exact (c.fst _ (nth_mem hi)).2
  · rw [bump_val hlen c.up (by rw [c.hd]; exact ht), show a + (b - a) = b by omega, c.at_a, c.at_b, c.val]
    unfold addF
    cases hs : hasB x t with
    | true => rw [if_pos ((in_span hx ht).1 hs)]; rfl
    | false => rw [if_neg (fun h2 => by rw [(in_span hx ht).2 h2] at hs; cases hs)]; rfl
end
theorem add_early {s : List Sp} {x : Sp} {n : Int} (h : ¬ addBad s x n) (hx : x.2 ≤ max x.1 (head s)) : AddIs s x n s := by
  obtain ⟨_, hm, _⟩ := not_addBad h
  have := hm.2.1
  exact add_none h (by omega)
end Go.Proofs.Ytophhiejggnaeaa.StepPlain
namespace Go.Proofs.Ytophhiejggnaeaa.StepPlain
open Go.Proofs.Ytophhiejggnaeaa.SpanPlain
def keyB (t : Int) (l : List By) (x : Int) : Bool := decide (x = t) || l.any fun b => decide (t < b.2.1) && (decide (x = max b.1 t) || decide (x = b.2.1))
theorem key_iff (t : Int) (l : List By) (x : Int) : keyB t l x = true ↔ x = t ∨ ∃ b ∈ l, t < b.2.1 ∧ (x = max b.1 t ∨ x = b.2.1) := by
  unfold keyB
  simp only [Bool.or_eq_true, decide_eq_true_eq, List.any_eq_true, Bool.and_eq_true]
/-- The times at which something turns, rising. -/
structure KeysOf (t : Int) (l : List By) (e : List Int) : Prop where
  rise : Rise e
  mem : ∀ x, x ∈ e ↔ keyB t l x = true
section
variable {p t : Int} {l : List By} {e : List Int}
theorem KeysOf.turns (h : KeysOf t l e) (hl : ∀ b ∈ l, byB b = true) (x : Int) : x ∈ e ↔ x ∈ turnsL t l := by
  rw [h.mem, key_iff]
  unfold turnsL
  rw [List.mem_cons, List.mem_filter, (ends_spec (busySp l)).2.1, decide_eq_true_eq]
  constructor
  · rintro (rfl | ⟨b, hb, h1, h2⟩)
    · exact .inl rfl
    · have hm := (mayB_iff _).1 (by_may (hl b hb))
      have hin : (b.1, b.2.1) ∈ busySp l := List.mem_map.2 ⟨b, hb, rfl⟩
      rcases h2 with rfl | rfl
      · by_cases h3 : b.1 ≤ t
        · exact .inl (by omega)
        · exact .inr ⟨⟨_, hin, hm, .inl (by omega)⟩, by omega⟩
      · exact .inr ⟨⟨_, hin, hm, .inr rfl⟩, h1⟩
  · rintro (rfl | ⟨⟨s, hs, hm, h2⟩, h1⟩)
    · exact .inl rfl
    · obtain ⟨b, hb, rfl⟩ := List.mem_map.1 hs
      have h3 := hm.2.1
      dsimp only at h2 h3
      rcases h2 with rfl | rfl
      · exact .inr ⟨b, hb, by omega, .inl (by omega)⟩
      · exact .inr ⟨b, hb, h1, .inr rfl⟩
theorem KeysOf.eq (h : KeysOf t l e) (hl : ∀ b ∈ l, byB b = true) : e = turnsL t l := by
  have hm := h.turns hl
  have h1 := h.rise
  have h2 := turns_rise t l
  generalize turnsL t l = d at *
  clear h
  induction e generalizing d with
  | nil =>
    cases d with
    | nil => rfl
    | cons y d => have := (hm y).2 (by simp); simp at this
  | cons x e ih =>
    cases d with
    | nil => have := (hm x).1 (by simp); simp at this
    | cons y d =>
      have g1 := List.pairwise_cons.1 h1
      have g2 := List.pairwise_cons.1 h2
      have exy : x = y := by
        rcases List.mem_cons.1 ((hm x).1 (by simp)) with h3 | h3
        · exact h3
        · rcases List.mem_cons.1 ((hm y).2 (by simp)) with h4 | h4
          · exact h4.symm
          · have := g2.1 x h3; have := g1.1 y h4; omega
      subst exy
      congr 1
      refine ih g1.2 d (fun z => ?_) g2.2
      have := hm z
      rw [List.mem_cons, List.mem_cons] at this
      constructor
      · intro hz
        rcases this.1 (.inr hz) with h3 | h3
        · subst h3; have := g1.1 z hz; omega
        · exact h3
      · intro hz
        rcases this.2 (.inr hz) with h3 | h3
        · subst h3; have := g2.1 z hz; omega
        · exact h3
end
end Go.Proofs.Ytophhiejggnaeaa.StepPlain
namespace Go.Proofs.Ytophhiejggnaeaa.GapPlain
open Go.Proofs.Ytophhiejggnaeaa.SpanPlain Go.Proofs.Ytophhiejggnaeaa.StepPlain
def mayG (s : List Sp) (w n : Int) : Bool := chkB s && decide (1 ≤ w) && decide (w ≤ 256) && decide (1 ≤ n) && decide (n ≤ 1099511627776)
theorem mayG_iff {s : List Sp} {w n : Int} : mayG s w n = true ↔ Chk s ∧ (1 ≤ w ∧ w ≤ 256) ∧ 1 ≤ n ∧ n ≤ 1099511627776 := by
  unfold mayG
  simp only [Bool.and_eq_true, decide_eq_true_eq, chk_iff]
  constructor
  · rintro ⟨⟨⟨⟨h1, h2⟩, h3⟩, h4⟩, h5⟩; exact ⟨h1, ⟨h2, h3⟩, h4, h5⟩
  · rintro ⟨h1, ⟨h2, h3⟩, h4, h5⟩; exact ⟨⟨⟨⟨h1, h2⟩, h3⟩, h4⟩, h5⟩
/-- Room from a time on. -/
def Room (s : List Sp) (a w n : Int) : Prop := head s ≤ a ∧ a ≤ 1125899906842624 ∧ ∀ t, a ≤ t → t < a + n → w ≤ val s t
def roomB (s : List Sp) (a w n : Int) : Bool := decide (head s ≤ a) && decide (a ≤ 1125899906842624) && decide (w ≤ minTo s (a, a + n) s.length)
theorem room_iff {s : List Sp} (h : Chk s) {a w n : Int} (hn : 1 ≤ n) : roomB s a w n = true ↔ Room s a w n := by
  unfold roomB Room
  simp only [Bool.and_eq_true, decide_eq_true_eq]
  constructor
  · rintro ⟨⟨h1, h2⟩, h3⟩
    have hm := min_spec h (x := (a, a + n)) (by dsimp only; omega) h1
    exact ⟨h1, h2, fun t a1 a2 => Int.le_trans h3 (hm.2 t a1 a2)⟩
  · rintro ⟨h1, h2, h3⟩
    have hm := min_spec h (x := (a, a + n)) (by dsimp only; omega) h1
    obtain ⟨t, a1, a2, a3⟩ := hm.1
    exact ⟨⟨h1, h2⟩, by rw [← a3]; exact h3 t a1 a2⟩
/-- Room goes back to the step ahead, or to any time behind it. -/
theorem room_back {s : List Sp} (h : Chk s) {f u w n : Int} (hn : 1 ≤ n) (hf : head s ≤ f) (hu : Room s u w n) (hfu : f ≤ u) : ∃ y ∈ s, y.1 ≤ u ∧ Room s (max f y.1) w n := by
  obtain ⟨h1, h2, h3⟩ := hu
  obtain ⟨y, hy, b1, b2, b3⟩ := h.floor (t := u) h1
  refine ⟨y, hy, b1, by omega, by omega, fun t a1 a2 => ?_⟩
  rcases Int.lt_or_le t u with ht | ht
  · have e : val s t = val s u := valFrom_same fun z hz => ⟨fun h4 => by omega, fun h4 => by have := b3 z hz h4; omega⟩
    rw [e]
    exact h3 u (Int.le_refl _) (by omega)
  · exact h3 t ht (by omega)
/-- What Fit tells: the least time not ahead of one from which on there is room. -/
def FitIs (s : List Sp) (f w n r : Int) (b : Bool) : Prop :=
  (b = true ∧ mayG s w n = true ∧ f ≤ r ∧ Room s r w n ∧ ∀ u, f ≤ u → Room s u w n → r ≤ u) ∨ (b = false ∧ r = 0 ∧ (mayG s w n = false ∨ ∀ u, f ≤ u → ¬ Room s u w n))
theorem FitIs.unique {s : List Sp} {f w n r q : Int} {b c : Bool} (x : FitIs s f w n r b) (y : FitIs s f w n q c) : r = q ∧ b = c := by
  rcases x with ⟨rfl, x1, x2, x3, x4⟩ | ⟨rfl, rfl, x1⟩ <;> rcases y with ⟨rfl, y1, y2, y3, y4⟩ | ⟨rfl, rfl, y1⟩
  · have := x4 q y2 y3
    have := y4 r x2 x3
    exact ⟨by omega, rfl⟩
  · rcases y1 with y1 | y1
    · rw [x1] at y1; cases y1
    · exact absurd x3 (y1 r x2)
  · rcases x1 with x1 | x1
    · rw [y1] at x1; cases x1
    · exact absurd y3 (x1 q y2)
  · exact ⟨rfl, rfl⟩
/-- The document's way: the first time, then the steps behind it. -/
def fitStep (s : List Sp) (f w n : Int) : List Sp → Int
  | [] => -1
  | y :: r => if f < y.1 ∧ roomB s y.1 w n = true then y.1 else fitStep s f w n r
def fitL (s : List Sp) (f w n : Int) : Int := if 1125899906842624 < max f (head s) then -1 else if roomB s (max f (head s)) w n = true then max f (head s) else fitStep s (max f (head s)) w n s
theorem fitStep_spec {s : List Sp} {f w n : Int} : ∀ {l : List Sp}, Up l → (∀ y ∈ l, 0 ≤ y.1) → (0 ≤ fitStep s f w n l → ∃ y ∈ l, fitStep s f w n l = y.1 ∧ f < y.1 ∧ roomB s y.1 w n = true ∧ ∀ z ∈ l, f < z.1 → roomB s z.1 w n = true → y.1 ≤ z.1) ∧
    (fitStep s f w n l < 0 → ∀ z ∈ l, f < z.1 → roomB s z.1 w n = false) := by
  intro l
  induction l with
  | nil => intro _ _; exact ⟨fun h => by simp [fitStep] at h, fun _ z hz => by simp at hz⟩
  | cons y r ih =>
    intro hu h0
    have hu' := List.pairwise_cons.1 hu
    have ih := ih hu'.2 (fun z hz => h0 z (by simp [hz]))
    unfold fitStep
    by_cases hc : f < y.1 ∧ roomB s y.1 w n = true
    · rw [if_pos hc]
      refine ⟨fun _ => ⟨y, by simp, rfl, hc.1, hc.2, fun z hz _ _ => ?_⟩, fun h => ?_⟩
      · rcases List.mem_cons.1 hz with rfl | hz
        · exact Int.le_refl _
        · have := hu'.1 z hz; omega
      · have := h0 y (by simp); omega
    · rw [if_neg hc]
      refine ⟨fun h => ?_, fun h z hz hf => ?_⟩
      · obtain ⟨v, hv, e1, e2, e3, e4⟩ := ih.1 h
        refine ⟨v, by simp [hv], e1, e2, e3, fun z hz hf hr => ?_⟩
        rcases List.mem_cons.1 hz with rfl | hz
        · exact absurd ⟨hf, hr⟩ hc
        · exact e4 z hz hf hr
      · rcases List.mem_cons.1 hz with rfl | hz
        · cases hb : roomB s z.1 w n with
          | false => rfl
          | true => exact absurd ⟨hf, hb⟩ hc
        · exact ih.2 h z hz hf
theorem fit_spec {s : List Sp} {f w n : Int} (h : mayG s w n = true) : (0 ≤ fitL s f w n → FitIs s f w n (fitL s f w n) true) ∧ (fitL s f w n < 0 → FitIs s f w n 0 false) := by
  obtain ⟨hc, _, hn, _⟩ := mayG_iff.1 h
  have hlo := hc.lo
  have hge := hc.ge
  have hmin : ∀ u, f ≤ u → Room s u w n → max f (head s) ≤ u := fun u h1 h2 => by have := h2.1; omega
  unfold fitL
  by_cases h1 : 1125899906842624 < max f (head s)
  · rw [if_pos h1]
    exact ⟨fun h => by omega, fun _ => .inr ⟨rfl, rfl, .inr fun u hu hr => by have := hmin u hu hr; have := hr.2.1; omega⟩⟩
  · rw [if_neg h1]
    by_cases h2 : roomB s (max f (head s)) w n = true
    · rw [if_pos h2]
      exact ⟨fun _ => .inl ⟨rfl, h, by omega, (room_iff hc hn).1 h2, hmin⟩, fun h3 => by omega⟩
    · rw [if_neg h2]
      have hsp := fitStep_spec (s := s) (f := max f (head s)) (w := w) (n := n) hc.up (fun y hy => by have := hge y hy; omega)
      have hback : ∀ u, f ≤ u → Room s u w n → ∃ y ∈ s, max f (head s) < y.1 ∧ y.1 ≤ u ∧ roomB s y.1 w n = true := fun u h3 h4 => by
        obtain ⟨y, hy, b1, b2⟩ := room_back hc hn (f := max f (head s)) (Int.le_max_right _ _) h4 (hmin u h3 h4)
        rcases Int.lt_or_le (max f (head s)) y.1 with h5 | h5
        · rw [Int.max_eq_right (by omega)] at b2
          exact ⟨y, hy, h5, b1, (room_iff hc hn).2 b2⟩
        · rw [Int.max_eq_left h5] at b2
          exact absurd ((room_iff hc hn).2 b2) h2
      refine ⟨fun h3 => ?_, fun h3 => ?_⟩
      · obtain ⟨y, hy, e1, e2, e3, e4⟩ := hsp.1 h3
        rw [e1]
        refine .inl ⟨rfl, h, Int.le_trans (Int.le_max_left _ _) (Int.le_of_lt e2), (room_iff hc hn).1 e3, fun u h5 h6 => ?_⟩
        obtain ⟨z, hz, b1, b2, b3⟩ := hback u h5 h6
        exact Int.le_trans (e4 z hz b1 b3) b2
      · refine .inr ⟨rfl, rfl, .inr fun u h5 h6 => ?_⟩
        obtain ⟨z, hz, b1, b2, b3⟩ := hback u h5 h6
        rw [hsp.2 h3 z hz b1] at b3
        cases b3
/-- What Ok tells. -/
def okG (s : List Sp) (a w n : Int) : Bool := mayG s w n && roomB s a w n
theorem okG_iff {s : List Sp} {a w n : Int} : okG s a w n = true ↔ mayG s w n = true ∧ Room s a w n := by
  unfold okG
  rw [Bool.and_eq_true]
  constructor
  · rintro ⟨h1, h2⟩
    obtain ⟨hc, _, hn, _⟩ := mayG_iff.1 h1
    exact ⟨h1, (room_iff hc hn).1 h2⟩
  · rintro ⟨h1, h2⟩
    obtain ⟨hc, _, hn, _⟩ := mayG_iff.1 h1
    exact ⟨h1, (room_iff hc hn).2 h2⟩
theorem FitIs.no {s : List Sp} {f w n r : Int} (h : FitIs s f w n r true) (hf : f < r) : GapPlain.okG s (r - 1) w n = false := by
  rcases h with ⟨_, h1, _, _, h2⟩ | ⟨h, _⟩
  · cases hb : GapPlain.okG s (r - 1) w n with
    | false => rfl
    | true => have := h2 (r - 1) (by omega) (okG_iff.1 hb).2; omega
  · cases h
/-- Is a width free at a time? -/
def inG (s : List Sp) (w t : Int) : Bool := decide (head s ≤ t) && decide (t < 4503599627370496) && decide (w ≤ val s t)
theorem inG_iff {s : List Sp} {w t : Int} : inG s w t = true ↔ head s ≤ t ∧ t < 4503599627370496 ∧ w ≤ val s t := by
  unfold inG
  simp only [Bool.and_eq_true, decide_eq_true_eq, and_assoc]
/-- The cover of all such times. -/
def AllIs (s : List Sp) (w : Int) (c : List Sp) : Prop := Cov c ∧ ∀ t, anyB c t = inG s w t
def gapSp (s : List Sp) (w : Int) (i : Nat) : List Sp := if w ≤ (nth s i).2 then [((nth s i).1, if i + 1 < s.length then (nth s (i + 1)).1 else 4503599627370496)] else []
def gapsTo (s : List Sp) (w : Int) (k : Nat) : List Sp := (List.range k).flatMap (gapSp s w)
theorem gaps_next (s : List Sp) (w : Int) (k : Nat) : gapsTo s w (k + 1) = gapsTo s w k ++ gapSp s w k := by unfold gapsTo; rw [List.range_succ, List.flatMap_append]; simp
theorem gaps_len (s : List Sp) (w : Int) (k : Nat) : (gapsTo s w k).length ≤ k := by
  induction k with
  | zero => simp [gapsTo]
  | succ k ih =>
    rw [gaps_next, List.length_append]
    have : (gapSp s w k).length ≤ 1 := by unfold gapSp; split <;> simp
    omega
theorem gaps_all {s : List Sp} (h : Chk s) (w t : Int) : anyB (gapsTo s w s.length) t = inG s w t := by
  apply bool_ext
  rw [any_iff, inG_iff]
  constructor
  · rintro ⟨x, hx, hm, h1, h2⟩
    unfold gapsTo at hx
    rw [List.mem_flatMap] at hx
    obtain ⟨i, hi, hx⟩ := hx
    rw [List.mem_range] at hi
    unfold gapSp at hx
    split at hx
    · rename_i hw
      rw [List.mem_singleton] at hx
      subst hx
      dsimp only at h1 h2
      have hl : LastIs s t i := ⟨hi, h1, fun j h3 h4 => by
        rw [if_pos (by omega)] at h2
        have := h.up.le (i := i + 1) (j := j) (by omega) h4
        omega⟩
      refine ⟨by have := h.ge _ (nth_mem hi); omega, ?_, by rw [hl.val]; exact hw⟩
      split at h2
      · rename_i h5
        have := h.top _ (nth_mem h5)
        omega
      · exact h2
    · simp at hx
  · rintro ⟨h1, h2, h3⟩
    obtain ⟨k, hk⟩ := h.up.last h.pos h1
    rw [hk.val] at h3
    have hx : ((nth s k).1, if k + 1 < s.length then (nth s (k + 1)).1 else 4503599627370496) ∈ gapsTo s w s.length := by
      unfold gapsTo
      rw [List.mem_flatMap]
      refine ⟨k, List.mem_range.2 hk.lt, ?_⟩
      unfold gapSp
      rw [if_pos h3]
      simp
    have hto : t < (if k + 1 < s.length then (nth s (k + 1)).1 else 4503599627370496) := by
      split
      · rename_i h5; exact hk.late (k + 1) (by omega) h5
      · exact h2
    have htop : (if k + 1 < s.length then (nth s (k + 1)).1 else 4503599627370496) ≤ 4503599627370496 := by
      split
      · rename_i h5; exact h.top _ (nth_mem h5)
      · exact Int.le_refl _
    have hle := hk.le
    have hlo := h.lo
    have hge := h.ge _ (nth_mem hk.lt)
    exact ⟨_, hx, ⟨by dsimp only; omega, by dsimp only; omega, htop⟩, hle, hto⟩
theorem all_of_less {s c : List Sp} (h : Chk s) {w : Int} (hl : LessOf (gapsTo s w s.length) [] c) : AllIs s w c := ⟨hl.1, fun t => by rw [hl.2, gaps_all h]; simp [any_nil]⟩
/-- What All tells. -/
def AllSays (s : List Sp) (w : Int) (c : List Sp) : Prop := (mayG s w 1 = true ∧ AllIs s w c) ∨ (mayG s w 1 = false ∧ c = [])
theorem cov_after {c : List Sp} (hc : Cov c) {x : Sp} (hx : x ∈ c) : anyB c x.2 = false := by
  cases hb : anyB c x.2 with
  | false => rfl
  | true =>
    obtain ⟨y, hy, hm, h1, h2⟩ := any_iff.1 hb
    obtain ⟨i, hi, rfl⟩ := List.mem_iff_getElem.1 hx
    obtain ⟨j, hj, rfl⟩ := List.mem_iff_getElem.1 hy
    have hmx := hc.1 _ (List.getElem_mem hi)
    have h3 := hmx.2.1
    rcases Nat.lt_trichotomy i j with h4 | h4 | h4
    · have := List.pairwise_iff_getElem.1 hc.2 i j hi hj h4; omega
    · subst h4; omega
    · have := List.pairwise_iff_getElem.1 hc.2 j i hj hi h4; omega
/-- The least that is free. -/
def WideIs (s : List Sp) (a n m : Int) : Prop := (mayG s 1 n = true ∧ head s ≤ a ∧ a ≤ 1125899906842624 ∧ MinOf s (a, a + n) m) ∨ ((mayG s 1 n = false ∨ a < head s ∨ 1125899906842624 < a) ∧ m = 0)
end Go.Proofs.Ytophhiejggnaeaa.GapPlain
namespace Go.Proofs.Ytophhiejggnaeaa.GapPlain
open Go.RowKit Go.Proofs.Ytophhiejggnaeaa.SpanPlain Go.Proofs.Ytophhiejggnaeaa.StepPlain
theorem may_one {s : List Sp} {w n : Int} (h : mayG s w n = true) : mayG s w 1 = true := by
  obtain ⟨h1, h2, _⟩ := mayG_iff.1 h
  exact mayG_iff.2 ⟨h1, h2, by omega, by omega⟩
theorem may_long {s : List Sp} {w n : Int} (h : mayG s w 1 = true) (h1 : 1 ≤ n) (h2 : n ≤ 1099511627776) : mayG s w n = true := by
  obtain ⟨a1, a2, _⟩ := mayG_iff.1 h
  exact mayG_iff.2 ⟨a1, a2, h1, h2⟩
theorem cov_nth {c : List Sp} (hc : Cov c) {i j : Nat} (h : i < j) (hj : j < c.length) : (nth c i).2 < (nth c j).1 := by
  unfold nth
  rw [getSp hj, getSp (Nat.lt_trans h hj)]
  exact List.pairwise_iff_getElem.1 hc.2 i j (Nat.lt_trans h hj) hj h
theorem cov_may {c : List Sp} (hc : Cov c) {i : Nat} (h : i < c.length) : May (nth c i) := hc.1 _ (nth_mem h)
theorem room_cov {s c : List Sp} {m : Int} (ha : AllIs s m c) {n : Int} (hn : 1 ≤ n) (hn2 : n ≤ 1099511627776) {u : Int} : Room s u m n ↔ u ≤ 1125899906842624 ∧ ∃ j, j < c.length ∧ (nth c j).1 ≤ u ∧ u + n ≤ (nth c j).2 := by
  constructor
  · rintro ⟨h1, h2, h3⟩
    have hin : ∀ t, u ≤ t → t < u + n → anyB c t = true := fun t a1 a2 => by
      rw [ha.2]
      exact inG_iff.2 ⟨by omega, by omega, h3 t a1 a2⟩
    obtain ⟨x, hx, hm, b1, b2⟩ := any_iff.1 (hin u (Int.le_refl _) (by omega))
    obtain ⟨j, hj, rfl⟩ := List.mem_iff_getElem.1 hx
    refine ⟨h2, j, hj, by unfold nth; rw [getSp hj]; exact b1, ?_⟩
    unfold nth
    rw [getSp hj]
    rcases Int.lt_or_le c[j].2 (u + n) with h4 | h4
    · have h5 := hin c[j].2 (by omega) h4
      rw [cov_after ha.1 hx] at h5
      cases h5
    · exact h4
  · rintro ⟨h2, j, hj, h3, h4⟩
    have hin : ∀ t, u ≤ t → t < u + n → inG s m t = true := fun t a1 a2 => by
      rw [← ha.2]
      exact any_iff.2 ⟨nth c j, nth_mem hj, cov_may ha.1 hj, by omega, by omega⟩
    refine ⟨(inG_iff.1 (hin u (Int.le_refl _) (by omega))).1, h2, fun t a1 a2 => (inG_iff.1 (hin t a1 a2)).2.2⟩
/-- None of the first k spans has room. -/
def NoFit (c : List Sp) (f n : Int) (k : Nat) : Prop := ∀ j, j < k → j < c.length → ∀ u, f ≤ u → u ≤ 1125899906842624 → (nth c j).1 ≤ u → ¬ u + n ≤ (nth c j).2
theorem fit_start (c : List Sp) (f n : Int) : NoFit c f n 0 := fun j hj => absurd hj (Nat.not_lt_zero _)
theorem fit_found {s c : List Sp} {f m n : Int} (hm : mayG s m n = true) (ha : AllIs s m c) {k : Nat} (hk : k < c.length) (hf : NoFit c f n k) (h1 : max f (nth c k).1 ≤ 1125899906842624) (h2 : n ≤ (nth c k).2 - max f (nth c k).1) : FitIs s f m n (max f (nth c k).1) true := by
  obtain ⟨_, _, a1, a2⟩ := mayG_iff.1 hm
  refine .inl ⟨rfl, hm, Int.le_max_left _ _, (room_cov ha a1 a2).2 ⟨h1, k, hk, Int.le_max_right _ _, by omega⟩, fun u hu hr => ?_⟩
  obtain ⟨b1, j, hj, b2, b3⟩ := (room_cov ha a1 a2).1 hr
  rcases Nat.lt_trichotomy j k with h | h | h
  · exact absurd b3 (hf j h hj u hu b1 b2)
  · subst h; omega
  · have := cov_nth ha.1 h hj
    omega
theorem fit_none {s c : List Sp} {f m n : Int} (hm : mayG s m n = true) (ha : AllIs s m c) (h : ∀ j, j < c.length → ∀ u, f ≤ u → u ≤ 1125899906842624 → (nth c j).1 ≤ u → ¬ u + n ≤ (nth c j).2) : FitIs s f m n 0 false := by
  obtain ⟨_, _, a1, a2⟩ := mayG_iff.1 hm
  refine .inr ⟨rfl, rfl, .inr fun u hu hr => ?_⟩
  obtain ⟨b1, j, hj, b2, b3⟩ := (room_cov ha a1 a2).1 hr
  exact h j hj u hu b1 b2 b3
theorem fit_break {s c : List Sp} {f m n : Int} (hm : mayG s m n = true) (ha : AllIs s m c) {k : Nat} (hk : k < c.length) (hf : NoFit c f n k) (h1 : 1125899906842624 < max f (nth c k).1) : FitIs s f m n 0 false := by
  refine fit_none hm ha fun j hj u hu b1 b2 b3 => ?_
  rcases Nat.lt_trichotomy j k with h | h | h
  · exact hf j h hj u hu b1 b2 b3
  · subst h; omega
  · have h3 := cov_nth ha.1 h hj
    have := (cov_may ha.1 hk).2.1
    omega
theorem fit_next {c : List Sp} {f n : Int} {k : Nat} (hf : NoFit c f n k) (h2 : ¬ n ≤ (nth c k).2 - max f (nth c k).1) : NoFit c f n (k + 1) := fun j hj hl u hu b1 b2 b3 => by
  rcases Nat.lt_or_ge j k with h | h
  · exact hf j h hl u hu b1 b2 b3
  · obtain rfl : j = k := by omega
    omega
theorem fit_done {s c : List Sp} {f m n : Int} (h1 : 1 ≤ n) (h2 : n ≤ 1099511627776) (ha : AllSays s m c) {k : Nat} (hk : c.length ≤ k) (hf : NoFit c f n k) : FitIs s f m n 0 false := by
  rcases ha with ⟨hm, ha⟩ | ⟨hm, _⟩
  · exact fit_none (may_long hm h1 h2) ha fun j hj => hf j (by omega) hj
  · refine .inr ⟨rfl, rfl, .inl ?_⟩
    cases hb : mayG s m n with
    | false => rfl
    | true => rw [may_one hb] at hm; cases hm
theorem says_is {s c : List Sp} {m : Int} (ha : AllSays s m c) {k : Nat} (hk : k < c.length) : mayG s m 1 = true ∧ AllIs s m c := by
  rcases ha with h | ⟨_, rfl⟩
  · exact h
  · simp at hk
theorem fit_short (s : List Sp) (f m n : Int) (h : ¬ (1 ≤ n ∧ n ≤ 1099511627776)) : FitIs s f m n 0 false := by
  refine .inr ⟨rfl, rfl, .inl ?_⟩
  cases hb : mayG s m n with
  | false => rfl
  | true => exact absurd (mayG_iff.1 hb).2.2 h
/-- The way of one round of Fit. -/
theorem fit_ways2 (s c : List Sp) (f m n : Int) (h1 : 1 ≤ n) (h2 : n ≤ 1099511627776) (ha : AllSays s m c) {k : Nat} (hk : k < c.length) (hf : NoFit c f n k) :
    (decide ((1125899906842624 : Int) < max f (nth c k).1) = true ∧ Hid (FitIs s f m n 0 false)) ∨
    (decide ((1125899906842624 : Int) < max f (nth c k).1) = false ∧ IntKind.i64.wrap ((nth c k).2 - max f (nth c k).1) = (nth c k).2 - max f (nth c k).1 ∧ decide (n ≤ (nth c k).2 - max f (nth c k).1) = true ∧ Hid (FitIs s f m n (max f (nth c k).1) true)) ∨
     (decide ((1125899906842624 : Int) < max f (nth c k).1) = false ∧ IntKind.i64.wrap ((nth c k).2 - max f (nth c k).1) = (nth c k).2 - max f (nth c k).1 ∧ decide (n ≤ (nth c k).2 - max f (nth c k).1) = false ∧ Hid (NoFit c f n (k + 1))) := by
  obtain ⟨hm, ha⟩ := says_is ha hk
  have hm := may_long hm h1 h2
  have hmay := cov_may ha.1 hk
  obtain ⟨m1, m2, m3⟩ := hmay
  by_cases h3 : 1125899906842624 < max f (nth c k).1
  · exact .inl ⟨decide_eq_true h3, fit_break hm ha hk hf h3⟩
  · have hw : IntKind.i64.wrap ((nth c k).2 - max f (nth c k).1) = (nth c k).2 - max f (nth c k).1 := by rw [IntKind.wrap_i64]; omega
    by_cases h4 : n ≤ (nth c k).2 - max f (nth c k).1
    · exact .inr (.inl ⟨decide_eq_false h3, hw, decide_eq_true h4, fit_found hm ha hk hf (by omega) h4⟩)
    · exact .inr (.inr ⟨decide_eq_false h3, hw, decide_eq_false h4, fit_next hf h4⟩)
/-- Ok by Widest. -/
theorem ok_wide {s : List Sp} {a m n k : Int} (h : WideIs s a n k) (h1 : 1 ≤ m) (h2 : m ≤ 256) : okG s a m n = decide (m ≤ k) := by
  rcases h with ⟨b1, b2, b3, b4⟩ | ⟨b1, rfl⟩
  · obtain ⟨c1, _, c3, c4⟩ := mayG_iff.1 b1
    have e : k = minTo s (a, a + n) s.length := b4.unique (min_spec c1 (by dsimp only; omega) b2)
    unfold okG roomB
    rw [mayG_iff.2 ⟨c1, ⟨h1, h2⟩, c3, c4⟩, decide_eq_true b2, decide_eq_true b3, e]
    rfl
  · rw [decide_eq_false (by omega)]
    unfold okG roomB
    rcases b1 with b1 | b1 | b1
    · cases hb : mayG s m n with
      | false => rfl
      | true =>
        obtain ⟨c1, _, c3, c4⟩ := mayG_iff.1 hb
        rw [mayG_iff.2 ⟨c1, ⟨by omega, by omega⟩, c3, c4⟩] at b1
        cases b1
    · rw [decide_eq_false (by omega)]; simp
    · rw [decide_eq_false (show ¬ a ≤ 1125899906842624 by omega)]; simp
theorem ok_not {s : List Sp} {a m n : Int} (h : ¬ (1 ≤ m ∧ m ≤ 256)) : okG s a m n = false := by
  cases hb : okG s a m n with
  | false => rfl
  | true => exact absurd (mayG_iff.1 (okG_iff.1 hb).1).2.1 h
/-- Widest by the least within a span. -/
theorem wide_no {s : List Sp} {a n : Int} (h : ¬ (1 ≤ n ∧ n ≤ 1099511627776) ∨ 1125899906842624 < a) : WideIs s a n 0 := by
  refine .inr ⟨?_, rfl⟩
  rcases h with h | h
  · refine .inl ?_
    cases hb : mayG s 1 n with
    | false => rfl
    | true => exact absurd (mayG_iff.1 hb).2.2 h
  · exact .inr (.inr h)
theorem wide_yes {s : List Sp} {a n b k : Int} (hn : 1 ≤ n ∧ n ≤ 1099511627776) (ha : a ≤ 1125899906842624) (hb : 0 ≤ a → b = a + n) (h : ((chkB s && mayB (a, b) && decide (head s ≤ a)) = true ∧ MinOf s (a, b) k) ∨ ((chkB s && mayB (a, b) && decide (head s ≤ a)) = false ∧ k = 0)) : WideIs s a n k := by
  rcases h with ⟨h1, h2⟩ | ⟨h1, rfl⟩
  · rw [Bool.and_eq_true, Bool.and_eq_true, decide_eq_true_eq] at h1
    obtain ⟨⟨c1, c2⟩, c3⟩ := h1
    have c4 := ((mayB_iff _).1 c2).1
    dsimp only at c4
    rw [hb c4] at h2
    exact .inl ⟨mayG_iff.2 ⟨(chk_iff s).1 c1, by omega, hn.1, hn.2⟩, c3, ha, h2⟩
  · refine .inr ⟨?_, rfl⟩
    cases hc : chkB s with
    | false =>
      refine .inl ?_
      cases hb : mayG s 1 n with
      | false => rfl
      | true => rw [(chk_iff s).2 (mayG_iff.1 hb).1] at hc; cases hc
    | true =>
      rcases Int.lt_or_le a (head s) with h3 | h3
      · exact .inr (.inl h3)
      · have h4 := ((chk_iff s).1 hc).lo
        rw [hc, decide_eq_true h3, (mayB_iff _).2 ⟨by dsimp only; omega, by dsimp only; rw [hb (by omega)]; omega, by dsimp only; rw [hb (by omega)]; omega⟩] at h1
        cases h1
end Go.Proofs.Ytophhiejggnaeaa.GapPlain
