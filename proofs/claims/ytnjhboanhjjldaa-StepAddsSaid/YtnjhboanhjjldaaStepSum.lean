/-
  The plain mathematics of layer 4's landed code: by how many more are free at each time than ahead of it, and what they come to together.
-/
import Derived.Test.YtnjhboanhjjldaaStepTell
namespace Go.Proofs.Ytnjhboanhjjldaa.StepPlain
open Go.Proofs.Ytnjhboanhjjldaa.SpanPlain

/-- Together. -/
def tot (f : Int → Int) : List Int → Int
  | [] => 0
  | x :: e => f x + tot f e
theorem tot_add (f g : Int → Int) : ∀ e, tot (fun x => f x + g x) e = tot f e + tot g e
  | [] => rfl
  | x :: e => by show f x + g x + _ = f x + _ + (g x + _); rw [tot_add f g e]; omega
theorem tot_congr {f g : Int → Int} : ∀ {e : List Int}, (∀ x ∈ e, f x = g x) → tot f e = tot g e
  | [], _ => rfl
  | x :: e, h => by show f x + _ = g x + _; rw [h x (by simp), tot_congr (e := e) fun y hy => h y (by simp [hy])]
theorem tot_append (f : Int → Int) : ∀ e d, tot f (e ++ d) = tot f e + tot f d
  | [], d => by show tot f d = 0 + _; omega
  | x :: e, d => by show f x + tot f (e ++ d) = f x + _ + _; rw [tot_append f e d]; omega
def pt (a c x : Int) : Int := if x = a then c else 0
theorem tot_pt_not {a c : Int} : ∀ {e : List Int}, a ∉ e → tot (pt a c) e = 0
  | [], _ => rfl
  | x :: e, h => by
    show pt a c x + _ = 0
    rw [tot_pt_not (e := e) (fun h1 => h (by simp [h1]))]
    unfold pt
    rw [if_neg (fun h1 => h (by simp [h1]))]
    rfl
theorem tot_pt {a c : Int} : ∀ {e : List Int}, e.Nodup → a ∈ e → tot (pt a c) e = c
  | [], _, h => by simp at h
  | x :: e, hn, h => by
    show pt a c x + _ = c
    have hn' := List.nodup_cons.1 hn
    by_cases hx : a = x
    · subst hx
      rw [tot_pt_not hn'.1]
      unfold pt
      rw [if_pos rfl]; omega
    · rw [tot_pt hn'.2 ((List.mem_cons.1 h).resolve_left hx)]
      unfold pt
      rw [if_neg (fun h1 => hx h1.symm)]; omega
/-- By how many more are free, at a time, for one busy time's sake. -/
def turn1 (t : Int) (b : By) (x : Int) : Int := if t < b.2.1 then pt (max b.1 t) (-b.2.2) x + pt b.2.1 b.2.2 x else 0
def turnF (p t : Int) (l : List By) (x : Int) : Int := l.foldl (fun n b => n + turn1 t b x) (pt t p x)
theorem turn_snoc (p t : Int) (l : List By) (b : By) (x : Int) : turnF p t (l ++ [b]) x = turnF p t l x + turn1 t b x := by unfold turnF; rw [List.foldl_append]; rfl
def keyB (t : Int) (l : List By) (x : Int) : Bool := decide (x = t) || l.any fun b => decide (t < b.2.1) && (decide (x = max b.1 t) || decide (x = b.2.1))
theorem key_snoc (t : Int) (l : List By) (b : By) (x : Int) : keyB t (l ++ [b]) x = (keyB t l x || (decide (t < b.2.1) && (decide (x = max b.1 t) || decide (x = b.2.1)))) := by
  unfold keyB; rw [List.any_append, Bool.or_assoc]; simp
theorem key_iff (t : Int) (l : List By) (x : Int) : keyB t l x = true ↔ x = t ∨ ∃ b ∈ l, t < b.2.1 ∧ (x = max b.1 t ∨ x = b.2.1) := by
  unfold keyB
  simp only [Bool.or_eq_true, decide_eq_true_eq, List.any_eq_true, Bool.and_eq_true]
/-- Up to a time they come to what is free there. -/
theorem tot_free {p t : Int} (e : List Int) (hn : e.Nodup) (u : Int) (hu : t ≤ u) : ∀ l : List By, (∀ b ∈ l, b.1 < b.2.1) → (∀ x, keyB t l x = true → x ∈ e) → tot (turnF p t l) (e.filter fun x => decide (x ≤ u)) = freeL p l u := by
  have hnf : (e.filter fun x => decide (x ≤ u)).Nodup := hn.sublist List.filter_sublist
  have hin : ∀ x, x ∈ e → x ≤ u → x ∈ e.filter fun x => decide (x ≤ u) := fun x h1 h2 => List.mem_filter.2 ⟨h1, decide_eq_true h2⟩
  have hout : ∀ x, u < x → x ∉ e.filter fun x => decide (x ≤ u) := fun x h1 h2 => by have := of_decide_eq_true (List.mem_filter.1 h2).2; omega
  generalize e.filter (fun x => decide (x ≤ u)) = d at *
  refine Util.snoc_ind (fun _ hk => ?_) fun l b ih hl hk => ?_
  · have e1 : turnF p t [] = pt t p := rfl
    rw [e1, tot_pt hnf (hin t (hk t ((key_iff t [] t).2 (.inl rfl))) hu)]
    rfl
  · have e1 : turnF p t (l ++ [b]) = fun x => turnF p t l x + turn1 t b x := funext fun x => turn_snoc p t l b x
    rw [e1, tot_add, ih (fun c hc => hl c (by simp [hc])) (fun x hx => hk x (by rw [key_snoc, hx]; rfl)), free_snoc]
    have hb := hl b (by simp)
    by_cases h1 : t < b.2.1
    · have e2 : turn1 t b = fun x => pt (max b.1 t) (-b.2.2) x + pt b.2.1 b.2.2 x := funext fun x => if_pos h1
      have k1 : max b.1 t ∈ e := hk _ ((key_iff _ _ _).2 (.inr ⟨b, by simp, h1, .inl rfl⟩))
      have k2 : b.2.1 ∈ e := hk _ ((key_iff _ _ _).2 (.inr ⟨b, by simp, h1, .inr rfl⟩))
      rw [e2, tot_add]
      by_cases h2 : b.1 ≤ u
      · rw [tot_pt hnf (hin _ k1 (by omega))]
        by_cases h3 : u < b.2.1
        · rw [tot_pt_not (hout _ h3), if_pos ⟨h2, h3⟩]; omega
        · rw [tot_pt hnf (hin _ k2 (by omega)), if_neg (by omega)]; omega
      · rw [tot_pt_not (hout _ (by omega)), tot_pt_not (hout _ (by omega)), if_neg (by omega)]; omega
    · have e2 : turn1 t b = fun _ => 0 := funext fun x => if_neg h1
      have e3 : ∀ d : List Int, tot (fun _ => 0) d = 0 := fun d => by
        induction d with
        | nil => rfl
        | cons x d ih => show 0 + _ = 0; rw [ih]; rfl
      rw [e2, e3, if_neg (by omega)]; omega
/-- The first of rising times are those up to one. -/
theorem take_filter {e : List Int} (hr : Rise e) {k : Nat} (hk : k < e.length) : e.take (k + 1) = e.filter fun x => decide (x ≤ e.getD k 0) := by
  have hg := getD_el hk
  have h1 : ∀ x ∈ e.take (k + 1), x ≤ e.getD k 0 := by
    intro x hx
    obtain ⟨i, hi, rfl⟩ := List.mem_iff_getElem.1 hx
    rw [List.length_take] at hi
    have := hr.le (i := i) (j := k) (by omega) hk
    rw [getD_el (by omega)] at this
    rw [List.getElem_take]
    exact this
  have h2 : ∀ x ∈ e.drop (k + 1), e.getD k 0 < x := by
    intro x hx
    obtain ⟨i, hi, rfl⟩ := List.mem_iff_getElem.1 hx
    rw [List.length_drop] at hi
    have := List.pairwise_iff_getElem.1 hr k (k + 1 + i) hk (by omega) (by omega)
    rw [List.getElem_drop, hg]
    exact this
  generalize e.getD k 0 = g at *
  conv => rhs; rw [← List.take_append_drop (k + 1) e]
  rw [List.filter_append, List.filter_eq_self.2 (fun x hx => decide_eq_true (h1 x hx)), List.filter_eq_nil_iff.2 (fun x hx => by have := h2 x hx; rw [decide_eq_true_eq]; omega), List.append_nil]
/-- The times at which something turns, rising. -/
structure KeysOf (t : Int) (l : List By) (e : List Int) : Prop where
  rise : Rise e
  mem : ∀ x, x ∈ e ↔ keyB t l x = true
section
variable {p t : Int} {l : List By} {e : List Int}
theorem KeysOf.turns (h : KeysOf t l e) (hl : ∀ b ∈ l, byB b = true) (x : Int) : x ∈ e ↔ x ∈ turnsL t l := by
  rw [h.mem, key_iff]
  unfold turnsL
  rw [List.mem_cons, List.mem_filter, (ends_spec (busySp l)).2.1, decide_eq_true_eq]
  constructor
  · rintro (rfl | ⟨b, hb, h1, h2⟩)
    · exact .inl rfl
    · have hm := (mayB_iff _).1 (by_may (hl b hb))
      have hin : (b.1, b.2.1) ∈ busySp l := List.mem_map.2 ⟨b, hb, rfl⟩
      rcases h2 with rfl | rfl
      · by_cases h3 : b.1 ≤ t
        · exact .inl (by omega)
        · exact .inr ⟨⟨_, hin, hm, .inl (by omega)⟩, by omega⟩
      · exact .inr ⟨⟨_, hin, hm, .inr rfl⟩, h1⟩
  · rintro (rfl | ⟨⟨s, hs, hm, h2⟩, h1⟩)
    · exact .inl rfl
    · obtain ⟨b, hb, rfl⟩ := List.mem_map.1 hs
      have h3 := hm.2.1
      dsimp only at h2 h3
      rcases h2 with rfl | rfl
      · exact .inr ⟨b, hb, by omega, .inl (by omega)⟩
      · exact .inr ⟨b, hb, h1, .inr rfl⟩
theorem KeysOf.eq (h : KeysOf t l e) (hl : ∀ b ∈ l, byB b = true) : e = turnsL t l := by
  have hm := h.turns hl
  have h1 := h.rise
  have h2 := turns_rise t l
  generalize turnsL t l = d at *
  clear h
  induction e generalizing d with
  | nil =>
    cases d with
    | nil => rfl
    | cons y d => have := (hm y).2 (by simp); simp at this
  | cons x e ih =>
    cases d with
    | nil => have := (hm x).1 (by simp); simp at this
    | cons y d =>
      have g1 := List.pairwise_cons.1 h1
      have g2 := List.pairwise_cons.1 h2
      have exy : x = y := by
        rcases List.mem_cons.1 ((hm x).1 (by simp)) with h3 | h3
        · exact h3
        · rcases List.mem_cons.1 ((hm y).2 (by simp)) with h4 | h4
          · exact h4.symm
          · have := g2.1 x h3; have := g1.1 y h4; omega
      subst exy
      congr 1
      refine ih g1.2 d (fun z => ?_) g2.2
      have := hm z
      rw [List.mem_cons, List.mem_cons] at this
      constructor
      · intro hz
        rcases this.1 (.inr hz) with h3 | h3
        · subst h3; have := g1.1 z hz; omega
        · exact h3
      · intro hz
        rcases this.2 (.inr hz) with h3 | h3
        · subst h3; have := g2.1 z hz; omega
        · exact h3
/-- The first of them together are what is free at the last of them. -/
theorem tot_take (hl : ∀ b ∈ l, byB b = true) {k : Nat} (hk : k < (turnsL t l).length) : tot (turnF p t l) ((turnsL t l).take (k + 1)) = freeL p l ((turnsL t l).getD k 0) := by
  have hr := turns_rise t l
  rw [take_filter hr hk]
  refine tot_free _ (hr.imp fun h => by omega) _ (turns_ge _ (getD_mem hk)) l (fun b hb => ((mayB_iff _).1 (by_may (hl b hb))).2.1) fun x hx => ?_
  have hkeys : x = t ∨ _ := (key_iff t l x).1 hx
  -- each key is a turn
  rcases hkeys with rfl | ⟨b, hb, h1, h2⟩
  · exact List.mem_cons_self
  · have hm := (mayB_iff _).1 (by_may (hl b hb))
    have hin : (b.1, b.2.1) ∈ busySp l := List.mem_map.2 ⟨b, hb, rfl⟩
    have he := (ends_spec (busySp l)).2.1
    rcases h2 with rfl | rfl
    · by_cases h3 : b.1 ≤ t
      · rw [show max b.1 t = t by omega]; exact List.mem_cons_self
      · rw [show max b.1 t = b.1 by omega]
        exact List.mem_cons.2 (.inr (List.mem_filter.2 ⟨(he _).2 ⟨_, hin, hm, .inl rfl⟩, decide_eq_true (by omega)⟩))
    · exact List.mem_cons.2 (.inr (List.mem_filter.2 ⟨(he _).2 ⟨_, hin, hm, .inr rfl⟩, decide_eq_true h1⟩))
theorem tot_next (hl : ∀ b ∈ l, byB b = true) {k : Nat} (hk : k < (turnsL t l).length) : tot (turnF p t l) ((turnsL t l).take k) + turnF p t l ((turnsL t l).getD k 0) = freeL p l ((turnsL t l).getD k 0) := by
  rw [← tot_take hl hk, List.take_succ_eq_append_getElem hk, tot_append, getD_el hk]
  show _ = _ + (_ + 0)
  omega
end
theorem turn1_range {t : Int} {b : By} (hb : byB b = true) (x : Int) : -256 ≤ turn1 t b x ∧ turn1 t b x ≤ 256 := by
  unfold byB at hb
  simp only [Bool.and_eq_true, decide_eq_true_eq] at hb
  unfold turn1 pt
  split
  · split <;> split <;> omega
  · omega
theorem turn_range {p t : Int} {l : List By} (hl : ∀ b ∈ l, byB b = true) (hp : 1 ≤ p ∧ p ≤ 256) (x : Int) : -256 * (l.length : Int) ≤ turnF p t l x ∧ turnF p t l x ≤ 256 + 256 * (l.length : Int) := by
  revert hl
  refine Util.snoc_ind (p := fun l => (∀ b ∈ l, byB b = true) → -256 * (l.length : Int) ≤ turnF p t l x ∧ turnF p t l x ≤ 256 + 256 * (l.length : Int)) (fun _ => ?_) (fun l b ih hl => ?_) l
  · show _ ≤ pt t p x ∧ pt t p x ≤ _
    unfold pt
    simp
    split <;> omega
  · rw [turn_snoc, List.length_append, List.length_singleton]
    have h1 := ih (fun c hc => hl c (by simp [hc]))
    have h2 := turn1_range (t := t) (hl b (by simp)) x
    push_cast
    omega
end Go.Proofs.Ytnjhboanhjjldaa.StepPlain
