/-
  The plain mathematics of layer 11: a table as a list of jobs, rising by Id: what is added, what becomes of one, what is edited; the jobs of a state; how many are live. The plain mathematics of layer 11's code: a job put in its place by Id; the jobs of a table behind an act; jobs that come in whatever order, sorted.
-/
import Derived.Test.YtjegkddpaampmaaJobPlain
import Derived.Test.YtjegkddpaampmaaOrdPlain
import Derived.Lib.Hide
namespace Go.Proofs.Ytjegkddpaampmaa.TabPlain
open Go.RowKit Go.Proofs.Ytjegkddpaampmaa.JobPlain Go.Proofs.Ytjegkddpaampmaa.OrdPlain
def inL (l : List Jb) (s : Int) : List Jb := l.filter fun j => j.state == s
def inT (l : List Jb) (s : Int) : List Jb := sortL (inL l s)
theorem in_take (l : List Jb) (s : Int) {k : Nat} (hk : k < l.length) : inL (l.take (k + 1)) s = inL (l.take k) s ++ if (l[k].state == s) = true then [l[k]] else [] := by
  unfold inL
  rw [List.take_succ_eq_append_getElem hk, List.filter_append]
  congr 1
  cases h : (l[k].state == s) <;> simp [h]
theorem in_len (l : List Jb) (s : Int) : (inL l s).length ≤ l.length := List.length_filter_le _ _
theorem inT_len (l : List Jb) (s : Int) : (inT l s).length ≤ l.length := by unfold inT; rw [sort_len]; exact in_len l s
def liveN (l : List Jb) : Int := ((inT l 0).length : Int) + ((inT l 1).length : Int) + ((inT l 2).length : Int)
/-- One put in its place by Id: the document's way. -/
def insStep (x : Jb) (p : List Jb × Bool) (y : Jb) : List Jb × Bool :=
  ((if (!p.2 && decide (x.id < y.id)) = true then p.1 ++ [x] else p.1) ++ [y], p.2 || decide (x.id < y.id))
def insTo (l : List Jb) (x : Jb) (k : Nat) : List Jb × Bool := (l.take k).foldl (insStep x) ([], false)
theorem ins_next {l : List Jb} {x : Jb} {k : Nat} (hk : k < l.length) : insTo l x (k + 1) = insStep x (insTo l x k) l[k] := by
  unfold insTo
  rw [List.take_succ_eq_append_getElem hk, List.foldl_append]
  rfl
theorem ins_len (l : List Jb) (x : Jb) : ∀ k, k ≤ l.length → (insTo l x k).1.length = k + (if (insTo l x k).2 = true then 1 else 0) := by
  intro k
  induction k with
  | zero => intro _; rfl
  | succ k ih =>
    intro hk
    have h0 := ih (by omega)
    rw [ins_next (by omega)]
    unfold insStep
    cases hd : (insTo l x k).2 <;> cases hx : decide (x.id < l[k].id) <;> simp [hd] at h0 ⊢ <;> omega
def insOut (l : List Jb) (x : Jb) : List Jb := if (insTo l x l.length).2 = true then (insTo l x l.length).1 else (insTo l x l.length).1 ++ [x]
theorem insOut_len (l : List Jb) (x : Jb) : (insOut l x).length = l.length + 1 := by
  unfold insOut
  have h := ins_len l x l.length (Nat.le_refl _)
  split
  · rename_i hd; rw [hd] at h; simpa using h
  · rename_i hd; rw [if_neg hd] at h; rw [List.length_append, h]; rfl
def addE (l : List Jb) (j : Jb) : Int := if mayJ j = false ∨ 1 < j.state then 1 else if 0 ≤ findL l j.id then 7 else if 100 ≤ liveN l then 4 else 0
def addR (l : List Jb) (j : Jb) : List Jb := if addE l j = 0 then insOut l j else l
/-- The job at a place that is told. -/
def atI (l : List Jb) (i : Int) : Jb := l.getD i.toNat noJb
def turnE (l : List Jb) (id ev t : Int) : Int := if findL l id < 0 then 3 else (turnL (atI l (findL l id)) ev t).2
def turnR (l : List Jb) (id ev t : Int) : List Jb := if turnE l id ev t = 0 then l.set (findL l id).toNat (turnL (atI l (findL l id)) ev t).1 else l
def edited (j : Jb) (w e p : Int) : Jb := ⟨j.id, j.user, w, e, p, j.sub, j.state, j.start, j.fin⟩
def editE (l : List Jb) (id w e p : Int) : Int := if findL l id < 0 then 3 else if 1 < (atI l (findL l id)).state then 5 else if mayJ (edited (atI l (findL l id)) w e p) = false then 1 else 0
def editR (l : List Jb) (id w e p : Int) : List Jb := if editE l id w e p = 0 then l.set (findL l id).toNat (edited (atI l (findL l id)) w e p) else l
end Go.Proofs.Ytjegkddpaampmaa.TabPlain
namespace Go.Proofs.Ytjegkddpaampmaa.TabPlain
open Go.RowKit Go.Proofs.Ytjegkddpaampmaa.JobPlain Go.Proofs.Ytjegkddpaampmaa.OrdPlain
/-- One put in its place by Id, from the front. -/
def insR : List Jb → Jb → List Jb
  | [], x => [x]
  | y :: l, x => if x.id < y.id then x :: y :: l else y :: insR l x
theorem fold_done (x : Jb) : ∀ (l acc : List Jb), l.foldl (insStep x) (acc, true) = (acc ++ l, true)
  | [], acc => by simp
  | y :: l, acc => by
    rw [List.foldl_cons]
    have e : insStep x (acc, true) y = (acc ++ [y], true) := by simp [insStep]
    rw [e, fold_done x l]; simp
theorem fold_ins (x : Jb) : ∀ (l acc : List Jb), (if (l.foldl (insStep x) (acc, false)).2 = true then (l.foldl (insStep x) (acc, false)).1 else (l.foldl (insStep x) (acc, false)).1 ++ [x]) = acc ++ insR l x
  | [], acc => by simp [insR]
  | y :: l, acc => by
    rw [List.foldl_cons]
    by_cases h : x.id < y.id
    · have e : insStep x (acc, false) y = (acc ++ [x] ++ [y], true) := by simp [insStep, h]
      rw [e, fold_done]; simp [insR, h]
    · have e : insStep x (acc, false) y = (acc ++ [y], false) := by simp [insStep, h]
      rw [e, fold_ins x l]; simp [insR, h]
theorem insOut_is (l : List Jb) (x : Jb) : insOut l x = insR l x := by
  have h := fold_ins x l []
  unfold insOut insTo
  rw [List.take_length]
  simpa using h
theorem insR_perm (x : Jb) : ∀ l : List Jb, (insR l x).Perm (x :: l)
  | [] => List.Perm.refl _
  | y :: l => by
    unfold insR
    split
    · exact List.Perm.refl _
    · exact ((insR_perm x l).cons y).trans (List.Perm.swap x y l)
theorem insR_rise {x : Jb} : ∀ {l : List Jb}, (l.Pairwise fun a b => a.id < b.id) → (∀ y ∈ l, y.id ≠ x.id) → (insR l x).Pairwise fun a b => a.id < b.id
  | [], _, _ => List.pairwise_singleton _ _
  | y :: l, h, hn => by
    obtain ⟨h1, h2⟩ := List.pairwise_cons.1 h
    unfold insR
    split
    · rename_i hx
      refine List.pairwise_cons.2 ⟨fun z hz => ?_, h⟩
      rcases List.mem_cons.1 hz with rfl | hz
      · exact hx
      · have := h1 z hz; omega
    · rename_i hx
      refine List.pairwise_cons.2 ⟨fun z hz => ?_, insR_rise h2 (fun z hz => hn z (List.mem_cons_of_mem _ hz))⟩
      rcases List.mem_cons.1 ((insR_perm x l).mem_iff.1 hz) with rfl | hz
      · have := hn y List.mem_cons_self; omega
      · exact h1 z hz
/-- Is a job live, by its state. -/
def liveC (x : Jb) : Int := if 0 ≤ x.state ∧ x.state ≤ 2 then 1 else 0
theorem inT_length (l : List Jb) (s : Int) : (inT l s).length = (inL l s).length := by unfold inT; exact sort_len _
theorem live_cons (x : Jb) (l : List Jb) : liveN (x :: l) = liveN l + liveC x := by
  unfold liveN liveC
  simp only [inT_length]
  unfold inL
  simp only [List.filter_cons]
  by_cases h0 : x.state = 0
  · simp [h0]; omega
  · by_cases h1 : x.state = 1
    · simp [h1]; omega
    · by_cases h2 : x.state = 2
      · simp [h2]; omega
      · simp [h0, h1, h2]
        omega
theorem live_perm {l m : List Jb} (h : l.Perm m) : liveN l = liveN m := by
  unfold liveN
  simp only [inT_length]
  unfold inL
  rw [(h.filter _).length_eq, (h.filter (fun j => j.state == 1)).length_eq, (h.filter (fun j => j.state == 2)).length_eq]
theorem live_ins (l : List Jb) (x : Jb) : liveN (insR l x) = liveN l + liveC x := by rw [live_perm (insR_perm x l), live_cons]
theorem live_set (x : Jb) : ∀ (l : List Jb) (k : Nat) (hk : k < l.length), liveN (l.set k x) + liveC l[k] = liveN l + liveC x
  | [], _, hk => absurd hk (Nat.not_lt_zero _)
  | y :: l, 0, _ => by rw [List.set_cons_zero, live_cons, live_cons]; simp; omega
  | y :: l, k + 1, hk => by
    have := live_set x l k (by simpa using hk)
    rw [List.set_cons_succ, live_cons, live_cons]
    simp only [List.getElem_cons_succ]
    omega
theorem live_filter : ∀ {l : List Jb}, (∀ j ∈ l, mayJ j = true) → ((l.filter liveB).length : Int) = liveN l
  | [], _ => rfl
  | x :: l, h => by
    have ih := live_filter (l := l) (fun j hj => h j (List.mem_cons_of_mem _ hj))
    have hx := h x List.mem_cons_self
    have hf := may_fin hx
    rw [live_cons, List.filter_cons]
    unfold liveC liveB
    rw [hx]
    by_cases h2 : x.state ≤ 2
    · simp only [Bool.true_and, decide_eq_true h2, if_true, List.length_cons]
      rw [if_pos ⟨hf.2.2.2.2.1, h2⟩]
      have : ((l.filter liveB).length : Int) = liveN l := ih
      unfold liveB at this
      omega
    · have e : (if 0 ≤ x.state ∧ x.state ≤ 2 then (1 : Int) else 0) = 0 := if_neg (fun e => h2 e.2)
      rw [e]
      have : ((l.filter liveB).length : Int) = liveN l := ih
      unfold liveB at this
      simpa [h2] using this
theorem set_rise {l : List Jb} (h : l.Pairwise fun a b => a.id < b.id) {k : Nat} (hk : k < l.length) {x : Jb} (hx : x.id = l[k].id) : (l.set k x).Pairwise fun a b => a.id < b.id := by
  have e : (l.set k x).map (·.id) = l.map (·.id) := by
    rw [List.map_set, hx]
    have : (l.map (·.id))[k]'(by simpa using hk) = l[k].id := by simp
    rw [← this]
    exact List.set_getElem_self _
  have h1 : (l.map (·.id)).Pairwise (· < ·) := by rw [List.pairwise_map]; exact h
  rw [← e, List.pairwise_map] at h1
  exact h1
theorem mem_set {l : List Jb} (h : l.Pairwise fun a b => a.id < b.id) {k : Nat} (hk : k < l.length) {x : Jb} (hx : x.id = l[k].id) (y : Jb) : y ∈ l.set k x ↔ y = x ∨ (y ∈ l ∧ y.id ≠ x.id) := by
  rw [List.mem_iff_getElem]
  have hp := List.pairwise_iff_getElem.1 h
  constructor
  · rintro ⟨i, hi, rfl⟩
    rw [List.length_set] at hi
    rw [List.getElem_set]
    split
    · exact .inl rfl
    · rename_i hne
      refine .inr ⟨List.getElem_mem hi, ?_⟩
      rw [hx]
      rcases Nat.lt_or_gt_of_ne hne with g | g
      · have := hp k i hk hi g; omega
      · have := hp i k hi hk g; omega
  · rintro (rfl | ⟨hy, hne⟩)
    · exact ⟨k, by rw [List.length_set]; exact hk, by rw [List.getElem_set, if_pos rfl]⟩
    · obtain ⟨i, hi, rfl⟩ := List.mem_iff_getElem.1 hy
      refine ⟨i, by rw [List.length_set]; exact hi, ?_⟩
      rw [List.getElem_set, if_neg]
      rintro rfl
      exact hne hx.symm
theorem rise_nodup {l : List Jb} (h : l.Pairwise fun a b => a.id < b.id) : (l.map (·.id)).Nodup := by
  rw [List.nodup_iff_pairwise_ne, List.pairwise_map]
  exact h.imp (fun {a b} h => by omega)
theorem id_one {l : List Jb} (h : l.Pairwise fun a b => a.id < b.id) {a b : Jb} (ha : a ∈ l) (hb : b ∈ l) (e : a.id = b.id) : a = b := by
  have hp := List.pairwise_iff_getElem.1 h
  obtain ⟨i, hi, rfl⟩ := List.mem_iff_getElem.1 ha
  obtain ⟨k, hk, rfl⟩ := List.mem_iff_getElem.1 hb
  rcases Nat.lt_trichotomy i k with g | g | g
  · have := hp i k hi hk g; omega
  · subst g; rfl
  · have := hp k i hk hi g; omega
theorem find_not {l : List Jb} {id : Int} (h : findL l id < 0) : ∀ x ∈ l, x.id ≠ id := fun x hx e => by
  have hs : (l.findIdx? (fun j => j.id == id)).isSome = true := by
    rw [List.findIdx?_isSome]
    exact List.any_eq_true.2 ⟨x, hx, by simpa using e⟩
  unfold findL findTo at h
  cases hf : l.findIdx? (fun j => j.id == id) with
  | none => rw [hf] at hs; cases hs
  | some i => rw [hf] at h; have : (0 : Int) ≤ (i : Int) := Int.natCast_nonneg _; exact absurd h (by show ¬ (i : Int) < 0; omega)
theorem find_yes {l : List Jb} {id : Int} (h : ¬ findL l id < 0) : ∃ k : Nat, ∃ hk : k < l.length, findL l id = k ∧ l[k].id = id := by
  unfold findL findTo at h ⊢
  cases hf : l.findIdx? (fun j => j.id == id) with
  | none => rw [hf] at h; exact absurd (show (-1 : Int) < 0 by decide) h
  | some i =>
    rw [List.findIdx?_eq_some_iff_getElem] at hf
    obtain ⟨hi, h1, _⟩ := hf
    exact ⟨i, hi, rfl, by simpa using h1⟩
/-- Two lists of the same, each in order, are one. -/
theorem perm_one {α : Type} {r : α → α → Prop} : ∀ {l m : List α}, l.Perm m → l.Pairwise r → m.Pairwise r → (∀ a b, a ∈ l → b ∈ l → r a b → r b a → a = b) → l = m
  | [], m, hp, _, _, _ => by rw [List.nil_perm] at hp; exact hp.symm
  | a :: l, [], hp, _, _, _ => by have := hp.length_eq; simp at this
  | a :: l, b :: m, hp, hl, hm, ha => by
    obtain ⟨h1, h2⟩ := List.pairwise_cons.1 hl
    obtain ⟨h3, h4⟩ := List.pairwise_cons.1 hm
    have hb : b ∈ a :: l := hp.mem_iff.2 List.mem_cons_self
    have haa : a ∈ b :: m := hp.mem_iff.1 List.mem_cons_self
    have e : a = b := by
      rcases List.mem_cons.1 hb with e | hb1
      · exact e.symm
      · rcases List.mem_cons.1 haa with e | ha1
        · exact e
        · exact ha a b List.mem_cons_self hb (h1 b hb1) (h3 a ha1)
    subst e
    rw [perm_one (List.Perm.cons_inv hp) h2 h4 (fun x y hx hy => ha x y (List.mem_cons_of_mem _ hx) (List.mem_cons_of_mem _ hy))]
theorem put_perm (l : List Jb) (j : Jb) : (putL l j).Perm (j :: l) := by
  induction l with
  | nil => exact List.Perm.refl _
  | cons e l ih =>
    unfold putL
    split
    · exact List.Perm.refl _
    · exact (ih.cons e).trans (List.Perm.swap j e l)
theorem sort_perm (l : List Jb) : (sortL l).Perm l := by
  suffices h : ∀ (l m : List Jb), (l.foldl putL m).Perm (l ++ m) from by have := h l []; simpa [sortL] using this
  intro l
  induction l with
  | nil => intro m; exact List.Perm.refl _
  | cons e l ih =>
    intro m
    rw [List.foldl_cons]
    exact (ih _).trans (((put_perm m e).append_left l).trans List.perm_middle)
theorem sort_same_perm {l m : List Jb} (h : l.Perm m) (hu : ∀ a b, a ∈ m → b ∈ m → a.id = b.id → a = b) : sortL l = sortL m := by
  refine perm_one (r := fun x y => aheadB y x = false) ((sort_perm l).trans (h.trans (sort_perm m).symm)) (sort_sorted l) (sort_sorted m) (fun a b ha hb h1 h2 => ?_)
  refine hu a b (h.mem_iff.1 ((sort_perm l).mem_iff.1 ha)) (h.mem_iff.1 ((sort_perm l).mem_iff.1 hb)) ?_
  apply Classical.byContradiction
  intro hne
  have := ahead_one hne
  rw [h1, h2] at this
  cases this
/-- Jobs in whatever order, rising by Id again. -/
theorem rise_same {l m : List Jb} (h : l.Perm m) (hr : m.Pairwise fun a b => a.id < b.id) (hl : l.Pairwise fun a b => a.id ≤ b.id) : l = m := by
  refine perm_one (r := fun a b => a.id ≤ b.id) h hl (hr.imp (fun {a b} h => by omega)) (fun a b ha hb h1 h2 => id_one hr (h.mem_iff.1 ha) (h.mem_iff.1 hb) (by omega))
end Go.Proofs.Ytjegkddpaampmaa.TabPlain
