/-
  What the theorem uses of the texts below it.
-/
import Derived.Below
import Derived.Laws.OwnMore
import Derived.Deep.Draws
import Derived.Deep.OwnRows
import Derived.Lib.Hide
import Derived.OwnWalk
import Derived.Deep.QuietTactic
import Derived.BigQuiet
import Derived.Lib.SliceRun
import Derived.Test.YtlfmkipcgcilaaaRows
import Derived.WalkKit
import Derived.WalkSpells
import Derived.WalkLawsBesides
import Derived.Laws.StructEq
import Derived.LoopTactic
import Derived.Deep.CutBlock
import Derived.Deep.DeepCutAuto
import Derived.Deep.RegionHeld3
import Derived.Test.YtlfmkipcgcilaaaPa2
namespace Go.Proofs.Ytlfmkipcgcilaaa.SlaPlain
open Go.Proofs.Ytlfmkipcgcilaaa.SpanPlain Go.Proofs.Ytlfmkipcgcilaaa.StepPlain Go.Proofs.Ytlfmkipcgcilaaa.GapPlain Go.Proofs.Ytlfmkipcgcilaaa.JobPlain Go.Proofs.Ytlfmkipcgcilaaa.OrdPlain Go.Proofs.Ytlfmkipcgcilaaa.ApiPlain Go.Proofs.Ytlfmkipcgcilaaa.ShaPlain
/-- The steps with a job laid from a time on, as a function. -/
def layL (s : List Sp) (a : Int) (j : Jb) : List Sp := buildL (addF s (runS a j) (-j.width)) (addEnds s (runS a j))
theorem layL_is {s : List Sp} {a : Int} {j : Jb} (h : okG s a j.width j.est = true) : AddIs s (runS a j) (-j.width) (layL s a j) := by
  obtain ⟨hc, _, _, _, _, _, hx, hnb, hno⟩ := room_may h
  refine add_done hnb fun e he => ?_
  have h1 := ((keep_iff hc).1 (List.mem_filter.1 he).2).1
  by_cases hh : 0 ≤ addF s (runS a j) (-j.width) e ∧ addF s (runS a j) (-j.width) e ≤ 256
  · exact hh
  · exact absurd ⟨e, h1, hh⟩ hno
theorem layL_of {s r : List Sp} {a : Int} {j : Jb} (h : okG s a j.width j.est = true) (hr : AddIs s (runS a j) (-j.width) r) : r = layL s a j := AddIs.unique hr (layL_is h)
theorem layL_len {s : List Sp} {a : Int} {j : Jb} (h : okG s a j.width j.est = true) : (layL s a j).length ≤ s.length + 3 := add_len (layL_is h)
/-- The least time with room, as a function; -1: none. -/
def fitF (s : List Sp) (now : Int) (j : Jb) : Int := if mayG s j.width j.est = true then fitL s now j.width j.est else -1
theorem fitStepNeg {s : List Sp} {f w n : Int} : ∀ {l : List Sp}, (∀ y ∈ l, 0 ≤ y.1) → 0 ≤ fitStep s f w n l ∨ fitStep s f w n l = -1
  | [], _ => .inr rfl
  | y :: l, h => by
    unfold fitStep
    split
    · exact .inl (h y (List.mem_cons_self ..))
    · exact fitStepNeg fun z hz => h z (List.mem_cons_of_mem _ hz)
theorem fitF_cases (s : List Sp) (now : Int) (j : Jb) : (fitF s now j = -1 ∧ FitIs s now j.width j.est 0 false) ∨ (0 ≤ fitF s now j ∧ FitIs s now j.width j.est (fitF s now j) true) := by
  unfold fitF
  cases hm : mayG s j.width j.est with
  | false => exact .inl ⟨rfl, .inr ⟨rfl, rfl, .inl hm⟩⟩
  | true =>
    rw [if_pos rfl]
    obtain ⟨hc, _, _, _⟩ := mayG_iff.1 hm
    have hlo := hc.lo
    have hge := hc.ge
    obtain ⟨h1, h2⟩ := fit_spec (f := now) hm
    have hn : 0 ≤ fitL s now j.width j.est ∨ fitL s now j.width j.est = -1 := by
      unfold fitL
      split
      · exact .inr rfl
      · split
        · exact .inl (by omega)
        · exact fitStepNeg fun y hy => by have := hge y hy; omega
    rcases hn with hn | hn
    · exact .inr ⟨hn, h1 hn⟩
    · exact .inl ⟨hn, h2 (by omega)⟩
theorem fitF_ok {s : List Sp} {now : Int} {j : Jb} (h : 0 ≤ fitF s now j) : okG s (fitF s now j) j.width j.est = true ∧ now ≤ fitF s now j ∧ fitF s now j ≤ 1125899906842624 := by
  rcases fitF_cases s now j with ⟨h1, _⟩ | ⟨_, h1⟩
  · omega
  · rcases h1 with ⟨_, hm, hge, hr, _⟩ | ⟨h, _⟩
    · exact ⟨okG_iff.2 ⟨hm, hr⟩, hge, hr.2.1⟩
    · cases h
/-- The place of a promise; -1: there is none. -/
def findP (l : List Prm) (id : Int) : Int := match l.findIdx? (fun p => p.id == id) with | some i => i | none => -1
def jobOf (js : List Jb) (id : Int) : Jb := js.getD (findL js id).toNat noJb
def nthP (l : List Prm) (k : Nat) : Prm := l.getD k noPrm
theorem nthP_at {l : List Prm} {k : Nat} (h : k < l.length) : nthP l k = l[k] := by unfold nthP; simp [List.getD, h]
def okP (now : Int) (js : List Jb) (l : List Prm) (i : Nat) : Bool :=
  decide (0 ≤ findL js (nthP l i).id) && (decide (now ≤ (nthP l i).at_) && (decide ((nthP l i).at_ ≤ 1125899906842624) && (decide (0 ≤ (nthP l i).slack) && (decide ((nthP l i).slack ≤ 1125899906842624) && decide (findP (l.take i) (nthP l i).id < 0)))))
def okTo (now : Int) (js : List Jb) (l : List Prm) (k : Nat) : Bool := (List.range k).all fun i => okP now js l i
theorem okTo_next (now : Int) (js : List Jb) (l : List Prm) (k : Nat) : okTo now js l (k + 1) = (okTo now js l k && okP now js l k) := by unfold okTo; rw [List.range_succ, List.all_append]; simp
theorem okTo_no {now : Int} {js : List Jb} {l : List Prm} {k n : Nat} (hk : k < n) (h : okP now js l k = false) : okTo now js l n = false := by
  unfold okTo
  rw [List.all_eq_false]
  exact ⟨k, List.mem_range.2 hk, by rw [h]; decide⟩
/-- Are promises a ledger? -/
def mayP (now : Int) (js : List Jb) (l : List Prm) : Bool := okTo now js l l.length && decide (l.length ≤ 100)
theorem mayP_at {now : Int} {js : List Jb} {l : List Prm} (h : mayP now js l = true) {i : Nat} (hi : i < l.length) : 0 ≤ findL js (nthP l i).id ∧ now ≤ (nthP l i).at_ ∧ (nthP l i).at_ ≤ 1125899906842624 ∧ 0 ≤ (nthP l i).slack ∧ (nthP l i).slack ≤ 1125899906842624 ∧ findP (l.take i) (nthP l i).id < 0 := by
  unfold mayP okTo at h
  rw [Bool.and_eq_true, List.all_eq_true] at h
  have h2 := h.1 i (List.mem_range.2 hi)
  unfold okP at h2
  simpa only [Bool.and_eq_true, decide_eq_true_eq] using h2
/-- The other promises' trials, one behind the other. -/
def tryRest (js : List Jb) (id : Int) : List Sp → List Prm → Option (List Prm)
  | _, [] => some []
  | s, p :: l => if p.id = id then tryRest js id s l else
      if fitF s p.at_ (jobOf js p.id) < 0 ∨ p.at_ + p.slack < fitF s p.at_ (jobOf js p.id) then none
      else (tryRest js id (layL s (fitF s p.at_ (jobOf js p.id)) (jobOf js p.id)) l).map fun r => ⟨p.id, fitF s p.at_ (jobOf js p.id), p.at_ + p.slack - fitF s p.at_ (jobOf js p.id)⟩ :: r
/-- A trial of one promise. -/
def tryP (s : List Sp) (now : Int) (js : List Jb) (l : List Prm) (id : Int) : Option (List Prm) :=
  if okG s now (jobOf js id).width (jobOf js id).est = true then tryRest js id (layL s now (jobOf js id)) l else none
/-- The pass: who starts, what is left, the steps then. -/
def passP (now : Int) (js : List Jb) : List Sp → List Prm → List Int → List Prm → List Int × List Prm × List Sp
  | s, P, st, [] => (st, P, s)
  | s, P, st, p :: l => match tryP s now js P p.id with
    | some left => passP now js (layL s now (jobOf js p.id)) left (st ++ [p.id]) l
    | none => passP now js s P st l
/-- A promise that gave way. -/
structure Shift (p q : Prm) : Prop where
  id : q.id = p.id
  later : p.at_ ≤ q.at_
  sum : q.at_ + q.slack = p.at_ + p.slack
  left : 0 ≤ q.slack
theorem Shift.trans {p q r : Prm} (a : Shift p q) (b : Shift q r) : Shift p r := ⟨b.id.trans a.id, Int.le_trans a.later b.later, b.sum.trans a.sum, b.left⟩
inductive All2 : List Prm → List Prm → Prop
  | nil : All2 [] []
  | cons {p q : Prm} {l m : List Prm} : Shift p q → All2 l m → All2 (p :: l) (q :: m)
theorem All2.trans {l m n : List Prm} (a : All2 l m) (b : All2 m n) : All2 l n := by
  induction a generalizing n with
  | nil => cases b; exact .nil
  | cons h _ ih => cases b with | cons g r => exact .cons (h.trans g) (ih r)
theorem All2.len {l m : List Prm} (a : All2 l m) : l.length = m.length := by
  induction a with
  | nil => rfl
  | cons _ _ ih => simp [ih]
theorem All2.filter {l m : List Prm} (a : All2 l m) (f : Int → Bool) : All2 (l.filter fun p => f p.id) (m.filter fun p => f p.id) := by
  induction a with
  | nil => exact .nil
  | @cons p q l m h _ ih =>
    rw [List.filter_cons, List.filter_cons, h.id]
    split
    · exact .cons h ih
    · exact ih
theorem All2.self {l : List Prm} (h : ∀ p ∈ l, 0 ≤ p.slack) : All2 l l := by
  induction l with
  | nil => exact .nil
  | cons p l ih => exact .cons ⟨rfl, Int.le_refl _, rfl, h p (List.mem_cons_self ..)⟩ (ih fun q hq => h q (List.mem_cons_of_mem _ hq))
theorem All2.ids {l m : List Prm} (a : All2 l m) : m.map (·.id) = l.map (·.id) := by
  induction a with
  | nil => rfl
  | cons h _ ih => simp [h.id, ih]
theorem All2.slack {l m : List Prm} (a : All2 l m) : ∀ q ∈ m, 0 ≤ q.slack := by
  induction a with
  | nil => intro q hq; cases hq
  | cons h _ ih =>
    intro q hq
    rcases List.mem_cons.1 hq with rfl | hq
    · exact h.left
    · exact ih q hq
theorem tryRest_shift {js : List Jb} {id : Int} : ∀ {l : List Prm} {s : List Sp} {r : List Prm}, tryRest js id s l = some r → All2 (l.filter fun p => decide (p.id ≠ id)) r
  | [], _, r, h => by unfold tryRest at h; injection h with h; subst h; exact .nil
  | p :: l, s, r, h => by
    unfold tryRest at h
    by_cases hp : p.id = id
    · rw [if_pos hp] at h
      rw [List.filter_cons, if_neg (by simp [hp])]
      exact tryRest_shift h
    · rw [if_neg hp] at h
      split at h
      · cases h
      · rename_i hn
        obtain ⟨r', h1, h2⟩ := Option.map_eq_some_iff.1 h
        subst h2
        rw [List.filter_cons, if_pos (by simp [hp])]
        have hge := (fitF_ok (s := s) (now := p.at_) (j := jobOf js p.id) (by omega)).2.1
        exact .cons ⟨rfl, hge, by dsimp only; omega, by dsimp only; omega⟩ (tryRest_shift h1)
theorem tryP_shift {s : List Sp} {now : Int} {js : List Jb} {l r : List Prm} {id : Int} (h : tryP s now js l id = some r) : okG s now (jobOf js id).width (jobOf js id).est = true ∧ All2 (l.filter fun p => decide (p.id ≠ id)) r := by
  unfold tryP at h
  split at h
  · rename_i h1; exact ⟨h1, tryRest_shift h⟩
  · cases h
theorem filter_one : ∀ {l : List Prm} {p : Prm}, (l.map (·.id)).Nodup → p ∈ l → (l.filter fun q => decide (q.id ≠ p.id)).length + 1 = l.length
  | [], _, _, h => by cases h
  | q :: l, p, hn, h => by
    rw [List.map_cons, List.nodup_cons] at hn
    rcases List.mem_cons.1 h with rfl | h
    · rw [List.filter_cons, if_neg (by simp)]
      have : l.filter (fun q => decide (q.id ≠ p.id)) = l := List.filter_eq_self.2 fun q hq => by
        have : q.id ≠ p.id := fun e => hn.1 (by rw [← e]; exact List.mem_map.2 ⟨q, hq, rfl⟩)
        simp [this]
      rw [this, List.length_cons]
    · have hne : q.id ≠ p.id := fun e => hn.1 (by rw [e]; exact List.mem_map.2 ⟨p, h, rfl⟩)
      rw [List.filter_cons, if_pos (by simp [hne]), List.length_cons, filter_one hn.2 h, List.length_cons]
/-- What a pass keeps: who is left, and who started. -/
structure PassInv (x P : List Prm) (st : List Int) : Prop where
  all : All2 (x.filter fun p => decide (p.id ∉ st)) P
  nodup : st.Nodup
  from_ : ∀ i ∈ st, ∃ p ∈ x, p.id = i
  len : st.length + P.length = x.length
theorem PassInv.start {x : List Prm} (h : ∀ p ∈ x, 0 ≤ p.slack) : PassInv x x [] := by
  have : (x.filter fun p => decide (p.id ∉ ([] : List Int))) = x := List.filter_eq_self.2 fun q _ => by simp
  exact ⟨by rw [this]; exact All2.self h, List.nodup_nil, fun i hi => (by cases hi), by simp⟩
theorem PassInv.next {x P left : List Prm} {st : List Int} {p : Prm} (h : PassInv x P st) (hn : (x.map (·.id)).Nodup) (hp : p ∈ x) (hs : p.id ∉ st) (hl : All2 (P.filter fun q => decide (q.id ≠ p.id)) left) : PassInv x left (st ++ [p.id]) := by
  have he : (x.filter fun q => decide (q.id ∉ st ++ [p.id])) = (x.filter fun q => decide (q.id ∉ st)).filter fun q => decide (q.id ≠ p.id) := by
    rw [List.filter_filter]
    congr 1
    funext q
    by_cases h1 : q.id = p.id <;> by_cases h2 : q.id ∈ st <;> simp [h1, h2]
  have ha := (h.all.filter fun i => decide (i ≠ p.id)).trans hl
  refine ⟨by rw [he]; exact ha, ?_, ?_, ?_⟩
  · rw [List.nodup_append]
    exact ⟨h.nodup, by simp, fun a ha b hb e => by rw [List.mem_singleton] at hb; rw [hb] at e; exact hs (e ▸ ha)⟩
  · intro i hi
    rcases List.mem_append.1 hi with hi | hi
    · exact h.from_ i hi
    · rw [List.mem_singleton] at hi; exact ⟨p, hp, hi.symm⟩
  · have h1 := ha.len
    have h2 : ((x.filter fun q => decide (q.id ∉ st)).map (·.id)).Nodup := by
      refine List.Nodup.sublist ?_ hn
      exact List.Sublist.map _ (List.filter_sublist ..)
    have h3 := filter_one h2 (List.mem_filter.2 ⟨hp, by simp [hs]⟩)
    have h4 := h.all.len
    have h5 := h.len
    rw [List.length_append, List.length_singleton]
    omega
theorem pass_inv {now : Int} {js : List Jb} {x : List Prm} (hn : (x.map (·.id)).Nodup) : ∀ {l : List Prm} {s : List Sp} {P : List Prm} {st : List Int}, PassInv x P st → (∀ p ∈ l, p ∈ x ∧ p.id ∉ st) → (l.map (·.id)).Nodup →
    PassInv x (passP now js s P st l).2.1 (passP now js s P st l).1
  | [], _, _, _, h, _, _ => h
  | p :: l, s, P, st, h, hm, hd => by
    rw [List.map_cons, List.nodup_cons] at hd
    unfold passP
    cases ht : tryP s now js P p.id with
    | none => exact pass_inv hn h (fun q hq => hm q (List.mem_cons_of_mem _ hq)) hd.2
    | some left =>
      obtain ⟨hp1, hp2⟩ := hm p (List.mem_cons_self ..)
      refine pass_inv hn (h.next hn hp1 hp2 (tryP_shift ht).2) (fun q hq => ⟨(hm q (List.mem_cons_of_mem _ hq)).1, fun hc => ?_⟩) hd.2
      rcases List.mem_append.1 hc with hc | hc
      · exact (hm q (List.mem_cons_of_mem _ hq)).2 hc
      · rw [List.mem_singleton] at hc
        exact hd.1 (by rw [← hc]; exact List.mem_map.2 ⟨q, hq, rfl⟩)
theorem findP_cases (l : List Prm) (id : Int) : (findP l id = -1 ∧ ∀ p ∈ l, p.id ≠ id) ∨ ∃ k : Nat, k < l.length ∧ findP l id = k ∧ (nthP l k).id = id := by
  unfold findP
  cases h : l.findIdx? (fun p => p.id == id) with
  | none =>
    rw [List.findIdx?_eq_none_iff] at h
    exact .inl ⟨rfl, fun p hp e => by have := h p hp; simp [e] at this⟩
  | some k =>
    rw [List.findIdx?_eq_some_iff_getElem] at h
    obtain ⟨hk, h1, _⟩ := h
    exact .inr ⟨k, hk, rfl, by rw [nthP_at hk]; simpa using h1⟩
theorem may_nodup {now : Int} {js : List Jb} {l : List Prm} (h : mayP now js l = true) : (l.map (·.id)).Nodup := by
  rw [List.nodup_iff_pairwise_ne, List.pairwise_iff_getElem] at *
  intro i k hi hk hik
  rw [List.length_map] at hi hk
  rw [List.getElem_map, List.getElem_map]
  intro e
  obtain ⟨_, _, _, _, _, h6⟩ := mayP_at h hk
  rcases findP_cases (l.take k) (nthP l k).id with ⟨_, h7⟩ | ⟨q, _, h7, _⟩
  · refine h7 l[i] ?_ (by rw [nthP_at hk]; exact e)
    rw [List.mem_take_iff_getElem]
    exact ⟨i, by omega, rfl⟩
  · omega
theorem All2.at {l m : List Prm} (a : All2 l m) : ∀ k (h1 : k < l.length) (h2 : k < m.length), Shift l[k] m[k] := by
  induction a with
  | nil => intro k h; simp at h
  | cons h _ ih =>
    intro k h1 h2
    cases k with
    | zero => exact h
    | succ k => exact ih k (by simpa using h1) (by simpa using h2)
theorem id_inj {x : List Prm} (hn : (x.map (·.id)).Nodup) {p q : Prm} (hp : p ∈ x) (hq : q ∈ x) (e : p.id = q.id) : p = q := by
  induction x with
  | nil => cases hp
  | cons y x ih =>
    rw [List.map_cons, List.nodup_cons] at hn
    rcases List.mem_cons.1 hp with rfl | hp2 <;> rcases List.mem_cons.1 hq with rfl | hq2
    · rfl
    · exact absurd (List.mem_map.2 ⟨q, hq2, e.symm⟩ : p.id ∈ x.map (·.id)) hn.1
    · exact absurd (List.mem_map.2 ⟨p, hp2, e⟩ : q.id ∈ x.map (·.id)) hn.1
    · exact ih hn.2 hp2 hq2
/-- What the statement asks of each promise. -/
theorem gives_at {x P : List Prm} {st : List Int} (h : PassInv x P st) (hn : (x.map (·.id)).Nodup) {p : Prm} (hp : p ∈ x) :
    (findP P p.id = -1 ∧ st.count p.id = 1) ∨ ∃ k : Nat, k < P.length ∧ findP P p.id = k ∧ st.count p.id = 0 ∧ 0 ≤ (nthP P k).at_ - p.at_ ∧ p.slack - (nthP P k).slack = (nthP P k).at_ - p.at_ ∧ 0 ≤ (nthP P k).slack := by
  rcases findP_cases P p.id with ⟨h1, h2⟩ | ⟨k, hk, h1, h2⟩
  · left
    refine ⟨h1, ?_⟩
    have hm : p.id ∈ st := by
      by_cases hs : p.id ∈ st
      · exact hs
      · exfalso
        have hf : p ∈ x.filter fun q => decide (q.id ∉ st) := List.mem_filter.2 ⟨hp, by simp [hs]⟩
        have : p.id ∈ P.map (·.id) := by rw [h.all.ids]; exact List.mem_map.2 ⟨p, hf, rfl⟩
        obtain ⟨q, hq, e⟩ := List.mem_map.1 this
        exact h2 q hq e
    rw [List.Nodup.count h.nodup, if_pos hm]
  · right
    have hl := h.all.len
    have hsh := h.all.at k (by omega) hk
    rw [← nthP_at hk] at hsh
    have hmem := List.getElem_mem (l := x.filter fun q => decide (q.id ∉ st)) (show k < _ by omega)
    obtain ⟨m1, m2⟩ := List.mem_filter.1 hmem
    have hpe := id_inj hn m1 hp (hsh.id.symm.trans h2)
    rw [hpe] at hsh m2
    have hs : p.id ∉ st := by simpa using m2
    refine ⟨k, hk, h1, List.count_eq_zero.2 hs, ?_, ?_, hsh.left⟩
    · have := hsh.later; omega
    · have := hsh.sum; omega
end Go.Proofs.Ytlfmkipcgcilaaa.SlaPlain
namespace Go.Proofs.Ytlfmkipcgcilaaa.Mem
open Go.RowKit
/-- Block n is there, its first cells hold l, and they may be written. -/
structure Boxed (w : World) (n : Nat) (l : List Value) : Prop where
  lt : n < w.heap.size
  c : ∀ (i : Nat) (u : Value), l[i]? = some u → w.cell? ⟨n, i, none⟩ = some u
  f : ∀ (i : Nat) (u : Value), l[i]? = some u → w.frozen? ⟨n, i, none⟩ = false
section
variable {w w' : World} {n : Nat} {l : List Value}
theorem Boxed.new (w : World) (a : Array Value) (T : TypeId) : Boxed (w.alloc (.cells a T)) w.heap.size a.toList :=
  ⟨by simp, fun i u h => by have := (Raw.alloc w a T i u h).2; rwa [add_flat] at this, fun _ _ _ => World.frozen?_alloc_new _ _ _ _⟩
theorem Boxed.new_at {m : Nat} (a : Array Value) (T : TypeId) (e : w.heap.size = m) : Boxed (w.alloc (.cells a T)) m a.toList := by subst e; exact Boxed.new w a T
theorem Boxed.set (h : Boxed w n l) (i : Nat) (u : Value) : Boxed (w.setCell ⟨n, i, none⟩ u) n (l.set i u) := by
  refine ⟨by simp [World.setCell]; exact h.lt, fun k v hv => ?_, fun k v hv => ?_⟩
  · rw [List.getElem?_set] at hv
    by_cases hk : i = k
    · subst hk
      rw [if_pos rfl] at hv
      by_cases hi : i < l.length
      · rw [if_pos hi] at hv
        injection hv with hv
        subst hv
        exact World.cell?_setCell_same _ _ _ (h.c i l[i] (by simp [hi]))
      · rw [if_neg hi] at hv; cases hv
    · rw [if_neg hk] at hv
      exact (World.cell?_setCell_other _ _ _ _ (by first | (simp; omega) | simp)).trans (h.c k v hv)
  · rw [World.frozen?_setCell]
    rw [List.getElem?_set] at hv
    by_cases hk : i = k
    · subst hk
      rw [if_pos rfl] at hv
      by_cases hi : i < l.length
      · exact h.f i l[i] (by simp [hi])
      · rw [if_neg hi] at hv; cases hv
    · rw [if_neg hk] at hv
      exact h.f k v hv
end
end Go.Proofs.Ytlfmkipcgcilaaa.Mem
namespace Go.Proofs.Ytlfmkipcgcilaaa.Mem
open Go.RowKit
/-- Of the elder blocks none but those of O. -/
def Owns (O O' : List Nat) (w : World) : Prop := ∀ i ∈ O', i ∈ O ∨ w.heap.size ≤ i
section
variable {O O' : List Nat} {w w' w2 : World}
theorem Owns.refl (O : List Nat) (w : World) : Owns O O w := fun _ hi => .inl hi
end
end Go.Proofs.Ytlfmkipcgcilaaa.Mem
namespace Go.Proofs.Ytlfmkipcgcilaaa.Mem
open Go.RowKit
/-- How a thing lies in cells. -/
structure Lay (α : Type) where
  k : Nat
  cs : α → List Value
  len : ∀ x, (cs x).length = k
  one : ∀ x, ∀ u ∈ cs x, u.oneCell' = true
  pos : 0 < k
section
variable {α : Type} (L : Lay α)
def Lay.vals (l : List α) : List Value := l.flatMap L.cs
theorem Lay.cons (x : α) (l : List α) : L.vals (x :: l) = L.cs x ++ L.vals l := rfl
theorem Lay.snoc (l : List α) (x : α) : L.vals (l ++ [x]) = L.vals l ++ L.cs x := by simp [Lay.vals]
theorem Lay.vals_len (l : List α) : (L.vals l).length = l.length * L.k := by
  induction l with
  | nil => simp [Lay.vals]
  | cons s l ih => rw [L.cons, List.length_append, ih, L.len, List.length_cons, Nat.add_mul]; omega
theorem Lay.cell (l : List α) : ∀ u ∈ L.vals l, u.oneCell' = true := by
  intro u hu
  obtain ⟨s, _, h⟩ := List.mem_flatMap.1 hu
  exact L.one s u h
theorem Lay.vals_at (l : List α) : ∀ i (hi : i < l.length) (f : Nat), f < L.k → (L.vals l)[i * L.k + f]? = (L.cs l[i])[f]? := by
  induction l with
  | nil => intro i h; simp at h
  | cons s l ih =>
    intro i h f hf
    rw [L.cons]
    cases i with
    | zero => rw [Nat.zero_mul, Nat.zero_add, List.getElem?_append_left (by rw [L.len]; exact hf)]; rfl
    | succ i =>
      rw [Nat.add_mul, Nat.one_mul, List.getElem?_append_right (by rw [L.len]; omega), L.len, show i * L.k + L.k + f - L.k = i * L.k + f by omega, ih i (by simpa using h) f hf]
      rfl
/-- A slice of such things, nil let in. -/
def Lay.Is (l : List α) (w : World) (v : Value) : Prop := (v = .slice none 0 0 ∧ l = []) ∨ ∃ a c, v = .slice (some a) l.length c ∧ Raw w a (L.vals l) ∧ l.length ≤ c
/-- A thing's cells from a place on. -/
structure Lay.At (w : World) (p : Addr) (x : α) : Prop where
  lt : p.block < w.heap.size
  c0 : ∀ u, (L.cs x)[0]? = some u → w.cell? p = some u
  c : ∀ f u, 0 < f → (L.cs x)[f]? = some u → w.cell? ⟨p.block, p.off + f, none⟩ = some u
end
theorem add_over (a : Addr) (k f : Nat) (hf : 0 < f) : a.add (k + f) = ⟨(a.add k).block, (a.add k).off + f, none⟩ := by
  unfold Addr.add
  by_cases h0 : k = 0
  · subst h0; simp; omega
  · simp [h0, Nat.add_assoc]
section
variable {α : Type} {L : Lay α} {l : List α} {w w' : World} {v : Value}
theorem Lay.Is.below (h : L.Is l w v) (hb : Below w.heap.size w w') : L.Is l w' v := by
  rcases h with h | ⟨a, c, e, hr, hn⟩
  · exact .inl h
  · exact .inr ⟨a, c, e, hr.below hb, hn⟩
theorem Lay.at_ {a : Addr} (h : Raw w a (L.vals l)) {i : Nat} (hi : i < l.length) : L.At w (a.add (i * L.k)) l[i] := by
  have hat : ∀ f u, (L.cs l[i])[f]? = some u → a.block < w.heap.size ∧ w.cell? (a.add (i * L.k + f)) = some u := fun f u hu => by
    have hf : f < L.k := by
      have := (List.getElem?_eq_some_iff.1 hu).1
      rwa [L.len] at this
    exact h _ u ((L.vals_at l i hi f hf).trans hu)
  have hlt : a.block < w.heap.size := by
    have h0 : (L.cs l[i])[0]? = some ((L.cs l[i])[0]'(by rw [L.len]; exact L.pos)) := List.getElem?_eq_getElem _
    exact (hat 0 _ h0).1
  refine ⟨by rw [add_block]; exact hlt, fun u hu => (hat 0 u hu).2, fun f u h1 hu => ?_⟩
  have := (hat f u hu).2
  rwa [add_over a _ f h1] at this
theorem Lay.Is.open_ (h : L.Is l w v) : ∃ A c, v = .slice A l.length c ∧ l.length ≤ c ∧ ∀ i (hi : i < l.length), ∃ a, A = some a ∧ L.At w (a.add (i * L.k)) l[i] := by
  rcases h with ⟨rfl, rfl⟩ | ⟨a, c, e, hr, hn⟩
  · exact ⟨none, 0, rfl, Nat.le_refl _, fun i hi => absurd hi (Nat.not_lt_zero _)⟩
  · exact ⟨some a, c, e, hn, fun i hi => ⟨a, rfl, Lay.at_ hr hi⟩⟩
theorem Lay.Is.own {base n : Nat} {e : TypeId} (h : OwnN e L.k base w v n (L.vals l)) (hn : n = l.length) : L.Is l w v := by
  subst hn
  rcases h.form with ⟨h1, h2, _⟩ | ⟨g, c, hv, _, _, hn, _, hr, _⟩
  · exact .inl ⟨h1, List.eq_nil_of_length_eq_zero h2⟩
  · exact .inr ⟨_, c, hv, hr, hn⟩
theorem Lay.raw_of {a : Addr} (h : ∀ i x, l[i]? = some x → a.block < w.heap.size ∧ ∀ f u, (L.cs x)[f]? = some u → w.cell? (a.add (i * L.k + f)) = some u) : Raw w a (L.vals l) := by
  intro q u hu
  have hk := L.pos
  have hq : q < l.length * L.k := by
    have := (List.getElem?_eq_some_iff.1 hu).1
    rwa [L.vals_len] at this
  have hi : q / L.k < l.length := Nat.div_lt_of_lt_mul (by rw [Nat.mul_comm]; exact hq)
  have hf : q % L.k < L.k := Nat.mod_lt _ hk
  have e : q = q / L.k * L.k + q % L.k := by rw [Nat.mul_comm]; exact (Nat.div_add_mod q L.k).symm
  obtain ⟨h1, h2⟩ := h (q / L.k) l[q / L.k] (by simp [hi])
  refine ⟨h1, ?_⟩
  rw [e] at hu ⊢
  rw [L.vals_at l (q / L.k) hi (q % L.k) hf] at hu
  exact h2 _ _ hu
theorem Lay.take (L : Lay α) (l : List α) : ∀ k, (L.vals l).take (k * L.k) = L.vals (l.take k) := by
  induction l with
  | nil => intro k; simp [Lay.vals]
  | cons s l ih =>
    intro k
    cases k with
    | zero => simp [Lay.vals]
    | succ k => rw [L.cons, Nat.add_mul, Nat.one_mul, Nat.add_comm, ← L.len s, List.take_length_add_append, List.take_succ_cons, L.cons, L.len, ih]
end
theorem list_by {α : Type} {P : Nat → α → Prop} : ∀ n : Nat, (∀ i, i < n → ∃ s, P i s) → ∃ l : List α, l.length = n ∧ ∀ i s, l[i]? = some s → P i s := by
  intro n
  induction n with
  | zero => intro _; exact ⟨[], rfl, fun i s h => by simp at h⟩
  | succ n ih =>
    intro h
    obtain ⟨l, hl, hp⟩ := ih fun i hi => h i (by omega)
    obtain ⟨s, hs⟩ := h n (by omega)
    refine ⟨l ++ [s], by simp [hl], fun i x hx => ?_⟩
    rcases Nat.lt_trichotomy i n with hi | hi | hi
    · rw [List.getElem?_append_left (by omega)] at hx; exact hp i x hx
    · subst hi
      rw [List.getElem?_append_right (by omega), hl, Nat.sub_self] at hx
      simp at hx
      subst hx; exact hs
    · rw [List.getElem?_append_right (by omega)] at hx
      have : i - l.length = i - l.length - 1 + 1 := by omega
      rw [this] at hx
      simp at hx
end Go.Proofs.Ytlfmkipcgcilaaa.Mem
namespace Go.Proofs.Ytlfmkipcgcilaaa.ApiMem
open Go.RowKit Go.Proofs.Ytlfmkipcgcilaaa.ApiPlain Go.Proofs.Ytlfmkipcgcilaaa.Mem
def prmC (x : Prm) : List Value := [.int .i64 x.id, .int .i64 x.at_, .int .i64 x.slack] -- 48
def prmV (x : Prm) : Value := .agg #[.int .i64 x.id, .int .i64 x.at_, .int .i64 x.slack] -- 48
theorem prmC_cell (x : Prm) : ∀ u ∈ prmC x, u.oneCell' = true := by -- 48
  intro u hu
  simp [prmC] at hu
  rcases hu with rfl | rfl | rfl <;> rfl
def prmL : Lay Prm := ⟨3, prmC, fun _ => rfl, prmC_cell, by decide⟩ -- 48
theorem prm_t : ElemT Try.prog 24 48 3 24 := ElemT.mk_ (.agg #[.int .i64 0, .int .i64 0, .int .i64 0]) Try.underlying24 (by kernel_rfl) rfl (by decide) (by decide)
structure PrmAt (w : World) (p : Addr) (x : Prm) : Prop where -- 48
  lt : p.block < w.heap.size
  c0 : w.cell? p = some (.int .i64 x.id)
  c1 : w.cell? ⟨p.block, p.off + 1, none⟩ = some (.int .i64 x.at_)
  c2 : w.cell? ⟨p.block, p.off + 2, none⟩ = some (.int .i64 x.slack)
theorem PrmAt.below {w w' : World} {p : Addr} {x : Prm} (h : PrmAt w p x) (hb : Below w.heap.size w w') : PrmAt w' p x := by -- 48
  have hc : ∀ o, w'.cell? ⟨p.block, o, none⟩ = w.cell? ⟨p.block, o, none⟩ := fun o => hb.cell (p := ⟨p.block, o, none⟩) h.lt
  exact ⟨Nat.lt_of_lt_of_le h.lt hb.size, (hb.cell h.lt).trans h.c0, (hc _).trans h.c1, (hc _).trans h.c2⟩
theorem PrmAt.of {w : World} {p : Addr} {x : Prm} (h : prmL.At w p x) : PrmAt w p x := ⟨h.lt, h.c0 _ rfl, h.c 1 _ (by decide) rfl, h.c 2 _ (by decide) rfl⟩ -- 48
theorem prms_open {l : List Prm} {w : World} {v : Value} (h : prmL.Is l w v) : ∃ A c, v = .slice A l.length c ∧ l.length ≤ c ∧ ∀ i (hi : i < l.length), ∃ a, A = some a ∧ PrmAt w (a.add (i * 3)) l[i] := by -- 48
  obtain ⟨A, c, e, hn, hat⟩ := h.open_
  exact ⟨A, c, e, hn, fun i hi => by
    obtain ⟨a, ea, h1⟩ := hat i hi
    exact ⟨a, ea, PrmAt.of h1⟩⟩
structure PrmBox (w : World) (n : Nat) (x : Prm) : Prop where -- 48
  lt : n < w.heap.size
  c0 : w.cell? ⟨n, 0, none⟩ = some (.int .i64 x.id)
  c1 : w.cell? ⟨n, 1, none⟩ = some (.int .i64 x.at_)
  c2 : w.cell? ⟨n, 2, none⟩ = some (.int .i64 x.slack)
  f0 : w.frozen? ⟨n, 0, none⟩ = false
  f1 : w.frozen? ⟨n, 1, none⟩ = false
  f2 : w.frozen? ⟨n, 2, none⟩ = false
theorem PrmBox.of {w : World} {n : Nat} {x : Prm} (h : Boxed w n (prmC x)) : PrmBox w n x := ⟨h.lt, h.c 0 _ rfl, h.c 1 _ rfl, h.c 2 _ rfl, h.f 0 _ rfl, h.f 1 _ rfl, h.f 2 _ rfl⟩ -- 48
theorem PrmBox.new_at {w : World} {n : Nat} (e : w.heap.size = n) (x : Prm) (T : TypeId) : PrmBox (w.alloc (.cells #[.int .i64 x.id, .int .i64 x.at_, .int .i64 x.slack] T)) n x := PrmBox.of (Boxed.new_at #[.int .i64 x.id, .int .i64 x.at_, .int .i64 x.slack] T e) -- 48
theorem PrmBox.new (w : World) (x : Prm) (T : TypeId) : PrmBox (w.alloc (.cells #[.int .i64 x.id, .int .i64 x.at_, .int .i64 x.slack] T)) w.heap.size x := PrmBox.new_at rfl x T -- 48
theorem PrmBox.of_block {w w' : World} {n : Nat} {x : Prm} (h : PrmBox w n x) (hs : n < w'.heap.size) (e : w'.heap[n]? = w.heap[n]?) : PrmBox w' n x := by -- 48
  have hc : ∀ i, w'.cell? ⟨n, i, none⟩ = w.cell? ⟨n, i, none⟩ := fun i => World.cell?_of_block (a := ⟨n, i, none⟩) e
  have hf : ∀ i, w'.frozen? ⟨n, i, none⟩ = w.frozen? ⟨n, i, none⟩ := fun i => World.frozen?_of_block (a := ⟨n, i, none⟩) e
  exact ⟨hs, (hc 0).trans h.c0, (hc 1).trans h.c1, (hc 2).trans h.c2, (hf 0).trans h.f0, (hf 1).trans h.f1, (hf 2).trans h.f2⟩
theorem PrmBox.below {w w' : World} {n : Nat} {x : Prm} (h : PrmBox w n x) (hb : Below w.heap.size w w') : PrmBox w' n x := h.of_block (Nat.lt_of_lt_of_le h.lt hb.size) (hb.block n h.lt) -- 48
theorem PrmBox.alloc {w : World} {n : Nat} {x : Prm} (h : PrmBox w n x) (o : Obj) : PrmBox (w.alloc o) n x := h.below ((Below.refl _ _).alloc (Nat.le_refl _) o) -- 48
end Go.Proofs.Ytlfmkipcgcilaaa.ApiMem
namespace Go.Proofs.Ytlfmkipcgcilaaa.JobMem
open Go.RowKit Go.Proofs.Ytlfmkipcgcilaaa.JobPlain Go.Proofs.Ytlfmkipcgcilaaa.Mem
def jobA (j : Jb) : Array Value := #[.int .i64 j.id, .string j.user, .int .i64 j.width, .int .i64 j.est, .int .i64 j.prio, .int .i64 j.sub, .int .i64 j.state, .int .i64 j.start, .int .i64 j.fin]
def jobV (j : Jb) : Value := .agg (jobA j)
/-- The box of a job: nine cells. -/
structure JobBox (w : World) (n : Nat) (j : Jb) : Prop where
  lt : n < w.heap.size
  c0 : w.cell? ⟨n, 0, none⟩ = some (.int .i64 j.id)
  c1 : w.cell? ⟨n, 1, none⟩ = some (.string j.user)
  c2 : w.cell? ⟨n, 2, none⟩ = some (.int .i64 j.width)
  c3 : w.cell? ⟨n, 3, none⟩ = some (.int .i64 j.est)
  c4 : w.cell? ⟨n, 4, none⟩ = some (.int .i64 j.prio)
  c5 : w.cell? ⟨n, 5, none⟩ = some (.int .i64 j.sub)
  c6 : w.cell? ⟨n, 6, none⟩ = some (.int .i64 j.state)
  c7 : w.cell? ⟨n, 7, none⟩ = some (.int .i64 j.start)
  c8 : w.cell? ⟨n, 8, none⟩ = some (.int .i64 j.fin)
  f0 : w.frozen? ⟨n, 0, none⟩ = false
  f1 : w.frozen? ⟨n, 1, none⟩ = false
  f2 : w.frozen? ⟨n, 2, none⟩ = false
  f3 : w.frozen? ⟨n, 3, none⟩ = false
  f4 : w.frozen? ⟨n, 4, none⟩ = false
  f5 : w.frozen? ⟨n, 5, none⟩ = false
  f6 : w.frozen? ⟨n, 6, none⟩ = false
  f7 : w.frozen? ⟨n, 7, none⟩ = false
  f8 : w.frozen? ⟨n, 8, none⟩ = false
section
variable {w w' : World} {n : Nat} {j : Jb}
theorem JobBox.of (h : Boxed w n (jobA j).toList) : JobBox w n j :=
  ⟨h.lt, h.c 0 _ rfl, h.c 1 _ rfl, h.c 2 _ rfl, h.c 3 _ rfl, h.c 4 _ rfl, h.c 5 _ rfl, h.c 6 _ rfl, h.c 7 _ rfl, h.c 8 _ rfl, h.f 0 _ rfl, h.f 1 _ rfl, h.f 2 _ rfl, h.f 3 _ rfl, h.f 4 _ rfl, h.f 5 _ rfl, h.f 6 _ rfl, h.f 7 _ rfl, h.f 8 _ rfl⟩
theorem JobBox.new (w : World) (j : Jb) (T : TypeId) : JobBox (w.alloc (.cells #[.int .i64 j.id, .string j.user, .int .i64 j.width, .int .i64 j.est, .int .i64 j.prio, .int .i64 j.sub, .int .i64 j.state, .int .i64 j.start, .int .i64 j.fin] T)) w.heap.size j := .of (Boxed.new w (jobA j) T)
theorem JobBox.of_block (h : JobBox w n j) (hs : n < w'.heap.size) (e : w'.heap[n]? = w.heap[n]?) : JobBox w' n j := by
  have hc : ∀ i, w'.cell? ⟨n, i, none⟩ = w.cell? ⟨n, i, none⟩ := fun i => World.cell?_of_block (a := ⟨n, i, none⟩) e
  have hf : ∀ i, w'.frozen? ⟨n, i, none⟩ = w.frozen? ⟨n, i, none⟩ := fun i => World.frozen?_of_block (a := ⟨n, i, none⟩) e
  exact ⟨hs, (hc 0).trans h.c0, (hc 1).trans h.c1, (hc 2).trans h.c2, (hc 3).trans h.c3, (hc 4).trans h.c4, (hc 5).trans h.c5, (hc 6).trans h.c6, (hc 7).trans h.c7, (hc 8).trans h.c8,
    (hf 0).trans h.f0, (hf 1).trans h.f1, (hf 2).trans h.f2, (hf 3).trans h.f3, (hf 4).trans h.f4, (hf 5).trans h.f5, (hf 6).trans h.f6, (hf 7).trans h.f7, (hf 8).trans h.f8⟩
theorem JobBox.below (h : JobBox w n j) (hb : Below w.heap.size w w') : JobBox w' n j := h.of_block (Nat.lt_of_lt_of_le h.lt hb.size) (hb.block n h.lt)
theorem JobBox.drewN (h : JobBox w n j) (q : Nat) : JobBox (w.drewN q) n j := ⟨h.lt, h.c0, h.c1, h.c2, h.c3, h.c4, h.c5, h.c6, h.c7, h.c8, h.f0, h.f1, h.f2, h.f3, h.f4, h.f5, h.f6, h.f7, h.f8⟩
end
theorem JobBox.alloc {w : World} {n : Nat} {j : Jb} (h : JobBox w n j) (o : Obj) : JobBox (w.alloc o) n j := h.below ((Below.refl _ _).alloc (Nat.le_refl _) o)
/-- A job that is stored whole. -/
def storedJ (w : World) (n : Nat) (x : Jb) : World := (((((((((w.setCell ⟨n, 0, none⟩ (.int .i64 x.id)).setCell ⟨n, 1, none⟩ (.string x.user)).setCell ⟨n, 2, none⟩ (.int .i64 x.width)).setCell ⟨n, 3, none⟩ (.int .i64 x.est)).setCell ⟨n, 4, none⟩ (.int .i64 x.prio)).setCell ⟨n, 5, none⟩ (.int .i64 x.sub)).setCell ⟨n, 6, none⟩ (.int .i64 x.state)).setCell ⟨n, 7, none⟩ (.int .i64 x.start)).setCell ⟨n, 8, none⟩ (.int .i64 x.fin))
theorem JobBox.stored {w : World} {n : Nat} {j : Jb} (h : JobBox w n j) (x : Jb) : JobBox (storedJ w n x) n x := by
  have h0 : Boxed w n (jobA j).toList := ⟨h.lt, fun i u hu => by
    match i, hu with
    | 0, hu => cases hu; exact h.c0
    | 1, hu => cases hu; exact h.c1
    | 2, hu => cases hu; exact h.c2
    | 3, hu => cases hu; exact h.c3
    | 4, hu => cases hu; exact h.c4
    | 5, hu => cases hu; exact h.c5
    | 6, hu => cases hu; exact h.c6
    | 7, hu => cases hu; exact h.c7
    | 8, hu => cases hu; exact h.c8
    | n + 9, hu => simp [jobA] at hu, fun i u hu => by
    match i, hu with
    | 0, hu => exact h.f0
    | 1, hu => exact h.f1
    | 2, hu => exact h.f2
    | 3, hu => exact h.f3
    | 4, hu => exact h.f4
    | 5, hu => exact h.f5
    | 6, hu => exact h.f6
    | 7, hu => exact h.f7
    | 8, hu => exact h.f8
    | n + 9, hu => simp [jobA] at hu⟩
  have h1 := ((((((((h0.set 0 (.int .i64 x.id)).set 1 (.string x.user)).set 2 (.int .i64 x.width)).set 3 (.int .i64 x.est)).set 4 (.int .i64 x.prio)).set 5 (.int .i64 x.sub)).set 6 (.int .i64 x.state)).set 7 (.int .i64 x.start)).set 8 (.int .i64 x.fin)
  exact JobBox.of h1
theorem below_stored {B : Nat} {a w : World} (h : Below B a w) {n : Nat} (hn : B ≤ n) (x : Jb) : Below B a (storedJ w n x) :=
  ((((((((h.setCell hn _).setCell hn _).setCell hn _).setCell hn _).setCell hn _).setCell hn _).setCell hn _).setCell hn _).setCell hn _
/-- What is read of a job fits: its end does not run over. -/
def Fit (j : Jb) : Prop := -9223372036854775808 ≤ j.fin ∧ j.fin ≤ 9223372036854775807 ∧ j.user.size ≤ 9223372036854775807
end Go.Proofs.Ytlfmkipcgcilaaa.JobMem
namespace Go.Proofs.Ytlfmkipcgcilaaa.OrdMem
open Go.RowKit Go.Proofs.Ytlfmkipcgcilaaa.JobPlain Go.Proofs.Ytlfmkipcgcilaaa.OrdPlain Go.Proofs.Ytlfmkipcgcilaaa.Mem Go.Proofs.Ytlfmkipcgcilaaa.JobMem
theorem below_box (w : World) (o : Obj) : Below w.heap.size w (w.alloc o) := (Below.refl _ _).alloc (Nat.le_refl _) o
def BoolB (b : Bool) (w : World) (e : Ending) (w' : World) : Prop := e = .returned (.bool b) ∧ Below w.heap.size w w'
def jobC (j : Jb) : List Value := [.int .i64 j.id, .string j.user, .int .i64 j.width, .int .i64 j.est, .int .i64 j.prio, .int .i64 j.sub, .int .i64 j.state, .int .i64 j.start, .int .i64 j.fin]
def jvals (l : List Jb) : List Value := l.flatMap jobC
theorem jobC_cell (j : Jb) : ∀ u ∈ jobC j, u.oneCell' = true := by
  intro u hu
  simp [jobC] at hu
  rcases hu with rfl | rfl | rfl | rfl | rfl | rfl | rfl | rfl | rfl <;> rfl
theorem jvals_at (l : List Jb) : ∀ i (hi : i < l.length) (f : Nat), f < 9 → (jvals l)[i * 9 + f]? = (jobC l[i])[f]? := by
  induction l with
  | nil => intro i h; simp at h
  | cons s l ih =>
    intro i h f hf
    have e : jvals (s :: l) = jobC s ++ jvals l := rfl
    rw [e]
    cases i with
    | zero =>
      rw [Nat.zero_mul, Nat.zero_add, List.getElem?_append_left (by simp [jobC]; omega)]
      rfl
    | succ i =>
      rw [List.getElem?_append_right (by simp [jobC]; omega)]
      have h1 := ih i (by simpa using h) f hf
      rw [show (i + 1) * 9 + f - (jobC s).length = i * 9 + f by simp [jobC]; omega, h1]
      rfl
/-- A slice of jobs, nil let in. -/
def JobsIs (l : List Jb) (w : World) (v : Value) : Prop := (v = .slice none 0 0 ∧ l = []) ∨ ∃ a c, v = .slice (some a) l.length c ∧ Raw w a (jvals l) ∧ l.length ≤ c
theorem JobsIs.below {l : List Jb} {w w' : World} {v : Value} (h : JobsIs l w v) (hb : Below w.heap.size w w') : JobsIs l w' v := by
  rcases h with h | ⟨a, c, e, hr, hn⟩
  · exact .inl h
  · exact .inr ⟨a, c, e, hr.below hb, hn⟩
/-- A job's cells from a place on. -/
structure JobAt (w : World) (p : Addr) (j : Jb) : Prop where
  lt : p.block < w.heap.size
  c0 : w.cell? p = some (.int .i64 j.id)
  c1 : w.cell? ⟨p.block, p.off + 1, none⟩ = some (.string j.user)
  c2 : w.cell? ⟨p.block, p.off + 2, none⟩ = some (.int .i64 j.width)
  c3 : w.cell? ⟨p.block, p.off + 3, none⟩ = some (.int .i64 j.est)
  c4 : w.cell? ⟨p.block, p.off + 4, none⟩ = some (.int .i64 j.prio)
  c5 : w.cell? ⟨p.block, p.off + 5, none⟩ = some (.int .i64 j.sub)
  c6 : w.cell? ⟨p.block, p.off + 6, none⟩ = some (.int .i64 j.state)
  c7 : w.cell? ⟨p.block, p.off + 7, none⟩ = some (.int .i64 j.start)
  c8 : w.cell? ⟨p.block, p.off + 8, none⟩ = some (.int .i64 j.fin)
theorem JobAt.below {w w' : World} {p : Addr} {j : Jb} (h : JobAt w p j) (hb : Below w.heap.size w w') : JobAt w' p j := by
  have hc : ∀ o, w'.cell? ⟨p.block, o, none⟩ = w.cell? ⟨p.block, o, none⟩ := fun o => hb.cell (p := ⟨p.block, o, none⟩) h.lt
  exact ⟨Nat.lt_of_lt_of_le h.lt hb.size, (hb.cell h.lt).trans h.c0, (hc _).trans h.c1, (hc _).trans h.c2, (hc _).trans h.c3, (hc _).trans h.c4, (hc _).trans h.c5, (hc _).trans h.c6, (hc _).trans h.c7, (hc _).trans h.c8⟩
theorem add_more (a : Addr) (k f : Nat) (hf : 0 < f) : a.add (k + f) = ⟨(a.add k).block, (a.add k).off + f, none⟩ := by
  unfold Addr.add
  by_cases h0 : k = 0
  · subst h0; simp; omega
  · simp [h0, Nat.add_assoc]
theorem jobs_at {l : List Jb} {w : World} {a : Addr} (h : Raw w a (jvals l)) {i : Nat} (hi : i < l.length) : JobAt w (a.add (i * 9)) l[i] := by
  have hat : ∀ f u, f < 9 → (jobC l[i])[f]? = some u → a.block < w.heap.size ∧ w.cell? (a.add (i * 9 + f)) = some u := fun f u hf hu => h _ u ((jvals_at l i hi f hf).trans hu)
  have h0 := hat 0 _ (by decide) rfl
  have hx : ∀ f u, 0 < f → f < 9 → (jobC l[i])[f]? = some u → w.cell? ⟨(a.add (i * 9)).block, (a.add (i * 9)).off + f, none⟩ = some u := fun f u h1 hf hu => by
    have := (hat f u hf hu).2
    rwa [add_more a _ f h1] at this
  exact ⟨by rw [add_block]; exact h0.1, h0.2, hx 1 _ (by decide) (by decide) rfl, hx 2 _ (by decide) (by decide) rfl, hx 3 _ (by decide) (by decide) rfl, hx 4 _ (by decide) (by decide) rfl, hx 5 _ (by decide) (by decide) rfl, hx 6 _ (by decide) (by decide) rfl, hx 7 _ (by decide) (by decide) rfl, hx 8 _ (by decide) (by decide) rfl⟩
theorem JobsIs.open_ {l : List Jb} {w : World} {v : Value} (h : JobsIs l w v) : ∃ A c, v = .slice A l.length c ∧ l.length ≤ c ∧ ∀ i (hi : i < l.length), ∃ a, A = some a ∧ JobAt w (a.add (i * 9)) l[i] := by
  rcases h with ⟨rfl, rfl⟩ | ⟨a, c, e, hr, hn⟩
  · exact ⟨none, 0, rfl, Nat.le_refl _, fun i hi => absurd hi (Nat.not_lt_zero _)⟩
  · exact ⟨some a, c, e, hn, fun i hi => ⟨a, rfl, jobs_at hr hi⟩⟩
end Go.Proofs.Ytlfmkipcgcilaaa.OrdMem
namespace Go.Proofs.Ytlfmkipcgcilaaa.OrdRef
open Go.RowKit Go.Proofs.Ytlfmkipcgcilaaa.JobPlain Go.Proofs.Ytlfmkipcgcilaaa.OrdPlain Go.Proofs.Ytlfmkipcgcilaaa.Mem Go.Proofs.Ytlfmkipcgcilaaa.JobMem Go.Proofs.Ytlfmkipcgcilaaa.OrdMem
def IntQ (n : Int) (w : World) (e : Ending) (w' : World) : Prop := e = .returned (.int .i64 n) ∧ w = w'
set_option maxHeartbeats 800000 in
theorem find8 (l : List Jb) (id : Int) (v : Value) (w : World) (hv : JobsIs l w v) (hl : l.length ≤ 100000) : Calls Try.prog 21 #[v, .int .i64 id] w (IntQ (findL l id) w) := by
  obtain ⟨A, c, rfl, hn, hA⟩ := hv.open_
  have HA := Lib.hid hA
  clear hA hv
  go_enter Try.func21, Try.ntmps21
  go_wp2_with fail
  go_loop [5] (fun i => ∃ k : Nat, k ≤ l.length ∧ i = .int .i64 k ∧ Hid (∀ i (hi : i < l.length), i < k → (l[i].id == id) = false)) (fun i => l.length - (intOf i).toNat)
  case atStart => exact ⟨0, Nat.zero_le _, rfl, fun _ _ h => absurd h (Nat.not_lt_zero _)⟩
  case round =>
    obtain ⟨k, hk, rfl, HD⟩ := hrel
    by_cases hlt : k < l.length
    · obtain ⟨a, rfl, ⟨p, p0, p1, p2, p3, p4, p5, p6, p7, p8⟩⟩ := HA.out k hlt
      have hlt2 : (k : Int) < (l.length : Int) := by omega
      have hkn : (0 : Int) ≤ (k : Int) := by omega
      have HF := Lib.hid (fun h => find_at (id := id) hlt HD.out h)
      have HN : Hid ((l[k].id == id) = false → ∀ i (hi : i < l.length), i < k + 1 → (l[i].id == id) = false) := fun h i hi hi2 => by
        by_cases he : i = k
        · subst he; exact h
        · exact HD.out i hi (by omega)
      generalize l[k] = j at *
      cases hd : (j.id == id)
      · go_wp2_with fail
        exact ⟨⟨k + 1, by omega, by go_num, HN.out hd⟩, by simp [intOf]; omega⟩
      · go_wp2_with fail
        go_ret
        rw [HF.out hd]
        exact ⟨rfl, rfl⟩
    · have HF := Lib.hid (find_none (l := l) (id := id) (fun i hi => HD.out i hi (by omega)))
      go_wp2_with fail
      go_ret
      rw [HF.out]
      exact ⟨rfl, rfl⟩
end Go.Proofs.Ytlfmkipcgcilaaa.OrdRef
namespace Go.Proofs.Ytlfmkipcgcilaaa.SlaRef
open Go.RowKit Go.Proofs.Ytlfmkipcgcilaaa.SpanPlain Go.Proofs.Ytlfmkipcgcilaaa.StepPlain Go.Proofs.Ytlfmkipcgcilaaa.GapPlain Go.Proofs.Ytlfmkipcgcilaaa.JobPlain Go.Proofs.Ytlfmkipcgcilaaa.OrdPlain Go.Proofs.Ytlfmkipcgcilaaa.ApiPlain Go.Proofs.Ytlfmkipcgcilaaa.ShaPlain Go.Proofs.Ytlfmkipcgcilaaa.SlaPlain Go.Proofs.Ytlfmkipcgcilaaa.Mem Go.Proofs.Ytlfmkipcgcilaaa.JobMem Go.Proofs.Ytlfmkipcgcilaaa.OrdMem Go.Proofs.Ytlfmkipcgcilaaa.ApiMem
def IntQ (n : Int) (w : World) (e : Ending) (w' : World) : Prop := e = .returned (.int .i64 n) ∧ w = w'
def BoolN (b : Bool) (w : World) (e : Ending) (w' : World) : Prop := e = .returned (.bool b) ∧ ∃ n, w' = w.drewN n
def BoolL (b : Bool) (w : World) (e : Ending) (w' : World) : Prop := e = .returned (.bool b) ∧ Below w.heap.size w w'
theorem findP_at {l : List Prm} {id : Int} {k : Nat} (hk : k < l.length) (h : ∀ i (hi : i < l.length), i < k → (l[i].id == id) = false) (hx : (l[k].id == id) = true) : findP l id = k := by
  unfold findP
  have : l.findIdx? (fun p => p.id == id) = some k := by
    rw [List.findIdx?_eq_some_iff_getElem]
    exact ⟨hk, hx, fun i hi => by simpa using h i (by omega) hi⟩
  rw [this]
theorem findP_none {l : List Prm} {id : Int} (h : ∀ i (hi : i < l.length), (l[i].id == id) = false) : findP l id = -1 := by
  unfold findP
  have : l.findIdx? (fun p => p.id == id) = none := by
    rw [List.findIdx?_eq_none_iff]
    intro x hx
    obtain ⟨i, hi, rfl⟩ := List.mem_iff_getElem.1 hx
    exact h i hi
  rw [this]
theorem prms_take {l : List Prm} {w : World} {a : Addr} {c k : Nat} (h : prmL.Is l w (.slice (some a) l.length c)) (hk : k ≤ l.length) : prmL.Is (l.take k) w (.slice (some a) k c) := by
  rcases h with ⟨h, _⟩ | ⟨a2, c2, e, hr, hn⟩
  · cases h
  · injection e with e1 e2 e3
    injection e1 with e1
    subst e1 e3
    refine .inr ⟨a, c, by rw [List.length_take, Nat.min_eq_left hk], ?_, by rw [List.length_take]; omega⟩
    rw [← Lay.take]
    intro i u hu
    refine hr i u ?_
    rw [List.getElem?_take] at hu
    split at hu
    · exact hu
    · cases hu
set_option maxHeartbeats 1200000 in
theorem find19 (l : List Prm) (id : Int) (v : Value) (w : World) (hv : prmL.Is l w v) (hl : l.length ≤ 100000) : Calls Try.prog 11 #[v, .int .i64 id] w (IntQ (findP l id) w) := by
  obtain ⟨A, c, rfl, hn, hA⟩ := prms_open hv
  have HA := Lib.hid hA
  clear hA hv
  go_enter Try.func11, Try.ntmps11
  go_wp2_with fail
  go_loop [5] (fun i => ∃ k : Nat, k ≤ l.length ∧ i = .int .i64 k ∧ Hid (∀ i (hi : i < l.length), i < k → (l[i].id == id) = false)) (fun i => l.length - (intOf i).toNat)
  case atStart => exact ⟨0, Nat.zero_le _, rfl, fun _ _ h => absurd h (Nat.not_lt_zero _)⟩
  case round =>
    obtain ⟨k, hk, rfl, HD⟩ := hrel
    by_cases hlt : k < l.length
    · obtain ⟨a, rfl, ⟨p, p0, p1, p2⟩⟩ := HA.out k hlt
      have hlt2 : (k : Int) < (l.length : Int) := by omega
      have hkn : (0 : Int) ≤ (k : Int) := by omega
      have HF := Lib.hid (fun h => findP_at (id := id) hlt HD.out h)
      have HN : Hid ((l[k].id == id) = false → ∀ i (hi : i < l.length), i < k + 1 → (l[i].id == id) = false) := fun h i hi hi2 => by
        by_cases he : i = k
        · subst he; exact h
        · exact HD.out i hi (by omega)
      generalize l[k] = j at *
      cases hd : (j.id == id)
      · go_wp2_with fail
        exact ⟨⟨k + 1, by omega, by go_num, HN.out hd⟩, by simp [intOf]; omega⟩
      · go_wp2_with fail
        go_ret
        rw [HF.out hd]
        exact ⟨rfl, rfl⟩
    · have HF := Lib.hid (findP_none (l := l) (id := id) (fun i hi => HD.out i hi (by omega)))
      go_wp2_with fail
      go_ret
      rw [HF.out]
      exact ⟨rfl, rfl⟩
theorem ne_prm (w : World) (x : Prm) : (binOp .neq 48 (prmV x) (prmV x)).run Try.prog w = .ok (.bool false) w := by
  have h1 : Try.prog.underlying 48 = some (.struct (Try.prog.fieldsOf 48)) := by kernel_rfl
  unfold prmV
  simp [go_sem]
set_option maxHeartbeats 1600000 in
theorem same19 (l : List Prm) (v u : Value) (w : World) (hv : prmL.Is l w v) (hu : prmL.Is l w u) (hl : l.length ≤ 100000) : Calls Try.prog 13 #[v, u] w (BoolN true w) := by
  obtain ⟨A, c, rfl, hn, hA⟩ := prms_open hv
  obtain ⟨B, d, rfl, hm, hB⟩ := prms_open hu
  have HA := Lib.hid hA
  have HB := Lib.hid hB
  clear hA hB hv hu
  have d0 : ((l.length : Int) != (l.length : Int)) = false := by simp
  go_enter Try.func13, Try.ntmps13
  go_wp2_with fail
  go_loopw [5] (fun i wr => ∃ k : Nat, k ≤ l.length ∧ i = .int .i64 k ∧ ∃ n, wr = w.drewN n) (fun i _ => l.length - (intOf i).toNat)
  case atStart => exact ⟨0, Nat.zero_le _, rfl, 0, rfl⟩
  case round =>
    obtain ⟨k, hk, rfl, n, rfl⟩ := hrel
    by_cases hlt : k < l.length
    · obtain ⟨a, rfl, ⟨p, p0, p1, p2⟩⟩ := HA.out k hlt
      obtain ⟨b, rfl, ⟨q, q0, q1, q2⟩⟩ := HB.out k hlt
      have hlt2 : (k : Int) < (l.length : Int) := by omega
      have hkn : (0 : Int) ≤ (k : Int) := by omega
      have E1 := fun W => ne_prm W l[k]
      generalize l[k] = j at *
      unfold prmV at E1
      go_wp2_with fail
      go_quiet (fail)
      go_wp2_with fail
      exact ⟨⟨k + 1, by omega, by go_num, _, rfl⟩, by simp [intOf] <;> omega⟩
    · go_wp2_with fail
      go_ret
      exact ⟨rfl, n, rfl⟩
theorem ok_ways (now : Int) (js : List Jb) (l : List Prm) (i : Nat) : (decide (findL js (nthP l i).id < 0) = true ∧ okP now js l i = false) ∨ (decide (findL js (nthP l i).id < 0) = false ∧ decide ((nthP l i).at_ < now) = true ∧ okP now js l i = false) ∨
    (decide (findL js (nthP l i).id < 0) = false ∧ decide ((nthP l i).at_ < now) = false ∧ decide (1125899906842624 < (nthP l i).at_) = true ∧ okP now js l i = false) ∨
    (decide (findL js (nthP l i).id < 0) = false ∧ decide ((nthP l i).at_ < now) = false ∧ decide (1125899906842624 < (nthP l i).at_) = false ∧ decide ((nthP l i).slack < 0) = true ∧ okP now js l i = false) ∨
    (decide (findL js (nthP l i).id < 0) = false ∧ decide ((nthP l i).at_ < now) = false ∧ decide (1125899906842624 < (nthP l i).at_) = false ∧ decide ((nthP l i).slack < 0) = false ∧ decide (1125899906842624 < (nthP l i).slack) = true ∧ okP now js l i = false) ∨
    (decide (findL js (nthP l i).id < 0) = false ∧ decide ((nthP l i).at_ < now) = false ∧ decide (1125899906842624 < (nthP l i).at_) = false ∧ decide ((nthP l i).slack < 0) = false ∧ decide (1125899906842624 < (nthP l i).slack) = false ∧ decide (0 ≤ findP (l.take i) (nthP l i).id) = true ∧ okP now js l i = false) ∨
    (decide (findL js (nthP l i).id < 0) = false ∧ decide ((nthP l i).at_ < now) = false ∧ decide (1125899906842624 < (nthP l i).at_) = false ∧ decide ((nthP l i).slack < 0) = false ∧ decide (1125899906842624 < (nthP l i).slack) = false ∧ decide (0 ≤ findP (l.take i) (nthP l i).id) = false ∧ okP now js l i = true) := by
  have hd : ∀ {x y : Int}, decide (x ≤ y) = !decide (y < x) := fun {x y} => by
    by_cases h : y < x
    · rw [decide_eq_true h, decide_eq_false (by omega)]; rfl
    · rw [decide_eq_false h, decide_eq_true (by omega)]; rfl
  unfold okP
  simp only [hd]
  cases decide (findL js (nthP l i).id < 0) <;> cases decide ((nthP l i).at_ < now) <;> cases decide (1125899906842624 < (nthP l i).at_) <;> cases decide ((nthP l i).slack < 0) <;> cases decide (1125899906842624 < (nthP l i).slack) <;> cases decide (findP (l.take i) (nthP l i).id < 0) <;> simp
set_option maxRecDepth 100000 in
set_option maxHeartbeats 1200000 in
theorem may19 (now : Int) (js : List Jb) (l : List Prm) (u v : Value) (w : World) (hu : JobsIs js w u) (hj : js.length ≤ 100000) (hv : prmL.Is l w v) (hl : l.length ≤ 100000) : Calls Try.prog 8 #[.int .i64 now, u, v] w (BoolL (mayP now js l) w) := by
  have HU := Lib.hid hu
  have HV := Lib.hid hv
  obtain ⟨B, d, rfl, _⟩ := hu.open_
  obtain ⟨A, c, rfl, hn, hA⟩ := prms_open hv
  have HA := Lib.hid hA
  clear hA hv hu
  go_enter Try.func8, Try.ntmps8
  go_wp2_with fail
  go_loopw [7] (fun i wr => ∃ k : Nat, k ≤ l.length ∧ i = .int .i64 k ∧ Hid (okTo now js l k = true ∧ Below w.heap.size w wr)) (fun i _ => l.length - (intOf i).toNat)
  case atStart => exact ⟨0, Nat.zero_le _, rfl, rfl, Below.refl _ _⟩
  case round =>
    obtain ⟨k, hk, rfl, HL⟩ := hrel
    obtain ⟨hok, hbl⟩ := HL.out
    have HBL := Lib.hid hbl
    by_cases hlt : k < l.length
    · obtain ⟨a, rfl, hat⟩ := HA.out k hlt
      rw [← nthP_at hlt] at hat
      have HAT := Lib.hid (hat.below hbl)
      have hlt2 : (k : Int) < (l.length : Int) := by omega
      have hkn : (0 : Int) ≤ (k : Int) := by omega
      have hkc : (k : Int) ≤ (c : Int) := by omega
      have C8 := Lib.hid (fun (z : Lull wr) => OrdRef.find8 js (nthP l k).id _ z.u ((HU.out.below hbl).below z.h) hj)
      have C9 := Lib.hid (fun (z : Lull wr) => find19 (l.take k) (nthP l k).id _ z.u (((prms_take HV.out hk).below hbl).below z.h) (by rw [List.length_take]; omega))
      have p0 : ∀ z : Lull wr, _ := fun z => (HAT.out.below z.h).c0
      have p1 : ∀ z : Lull wr, _ := fun z => (HAT.out.below z.h).c1
      have p2 : ∀ z : Lull wr, _ := fun z => (HAT.out.below z.h).c2
      have hways := ok_ways now js l k
      have HNO : Hid (okP now js l k = false → mayP now js l = false) := fun h => by unfold mayP; rw [okTo_no hlt h]; rfl
      have HNX : Hid (okP now js l k = true → okTo now js l (k + 1) = true) := fun h => by rw [okTo_next, hok, h]; rfl
      clear hat HL hok hbl
      generalize findP (l.take k) (nthP l k).id = F at *
      generalize nthP l k = p at *
      generalize findL js p.id = G at *
      generalize okP now js l k = X at *
      generalize mayP now js l = Y at *
      go_upto_region 4 with fail
      rcases hways with ⟨g1, rfl⟩ | ⟨g1, g2, rfl⟩ | ⟨g1, g2, g3, rfl⟩ | ⟨g1, g2, g3, g4, rfl⟩ | ⟨g1, g2, g3, g4, g5, rfl⟩ | ⟨g1, g2, g3, g4, g5, g6, rfl⟩ | ⟨g1, g2, g3, g4, g5, g6, rfl⟩
      all_goals
        first
          | have HE := Lib.hid (HNO.out rfl)
          | have HE := Lib.hid (HNX.out rfl)
        clear HNO HNX
        refine wp_region_calm (by kernel_rfl) (by kernel_rfl) ?_
        repeat (first | go_big_quiet_step ((first | (go_at_call 21; exact calm_same (C8.out _)) | (go_at_call 11; exact calm_same (C9.out _)))) | quiet_step ((first | (go_at_call 21; exact calm_same (C8.out _)) | (go_at_call 11; exact calm_same (C9.out _)))))
        refine wpQuiet_nil ?_
        intro w9 hw9
        have hb9 := lull_below hw9
        have HB9 := Lib.hid (HBL.out.trans (hb9.mono HBL.out.size))
        clear hw9 hb9 p0 p1 p2 C8 C9
        go_wp2_with fail
        first
          | exact ⟨⟨k + 1, by omega, by go_num, HE.out, HB9.out⟩, by simp [intOf] <;> omega⟩
          | (go_ret; exact ⟨by rw [HE.out]; rfl, HB9.out⟩)
    · obtain rfl : k = l.length := by omega
      have HE : Hid (mayP now js l = decide ((l.length : Int) ≤ 100)) := by
        show _ = _
        unfold mayP
        rw [hok, Bool.true_and]
        by_cases h : l.length ≤ 100
        · rw [decide_eq_true h, decide_eq_true (by omega)]
        · rw [decide_eq_false h, decide_eq_false (by omega)]
      clear HL hok hbl
      go_wp2_with fail
      go_ret
      exact ⟨by rw [HE.out]; rfl, HBL.out⟩
end Go.Proofs.Ytlfmkipcgcilaaa.SlaRef
namespace Go.Proofs.Ytlfmkipcgcilaaa.SpanMem
open Go.RowKit Go.Proofs.Ytlfmkipcgcilaaa.SpanPlain Go.Proofs.Ytlfmkipcgcilaaa.Mem
theorem ints_t : ElemT Try.prog 37 3 1 8 := ElemT.mk_ (.int .i64 0) Try.underlying37 (by kernel_rfl) rfl (by decide) (by decide)
theorem spans_t : ElemT Try.prog 81 77 2 16 := ElemT.mk_ (.agg #[.int .i64 0, .int .i64 0]) Try.underlying81 (by kernel_rfl) rfl (by decide) (by decide)
def spV (s : Sp) : Value := .agg #[.int .i64 s.1, .int .i64 s.2]
def spCells (s : Sp) : List Value := [.int .i64 s.1, .int .i64 s.2]
def svals (l : List Sp) : List Value := l.flatMap spCells
theorem svals_append (l m : List Sp) : svals (l ++ m) = svals l ++ svals m := by simp [svals]
theorem svals_len (l : List Sp) : (svals l).length = l.length * 2 := by
  induction l with
  | nil => rfl
  | cons s l ih => simp only [svals, List.flatMap_cons, List.length_append, List.length_cons] at *; rw [ih]; simp [spCells]; omega
theorem svals_cell (l : List Sp) : ∀ u ∈ svals l, u.oneCell' = true := by
  intro u hu
  obtain ⟨s, _, h⟩ := List.mem_flatMap.1 hu
  simp [spCells] at h
  rcases h with rfl | rfl <;> rfl
def spCell (l : List Sp) (i : Nat) : Value × Value := (.int .i64 (l.getD i (0, 0)).1, .int .i64 (l.getD i (0, 0)).2)
theorem svals_at (l : List Sp) : ∀ i, i < l.length → (svals l)[i * 2]? = some (spCell l i).1 ∧ (svals l)[i * 2 + 1]? = some (spCell l i).2 := by
  induction l with
  | nil => intro i h; simp at h
  | cons s l ih =>
    intro i h
    cases i with
    | zero => exact ⟨rfl, rfl⟩
    | succ i =>
      obtain ⟨h1, h2⟩ := ih i (by simpa using h)
      have e : svals (s :: l) = .int .i64 s.1 :: .int .i64 s.2 :: svals l := rfl
      rw [e, show (i + 1) * 2 = i * 2 + 1 + 1 by omega]
      exact ⟨h1, h2⟩
/-- A slice of spans, nil let in. -/
def SpansIs (l : List Sp) (w : World) (v : Value) : Prop := (v = .slice none 0 0 ∧ l = []) ∨ ∃ a c, v = .slice (some a) l.length c ∧ Raw w a (svals l) ∧ l.length ≤ c
theorem SpansIs.below {l : List Sp} {w w' : World} {v : Value} (h : SpansIs l w v) (hb : Below w.heap.size w w') : SpansIs l w' v := by
  rcases h with h | ⟨a, c, e, hr, hn⟩
  · exact .inl h
  · exact .inr ⟨a, c, e, hr.below hb, hn⟩
theorem SpansIs.open2 {l : List Sp} {w : World} {v : Value} (h : SpansIs l w v) : ∃ A c, v = .slice A l.length c ∧ l.length ≤ c ∧ Pairs w A l.length (spCell l) := by
  rcases h with ⟨rfl, rfl⟩ | ⟨a, c, e, hr, hn⟩
  · exact ⟨none, 0, rfl, Nat.le_refl _, Pairs.none_⟩
  · refine ⟨some a, c, e, hn, fun i hi => ⟨a, rfl, (hr _ _ (svals_at l i hi).1).1, ?_, ?_⟩⟩
    · exact (hr _ _ (svals_at l i hi).1).2
    · have h2 := (hr _ _ (svals_at l i hi).2).2
      have e : a.add (i * 2 + 1) = ⟨(a.add (i * 2)).block, (a.add (i * 2)).off + 1, none⟩ := by
        unfold Addr.add
        by_cases h0 : i * 2 = 0 <;> simp [h0, Nat.add_assoc]
      rwa [e] at h2
theorem SpansIs.open_ {l : List Sp} {w : World} {v : Value} (h : SpansIs l w v) : ∃ A c, v = .slice A l.length c ∧ Pairs w A l.length (spCell l) := by
  obtain ⟨A, c, e, _, hp⟩ := h.open2
  exact ⟨A, c, e, hp⟩
theorem OwnR.spans {base n : Nat} {w : World} {v : Value} {l : List Sp} {e : TypeId} (h : OwnR e 2 base w v n (svals l)) (hn : n = l.length) : SpansIs l w v := by
  subst hn
  obtain ⟨g, c, rfl, _, _, hn, _, h3, _⟩ := h.form
  exact .inr ⟨_, c, rfl, h3, hn⟩
theorem pairs_held {w w' : World} {a : Addr} {k : Nat} {u v : Value} (hb : Below w.heap.size w w') (h1 : w.cell? (a.add k) = some u) (h2 : w.cell? ⟨(a.add k).block, (a.add k).off + 1, none⟩ = some v) (hl : a.block < w.heap.size) :
    w'.cell? (a.add k) = some u ∧ w'.cell? ⟨(a.add k).block, (a.add k).off + 1, none⟩ = some v ∧ a.block < w'.heap.size := by
  obtain ⟨a1, a2, a3⟩ := pair_below hb hl h1 h2
  exact ⟨a2, a3, a1⟩
theorem list_of {α : Type} {P : Nat → α → Prop} : ∀ n : Nat, (∀ i, i < n → ∃ s, P i s) → ∃ l : List α, l.length = n ∧ ∀ i s, l[i]? = some s → P i s := by
  intro n
  induction n with
  | zero => intro _; exact ⟨[], rfl, fun i s h => by simp at h⟩
  | succ n ih =>
    intro h
    obtain ⟨l, hl, hp⟩ := ih fun i hi => h i (by omega)
    obtain ⟨s, hs⟩ := h n (by omega)
    refine ⟨l ++ [s], by simp [hl], fun i x hx => ?_⟩
    rcases Nat.lt_trichotomy i n with hi | hi | hi
    · rw [List.getElem?_append_left (by omega)] at hx; exact hp i x hx
    · subst hi
      rw [List.getElem?_append_right (by omega), hl, Nat.sub_self] at hx
      simp at hx
      subst hx; exact hs
    · rw [List.getElem?_append_right (by omega)] at hx
      have : i - l.length = i - l.length - 1 + 1 := by omega
      rw [this] at hx
      simp at hx
theorem svals_raw {l : List Sp} {w : World} {a : Addr} (h : ∀ i s, l[i]? = some s → a.block < w.heap.size ∧ w.cell? (a.add (i * 2)) = some (.int .i64 s.1) ∧ w.cell? (a.add (i * 2 + 1)) = some (.int .i64 s.2)) : Raw w a (svals l) := by
  intro j u hu
  have hj : j < l.length * 2 := by
    have := (List.getElem?_eq_some_iff.1 hu).1
    rwa [svals_len] at this
  have hi : j / 2 < l.length := by omega
  obtain ⟨h1, h2⟩ := svals_at l (j / 2) hi
  have hg : l[j / 2]? = some (l.getD (j / 2) (0, 0)) := by simp [List.getD, hi]
  obtain ⟨g1, g2, g3⟩ := h _ _ hg
  refine ⟨g1, ?_⟩
  by_cases he : j % 2 = 0
  · have e : j = j / 2 * 2 := by omega
    rw [← e] at h1 g2
    rw [h1] at hu
    injection hu with hu
    subst hu
    exact g2
  · have e : j = j / 2 * 2 + 1 := by omega
    rw [← e] at h2 g3
    rw [h2] at hu
    injection hu with hu
    subst hu
    exact g3
end Go.Proofs.Ytlfmkipcgcilaaa.SpanMem
namespace Go.Proofs.Ytlfmkipcgcilaaa.StepMem
open Go.RowKit Go.Proofs.Ytlfmkipcgcilaaa.SpanPlain Go.Proofs.Ytlfmkipcgcilaaa.StepPlain Go.Proofs.Ytlfmkipcgcilaaa.Mem Go.Proofs.Ytlfmkipcgcilaaa.SpanMem
theorem steps_t : ElemT Try.prog 22 50 2 16 := ElemT.mk_ (.agg #[.int .i64 0, .int .i64 0]) Try.underlying22 (by kernel_rfl) rfl (by decide) (by decide)
theorem last_cell (d : List Sp) (s : Sp) : (svals (d ++ [s]))[d.length * 2 + 1]? = some (.int .i64 s.2) := by
  have h := (svals_at (d ++ [s]) d.length (by simp)).2
  rw [h]
  simp [spCell, List.getD]
theorem snoc_ways (c : List Sp) : c = [] ∨ ∃ d s, c = d ++ [s] := by
  by_cases h : c = []
  · exact .inl h
  · exact .inr ⟨c.dropLast, c.getLast h, (List.dropLast_concat_getLast h).symm⟩
theorem svals_snoc (d : List Sp) (s : Sp) : svals (d ++ [s]) = svals d ++ [.int .i64 s.1, .int .i64 s.2] := by rw [svals_append]; rfl
theorem spans_of_own {base n : Nat} {w : World} {v : Value} {l : List Sp} {e : TypeId} (h : OwnN e 2 base w v n (svals l)) (hn : n = l.length) : SpansIs l w v := by
  subst hn
  rcases h.form with ⟨h1, h2, _⟩ | ⟨g, c, hv, _, _, hn, _, hr, _⟩
  · exact .inl ⟨h1, List.eq_nil_of_length_eq_zero h2⟩
  · exact .inr ⟨_, c, hv, hr, hn⟩
end Go.Proofs.Ytlfmkipcgcilaaa.StepMem
namespace Go.Proofs.Ytlfmkipcgcilaaa.SpanRef
open Go.RowKit Go.Proofs.Ytlfmkipcgcilaaa.SpanPlain Go.Proofs.Ytlfmkipcgcilaaa.Mem Go.Proofs.Ytlfmkipcgcilaaa.SpanMem
def BoolIs (b : Bool) (w : World) (e : Ending) (w' : World) : Prop := e = .returned (.bool b) ∧ Below w.heap.size w w'
end Go.Proofs.Ytlfmkipcgcilaaa.SpanRef
namespace Go.Proofs.Ytlfmkipcgcilaaa.SpanRef
open Go.RowKit Go.Proofs.Ytlfmkipcgcilaaa.SpanPlain Go.Proofs.Ytlfmkipcgcilaaa.Mem Go.Proofs.Ytlfmkipcgcilaaa.SpanMem
set_option maxHeartbeats 800000 in
theorem may_any (s : Sp) (w : World) : Calls Try.prog 61 #[spV s] w (BoolIs (mayB s) w) := by
  have hs := may_cases s
  obtain ⟨a, b⟩ := s
  unfold spV
  dsimp only at hs ⊢
  generalize mayB (a, b) = B at *
  rcases hs with ⟨rfl, h1, h2, h3⟩ | ⟨rfl, h1⟩ | ⟨rfl, h1, h2⟩ | ⟨rfl, h1, h2, h3⟩
  all_goals
    go_enter Try.func61, Try.ntmps61
    go_wp2_with fail
    go_ret
    exact ⟨rfl, (Below.refl _ _).alloc (Nat.le_refl _) _⟩
end Go.Proofs.Ytlfmkipcgcilaaa.SpanRef
namespace Go.Proofs.Ytlfmkipcgcilaaa.SpanRef
open Go.RowKit Go.Proofs.Ytlfmkipcgcilaaa.SpanPlain Go.Proofs.Ytlfmkipcgcilaaa.Mem Go.Proofs.Ytlfmkipcgcilaaa.SpanMem
set_option maxHeartbeats 1600000 in
theorem has_any (l : List Sp) (A : Option Addr) (c : Nat) (t : Int) (w : World) (hA : Pairs w A l.length (spCell l)) (hl : l.length ≤ 9000) :
    Calls Try.prog 52 #[.slice A l.length c, .int .i64 t] w (BoolIs (anyB l t) w) := by
  have HA := Lib.hid hA
  clear hA
  go_enter Try.func52, Try.ntmps52
  go_wp2_with fail
  go_loopw [5] (fun i wr => ∃ k : Nat, i = .int .i64 k ∧ k ≤ l.length ∧ Hid (anyB (l.take k) t = false) ∧ Hid (Below w.heap.size w wr)) (fun i _ => l.length - (intOf i).toNat)
  case atStart => exact ⟨0, rfl, Nat.zero_le _, rfl, Below.refl _ _⟩
  case round =>
    obtain ⟨k, rfl, hk, HS, HB⟩ := hrel
    by_cases hlt : k < l.length
    · obtain ⟨ad, rfl, had, c1, c2⟩ := (HA.out.below HB.out) k hlt
      have hs := has_cases (l.getD k (0, 0)) t
      have C1 := Lib.hid (fun w => may_any (l.getD k (0, 0)) w)
      have HN := Lib.hid (fun h => any_next hlt HS.out h)
      have HF := Lib.hid (fun h => any_found (t := t) hlt h)
      unfold spV at C1
      unfold spCell at c1 c2
      dsimp only at c1 c2
      generalize l.getD k (0, 0) = s at *
      rcases hs with ⟨hh, hm⟩ | ⟨hh, hm, h1⟩ | ⟨hh, hm, h1, h2⟩ | ⟨hh, hm, h1, h2⟩
      all_goals
        rw [hm] at C1
        have HH := Lib.hid hh
        have HA1 := Lib.hid had
        clear hh hm had
        go_wp2_with fail
        refine (C1.out _).mono ?_
        rintro e w1 ⟨rfl, hb1⟩
        obtain ⟨_, d1, d2⟩ := pair_below hb1 HA1.out c1 c2
        have HB1 := Lib.hid (below_then HB.out hb1)
        clear hb1
        go_wp2_with fail
        first
          | exact ⟨⟨k + 1, by go_num, by omega, HN.out HH.out, HB1.out⟩, by simp [intOf] <;> omega⟩
          | (go_ret; exact ⟨by rw [HF.out HH.out]; rfl, HB1.out⟩)
    · go_wp2_with fail
      go_ret
      exact ⟨by rw [any_all (by omega) HS.out]; rfl, HB.out⟩
theorem has_is (l : List Sp) (v : Value) (t : Int) (w : World) (h : SpansIs l w v) (hl : l.length ≤ 9000) : Calls Try.prog 52 #[v, .int .i64 t] w (BoolIs (anyB l t) w) := by
  obtain ⟨A, c, rfl, hp⟩ := h.open_
  exact has_any l A c t w hp hl
end Go.Proofs.Ytlfmkipcgcilaaa.SpanRef
namespace Go.Proofs.Ytlfmkipcgcilaaa.SpanRef
open Go.RowKit Go.Proofs.Ytlfmkipcgcilaaa.SpanPlain Go.Proofs.Ytlfmkipcgcilaaa.Mem Go.Proofs.Ytlfmkipcgcilaaa.SpanMem
def PutIs (l : List Int) (w : World) (e : Ending) (w' : World) : Prop := ∃ v, e = .returned v ∧ IntsIs l w' v ∧ Below w.heap.size w w'
theorem atTo_succ (l : List Int) (n : Int) (k : Nat) : atTo l n (k + 1) = if l.getD k 0 < n then k + 1 else atTo l n k := rfl
theorem put_next {l : List Int} {n : Int} {k : Nat} (hk : k < l.length) (h : n ∉ l.take k) (hn : l.getD k 0 ≠ n) : n ∉ l.take (k + 1) := by
  rw [List.take_succ_eq_append_getElem hk, List.mem_append]
  rintro (g | g)
  · exact h g
  · simp at g
    rw [getD_el hk] at hn
    exact hn g.symm
set_option maxHeartbeats 1600000 in
theorem put_any (l : List Int) (n : Int) (v : Value) (w : World) (hv : IntsIs l w v) (hl : l.length ≤ 9000) :
    Calls Try.prog 62 #[v, .int .i64 n] w (PutIs (putL l n) w) := by
  obtain ⟨ad, c, rfl, hA, hc1, hc2⟩ := hv
  have HA := Lib.hid hA
  clear hA
  unfold maxLen at hc2
  go_enter Try.func62, Try.ntmps62
  go_wp2_with fail
  go_loop [5, 6] (fun a i => ∃ k : Nat, a = .int .i64 (atTo l n k : Nat) ∧ i = .int .i64 k ∧ k ≤ l.length ∧ Hid (n ∉ l.take k)) (fun _ i => l.length - (intOf i).toNat)
  case atStart => exact ⟨0, rfl, rfl, Nat.zero_le _, by simp [Hid]⟩
  case round =>
    obtain ⟨k, rfl, rfl, hk, HN⟩ := hrel
    by_cases hlt : k < l.length
    · have hc3 := HA.out.int hlt
      have hm : l.getD k 0 ∈ l := getD_mem hlt
      have hcase : ((l.getD k 0 == n) = true) ∨ ((l.getD k 0 == n) = false ∧ decide (l.getD k 0 < n) = true ∧ atTo l n (k + 1) = k + 1) ∨ ((l.getD k 0 == n) = false ∧ decide (l.getD k 0 < n) = false ∧ atTo l n (k + 1) = atTo l n k) := by
        by_cases h1 : l.getD k 0 = n
        · left; exact beq_iff_eq.2 h1
        · by_cases h2 : l.getD k 0 < n
          · right; left; exact ⟨beq_eq_false_iff_ne.2 h1, decide_eq_true h2, (atTo_succ l n k).trans (if_pos h2)⟩
          · right; right; exact ⟨beq_eq_false_iff_ne.2 h1, decide_eq_false h2, (atTo_succ l n k).trans (if_neg h2)⟩
      have HX := Lib.hid (fun h => put_next hlt HN.out h)
      have HM := Lib.hid hm
      clear hm
      generalize l.getD k 0 = x at *
      rcases hcase with h1 | ⟨h1, h2, h3⟩ | ⟨h1, h2, h3⟩
      · have e : x = n := by simpa using h1
        subst e
        go_wp2_with fail
        go_ret
        exact ⟨_, rfl, by rw [putL_in HM.out]; exact ⟨ad, c, rfl, HA.out, hc1, by unfold maxLen; omega⟩, Below.refl _ _⟩
      · have H3 := Lib.hid h3
        clear h3
        have hne : x ≠ n := by simpa using h1
        have HN2 := Lib.hid (HX.out hne)
        clear hne
        go_wp2_with fail
        exact ⟨⟨k + 1, by rw [H3.out]; go_num, by go_num, by omega, HN2⟩, by simp [intOf] <;> omega⟩
      · have H3 := Lib.hid h3
        clear h3
        have hne : x ≠ n := by simpa using h1
        have HN2 := Lib.hid (HX.out hne)
        clear hne
        go_wp2_with fail
        exact ⟨⟨k + 1, by rw [H3.out], by go_num, by omega, HN2⟩, by simp [intOf] <;> omega⟩
    · obtain rfl : k = l.length := by omega
      have HP := Lib.hid (putL_out (l := l) (n := n) (by have := HN.out; rwa [List.take_length] at this))
      have hat := atTo_le l n l.length
      generalize hq : atTo l n l.length = q at *
      clear hq
      clear hlt
      have HO := Lib.hid (OwnR.new w 3 1)
      have HB := Lib.hid ((Below.refl w.heap.size w).alloc (Nat.le_refl _) (.cells #[] 3))
      have hcase : c = q ∨ ¬ c = q := Classical.em _
      have HD := Lib.hid ((HA.out.below HB.out).drop q)
      rcases hcase with hcq | hcq
      · have he : l.drop q = [] := List.drop_of_length_le (by omega)
        have HE := Lib.hid he
        clear he
        go_wp2_with (at_builtin; refine push_raw ints_t rfl (.tmp 29) (.tmp 32) rfl w.heap.size _ 0 [] rfl HO.out ad _ _ [] rfl ?h1a ?h1b ?h1c ?h1d ?_)
        case h1a => omega
        case h1b => exact raw_nil (HA.out.below HB.out)
        case h1d => omega
        intro v1 w1 hown1 hb1
        have H1 : Hid (OwnR 3 1 w.heap.size w1 v1 (l.drop q).length (ivals (l.drop q))) := by
          have e : l.length - q = 0 := by omega
          rw [e] at hown1
          rw [HE.out]
          exact hown1
        have H2 : Hid (IntsIs (l.drop q) w1 v1) := OwnR.ints H1.out rfl
        clear hown1 H1
        have HB1 := Lib.hid (HB.out.trans (hb1.mono (by simp)))
        clear hb1
        obtain ⟨a1, k1, hv1, hr1, hk1, hk2⟩ := H2.out
        have HR1 := Lib.hid hr1
        clear H2 hr1 hk2
        subst hv1
        have HO2 := Lib.hid (OwnR.new w1 3 1)
        have HB2 := Lib.hid ((Below.refl w1.heap.size w1).alloc (Nat.le_refl _) (.cells #[] 3))
        have HT := Lib.hid (((HA.out.below HB1.out).below HB2.out).take q)
        go_wp2_with (at_builtin; refine push_raw ints_t rfl (.tmp 34) (.tmp 37) rfl w1.heap.size _ 0 [] rfl HO2.out ad q _ (ivals (l.take q)) rfl ?h2a ?h2b ?h2c ?h2d ?_)
        case h2a => simp [ivals_len]; omega
        case h2b => rw [← ivals_take]; exact HT.out
        case h2c => exact ivals_cell _
        case h2d => omega
        intro v2 w2 hown2 hb2
        have HO3 := Lib.hid hown2
        have HB3 := Lib.hid (HB2.out.trans hb2)
        clear hown2 hb2 HT
        go_wp2_with (at_builtin; refine push_raw ints_t rfl (.tmp 38) (.tmp 40) rfl w1.heap.size _ _ _ rfl (HO3.out.alloc _) ⟨w2.heap.size, 0, none⟩ 1 1 [.int .i64 n] rfl ?h3a ?h3b ?h3c ?h3d ?_)
        case h3a => rfl
        case h3b => exact Raw.alloc w2 #[.int .i64 n] _
        case h3c => exact one_cell
        case h3d => omega
        intro v3 w3 hown3 hb3
        have HO4 := Lib.hid hown3
        have HB4 := Lib.hid (HB3.out.trans (((Below.refl w1.heap.size w2).alloc HB3.out.size _).trans hb3))
        clear hown3 hb3
        go_wp2_with (at_builtin; refine push_raw ints_t rfl (.tmp 41) (.tmp 42) rfl w1.heap.size _ _ _ rfl HO4.out a1 _ k1 (ivals (l.drop q)) rfl ?h4a ?h4b ?h4c ?h4d ?_)
        case h4a => simp [ivals_len]
        case h4b => exact HR1.out.below HB4.out
        case h4c => exact ivals_cell _
        case h4d => omega
        intro v4 w4 hown4 hb4
        go_wp2_with fail
        go_ret
        refine ⟨_, rfl, ?_, HB1.out.trans ((HB4.out.trans hb4).mono HB1.out.size)⟩
        have hp := HP.out
        rw [hp]
        have h5 : OwnR 3 1 w1.heap.size w4 v4 (l.take q ++ ([n] ++ l.drop q)).length (ivals (l.take q ++ ([n] ++ l.drop q))) := hown4.cast (by simp; omega) (by simp [ivals])
        exact OwnR.ints h5 rfl
      · go_wp2_with (at_builtin; refine push_raw ints_t rfl (.tmp 29) (.tmp 32) rfl w.heap.size _ 0 [] rfl HO.out (ad.add q) (l.length - q) (c - q) (ivals (l.drop q)) rfl ?h5a ?h5b ?h5c ?h5d ?_)
        case h5a => simp [ivals_len]
        case h5b => rw [← ivals_drop]; exact HD.out
        case h5c => exact ivals_cell _
        case h5d => omega
        intro v1 w1 hown1 hb1
        have H1 : Hid (OwnR 3 1 w.heap.size w1 v1 (l.drop q).length (ivals (l.drop q))) := by
          rw [List.length_drop]
          exact hown1
        have H2 : Hid (IntsIs (l.drop q) w1 v1) := OwnR.ints H1.out rfl
        clear hown1 H1
        have HB1 := Lib.hid (HB.out.trans (hb1.mono (by simp)))
        clear hb1
        obtain ⟨a1, k1, hv1, hr1, hk1, hk2⟩ := H2.out
        have HR1 := Lib.hid hr1
        clear H2 hr1 hk2
        subst hv1
        have HO2 := Lib.hid (OwnR.new w1 3 1)
        have HB2 := Lib.hid ((Below.refl w1.heap.size w1).alloc (Nat.le_refl _) (.cells #[] 3))
        have HT := Lib.hid (((HA.out.below HB1.out).below HB2.out).take q)
        go_wp2_with (at_builtin; refine push_raw ints_t rfl (.tmp 34) (.tmp 37) rfl w1.heap.size _ 0 [] rfl HO2.out ad q _ (ivals (l.take q)) rfl ?h6a ?h6b ?h6c ?h6d ?_)
        case h6a => simp [ivals_len]; omega
        case h6b => rw [← ivals_take]; exact HT.out
        case h6c => exact ivals_cell _
        case h6d => omega
        intro v2 w2 hown2 hb2
        have HO3 := Lib.hid hown2
        have HB3 := Lib.hid (HB2.out.trans hb2)
        clear hown2 hb2 HT
        go_wp2_with (at_builtin; refine push_raw ints_t rfl (.tmp 38) (.tmp 40) rfl w1.heap.size _ _ _ rfl (HO3.out.alloc _) ⟨w2.heap.size, 0, none⟩ 1 1 [.int .i64 n] rfl ?h7a ?h7b ?h7c ?h7d ?_)
        case h7a => rfl
        case h7b => exact Raw.alloc w2 #[.int .i64 n] _
        case h7c => exact one_cell
        case h7d => omega
        intro v3 w3 hown3 hb3
        have HO4 := Lib.hid hown3
        have HB4 := Lib.hid (HB3.out.trans (((Below.refl w1.heap.size w2).alloc HB3.out.size _).trans hb3))
        clear hown3 hb3
        go_wp2_with (at_builtin; refine push_raw ints_t rfl (.tmp 41) (.tmp 42) rfl w1.heap.size _ _ _ rfl HO4.out a1 _ k1 (ivals (l.drop q)) rfl ?h8a ?h8b ?h8c ?h8d ?_)
        case h8a => simp [ivals_len]
        case h8b => exact HR1.out.below HB4.out
        case h8c => exact ivals_cell _
        case h8d => omega
        intro v4 w4 hown4 hb4
        go_wp2_with fail
        go_ret
        refine ⟨_, rfl, ?_, HB1.out.trans ((HB4.out.trans hb4).mono HB1.out.size)⟩
        have hp := HP.out
        rw [hp]
        have h5 : OwnR 3 1 w1.heap.size w4 v4 (l.take q ++ ([n] ++ l.drop q)).length (ivals (l.take q ++ ([n] ++ l.drop q))) := hown4.cast (by simp; omega) (by simp [ivals])
        exact OwnR.ints h5 rfl
end Go.Proofs.Ytlfmkipcgcilaaa.SpanRef
namespace Go.Proofs.Ytlfmkipcgcilaaa.SpanRef
open Go.RowKit Go.Proofs.Ytlfmkipcgcilaaa.SpanPlain Go.Proofs.Ytlfmkipcgcilaaa.Mem Go.Proofs.Ytlfmkipcgcilaaa.SpanMem
theorem ends_take {l : List Sp} {k : Nat} (hk : k < l.length) : endsL (l.take (k + 1)) = endsStep (endsL (l.take k)) (l.getD k (0, 0)) := by
  rw [List.take_succ_eq_append_getElem hk, endsL_snoc]
  simp [List.getD, hk]
theorem ends_take_len {l : List Sp} {k : Nat} (hl : l.length ≤ 4000) : (endsL (l.take k)).length ≤ 8000 := by
  have := (ends_spec (l.take k)).2.2
  rw [List.length_take] at this
  omega
set_option maxHeartbeats 3200000 in
theorem ends_any (l : List Sp) (v : Value) (w : World) (hv : SpansIs l w v) (hl : l.length ≤ 4000) : Calls Try.prog 50 #[v] w (PutIs (endsL l) w) := by
  obtain ⟨A, c, rfl, hA⟩ := hv.open_
  have HA := Lib.hid hA
  clear hA hv
  go_enter Try.func50, Try.ntmps50
  go_wp2_with fail
  go_loopw [3, 4] (fun o i wr => ∃ (k : Nat) (v : Value), v = o ∧ i = .int .i64 k ∧ k ≤ l.length ∧ Hid (IntsIs (endsL (l.take k)) wr v) ∧ Hid (Below w.heap.size w wr)) (fun _ i _ => l.length - (intOf i).toNat)
  case atStart => exact ⟨0, _, rfl, rfl, Nat.zero_le _, OwnR.ints (OwnR.new w 3 1) rfl, (Below.refl _ _).alloc (Nat.le_refl _) _⟩
  case round =>
    obtain ⟨k, v, hv, rfl, hk, HV, HB⟩ := hrel
    subst hv
    by_cases hlt : k < l.length
    · obtain ⟨ad, rfl, had, c1, c2⟩ := (HA.out.below HB.out) k hlt
      have HE := Lib.hid (ends_take hlt)
      have HL := Lib.hid (ends_take_len (l := l) (k := k) hl)
      have C1 := Lib.hid (fun w => may_any (l.getD k (0, 0)) w)
      unfold spV at C1
      unfold spCell at c1 c2
      dsimp only at c1 c2
      generalize l.getD k (0, 0) = s at *
      generalize endsL (l.take k) = o at *
      cases hm : mayB s with
      | false =>
        rw [hm] at C1
        have HM := Lib.hid hm
        clear hm
        go_wp2_with fail
        refine (C1.out _).mono ?_
        rintro e w1 ⟨rfl, hb1⟩
        have HB1 := Lib.hid hb1
        clear hb1
        go_wp2_with fail
        exact ⟨⟨k + 1, _, rfl, by go_num, by omega, by rw [HE.out]; unfold endsStep; rw [if_neg (by rw [HM.out]; simp)]; exact HV.out.below HB1.out, below_then HB.out HB1.out⟩, by simp [intOf] <;> omega⟩
      | true =>
        rw [hm] at C1
        have HM := Lib.hid hm
        clear hm
        go_wp2_with fail
        refine (C1.out _).mono ?_
        rintro e w1 ⟨rfl, hb1⟩
        obtain ⟨had1, d1, d2⟩ := pair_below hb1 had c1 c2
        have HB1 := Lib.hid hb1
        clear hb1 c1 c2 had
        have P1 := Lib.hid (put_any o s.1 v w1 (HV.out.below HB1.out) (by have := HL.out; omega))
        have hl2 := putL_len o s.1
        go_upto_region 6 with fail
        go_region_held3 (fun w' => w'.cell? (ad.add (k * 2)) = some (.int .i64 s.1) ∧ w'.cell? ⟨(ad.add (k * 2)).block, (ad.add (k * 2)).off + 1, none⟩ = some (.int .i64 s.2) ∧ ad.block < w'.heap.size)
          (first | go_keep | (go_split_ands; exact pairs_held (by assumption) (by assumption) (by assumption) (by assumption)))
          (first
            | (go_at_call_of 62 v; (refine (put_any o s.1 v _ (IntsIs.drew (HV.out.below HB1.out)) (by have := HL.out; omega)).mono ?_; rintro e w2 ⟨v1, rfl, hi1, hb2⟩))
            | (go_at_call_of 62 v1; (refine (put_any (putL o s.1) s.2 v1 _ hi1 (by have := HL.out; omega)).mono ?_; rintro e w3 ⟨v2, rfl, hi2, hb3⟩)))
        have HB3 := Lib.hid (below_then HB.out (below_then HB1.out (below_then (below_of_drew hb2) hb3)))
        have HI := Lib.hid hi2
        clear hb2 hb3 hi1 hi2 hl2 P1
        go_wp2_with fail
        exact ⟨⟨k + 1, _, rfl, by go_num, by omega, by rw [HE.out]; unfold endsStep; rw [if_pos HM.out]; exact HI.out, HB3.out⟩, by simp [intOf] <;> omega⟩
    · go_wp2_with fail
      go_ret
      have h := HV.out
      rw [List.take_of_length_le (by omega)] at h
      exact ⟨_, rfl, h, HB.out⟩
end Go.Proofs.Ytlfmkipcgcilaaa.SpanRef
namespace Go.Proofs.Ytlfmkipcgcilaaa.SpanRef
open Go.RowKit Go.Proofs.Ytlfmkipcgcilaaa.SpanPlain Go.Proofs.Ytlfmkipcgcilaaa.Mem Go.Proofs.Ytlfmkipcgcilaaa.SpanMem
theorem same_take {a b : List Sp} {k : Nat} (ha : k < a.length) (hb : k < b.length) (h : a.take k = b.take k) (he : a.getD k (0, 0) = b.getD k (0, 0)) : a.take (k + 1) = b.take (k + 1) := by
  rw [List.take_succ_eq_append_getElem ha, List.take_succ_eq_append_getElem hb, h]
  simp [List.getD, ha, hb] at he
  rw [he]
theorem same_not {a b : List Sp} {k : Nat} (ha : k < a.length) (hb : k < b.length) (he : a.getD k (0, 0) ≠ b.getD k (0, 0)) : a ≠ b := fun h => by subst h; exact he rfl
end Go.Proofs.Ytlfmkipcgcilaaa.SpanRef
namespace Go.Proofs.Ytlfmkipcgcilaaa.SpanRef
open Go.RowKit Go.Proofs.Ytlfmkipcgcilaaa.SpanPlain Go.Proofs.Ytlfmkipcgcilaaa.Mem Go.Proofs.Ytlfmkipcgcilaaa.SpanMem
end Go.Proofs.Ytlfmkipcgcilaaa.SpanRef
namespace Go.Proofs.Ytlfmkipcgcilaaa.SpanRef
open Go.RowKit Go.Proofs.Ytlfmkipcgcilaaa.SpanPlain Go.Proofs.Ytlfmkipcgcilaaa.Mem Go.Proofs.Ytlfmkipcgcilaaa.SpanMem
theorem snoc_cases (c : List Sp) : c = [] ∨ ∃ d s, c = d ++ [s] := by
  by_cases h : c = []
  · exact .inl h
  · exact .inr ⟨c.dropLast, c.getLast h, (List.dropLast_concat_getLast h).symm⟩
theorem svals_last (d : List Sp) (s : Sp) (y : Int) : (svals (d ++ [s])).set (d.length * 2 + 1) (.int .i64 y) = svals (d ++ [(s.1, y)]) := by
  rw [svals_append, svals_append, List.set_append_right _ _ (by rw [svals_len]; omega), svals_len]
  have e : d.length * 2 + 1 - d.length * 2 = 1 := by omega
  rw [e]
  rfl
theorem svals_end (d : List Sp) (s : Sp) : (svals (d ++ [s]))[d.length * 2 + 1]? = some (.int .i64 s.2) := by
  have h := (svals_at (d ++ [s]) d.length (by simp)).2
  rw [h]
  simp [spCell, List.getD]
end Go.Proofs.Ytlfmkipcgcilaaa.SpanRef
namespace Go.Proofs.Ytlfmkipcgcilaaa.SpanWalk
open Go.RowKit Go.Proofs.Ytlfmkipcgcilaaa.SpanPlain Go.Proofs.Ytlfmkipcgcilaaa.Mem Go.Proofs.Ytlfmkipcgcilaaa.SpanMem Go.Proofs.Ytlfmkipcgcilaaa.SpanRef
theorem below_alloc (w : World) (o : Obj) : Below w.heap.size w (w.alloc o) := (Below.refl _ _).alloc (Nat.le_refl _) o
end Go.Proofs.Ytlfmkipcgcilaaa.SpanWalk
