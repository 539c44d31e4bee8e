/-
  The plain mathematics of layer 5's landed code: what layer 4's functions tell of a profile's steps is what the profile tells.
-/
import Derived.Test.YtjkninldenoanaaProfSay
import Derived.Test.YtjkninldenoanaaStepSay
namespace Go.Proofs.Ytjkninldenoanaa.ProfWalk
open Go.RowKit Go.Proofs.Ytjkninldenoanaa.SpanPlain Go.Proofs.Ytjkninldenoanaa.StepPlain Go.Proofs.Ytjkninldenoanaa.ProfPlain Go.Proofs.Ytjkninldenoanaa.Mem Go.Proofs.Ytjkninldenoanaa.SpanMem Go.Proofs.Ytjkninldenoanaa.StepMem Go.Proofs.Ytjkninldenoanaa.SpanRef Go.Proofs.Ytjkninldenoanaa.StepRef Go.Proofs.Ytjkninldenoanaa.ProfRef

theorem srep {x : Prof} (h : x.Fair) : Rep (stepsL x) x.t (freeL x.p x.l) := h.rep
theorem schk {x : Prof} (h : x.Fair) : chkB (stepsL x) = true := (chk_iff _).2 (srep h).1
theorem shead {x : Prof} (h : x.Fair) : head (stepsL x) = x.t := (srep h).2.1
theorem spos {x : Prof} (h : x.Fair) : 0 < (stepsL x).length := (srep h).1.pos
theorem at_b {x : Prof} (h : x.Fair) (t : Int) : StepWalk.atB (stepsL x) t = freeB x t := by
  unfold StepWalk.atB freeB
  rw [schk h, shead h]
  simp
theorem at_n {x : Prof} (h : x.Fair) (t : Int) : StepWalk.atN (stepsL x) t = freeN x t := by
  unfold StepWalk.atN freeN
  rw [at_b h]
  cases hb : freeB x t with
  | false => rfl
  | true =>
    have h1 : x.t ≤ t := by
      unfold freeB at hb
      simp only [Bool.and_eq_true, decide_eq_true_eq] at hb
      exact hb.1
    rw [if_pos rfl, if_pos rfl]
    exact (srep h).2.2 t h1
theorem min_b {x : Prof} (h : x.Fair) (s : Sp) : StepWalk.minB (stepsL x) s = leastB x s := by
  unfold StepWalk.minB leastB
  rw [schk h, shead h]
  simp
theorem min_n {x : Prof} (h : x.Fair) {s : Sp} {n : Int} (hm : (StepWalk.minB (stepsL x) s = true ∧ MinOf (stepsL x) s n) ∨ (StepWalk.minB (stepsL x) s = false ∧ n = 0)) : n = leastN x s := by
  rw [min_b h] at hm
  unfold leastN
  rcases hm with ⟨h1, h2⟩ | ⟨h1, rfl⟩
  · rw [if_pos h1]
    have h3 : mayB s = true ∧ x.t ≤ s.1 := by
      unfold leastB at h1
      simp only [Bool.and_eq_true, decide_eq_true_eq] at h1
      exact h1
    have h4 : LeastOf (freeL x.p x.l) s n := (min_least.1 h2).congr (fun t a1 _ => (srep h).2.2 t (by omega))
    exact h4.unique (least_spec h.done ((mayB_iff s).1 h3.1).2.1)
  · rw [h1]; rfl
/-- What Min tells of a span that may be: the least number that is free. -/
theorem min_at {x : Prof} (h : x.Fair) {s : Sp} {n : Int} (hs : mayB s = true) (ht : x.t ≤ s.1) (hm : (StepWalk.minB (stepsL x) s = true ∧ MinOf (stepsL x) s n) ∨ (StepWalk.minB (stepsL x) s = false ∧ n = 0)) : LeastOf (freeL x.p x.l) s n := by
  rw [min_b h] at hm
  have h1 : leastB x s = true := by unfold leastB; rw [hs, decide_eq_true ht]; rfl
  rcases hm with ⟨_, h2⟩ | ⟨h2, _⟩
  · exact (min_least.1 h2).congr (fun t a1 _ => (srep h).2.2 t (by omega))
  · rw [h1] at h2; cases h2
theorem add_is {x y : Prof} {b : By} {n : Int} (hx : x.Fair) (hy : y.Fair) (ht : y.t = x.t) (hm : mayB (b.1, b.2.1) = true) (h1 : -256 ≤ n) (h2 : n ≤ 256)
    (he : ∀ u, freeL y.p y.l u = if hasB (b.1, b.2.1) u then freeL x.p x.l u + n else freeL x.p x.l u) : AddIs (stepsL x) (b.1, b.2.1) n (stepsL y) := by
  refine .inr (.inr ⟨fun h => ?_, ?_⟩)
  · rcases h with h | h | h | h
    · rw [schk hx] at h; cases h
    · rw [hm] at h; cases h
    · omega
    · omega
  · rw [shead hx, ← ht]
    refine ⟨(srep hy).1, (srep hy).2.1, fun t h => ?_⟩
    rw [(srep hy).2.2 t h, he]
    unfold addF
    rw [(srep hx).2.2 t (by omega)]
theorem take_add {x : Prof} (h : x.Fair) {b : By} {r : List Sp} (hb : ¬ turnBad x b) (hf : ∀ u, b.1 ≤ u → u < b.2.1 → b.2.2 ≤ freeL x.p x.l u) (ha : AddIs (stepsL x) (b.1, b.2.1) (-b.2.2) r) :
    r = stepsL ⟨x.p, x.t, x.l ++ [b]⟩ := by
  have ht : TakeIs x b ⟨x.p, x.t, x.l ++ [b]⟩ 0 := .inr (.inr ⟨hb, hf, rfl, rfl⟩)
  obtain ⟨hm, b1, b2⟩ := by_parts (not_turnBad hb).1
  exact ha.unique (add_is h (ht.fair h) rfl hm (by omega) (by omega) fun u => by
    dsimp only
    rw [free_take hm]
    rfl)
theorem give_add {x : Prof} (h : x.Fair) {b : By} {r : List Sp} (hb : ¬ turnBad x b) (hf : ∀ u, b.1 ≤ u → u < b.2.1 → freeL x.p x.l u + b.2.2 ≤ x.p) (ha : AddIs (stepsL x) (b.1, b.2.1) b.2.2 r) :
    r = stepsL ⟨x.p, x.t, x.l ++ [(b.1, b.2.1, -b.2.2)]⟩ := by
  have ht : GiveIs x b ⟨x.p, x.t, x.l ++ [(b.1, b.2.1, -b.2.2)]⟩ 0 := .inr (.inr ⟨hb, hf, rfl, rfl⟩)
  obtain ⟨hm, b1, b2⟩ := by_parts (not_turnBad hb).1
  exact ha.unique (add_is h (ht.fair h) rfl hm (by omega) (by omega) fun u => by
    dsimp only
    rw [free_take (b := (b.1, b.2.1, -b.2.2)) hm]
    dsimp only
    rw [Int.sub_neg])
/-- The greatest number of the first steps. -/
def mostTo (r : List Sp) (k : Nat) : Int := (r.take k).foldl (fun n y => max n y.2) 0
theorem most_next {r : List Sp} {k : Nat} (hk : k < r.length) : mostTo r (k + 1) = max (mostTo r k) (r.getD k (0, 0)).2 := by
  unfold mostTo
  rw [List.take_succ_eq_append_getElem hk, List.foldl_append, getSp hk]
  rfl
theorem max_le (p : Int) : ∀ (l : List Sp) (n : Int), l.foldl (fun n y => max n y.2) n ≤ p ↔ n ≤ p ∧ ∀ e ∈ l, e.2 ≤ p := by
  intro l
  induction l with
  | nil => intro n; simp
  | cons y l ih =>
    intro n
    rw [List.foldl_cons, ih, Int.max_le]
    simp only [List.mem_cons, forall_eq_or_imp]
    exact ⟨fun ⟨⟨a, b⟩, c⟩ => ⟨a, b, c⟩, fun ⟨a, b, c⟩ => ⟨⟨a, b⟩, c⟩⟩
theorem most_le {r : List Sp} {p : Int} (h : 0 ≤ p) (k : Nat) : mostTo r k ≤ p ↔ ∀ e ∈ r.take k, e.2 ≤ p := by
  unfold mostTo
  rw [max_le]
  exact ⟨fun a => a.2, fun a => ⟨h, a⟩⟩
theorem most_ge (l : List Sp) : ∀ n : Int, n ≤ l.foldl (fun n y => max n y.2) n := by
  induction l with
  | nil => intro n; exact Int.le_refl _
  | cons y l ih => intro n; have := ih (max n y.2); rw [List.foldl_cons]; omega
theorem most_range {r : List Sp} (h : Chk r) (k : Nat) : 0 ≤ mostTo r k ∧ mostTo r k ≤ 256 :=
  ⟨most_ge _ _, (most_le (by omega) k).2 fun e he => (h.free e (List.mem_of_mem_take he)).2⟩
/-- What is told of a giving back, by the steps that Add tells. -/
theorem give_ways {x : Prof} (h : x.Fair) {b : By} (hb : ¬ turnBad x b) {r : List Sp} (ha : AddIs (stepsL x) (b.1, b.2.1) b.2.2 r) :
    (r = [] ∧ GiveIs x b x 11) ∨ (0 < r.length ∧ Chk r ∧ decide (x.p < mostTo r r.length) = true ∧ GiveIs x b x 11) ∨
    (0 < r.length ∧ Chk r ∧ decide (x.p < mostTo r r.length) = false ∧ GiveIs x b ⟨x.p, x.t, x.l ++ [(b.1, b.2.1, -b.2.2)]⟩ 0 ∧ r = stepsL ⟨x.p, x.t, x.l ++ [(b.1, b.2.1, -b.2.2)]⟩) := by
  obtain ⟨hbb, hbt⟩ := not_turnBad hb
  obtain ⟨hm, b1, b2⟩ := by_parts hbb
  have hp := h.p1
  have hp2 := h.p2
  by_cases hov : ∃ u, b.1 ≤ u ∧ u < b.2.1 ∧ x.p < freeL x.p x.l u + b.2.2
  · have hg : GiveIs x b x 11 := .inr (.inl ⟨hb, hov, rfl, rfl⟩)
    rcases ha with ⟨_, h2⟩ | ⟨_, _, h2⟩ | ⟨_, h2⟩
    · exact .inl ⟨h2, hg⟩
    · exact .inl ⟨h2, hg⟩
    · refine .inr (.inl ⟨h2.1.pos, h2.1, ?_, hg⟩)
      obtain ⟨u, u1, u2, u3⟩ := hov
      rw [decide_eq_true_eq]
      have hhd := shead h
      have hu : head (stepsL x) ≤ u := by omega
      have h3 := h2.2.2 u hu
      obtain ⟨y, hy, _, hv, _⟩ := h2.1.floor (t := u) (by rw [h2.2.1]; exact hu)
      have h4 : addF (stepsL x) (b.1, b.2.1) b.2.2 u = freeL x.p x.l u + b.2.2 := by
        unfold addF
        rw [(srep h).2.2 u (by omega), if_pos (hasB_iff.2 ⟨(mayB_iff _).1 hm, u1, u2⟩)]
      rcases Int.lt_or_le x.p (mostTo r r.length) with h5 | h5
      · exact h5
      · have h6 := (most_le (by omega) _).1 h5 y (by rw [List.take_length]; exact hy)
        omega
  · have hall : ∀ u, b.1 ≤ u → u < b.2.1 → freeL x.p x.l u + b.2.2 ≤ x.p := fun u u1 u2 => by
      rcases Int.lt_or_le x.p (freeL x.p x.l u + b.2.2) with h5 | h5
      · exact absurd ⟨u, u1, u2, h5⟩ hov
      · exact h5
    have hg : GiveIs x b ⟨x.p, x.t, x.l ++ [(b.1, b.2.1, -b.2.2)]⟩ 0 := .inr (.inr ⟨hb, hall, rfl, rfl⟩)
    have hr := give_add h hb hall ha
    have hy := hg.fair h
    have hs := srep hy
    refine .inr (.inr ?_)
    subst hr
    refine ⟨hs.1.pos, hs.1, ?_, hg, rfl⟩
    rw [decide_eq_false_iff_not, Int.not_lt, most_le (by omega), List.take_length]
    intro e he
    have h1 : head (stepsL ⟨x.p, x.t, x.l ++ [(b.1, b.2.1, -b.2.2)]⟩) ≤ e.1 := by
      have h7 := hs.1.cons
      obtain ⟨z, r, hz, h8⟩ := h7
      rw [hz] at he ⊢
      have halt := hs.1.alt
      rw [hz] at halt
      rcases List.mem_cons.1 he with rfl | he
      · exact Int.le_refl _
      · have := halt.later e he
        show z.1 ≤ e.1
        omega
    have h2 := val_own hs.1.alt he (-1)
    have h3 := hs.2.2 e.1 (by rw [← hs.2.1]; exact h1)
    unfold val at h3
    rw [h2] at h3
    have := (hy.free e.1 (by rw [← hs.2.1]; exact h1)).2
    rw [h3]
    exact this
/-- What is told of a move. -/
theorem move_trim {x : Prof} (h : x.Fair) {t : Int} (h1 : x.t ≤ t) (h2 : t ≤ 1125899906842624) {r : List Sp} (ht : StepWalk.TrimIs (stepsL x) t r) : r = stepsL ⟨x.p, t, x.l⟩ := by
  have hm : MoveIs x t ⟨x.p, t, x.l⟩ 0 := .inr ⟨by omega, rfl, rfl⟩
  have hs := srep (hm.fair h)
  rcases ht with ⟨h3 | h3, _⟩ | ⟨_, _, h3, rfl⟩ | ⟨_, _, h3, h4⟩
  · rw [schk h] at h3; cases h3
  · omega
  · rw [shead h] at h3
    have : t = x.t := by omega
    subst this
    rfl
  · refine h4.unique ⟨hs.1, hs.2.1, fun u hu => ?_⟩
    rw [hs.2.2 u hu, (srep h).2.2 u (by omega)]
theorem new_of {p t : Int} {s : List Sp} {c : Int} (h : OfIs p t [] s c) : (newB p t = false ∧ s = [] ∧ c = 1) ∨ (newB p t = true ∧ s = stepsL ⟨p, t, []⟩ ∧ c = 0) := by
  cases hn : newB p t with
  | false =>
    left
    rcases h with ⟨_, h2, h3⟩ | ⟨h1, _⟩ | ⟨h1, _⟩
    · exact ⟨rfl, h2, h3⟩
    all_goals
      obtain ⟨_, a1, a2, a3, a4, _⟩ := not_bad h1
      unfold newB at hn
      rw [decide_eq_true a1, decide_eq_true a2, decide_eq_true a3, decide_eq_true a4] at hn
      cases hn
  | true =>
    right
    have hf := new_fair hn
    have hp := hf.p1
    have hp2 := hf.p2
    have ht := hf.t1
    have ht2 := hf.t2
    dsimp only at hp hp2 ht ht2
    rcases h with ⟨h1, _⟩ | ⟨_, ⟨u, u1, u2⟩, _⟩ | ⟨_, h2, h3⟩
    · rcases h1 with ⟨b, hb, _⟩ | h1 | h1 | h1 | h1 | h1
      · cases hb
      all_goals (try simp at h1) <;> omega
    · have h4 : freeL p [] u = p := rfl
      omega
    · exact ⟨rfl, h3.unique (srep hf), h2⟩
end Go.Proofs.Ytjkninldenoanaa.ProfWalk
