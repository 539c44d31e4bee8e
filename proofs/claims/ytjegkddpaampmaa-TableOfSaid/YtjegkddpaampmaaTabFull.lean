/-
  The plain mathematics of the theorem of room: jobs of unlike Ids that wait, one behind the other.
-/
import Derived.Test.YtjegkddpaampmaaTabPlain
import Derived.Test.YtjegkddpaampmaaTabRefD
namespace Go.Proofs.Ytjegkddpaampmaa.TabWalk
open Go.RowKit Go.Proofs.Ytjegkddpaampmaa.JobPlain Go.Proofs.Ytjegkddpaampmaa.OrdPlain Go.Proofs.Ytjegkddpaampmaa.TabPlain Go.Proofs.Ytjegkddpaampmaa.TabRef
def withId (j : Jb) (d : Int) : Jb := ⟨d, j.user, j.width, j.est, j.prio, j.sub, j.state, j.start, j.fin⟩
def fullL (j : Jb) (m : Nat) : List Jb := List.map (fun i : Nat => withId j ((i : Int) + 1)) (List.range m)
theorem full_len (j : Jb) (m : Nat) : (fullL j m).length = m := by unfold fullL; simp
theorem full_at (j : Jb) {m i : Nat} (h : i < (fullL j m).length) : (fullL j m)[i] = withId j ((i : Int) + 1) := by simp only [fullL, List.getElem_map, List.getElem_range]
theorem full_succ (j : Jb) (m : Nat) : fullL j (m + 1) = fullL j m ++ [withId j ((m : Int) + 1)] := by unfold fullL; rw [List.range_succ, List.map_append]; rfl
theorem full_mem {j x : Jb} {m : Nat} (h : x ∈ fullL j m) : ∃ i : Nat, i < m ∧ x = withId j ((i : Int) + 1) := by
  unfold fullL at h
  rw [List.mem_map] at h
  obtain ⟨i, hi, rfl⟩ := h
  exact ⟨i, List.mem_range.1 hi, rfl⟩
theorem with_may {j : Jb} (h : mayJ j = true) {d : Int} (h1 : 1 ≤ d) (h2 : d ≤ 1073741824) : mayJ (withId j d) = true := by
  have hb := may_base h
  have hs := may_state h
  unfold mayJ
  rw [Bool.and_eq_true]
  refine ⟨(base_iff _).2 ⟨h1, h2, hb.name, hb.w1, hb.w2, hb.e1, hb.e2, hb.p1, hb.p2, hb.s1, hb.s2⟩, ?_⟩
  exact hs
theorem full_find {j : Jb} {m : Nat} {d : Int} (h : (m : Int) < d) : findL (fullL j m) d = -1 := find_none fun i hi => by
  rw [full_at]
  have : i < m := by rw [full_len] at hi; exact hi
  show ((i : Int) + 1 == d) = false
  rw [beq_eq_false_iff_ne]
  omega
theorem full_find1 {j : Jb} {m : Nat} (h : 0 < m) : findL (fullL j m) 1 = 0 := by
  have hl : 0 < (fullL j m).length := by rw [full_len]; exact h
  have := find_at (l := fullL j m) (id := 1) (k := 0) hl (fun i hi hk => by omega) (by rw [full_at]; rfl)
  simpa using this
theorem inT_length (l : List Jb) (s : Int) : (inT l s).length = (inL l s).length := by unfold inT; exact sort_len _
theorem inL_cons_ne {y : Jb} {l : List Jb} {s : Int} (h : y.state ≠ s) : inL (y :: l) s = inL l s := by
  unfold inL
  rw [List.filter_cons, if_neg (by simpa using h)]
theorem live_cons_over {y : Jb} {l : List Jb} (h : y.state = 5) : liveN (y :: l) = liveN l := by
  unfold liveN
  simp only [inT_length]
  rw [inL_cons_ne (by omega), inL_cons_ne (by omega), inL_cons_ne (by omega)]
theorem live_waits {l : List Jb} {s : Int} (hs : s = 0 ∨ s = 1) (h : ∀ x ∈ l, x.state = s) : liveN l = (l.length : Int) := by
  have hall : inL l s = l := by
    unfold inL
    rw [List.filter_eq_self]
    intro x hx
    simpa using h x hx
  have hno : ∀ q, q ≠ s → inL l q = [] := fun q hq => by
    unfold inL
    rw [List.filter_eq_nil_iff]
    intro x hx he
    have h1 := h x hx
    have h2 : x.state = q := by simpa using he
    omega
  unfold liveN
  simp only [inT_length]
  rcases hs with rfl | rfl
  · rw [hall, hno 1 (by decide), hno 2 (by decide)]; simp
  · rw [hall, hno 0 (by decide), hno 2 (by decide)]; simp
theorem full_live {j : Jb} (m : Nat) (hs : j.state = 0 ∨ j.state = 1) : liveN (fullL j m) = (m : Int) := by
  rw [live_waits hs (fun x hx => by obtain ⟨i, _, rfl⟩ := full_mem hx; rfl), full_len]
theorem ins_to_last {l : List Jb} {x : Jb} (h : ∀ y ∈ l, y.id < x.id) : ∀ k, k ≤ l.length → insTo l x k = (l.take k, false)
  | 0, _ => rfl
  | k + 1, hk => by
    have hlt : k < l.length := hk
    have hy := h l[k] (List.getElem_mem _)
    rw [ins_next hlt, ins_to_last h k (by omega)]
    unfold insStep
    rw [decide_eq_false (p := x.id < l[k].id) (by omega), List.take_succ_eq_append_getElem hlt]
    rfl
theorem ins_last {l : List Jb} {x : Jb} (h : ∀ y ∈ l, y.id < x.id) : insOut l x = l ++ [x] := by
  have h1 := ins_to_last h l.length (Nat.le_refl _)
  unfold insOut
  rw [h1, List.take_of_length_le (Nat.le_refl _)]
  rfl
theorem full_addE {j : Jb} (hm : mayJ j = true) (hs : j.state = 0 ∨ j.state = 1) {m : Nat} (hl : m ≤ 300) {d : Int} (h1 : (m : Int) < d) (h2 : d ≤ 1000) : addE (fullL j m) (withId j d) = if 100 ≤ (m : Int) then 4 else 0 := by
  unfold addE
  have hst : ¬ (1 < (withId j d).state) := by show ¬ (1 < j.state); omega
  rw [if_neg (by rw [with_may hm (by omega) (by omega)]; simp [hst]), show (withId j d).id = d from rfl, full_find h1, if_neg (by decide), full_live m hs]
theorem full_addR {j : Jb} (hm : mayJ j = true) (hs : j.state = 0 ∨ j.state = 1) {m : Nat} (hl : m < 100) : addR (fullL j m) (withId j ((m : Int) + 1)) = fullL j (m + 1) := by
  rw [addR_yes (by rw [full_addE hm hs (by omega) (by omega) (by omega), if_neg (by omega)]), full_succ]
  exact ins_last fun y hy => by
    obtain ⟨i, hi, rfl⟩ := full_mem hy
    show (i : Int) + 1 < (m : Int) + 1
    omega
/-- The first one, cancelled. -/
def goneJ (j : Jb) : Jb := ⟨1, j.user, j.width, j.est, j.prio, j.sub, 5, j.start, j.fin⟩
theorem wait_none {j : Jb} (hm : mayJ j = true) (hs : j.state = 0 ∨ j.state = 1) : j.start = 0 ∧ j.fin = 0 := by
  rcases state_ways (may_state hm) with ⟨_, h⟩ | ⟨a, _⟩ | ⟨a, _⟩ | ⟨a, _⟩ | ⟨a, _⟩
  · exact h
  all_goals omega
theorem gone_may {j : Jb} (hm : mayJ j = true) (hs : j.state = 0 ∨ j.state = 1) : mayJ (goneJ j) = true := by
  have hb := may_base hm
  have hn := wait_none hm hs
  unfold mayJ
  rw [Bool.and_eq_true]
  refine ⟨(base_iff _).2 ⟨by show (1 : Int) ≤ 1; decide, by show (1 : Int) ≤ 1073741824; decide, hb.name, hb.w1, hb.w2, hb.e1, hb.e2, hb.p1, hb.p2, hb.s1, hb.s2⟩, ?_⟩
  have h1 : noneB (goneJ j) = true := (none_iff _).2 hn
  have h5 : (goneJ j).state = 5 := rfl
  unfold stateB
  rw [h5, if_neg (by decide), if_neg (by decide), if_neg (by decide), if_neg (by decide), if_neg (by decide), if_pos rfl, h1]
  rfl
theorem gone_turn {j : Jb} (hm : mayJ j = true) (hs : j.state = 0 ∨ j.state = 1) : turnL (withId j 1) 6 j.sub = (goneJ j, 0) := by
  have hb := may_base hm
  have hw : mayJ (withId j 1) = true := with_may hm (by decide) (by decide)
  have hnx : nextJ (withId j 1) 6 j.sub = goneJ j := by
    unfold nextJ goneJ toS withId
    dsimp only
    rw [if_neg (by decide), if_neg (by decide), if_neg (by decide), if_neg (by decide), if_neg (by decide), if_neg (by decide), if_neg (by omega)]
  have ha : turnArg (withId j 1) 6 j.sub = false := by
    unfold turnArg
    rw [hw, decide_eq_false (p := (6 : Int) < 1) (by decide), decide_eq_false (p := (6 : Int) < 6) (by decide), decide_eq_false (p := j.sub < (withId j 1).sub) (by show ¬ j.sub < j.sub; omega), decide_eq_false (p := (1125899906842624 : Int) < j.sub) (by have := hb.s2; omega)]
    rfl
  have hst : turnState (withId j 1) 6 = false := by
    have e : decide ((2 : Int) < (withId j 1).state) = false := decide_eq_false (by show ¬ (2 : Int) < j.state; omega)
    unfold turnState fromS
    rw [e, if_neg (by decide), if_neg (by decide), if_neg (by decide), if_neg (by decide), if_neg (by decide)]
    simp
  unfold turnL
  rw [if_neg (by rw [ha]; decide), if_neg (by rw [hst]; decide), hnx, if_pos (gone_may hm hs)]
theorem full_turnE {j : Jb} (hm : mayJ j = true) (hs : j.state = 0 ∨ j.state = 1) {m : Nat} (h : 0 < m) : turnE (fullL j m) 1 6 j.sub = 0 := by
  have hl : 0 < (fullL j m).length := by rw [full_len]; exact h
  rw [turnE_at hl (by simpa using full_find1 h), full_at]
  show (turnL (withId j 1) 6 j.sub).2 = 0
  rw [gone_turn hm hs]
theorem full_turnR {j : Jb} (hm : mayJ j = true) (hs : j.state = 0 ∨ j.state = 1) {m : Nat} (h : 0 < m) : turnR (fullL j m) 1 6 j.sub = (fullL j m).set 0 (goneJ j) := by
  have hl : 0 < (fullL j m).length := by rw [full_len]; exact h
  rw [turnR_at hl (by simpa using full_find1 h) (full_turnE hm hs h), full_at]
  show (fullL j m).set 0 (turnL (withId j 1) 6 j.sub).1 = _
  rw [gone_turn hm hs]
theorem last_addE {j : Jb} (hm : mayJ j = true) (hs : j.state = 0 ∨ j.state = 1) {m : Nat} (h : 0 < m) (hl : m ≤ 100) : addE ((fullL j m).set 0 (goneJ j)) (withId j 1000) = 0 := by
  have hst : ¬ (1 < (withId j 1000).state) := by show ¬ (1 < j.state); omega
  have hf : findL ((fullL j m).set 0 (goneJ j)) 1000 = -1 := find_none fun i hi => by
    rw [List.getElem_set]
    split
    · rfl
    · have h2 : i < m := by rw [List.length_set, full_len] at hi; exact hi
      rw [full_at]
      show ((i : Int) + 1 == 1000) = false
      rw [beq_eq_false_iff_ne]
      omega
  have hlive : liveN ((fullL j m).set 0 (goneJ j)) ≤ 99 := by
    have hlen := full_len j m
    have hmem : ∀ x ∈ fullL j m, x.state = j.state := fun x hx => by obtain ⟨i, _, rfl⟩ := full_mem hx; rfl
    generalize fullL j m = l at *
    match l with
    | [] => simp at hlen; omega
    | y :: t =>
      show liveN (goneJ j :: t) ≤ 99
      rw [live_cons_over rfl, live_waits hs (fun x hx => hmem x (List.mem_cons_of_mem _ hx))]
      simp at hlen
      omega
  unfold addE
  rw [if_neg (by rw [with_may hm (by decide) (by decide)]; simp [hst]), show (withId j 1000).id = 1000 from rfl, hf, if_neg (by decide), if_neg (by omega)]
end Go.Proofs.Ytjegkddpaampmaa.TabWalk
