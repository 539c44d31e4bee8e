/-
  slices.SortFunc of spans by their beginnings, at a row of one's own: by the library's contract.
-/
import Derived.Test.YtalopnkdnlkdoaaShelfG
import Derived.Lib.OwnBridge
import Derived.Lib.AppendIntMem
import Derived.Test.YtalopnkdnlkdoaaSpanWalkC
namespace Go.Proofs.Ytalopnkdnlkdoaa.SpanWalk
open Go.Shelf Go.RowKit Go.Lib Go.Sort Go.Proofs.Ytalopnkdnlkdoaa.SpanPlain Go.Proofs.Ytalopnkdnlkdoaa.Mem Go.Proofs.Ytalopnkdnlkdoaa.SpanMem Go.Proofs.Ytalopnkdnlkdoaa.SpanRef
theorem flat_svals (l : List Sp) : flatK spCells 2 l.toArray = (svals l).toArray := by
  refine ext_get! (by simp [svals_len]) fun t ht => ?_
  have ht' : t < l.length * 2 := by simpa using ht
  rw [get_flatK _ _ _ _ (by simpa using ht')]
  have hi : t / 2 < l.length := by omega
  obtain ⟨h1, h2⟩ := svals_at l (t / 2) hi
  have e : l.toArray[t / 2]! = l.getD (t / 2) (0, 0) := by simp [List.getD, hi]
  rw [e]
  by_cases hm : t % 2 = 0
  · have e2 : t / 2 * 2 = t := by omega
    rw [e2] at h1
    rw [hm]
    have h3 : (svals l).toArray[t]! = (spCell l (t / 2)).1 := by simp [h1]
    rw [h3]
    rfl
  · have e2 : t / 2 * 2 + 1 = t := by omega
    rw [e2] at h2
    rw [show t % 2 = 1 by omega]
    have h3 : (svals l).toArray[t]! = (spCell l (t / 2)).2 := by simp [h2]
    rw [h3]
    rfl
theorem holds_svals {w : World} {g : Nat} {l : List Sp} (h : Raw w ⟨g, 0, none⟩ (svals l)) (hf : ∀ i, w.frozen? ⟨g, i, none⟩ = false) : HoldsK spCells 2 w g 0 l.toArray := by
  unfold HoldsK
  rw [flat_svals]
  intro j hj
  have hj' : j < (svals l).length := by simpa using hj
  refine ⟨?_, by rw [Nat.zero_add]; exact hf j⟩
  have h1 := (h j (svals l)[j] (by simp [hj'])).2
  rw [add_flat] at h1
  rw [Nat.zero_add, h1]
  simp [hj']
theorem own_put {w : World} {base : Nat} {e : TypeId} {g n c q : Nat} {zs ys : List Value} (h : w.ownsRow base e 2 (.slice (some ⟨g, 0, none⟩) n c) n zs) (hy : ys.length = n * 2) :
    (putRow id (Sort.ahead w q) g 0 ys.toArray).ownsRow base e 2 (.slice (some ⟨g, 0, none⟩) n c) n ys := by
  rcases h.2 with ⟨e0, _⟩ | ⟨g', cap', cur, e0, hb, hg, hn, hm, hs, ht⟩
  · cases e0
  · injection e0 with e1 _ e3
    injection e1 with e1
    injection e1 with e1
    subst e1; subst e3
    refine ⟨hy, .inr ⟨g, c, putCells id 0 ys.toArray cur, rfl, hb, ?_, by omega, hm, by simpa [putCells] using hs, ?_⟩⟩
    · simp [putRow, mapBlock, Sort.ahead, Array.getElem?_modify, hg, onCells]
    · apply List.ext_getElem?
      intro j
      rw [List.getElem?_take, Array.getElem?_toList]
      by_cases hj : j < n * 2
      · have hjc : j < cur.size := by rw [hs]; omega
        rw [if_pos hj]
        simp only [putCells, Array.getElem?_mapIdx, Array.getElem?_eq_getElem hjc, Option.map_some]
        rw [if_pos (by simp; omega), List.getElem?_eq_getElem (by omega)]
        simp [getElem!_pos, show j < ys.length by omega]
      · rw [if_neg hj, List.getElem?_eq_none (by omega)]
def cmpFrom (x y : Sp) : Int := Lib.compareInt x.1 y.1
theorem ltFrom (x y : Sp) : ltOf cmpFrom x y = decide (x.1 < y.1) := by
  unfold ltOf cmpFrom Lib.compareInt
  by_cases h1 : x.1 < y.1
  · simp [h1]
  · by_cases h2 : y.1 < x.1 <;> simp [h1, h2]
theorem swoFrom : SWO (ltOf cmpFrom) where
  irrefl x := by rw [ltFrom]; simp
  trans x y z h1 h2 := by rw [ltFrom] at *; simp at *; omega
  ntrans x y z h1 h2 := by rw [ltFrom] at *; simp at *; omega
set_option maxHeartbeats 1000000 in
theorem closure (x y : Sp) (W : World) : Calls Try.prog 41 #[.agg #[.int .i64 x.1, .int .i64 x.2], .agg #[.int .i64 y.1, .int .i64 y.2]] W fun e w' => e = .returned (.int .i64 (cmpFrom x y)) ∧ ∃ q os', w' = grow (W.drewN q) os' := by
  have hcon := fun W' => AnyG.cmp_Compare_int Try.cmpInt x.1 y.1 W'
  change ∀ W', Calls Try.prog 38 _ _ _ at hcon
  unfold cmpFrom
  generalize Lib.compareInt x.1 y.1 = r at hcon ⊢
  go_enter Try.func41, Try.ntmps41
  go_wp2_with (go_at_call 38; refine (hcon _).mono ?_; rintro e w' ⟨rfl, rfl⟩)
  go_ret
  exact ⟨rfl, 0, _, by rw [alloc_eq_grow, alloc_eq_grow, grow_grow]; rfl⟩
/-- Rising by the beginnings. -/
def ByFrom (r : List Sp) : Prop := r.Pairwise fun a b => a.1 ≤ b.1
def SortIs (l : List Sp) (base : Nat) (v : Value) (w : World) (e : Ending) (w' : World) : Prop :=
  e = .returned (.tuple #[]) ∧ ∃ r : List Sp, r.Perm l ∧ ByFrom r ∧ OwnN 36 2 base w' v r.length (svals r) ∧ Below base w w'
set_option maxHeartbeats 1000000 in
theorem sortS (l : List Sp) (base : Nat) (v : Value) (w : World) (h : OwnN 36 2 base w v l.length (svals l)) (hl : l.length ≤ 9000) :
    Calls Try.prog 40 #[v, .func (.func 41) #[] #[]] w (SortIs l base v w) := by
  rcases h.form with ⟨rfl, hn, hx⟩ | ⟨g, c, rfl, h1, h2, h3, h4, h5, h6, hr⟩
  · have hl0 := List.eq_nil_of_length_eq_zero hn
    subst hl0
    have hcon := AnyF.slices_SortFunc_none Try.sortSp none 0 (.func (.func 41) #[] #[]) w
    change Calls Try.prog 40 _ _ _ at hcon
    refine hcon.mono ?_
    rintro e w' ⟨rfl, rfl⟩
    exact ⟨rfl, [], List.Perm.refl _, List.Pairwise.nil, h, Below.refl _ _⟩
  · have eg : ∀ args w, (callFunc 41 args).run Try.prog w = .ok (.enter 41 args) w := enters_of Try.func41 (by kernel_rfl) rfl
    have hcon := AnyQ.slices_SortFunc Try.sortSp 2 Try.isAgg36 Try.sizeOf36 spCells (fun _ => rfl) (fun x v hv => by simp [spCells] at hv; rcases hv with rfl | rfl <;> rfl) cmpFrom swoFrom 41 #[] g 0 c l.toArray w eg (fun _ _ _ _ x y => closure x y _) (holds_svals h5 h6) h2 (by show l.length < _; omega)
    change Calls Try.prog 40 #[.slice (some ⟨g, 0, none⟩) l.length c, .func (.func 41) #[] #[]] w _ at hcon
    refine hcon.mono ?_
    rintro e w' ⟨rfl, d, m, os, ⟨hs, _, hp⟩, hso, rfl⟩
    have hs' : d.size = l.length := by simpa using hs
    have hp' : d.toList.Perm l := by
      have e1 : d.extract 0 l.toArray.size = d := by rw [← hs]; simp
      have e2 : l.toArray.extract 0 l.toArray.size = l.toArray := by simp
      rw [e1, e2] at hp
      exact hp
    have hlen : d.toList.length = l.length := by simp [hs']
    have ed : flatK spCells 2 d = (svals d.toList).toArray := by have := flat_svals d.toList; simpa using this
    refine ⟨rfl, d.toList, hp', ?_, ?_, ?_⟩
    · refine List.pairwise_iff_getElem.2 fun i j hi hj hij => ?_
      have h7 := hso i j (Nat.zero_le _) hij (by simpa [hs'] using hj)
      have hi' : i < d.size := by simpa using hi
      have hj' : j < d.size := by simpa using hj
      rw [ltFrom, decide_eq_false_iff_not, getElem!_pos d j hj', getElem!_pos d i hi'] at h7
      simp only [Array.getElem_toList]
      omega
    · rw [hlen]
      refine ⟨?_, ?_⟩
      · show (grow (putRowK spCells 2 (Sort.ahead w m) g 0 d) os).ownsRow _ _ _ _ _ _
        have h8 := ownsRow_grow (own_put (q := m) hr.1 (ys := svals d.toList) (by rw [svals_len, hlen])) 0 os
        unfold putRowK
        rw [ed]
        exact h8
      · have h9 := (below_putRow (enc := id) (q := m) (d := (svals d.toList).toArray) (Below.refl base w) h1).size
        show base ≤ (grow (putRowK spCells 2 (Sort.ahead w m) g 0 d) os).heap.size
        unfold putRowK
        rw [ed]
        have := size_grow (putRow id (Sort.ahead w m) g 0 (svals d.toList).toArray) 0 os
        have := h.2
        exact Nat.le_trans (Nat.le_trans h.2 h9) (size_grow (putRow id (Sort.ahead w m) g 0 (svals d.toList).toArray) 0 os)
    · show Below base w (grow (putRowK spCells 2 (Sort.ahead w m) g 0 d) os)
      unfold putRowK
      rw [ed]
      have h9 := below_putRow (enc := id) (q := m) (d := (svals d.toList).toArray) (Below.refl base w) h1
      exact h9.trans (below_grow base _ (Nat.le_trans h.2 h9.size) 0 os)
end Go.Proofs.Ytalopnkdnlkdoaa.SpanWalk
