/-
  What the theorem uses of the texts below it.
-/
import Derived.Below
import Derived.Laws.OwnMore
import Derived.Deep.Draws
import Derived.Deep.OwnRows
import Derived.Lib.Hide
import Derived.OwnWalk
import Derived.Deep.QuietTactic
import Derived.BigQuiet
import Derived.Lib.SliceRun
import Derived.Test.YtlfmkipcgcilaaaRows
import Derived.WalkKit
import Derived.WalkSpells
import Derived.WalkLawsBesides
import Derived.Laws.StructEq
import Derived.LoopTactic
import Derived.Deep.CutBlock
import Derived.Deep.DeepCutAuto
import Derived.Deep.RegionHeld3
import Derived.ArgAppend
import Derived.Deep.RegionLaw
import Derived.Lib.AppendIntMem
import Derived.StillTailTactics
import Derived.Shelf.Abstract
import Derived.Lib.OwnBridge
import Derived.Shelf.Small.Bits
import Derived.Shelf.Small.Wraps
import Derived.Shelf.Strconv.Itoa0
import Derived.Test.YtlfmkipcgcilaaaProg
import Derived.Shelf.SlSortCmp.NoneTotal
import Derived.Shelf.SlicesG.Cmp
import Derived.BigRegion
import Derived.Test.YtlfmkipcgcilaaaPa6
namespace Go.Proofs.Ytlfmkipcgcilaaa.SpanWalk
open Go.RowKit Go.Proofs.Ytlfmkipcgcilaaa.SpanPlain Go.Proofs.Ytlfmkipcgcilaaa.Mem Go.Proofs.Ytlfmkipcgcilaaa.SpanMem Go.Proofs.Ytlfmkipcgcilaaa.SpanRef
set_option maxHeartbeats 800000 in
theorem mayS (s : Sp) (w : World) : Calls Try.prog 55 #[spV s] w (BoolIs (mayB s) w) := by
  have hs := may_cases s
  obtain ⟨a, b⟩ := s
  unfold spV
  dsimp only at hs ⊢
  generalize mayB (a, b) = B at *
  rcases hs with ⟨rfl, h1, h2, h3⟩ | ⟨rfl, h1⟩ | ⟨rfl, h1, h2⟩ | ⟨rfl, h1, h2, h3⟩
  all_goals
    go_enter Try.func55, Try.ntmps55
    go_wp2_with fail
    go_ret
    exact ⟨rfl, (Below.refl _ _).alloc (Nat.le_refl _) _⟩
end Go.Proofs.Ytlfmkipcgcilaaa.SpanWalk
namespace Go.Proofs.Ytlfmkipcgcilaaa.SpanWalk
open Go.RowKit Go.Proofs.Ytlfmkipcgcilaaa.SpanPlain Go.Proofs.Ytlfmkipcgcilaaa.Mem Go.Proofs.Ytlfmkipcgcilaaa.SpanMem Go.Proofs.Ytlfmkipcgcilaaa.SpanRef
theorem OwnN.spans {base n : Nat} {w : World} {v : Value} {l : List Sp} {e : TypeId} (h : OwnN e 2 base w v n (svals l)) (hn : n = l.length) : SpansIs l w v := by
  subst hn
  rcases h.form with ⟨h1, h2, _⟩ | ⟨g, c, hv, _, _, hn, _, hr, _⟩
  · exact .inl ⟨h1, List.eq_nil_of_length_eq_zero h2⟩
  · exact .inr ⟨_, c, hv, hr, hn⟩
end Go.Proofs.Ytlfmkipcgcilaaa.SpanWalk
namespace Go.Proofs.Ytlfmkipcgcilaaa.SpanWalk
open Go.Shelf Go.RowKit Go.Lib Go.Sort Go.Proofs.Ytlfmkipcgcilaaa.SpanPlain Go.Proofs.Ytlfmkipcgcilaaa.Mem Go.Proofs.Ytlfmkipcgcilaaa.SpanMem Go.Proofs.Ytlfmkipcgcilaaa.SpanRef
theorem flat_svals (l : List Sp) : flatK spCells 2 l.toArray = (svals l).toArray := by
  refine ext_get! (by simp [svals_len]) fun t ht => ?_
  have ht' : t < l.length * 2 := by simpa using ht
  rw [get_flatK _ _ _ _ (by simpa using ht')]
  have hi : t / 2 < l.length := by omega
  obtain ⟨h1, h2⟩ := svals_at l (t / 2) hi
  have e : l.toArray[t / 2]! = l.getD (t / 2) (0, 0) := by simp [List.getD, hi]
  rw [e]
  by_cases hm : t % 2 = 0
  · have e2 : t / 2 * 2 = t := by omega
    rw [e2] at h1
    rw [hm]
    have h3 : (svals l).toArray[t]! = (spCell l (t / 2)).1 := by simp [h1]
    rw [h3]
    rfl
  · have e2 : t / 2 * 2 + 1 = t := by omega
    rw [e2] at h2
    rw [show t % 2 = 1 by omega]
    have h3 : (svals l).toArray[t]! = (spCell l (t / 2)).2 := by simp [h2]
    rw [h3]
    rfl
theorem holds_svals {w : World} {g : Nat} {l : List Sp} (h : Raw w ⟨g, 0, none⟩ (svals l)) (hf : ∀ i, w.frozen? ⟨g, i, none⟩ = false) : HoldsK spCells 2 w g 0 l.toArray := by
  unfold HoldsK
  rw [flat_svals]
  intro j hj
  have hj' : j < (svals l).length := by simpa using hj
  refine ⟨?_, by rw [Nat.zero_add]; exact hf j⟩
  have h1 := (h j (svals l)[j] (by simp [hj'])).2
  rw [add_flat] at h1
  rw [Nat.zero_add, h1]
  simp [hj']
theorem own_put {w : World} {base : Nat} {e : TypeId} {g n c q : Nat} {zs ys : List Value} (h : w.ownsRow base e 2 (.slice (some ⟨g, 0, none⟩) n c) n zs) (hy : ys.length = n * 2) :
    (putRow id (Sort.ahead w q) g 0 ys.toArray).ownsRow base e 2 (.slice (some ⟨g, 0, none⟩) n c) n ys := by
  rcases h.2 with ⟨e0, _⟩ | ⟨g', cap', cur, e0, hb, hg, hn, hm, hs, ht⟩
  · cases e0
  · injection e0 with e1 _ e3
    injection e1 with e1
    injection e1 with e1
    subst e1; subst e3
    refine ⟨hy, .inr ⟨g, c, putCells id 0 ys.toArray cur, rfl, hb, ?_, by omega, hm, by simpa [putCells] using hs, ?_⟩⟩
    · simp [putRow, mapBlock, Sort.ahead, Array.getElem?_modify, hg, onCells]
    · apply List.ext_getElem?
      intro j
      rw [List.getElem?_take, Array.getElem?_toList]
      by_cases hj : j < n * 2
      · have hjc : j < cur.size := by rw [hs]; omega
        rw [if_pos hj]
        simp only [putCells, Array.getElem?_mapIdx, Array.getElem?_eq_getElem hjc, Option.map_some]
        rw [if_pos (by simp; omega), List.getElem?_eq_getElem (by omega)]
        simp [getElem!_pos, show j < ys.length by omega]
      · rw [if_neg hj, List.getElem?_eq_none (by omega)]
def cmpFrom (x y : Sp) : Int := Lib.compareInt x.1 y.1
theorem ltFrom (x y : Sp) : ltOf cmpFrom x y = decide (x.1 < y.1) := by
  unfold ltOf cmpFrom Lib.compareInt
  by_cases h1 : x.1 < y.1
  · simp [h1]
  · by_cases h2 : y.1 < x.1 <;> simp [h1, h2]
theorem swoFrom : SWO (ltOf cmpFrom) where
  irrefl x := by rw [ltFrom]; simp
  trans x y z h1 h2 := by rw [ltFrom] at *; simp at *; omega
  ntrans x y z h1 h2 := by rw [ltFrom] at *; simp at *; omega
set_option maxHeartbeats 1000000 in
theorem closure (x y : Sp) (W : World) : Calls Try.prog 72 #[.agg #[.int .i64 x.1, .int .i64 x.2], .agg #[.int .i64 y.1, .int .i64 y.2]] W fun e w' => e = .returned (.int .i64 (cmpFrom x y)) ∧ ∃ q os', w' = grow (W.drewN q) os' := by
  have hcon := fun W' => AnyG.cmp_Compare_int Try.cmpInt x.1 y.1 W'
  change ∀ W', Calls Try.prog 66 _ _ _ at hcon
  unfold cmpFrom
  generalize Lib.compareInt x.1 y.1 = r at hcon ⊢
  go_enter Try.func72, Try.ntmps72
  go_wp2_with (go_at_call 66; refine (hcon _).mono ?_; rintro e w' ⟨rfl, rfl⟩)
  go_ret
  exact ⟨rfl, 0, _, by rw [alloc_eq_grow, alloc_eq_grow, grow_grow]; rfl⟩
/-- Rising by the beginnings. -/
def ByFrom (r : List Sp) : Prop := r.Pairwise fun a b => a.1 ≤ b.1
def SortIs (l : List Sp) (base : Nat) (v : Value) (w : World) (e : Ending) (w' : World) : Prop :=
  e = .returned (.tuple #[]) ∧ ∃ r : List Sp, r.Perm l ∧ ByFrom r ∧ OwnN 77 2 base w' v r.length (svals r) ∧ Below base w w'
set_option maxHeartbeats 1000000 in
theorem sortS (l : List Sp) (base : Nat) (v : Value) (w : World) (h : OwnN 77 2 base w v l.length (svals l)) (hl : l.length ≤ 9000) :
    Calls Try.prog 71 #[v, .func (.func 72) #[] #[]] w (SortIs l base v w) := by
  rcases h.form with ⟨rfl, hn, hx⟩ | ⟨g, c, rfl, h1, h2, h3, h4, h5, h6, hr⟩
  · have hl0 := List.eq_nil_of_length_eq_zero hn
    subst hl0
    have hcon := AnyF.slices_SortFunc_none Try.sortSp none 0 (.func (.func 72) #[] #[]) w
    change Calls Try.prog 71 _ _ _ at hcon
    refine hcon.mono ?_
    rintro e w' ⟨rfl, rfl⟩
    exact ⟨rfl, [], List.Perm.refl _, List.Pairwise.nil, h, Below.refl _ _⟩
  · have eg : ∀ args w, (callFunc 72 args).run Try.prog w = .ok (.enter 72 args) w := enters_of Try.func72 (by kernel_rfl) rfl
    have hcon := AnyQ.slices_SortFunc Try.sortSp 2 Try.isAgg77 Try.sizeOf77 spCells (fun _ => rfl) (fun x v hv => by simp [spCells] at hv; rcases hv with rfl | rfl <;> rfl) cmpFrom swoFrom 72 #[] g 0 c l.toArray w eg (fun _ _ _ _ x y => closure x y _) (holds_svals h5 h6) h2 (by show l.length < _; omega)
    change Calls Try.prog 71 #[.slice (some ⟨g, 0, none⟩) l.length c, .func (.func 72) #[] #[]] w _ at hcon
    refine hcon.mono ?_
    rintro e w' ⟨rfl, d, m, os, ⟨hs, _, hp⟩, hso, rfl⟩
    have hs' : d.size = l.length := by simpa using hs
    have hp' : d.toList.Perm l := by
      have e1 : d.extract 0 l.toArray.size = d := by rw [← hs]; simp
      have e2 : l.toArray.extract 0 l.toArray.size = l.toArray := by simp
      rw [e1, e2] at hp
      exact hp
    have hlen : d.toList.length = l.length := by simp [hs']
    have ed : flatK spCells 2 d = (svals d.toList).toArray := by have := flat_svals d.toList; simpa using this
    refine ⟨rfl, d.toList, hp', ?_, ?_, ?_⟩
    · refine List.pairwise_iff_getElem.2 fun i j hi hj hij => ?_
      have h7 := hso i j (Nat.zero_le _) hij (by simpa [hs'] using hj)
      have hi' : i < d.size := by simpa using hi
      have hj' : j < d.size := by simpa using hj
      rw [ltFrom, decide_eq_false_iff_not, getElem!_pos d j hj', getElem!_pos d i hi'] at h7
      simp only [Array.getElem_toList]
      omega
    · rw [hlen]
      refine ⟨?_, ?_⟩
      · show (grow (putRowK spCells 2 (Sort.ahead w m) g 0 d) os).ownsRow _ _ _ _ _ _
        have h8 := ownsRow_grow (own_put (q := m) hr.1 (ys := svals d.toList) (by rw [svals_len, hlen])) 0 os
        unfold putRowK
        rw [ed]
        exact h8
      · have h9 := (below_putRow (enc := id) (q := m) (d := (svals d.toList).toArray) (Below.refl base w) h1).size
        show base ≤ (grow (putRowK spCells 2 (Sort.ahead w m) g 0 d) os).heap.size
        unfold putRowK
        rw [ed]
        have := size_grow (putRow id (Sort.ahead w m) g 0 (svals d.toList).toArray) 0 os
        have := h.2
        exact Nat.le_trans (Nat.le_trans h.2 h9) (size_grow (putRow id (Sort.ahead w m) g 0 (svals d.toList).toArray) 0 os)
    · show Below base w (grow (putRowK spCells 2 (Sort.ahead w m) g 0 d) os)
      unfold putRowK
      rw [ed]
      have h9 := below_putRow (enc := id) (q := m) (d := (svals d.toList).toArray) (Below.refl base w) h1
      exact h9.trans (below_grow base _ (Nat.le_trans h.2 h9.size) 0 os)
end Go.Proofs.Ytlfmkipcgcilaaa.SpanWalk
namespace Go.Proofs.Ytlfmkipcgcilaaa.SpanWalk
open Go.RowKit Go.Proofs.Ytlfmkipcgcilaaa.SpanPlain Go.Proofs.Ytlfmkipcgcilaaa.Mem Go.Proofs.Ytlfmkipcgcilaaa.SpanMem Go.Proofs.Ytlfmkipcgcilaaa.SpanRef
/-- What rising answers. -/
def RisIs (l : List Sp) (w : World) (e : Ending) (w' : World) : Prop := ∃ v r, e = .returned v ∧ SpansIs r w' v ∧ Rises r ∧ (∀ t, anyB r t = anyB l t) ∧ r.length ≤ l.length ∧ Below w.heap.size w w'
/-- How the loop of rising stands. -/
def RisLoop (l : List Sp) (w wr : World) (v : Value) (k : Nat) : Prop :=
  OwnN 77 2 w.heap.size wr v (maysL (l.take k)).length (svals (maysL (l.take k))) ∧ Below w.heap.size w wr
set_option maxHeartbeats 1600000 in
theorem risS (l : List Sp) (v : Value) (w : World) (hv : SpansIs l w v) (hl : l.length ≤ 9000) : Calls Try.prog 69 #[v] w (RisIs l w) := by
  obtain ⟨A, cc, rfl, hA⟩ := hv.open_
  have HA := Lib.hid hA
  clear hA hv
  go_enter Try.func69, Try.ntmps69
  go_wp2_with fail
  go_loopw [3, 8] (fun o i wr => ∃ (k : Nat) (v : Value), v = o ∧ i = .int .i64 k ∧ k ≤ l.length ∧ Hid (RisLoop l w wr v k)) (fun _ i _ => l.length - (RowKit.intOf i).toNat)
  case atStart => exact ⟨0, _, rfl, rfl, Nat.zero_le _, OwnN.nil (Nat.le_refl _), Below.refl _ _⟩
  case round =>
    obtain ⟨k, o, hov, rfl, hk, HL⟩ := hrel
    subst hov
    by_cases hlt : k < l.length
    · obtain ⟨hown, hbl⟩ := HL.out
      obtain ⟨ad, rfl, had, c1, c2⟩ := (HA.out.below hbl) k hlt
      have HOW := Lib.hid hown
      have HBL := Lib.hid hbl
      have HM := Lib.hid (mays_take hlt)
      have hml := mays_len l k
      have C1 := Lib.hid (fun w => mayS (l.getD k (0, 0)) w)
      clear hown hbl HL
      unfold spV at C1
      unfold spCell at c1 c2
      dsimp only at c1 c2
      unfold RisLoop
      generalize l.getD k (0, 0) = s at *
      generalize maysL (l.take k) = c at *
      cases hm : mayB s with
      | false =>
        rw [hm] at C1 HM
        clear hm
        go_wp2_with fail
        refine (C1.out _).mono ?_
        rintro e w1 ⟨rfl, hb1⟩
        have HB1 := Lib.hid hb1
        clear hb1
        go_wp2_with fail
        exact ⟨⟨k + 1, _, rfl, by go_num, by omega, by rw [HM.out]; simpa using ((HOW.out.alloc _).below HB1.out), (HBL.out.alloc HBL.out.size _).trans (HB1.out.mono (by have := HBL.out.size; simp; omega))⟩, by simp [RowKit.intOf] <;> omega⟩
      | true =>
        rw [hm] at C1 HM
        clear hm
        go_wp2_with fail
        refine (C1.out _).mono ?_
        rintro e w1 ⟨rfl, hb1⟩
        obtain ⟨q0, q1, q2, q3, q4⟩ := (Box2.new wr (.int .i64 s.1) (.int .i64 s.2) 77).below hb1
        have HB1 := Lib.hid hb1
        have HO1 := Lib.hid ((HOW.out.alloc (.cells #[.int .i64 s.1, .int .i64 s.2] 77)).below hb1)
        clear hb1
        go_wp2_with (at_builtin; refine push_own spans_t rfl (.tmp 14) (.tmp 16) rfl w.heap.size _ _ _ rfl (HO1.out.alloc (.cells #[.int .i64 s.1, .int .i64 s.2] 77)) _ 1 [.int .i64 s.1, .int .i64 s.2] rfl rfl ?h1a two_cells ?h1b ?_)
        case h1a => exact raw_at rfl #[.int .i64 s.1, .int .i64 s.2] _
        case h1b => omega
        intro v2 w2 ho2 hb2 hg2
        have HO2 := Lib.hid (ho2.cast (m := (c ++ [s]).length) (ys := svals (c ++ [s])) (by simp) (by rw [svals_append]; rfl))
        have hsz := HBL.out.size
        have hsz1 := HB1.out.size
        have HB2 := Lib.hid ((((HBL.out.alloc HBL.out.size _).trans (HB1.out.mono (by simp; omega))).alloc (by simp at hsz1; omega) _).trans hb2)
        clear ho2 hb2 hg2
        go_wp2_with fail
        exact ⟨⟨k + 1, _, rfl, by go_num, by omega, by rw [HM.out]; exact HO2.out, HB2.out⟩, by simp [RowKit.intOf] <;> omega⟩
    · have he : l.take k = l := List.take_of_length_le (by omega)
      obtain ⟨hown, hbl⟩ := HL.out
      rw [he] at hown
      have hml := mays_len l l.length
      rw [List.take_of_length_le (Nat.le_refl _)] at hml
      have HS := Lib.hid (sortS (maysL l) w.heap.size o wr hown (by omega))
      have HBL := Lib.hid hbl
      clear hown hbl HL he
      go_wp2_with fail
      refine HS.out.mono ?_
      rintro e w1 ⟨rfl, r, hp, hby, hown, hb⟩
      have HO := Lib.hid hown
      have HB := Lib.hid (HBL.out.trans hb)
      have HP := Lib.hid hp
      have HY := Lib.hid hby
      clear hown hb hp hby
      go_wp2_with fail
      go_ret
      exact ⟨_, r, rfl, OwnN.spans HO.out rfl, ⟨mays_may HP.out, HY.out⟩, mays_any HP.out, by have := HP.out.length_eq; omega, HB.out⟩
end Go.Proofs.Ytlfmkipcgcilaaa.SpanWalk
namespace Go.Proofs.Ytlfmkipcgcilaaa.SpanWalk
open Go.RowKit Go.Proofs.Ytlfmkipcgcilaaa.SpanPlain Go.Proofs.Ytlfmkipcgcilaaa.Mem Go.Proofs.Ytlfmkipcgcilaaa.SpanMem Go.Proofs.Ytlfmkipcgcilaaa.SpanRef
/-- A slice's length is within its capacity. -/
def Room (v : Value) : Prop := ∃ A n c, v = .slice A n c ∧ n ≤ c ∧ c ≤ maxLen
theorem own_room {e : TypeId} {k base n : Nat} {w : World} {v : Value} {xs : List Value} (h : OwnN e k base w v n xs) : Room v := by
  rcases h.form with ⟨h1, _, _⟩ | ⟨g, c, hv, _, _, h3, h4, _⟩
  · exact ⟨none, 0, 0, h1, Nat.le_refl _, Nat.zero_le _⟩
  · exact ⟨_, n, c, hv, h3, h4⟩
/-- What Cover answers. -/
def CoverIs (l : List Sp) (w : World) (e : Ending) (w' : World) : Prop := ∃ v c, e = .returned v ∧ SpansIs c w' v ∧ LessOf l [] c ∧ Below w.heap.size w w' ∧ Room v
/-- How the loop of Cover stands. -/
def CovLoop (r : List Sp) (w1 wr : World) (v : Value) (k : Nat) : Prop :=
  ∃ c, OwnN 77 2 w1.heap.size wr v c.length (svals c) ∧ CoverAt r k c ∧ c.length ≤ k ∧ Below w1.heap.size w1 wr
theorem own_shape {e : TypeId} {k base n : Nat} {w : World} {v : Value} {xs : List Value} (h : OwnN e k base w v n xs) : ∃ A c, v = .slice A n c := by
  rcases h.form with ⟨h1, h2, _⟩ | ⟨g, c, hv, _⟩
  · subst h2; exact ⟨none, 0, h1⟩
  · exact ⟨_, c, hv⟩
theorem own_there {e : TypeId} {k base n : Nat} {w : World} {v : Value} {xs : List Value} (h : OwnN e k base w v (n + 1) xs) :
    ∃ g c, v = .slice (some ⟨g, 0, none⟩) (n + 1) c ∧ base ≤ g ∧ g < w.heap.size ∧ (∀ j u, xs[j]? = some u → w.cell? ⟨g, j, none⟩ = some u) ∧ ∀ i, w.frozen? ⟨g, i, none⟩ = false := by
  rcases h.form with ⟨_, h2, _⟩ | ⟨g, c, hv, h1, h2, _, _, hr, hf, _⟩
  · omega
  · exact ⟨g, c, hv, h1, h2, fun j u hu => by have := (hr j u hu).2; rwa [add_flat] at this, hf⟩
theorem below_drawn {w1 wr w2 : World} {a b : Obj} {n : Nat} (h : Below w1.heap.size w1 wr) (k : Below w1.heap.size (((wr.alloc a).drewN n).alloc b) w2) : Below w1.heap.size w1 w2 :=
  ((below_drewN (h.alloc h.size _) n).alloc (by show _ ≤ (wr.alloc a).heap.size; have := h.size; simp; omega) _).trans k
set_option maxHeartbeats 3200000 in
theorem cover_of (l : List Sp) (v : Value) (w : World) (hl : l.length ≤ 2000) (R : Calls Try.prog 69 #[v] w (RisIs l w)) : Calls Try.prog 60 #[v] w (CoverIs l w) := by
  have HR := Lib.hid R
  clear R
  go_enter Try.func60, Try.ntmps60
  go_wp2_with fail
  refine HR.out.mono ?_
  rintro e w1 ⟨vr, r, rfl, hr, hri, ht, hlen, hb1⟩
  obtain ⟨A, cc, rfl, hA⟩ := hr.open_
  have HA := Lib.hid hA
  have HRI := Lib.hid hri
  have HT := Lib.hid ht
  have HB1 := Lib.hid hb1
  clear hr hA hri ht hb1 HR
  go_wp2_with fail
  go_loopw [3, 10] (fun o i wr => ∃ (k : Nat) (v : Value), v = o ∧ i = .int .i64 k ∧ k ≤ r.length ∧ Hid (CovLoop r w1 wr v k)) (fun _ i _ => r.length - (RowKit.intOf i).toNat)
  case atStart => exact ⟨0, _, rfl, rfl, Nat.zero_le _, [], OwnN.nil (Nat.le_refl _), CoverAt.start r, Nat.le_refl _, Below.refl _ _⟩
  case round =>
    obtain ⟨k, o, hov, rfl, hk, HL⟩ := hrel
    subst hov
    by_cases hlt : k < r.length
    · obtain ⟨c, hown, hat, hck, hbl⟩ := HL.out
      obtain ⟨ad, rfl, had, c1, c2⟩ := (HA.out.below hbl) k hlt
      have HOW := Lib.hid hown
      have HAT := Lib.hid hat
      have HBL := Lib.hid hbl
      have hsn := snoc_cases c
      have HADD := Lib.hid (fun h => HAT.out.add HRI.out hlt h)
      have HGROW : Hid (∀ d q, c = d ++ [q] → ¬ q.2 < (r.getD k (0, 0)).1 → CoverAt r (k + 1) (d ++ [(q.1, max q.2 (r.getD k (0, 0)).2)])) := fun d q e h => CoverAt.grow HRI.out (e ▸ HAT.out) hlt h
      clear hown hat hbl HL
      unfold spCell at c1 c2
      dsimp only at c1 c2
      generalize r.getD k (0, 0) = s at *
      rcases hsn with rfl | ⟨d, q, rfl⟩
      · obtain ⟨B, cb, rfl⟩ := own_shape HOW.out
        have HO1 := Lib.hid (HOW.out.alloc (.cells #[.int .i64 s.1, .int .i64 s.2] 77))
        go_wp2_with fail
        go_quiet (fail)
        go_wp2_with (at_builtin; refine push_own spans_t rfl (.tmp 29) (.tmp 31) rfl w1.heap.size _ _ _ rfl ((HO1.out.drewN _).alloc (.cells #[.int .i64 s.1, .int .i64 s.2] 77)) _ 1 [.int .i64 s.1, .int .i64 s.2] rfl rfl ?h1a two_cells ?h1b ?_)
        case h1a => exact raw_at (by show (wr.alloc _).heap.size = _; simp) #[.int .i64 s.1, .int .i64 s.2] _
        case h1b => simp <;> omega
        intro v2 w2 ho2 hb2 hgr2
        have HO2 := Lib.hid ho2
        have HB2 := Lib.hid (below_drawn HBL.out hb2)
        clear ho2 hb2 hgr2
        go_wp2_with fail
        exact ⟨⟨k + 1, _, rfl, by go_num, by omega, [] ++ [s], HO2.out.cast (by simp) (by rw [svals_append]; rfl), HADD.out (fun x h => by simp at h), by simp, HB2.out⟩, by simp [RowKit.intOf] <;> omega⟩
      · have hck2 : d.length + 1 ≤ k := by simpa using hck
        have HOQ : Hid (OwnN 77 2 w1.heap.size wr o (d.length + 1) (svals (d ++ [q]))) := by
          have h := HOW.out
          rw [List.length_append, List.length_singleton] at h
          exact h
        obtain ⟨g, cap, hv, hg1, hg2, hgc, hgf⟩ := own_there HOQ.out
        have ce := hgc _ _ (svals_end d q)
        have cf := hgf (d.length * 2 + 1)
        clear hgc hgf
        subst hv
        have q0 : (0 : Int) ≤ (d.length : Int) := Int.natCast_nonneg _
        have q1 : (d.length : Int) < (d.length : Int) + 1 := by omega
        have q2 : IntKind.i64.wrap ((d.length : Int) + 1 - 1) = (d.length : Int) := by rw [IntKind.wrap_i64]; omega
        by_cases hx : q.2 < s.1
        · have hx2 : decide (q.2 < s.1) = true := decide_eq_true hx
          have HA2 := Lib.hid (HADD.out (last_all HAT.out.1 hx))
          have HO1 := Lib.hid (HOQ.out.alloc (.cells #[.int .i64 s.1, .int .i64 s.2] 77))
          go_wp2_with fail
          go_quiet (fail)
          go_wp2_with (at_builtin; refine push_own spans_t rfl (.tmp 29) (.tmp 31) rfl w1.heap.size _ _ _ rfl ((HO1.out.drewN _).alloc (.cells #[.int .i64 s.1, .int .i64 s.2] 77)) _ 1 [.int .i64 s.1, .int .i64 s.2] rfl rfl ?h2a two_cells ?h2b ?_)
          case h2a => exact raw_at (by show (wr.alloc _).heap.size = _; simp) #[.int .i64 s.1, .int .i64 s.2] _
          case h2b => simp <;> omega
          intro v2 w2 ho2 hb2 hgr2
          have HO2 := Lib.hid ho2
          have HB2 := Lib.hid (below_drawn HBL.out hb2)
          clear ho2 hb2 hgr2
          go_wp2_with fail
          exact ⟨⟨k + 1, _, rfl, by go_num, by omega, (d ++ [q]) ++ [s], HO2.out.cast (by simp) (by rw [svals_append (d ++ [q])]; rfl), HA2.out, by simp <;> omega, HB2.out⟩, by simp [RowKit.intOf] <;> omega⟩
        · have hx2 : decide (q.2 < s.1) = false := decide_eq_false hx
          go_wp2_with fail
          go_quiet (fail)
          go_wp2_with fail
          have HG := Lib.hid (HGROW.out d q rfl hx)
          have HB5 := Lib.hid (below_drewN (HBL.out.alloc HBL.out.size (.cells #[.int .i64 s.1, .int .i64 s.2] 77)) nq)
          have HO5 := Lib.hid ((HOQ.out.alloc (.cells #[.int .i64 s.1, .int .i64 s.2] 77)).drewN nq)
          obtain ⟨x0, x1, x2, x3, x4⟩ := (Box2.new wr (.int .i64 s.1) (.int .i64 s.2) 77).drewN nq
          have e1 : ((wr.alloc (.cells #[.int .i64 s.1, .int .i64 s.2] 77)).drewN nq).cell? ⟨g, d.length * 2 + 1, none⟩ = some (.int .i64 q.2) := ((below_alloc wr (.cells #[.int .i64 s.1, .int .i64 s.2] 77)).cell (p := ⟨g, d.length * 2 + 1, none⟩) hg2).trans ce
          have e2 : ((wr.alloc (.cells #[.int .i64 s.1, .int .i64 s.2] 77)).drewN nq).frozen? ⟨g, d.length * 2 + 1, none⟩ = false := ((below_alloc wr (.cells #[.int .i64 s.1, .int .i64 s.2] 77)).frozen (p := ⟨g, d.length * 2 + 1, none⟩) hg2).trans cf
          generalize (wr.alloc (.cells #[.int .i64 s.1, .int .i64 s.2] 77)).drewN nq = W at *
          clear x3 x4 c1 c2 ce cf x1
          go_region
          go_wp2_with fail
          exact ⟨⟨k + 1, _, rfl, by go_num, by omega, d ++ [(q.1, max q.2 s.2)], ((HO5.out.set (d.length * 2 + 1) (.int .i64 (max q.2 s.2))).drew).cast (by simp) (svals_last d q _), HG.out, by simpa using (by omega : d.length + 1 ≤ k + 1), ((HB5.out.setCell (p := ⟨g, d.length * 2 + 1, none⟩) hg1 _).drew)⟩, by simp [RowKit.intOf] <;> omega⟩
    · go_wp2_with fail
      go_ret
      obtain ⟨c, hown, hat, hck, hbl⟩ := HL.out
      exact ⟨_, c, rfl, OwnN.spans hown rfl, hat.less (by omega) HT.out, HB1.out.trans (hbl.mono HB1.out.size), own_room hown⟩
end Go.Proofs.Ytlfmkipcgcilaaa.SpanWalk
namespace Go.Proofs.Ytlfmkipcgcilaaa.SpanWalk
open Go.RowKit Go.Proofs.Ytlfmkipcgcilaaa.SpanPlain Go.Proofs.Ytlfmkipcgcilaaa.Mem Go.Proofs.Ytlfmkipcgcilaaa.SpanMem Go.Proofs.Ytlfmkipcgcilaaa.SpanRef
theorem cover_is (l : List Sp) (v : Value) (w : World) (hv : SpansIs l w v) (hl : l.length ≤ 2000) : Calls Try.prog 60 #[v] w (CoverIs l w) :=
  cover_of l v w hl (risS l v w hv (by omega))
end Go.Proofs.Ytlfmkipcgcilaaa.SpanWalk
namespace Go.Proofs.Ytlfmkipcgcilaaa.GapWalk
open Go.RowKit Go.Proofs.Ytlfmkipcgcilaaa.SpanPlain Go.Proofs.Ytlfmkipcgcilaaa.StepPlain Go.Proofs.Ytlfmkipcgcilaaa.GapPlain Go.Proofs.Ytlfmkipcgcilaaa.Mem Go.Proofs.Ytlfmkipcgcilaaa.SpanMem Go.Proofs.Ytlfmkipcgcilaaa.StepMem Go.Proofs.Ytlfmkipcgcilaaa.SpanRef Go.Proofs.Ytlfmkipcgcilaaa.StepRef Go.Proofs.Ytlfmkipcgcilaaa.GapRef
def BoolW (b : Bool) (w : World) (e : Ending) (w' : World) : Prop := e = .returned (.bool b) ∧ w = w'
def IntW (n : Int) (w : World) (e : Ending) (w' : World) : Prop := e = .returned (.int .i64 n) ∧ w = w'
def widthB (m : Int) : Bool := decide (1 ≤ m) && decide (m ≤ 256)
def lengthB (n : Int) : Bool := decide (1 ≤ n) && decide (n ≤ 1099511627776)
theorem widthB_iff (m : Int) : widthB m = true ↔ 1 ≤ m ∧ m ≤ 256 := by unfold widthB; simp
theorem lengthB_iff (n : Int) : lengthB n = true ↔ 1 ≤ n ∧ n ≤ 1099511627776 := by unfold lengthB; simp
theorem isWideS (t : Int) (w : World) : Calls Try.prog 53 #[.int .i64 t] w (BoolW (widthB t) w) := by
  have hw : (widthB t = true ∧ decide (1 ≤ t) = true ∧ decide (t ≤ 256) = true) ∨ (widthB t = false ∧ decide (1 ≤ t) = false) ∨ (widthB t = false ∧ decide (1 ≤ t) = true ∧ decide (t ≤ 256) = false) := by
    unfold widthB
    by_cases h1 : 1 ≤ t <;> by_cases h2 : t ≤ 256 <;> simp [h1, h2]
  generalize widthB t = B at *
  rcases hw with ⟨rfl, h1, h2⟩ | ⟨rfl, h1⟩ | ⟨rfl, h1, h2⟩
  all_goals
    go_enter Try.func53, Try.ntmps53
    go_wp2_with fail
    go_ret
    exact ⟨rfl, rfl⟩
theorem isLongS (t : Int) (w : World) : Calls Try.prog 47 #[.int .i64 t] w (BoolW (lengthB t) w) := by
  have hw : (lengthB t = true ∧ decide (1 ≤ t) = true ∧ decide (t ≤ 1099511627776) = true) ∨ (lengthB t = false ∧ decide (1 ≤ t) = false) ∨ (lengthB t = false ∧ decide (1 ≤ t) = true ∧ decide (t ≤ 1099511627776) = false) := by
    unfold lengthB
    by_cases h1 : 1 ≤ t <;> by_cases h2 : t ≤ 1099511627776 <;> simp [h1, h2]
  generalize lengthB t = B at *
  rcases hw with ⟨rfl, h1, h2⟩ | ⟨rfl, h1⟩ | ⟨rfl, h1, h2⟩
  all_goals
    go_enter Try.func47, Try.ntmps47
    go_wp2_with fail
    go_ret
    exact ⟨rfl, rfl⟩
/-- Up to when a step goes on. -/
def endN (s : List Sp) (k : Nat) : Int := if k + 1 < s.length then (nth s (k + 1)).1 else 4503599627370496
set_option maxRecDepth 100000 in
theorem endS (s : List Sp) (k : Nat) (v : Value) (w : World) (hv : SpansIs s w v) (hk : k < s.length) (hl : s.length ≤ 1000) : Calls Try.prog 59 #[v, .int .i64 k] w (IntW (endN s k) w) := by
  obtain ⟨A, c, rfl, hA⟩ := hv.open_
  have HA := Lib.hid hA
  clear hA hv
  unfold endN
  by_cases hnx : k + 1 < s.length
  · obtain ⟨ad2, rfl, had2, c3, _⟩ := HA.out (k + 1) hnx
    have e3 : (spCell s (k + 1)).1 = .int .i64 (nth s (k + 1)).1 := rfl
    rw [e3] at c3
    rw [if_pos hnx]
    have d1 : decide ((k : Int) + 1 < (s.length : Int)) = true := decide_eq_true (by omega)
    have i1 : (0 : Int) ≤ (k : Int) + 1 := by omega
    have i2 : (k : Int) + 1 < (s.length : Int) := by omega
    have i3 : ((k : Int) + 1).toNat = k + 1 := by omega
    clear e3
    generalize nth s (k + 1) = z at *
    go_enter Try.func59, Try.ntmps59
    go_wp2_with fail
    go_ret
    exact ⟨rfl, rfl⟩
  · rw [if_neg hnx]
    have d1 : decide ((k : Int) + 1 < (s.length : Int)) = false := decide_eq_false (by omega)
    go_enter Try.func59, Try.ntmps59
    go_wp2_with fail
    go_ret
    exact ⟨rfl, rfl⟩
set_option maxRecDepth 100000 in
set_option maxHeartbeats 1600000 in
theorem wideS (s : List Sp) (a n : Int) (v : Value) (w : World) (hv : SpansIs s w v) (hl : s.length ≤ 1000) : Calls Try.prog 54 #[v, .int .i64 a, .int .i64 n] w (WideSays s a n w) := by
  have CL := Lib.hid (fun W => isLongS n W)
  have HNO := Lib.hid (fun h => wide_no (s := s) (a := a) (n := n) h)
  cases hb : lengthB n with
  | false =>
    rw [hb] at CL
    have HN := Lib.hid (HNO.out (.inl (fun h => by rw [(lengthB_iff n).2 h] at hb; cases hb)))
    clear hb HNO hv
    go_enter Try.func54, Try.ntmps54
    go_wp2_with (go_at_call 47; refine (CL.out _).mono ?_; rintro e w1 ⟨rfl, rfl⟩)
    go_ret
    exact ⟨0, rfl, HN.out, Below.refl _ _⟩
  | true =>
    rw [hb] at CL
    have hn := (lengthB_iff n).1 hb
    clear hb
    by_cases ha : 1125899906842624 < a
    · have d1 : decide ((1125899906842624 : Int) < a) = true := decide_eq_true ha
      have HN := Lib.hid (HNO.out (.inr ha))
      clear HNO hv
      go_enter Try.func54, Try.ntmps54
      go_wp2_with (go_at_call 47; refine (CL.out _).mono ?_; rintro e w1 ⟨rfl, rfl⟩)
      go_ret
      exact ⟨0, rfl, HN.out, Below.refl _ _⟩
    · have d1 : decide ((1125899906842624 : Int) < a) = false := decide_eq_false ha
      obtain ⟨b, hb⟩ : ∃ b, b = IntKind.i64.wrap (a + n) := ⟨_, rfl⟩
      have HY := Lib.hid (fun k h => wide_yes (s := s) (a := a) (n := n) (b := b) (k := k) hn (by omega) (fun h0 => by rw [hb, IntKind.wrap_i64]; omega) h)
      have CM := Lib.hid (StepWalk.minS s (a, b) v w hv hl)
      unfold spV at CM
      dsimp only at CM
      have hb2 : IntKind.i64.wrap (a + n) = b := hb.symm
      clear hb hv HNO ha hn
      go_enter Try.func54, Try.ntmps54
      go_wp2_with (go_at_call 47; refine (CL.out _).mono ?_; rintro e w1 ⟨rfl, rfl⟩)
      refine CM.out.mono ?_
      rintro e w2 ⟨k, rfl, hk, hb⟩
      have HK := Lib.hid (HY.out k hk)
      have HB := Lib.hid hb
      clear hk hb HY
      go_wp2_with fail
      go_ret
      exact ⟨k, rfl, HK.out, HB.out⟩
set_option maxHeartbeats 1600000 in
theorem okS (s : List Sp) (a m n : Int) (v : Value) (w : World) (hv : SpansIs s w v) (hl : s.length ≤ 1000) : Calls Try.prog 44 #[v, .int .i64 a, .int .i64 m, .int .i64 n] w (BoolIs (okG s a m n) w) := by
  have CW := Lib.hid (fun W => isWideS m W)
  have CM := Lib.hid (wideS s a n v w hv hl)
  clear hv
  cases hb : widthB m with
  | false =>
    rw [hb] at CW
    rw [ok_not (fun h => by rw [(widthB_iff m).2 h] at hb; cases hb)]
    clear hb CM
    go_enter Try.func44, Try.ntmps44
    go_wp2_with (go_at_call 53; refine (CW.out _).mono ?_; rintro e w1 ⟨rfl, rfl⟩)
    go_ret
    exact ⟨rfl, Below.refl _ _⟩
  | true =>
    rw [hb] at CW
    have HO := Lib.hid (fun k h => ok_wide (s := s) (a := a) (m := m) (n := n) (k := k) h ((widthB_iff m).1 hb).1 ((widthB_iff m).1 hb).2)
    clear hb
    generalize hG : okG s a m n = G at *
    have HG := Lib.hid hG
    clear hG
    go_enter Try.func44, Try.ntmps44
    go_wp2_with (go_at_call 53; refine (CW.out _).mono ?_; rintro e w1 ⟨rfl, rfl⟩)
    refine CM.out.mono ?_
    rintro e w2 ⟨k, rfl, hk, hb⟩
    have HK := Lib.hid (HO.out k hk)
    have HB := Lib.hid hb
    clear hk hb HO
    cases hd : decide (m ≤ k)
    all_goals
      go_wp2_with fail
      go_ret
      exact ⟨by have h := HK.out; rw [hd] at h; rw [h]; rfl, HB.out⟩
end Go.Proofs.Ytlfmkipcgcilaaa.GapWalk
namespace Go.Proofs.Ytlfmkipcgcilaaa.GapWalk
open Go.RowKit Go.Proofs.Ytlfmkipcgcilaaa.SpanPlain Go.Proofs.Ytlfmkipcgcilaaa.StepPlain Go.Proofs.Ytlfmkipcgcilaaa.GapPlain Go.Proofs.Ytlfmkipcgcilaaa.Mem Go.Proofs.Ytlfmkipcgcilaaa.SpanMem Go.Proofs.Ytlfmkipcgcilaaa.StepMem Go.Proofs.Ytlfmkipcgcilaaa.SpanRef Go.Proofs.Ytlfmkipcgcilaaa.StepRef Go.Proofs.Ytlfmkipcgcilaaa.GapRef
theorem all_ways (s : List Sp) (m : Int) : (chkB s = false ∧ Hid (AllSays s m [])) ∨ (chkB s = true ∧ widthB m = false ∧ Hid (AllSays s m [])) ∨ (chkB s = true ∧ widthB m = true ∧ Hid (mayG s m 1 = true)) := by
  have e : mayG s m 1 = (chkB s && widthB m) := by unfold mayG widthB; cases chkB s <;> simp
  unfold AllSays
  rw [e]
  cases chkB s with
  | false => exact .inl ⟨rfl, .inr ⟨rfl, rfl⟩⟩
  | true =>
    cases widthB m with
    | false => exact .inr (.inl ⟨rfl, rfl, .inr ⟨rfl, rfl⟩⟩)
    | true => exact .inr (.inr ⟨rfl, rfl, rfl⟩)
theorem gapw_ways (s : List Sp) (m : Int) (k : Nat) : (decide (m ≤ (nth s k).2) = false ∧ Hid (gapsTo s m (k + 1) = gapsTo s m k)) ∨ (decide (m ≤ (nth s k).2) = true ∧ Hid (gapsTo s m (k + 1) = gapsTo s m k ++ [((nth s k).1, endN s k)])) := by
  rw [gaps_next]
  unfold gapSp endN
  by_cases h1 : m ≤ (nth s k).2
  · rw [if_pos h1]; exact .inr ⟨decide_eq_true h1, rfl⟩
  · rw [if_neg h1, List.append_nil]; exact .inl ⟨decide_eq_false h1, rfl⟩
def AllLoop (s : List Sp) (m : Int) (w wr : World) (v : Value) (k : Nat) : Prop := OwnN 77 2 w.heap.size wr v (gapsTo s m k).length (svals (gapsTo s m k)) ∧ Below w.heap.size w wr
/-- A box laid behind a row of one's own is kept where the row grows. -/
theorem box_kept {e : TypeId} {k base n : Nat} {wr W w6 : World} {o : Value} {xs : List Value} (h : OwnN e k base wr o n xs) (hw : wr.heap.size < W.heap.size) (hg : W.grownBy w6 o.ownBlock) {j : Nat} {u : Value} (hu : W.cell? ⟨wr.heap.size, j, none⟩ = some u) : w6.cell? ⟨wr.heap.size, j, none⟩ = some u :=
  (World.cell?_of_block (a := ⟨wr.heap.size, j, none⟩) (hg.block wr.heap.size hw (fun e => by have := (h.1.lt _ e.symm).2; omega))).trans hu
/-- All, with how long its answer is. -/
def AllLong (s : List Sp) (m : Int) (w : World) (e : Ending) (w' : World) : Prop := ∃ v c, e = .returned v ∧ SpansIs c w' v ∧ AllSays s m c ∧ Below w.heap.size w w' ∧ c.length ≤ 1000
set_option maxRecDepth 100000 in
set_option maxHeartbeats 3200000 in
theorem allL (s : List Sp) (m : Int) (v : Value) (w : World) (hv : SpansIs s w v) (hl : s.length ≤ 1000) : Calls Try.prog 48 #[v, .int .i64 m] w (AllLong s m w) := by
  have CC := Lib.hid (StepWalk.checkS s v w hv hl)
  have CW := Lib.hid (fun W => isWideS m W)
  have HV := Lib.hid hv
  obtain ⟨A, c, rfl, hA⟩ := hv.open_
  have HA := Lib.hid hA
  clear hv hA
  rcases all_ways s m with ⟨h1, HN⟩ | ⟨h1, h2, HN⟩ | ⟨h1, h2, HM⟩
  · rw [h1] at CC
    clear h1
    go_enter Try.func48, Try.ntmps48
    go_wp2_with fail
    refine CC.out.mono ?_
    rintro e w1 ⟨rfl, hb1⟩
    have HB1 := Lib.hid hb1
    clear hb1
    go_wp2_with fail
    go_ret
    exact ⟨_, [], rfl, .inl ⟨rfl, rfl⟩, HN.out, HB1.out, by simp⟩
  · rw [h1] at CC
    rw [h2] at CW
    clear h1 h2
    go_enter Try.func48, Try.ntmps48
    go_wp2_with fail
    refine CC.out.mono ?_
    rintro e w1 ⟨rfl, hb1⟩
    have HB1 := Lib.hid hb1
    clear hb1
    go_wp2_with (go_at_call 53; refine (CW.out _).mono ?_; rintro e w1 ⟨rfl, rfl⟩)
    go_ret
    exact ⟨_, [], rfl, .inl ⟨rfl, rfl⟩, HN.out, HB1.out, by simp⟩
  · rw [h1] at CC
    rw [h2] at CW
    have HC := Lib.hid ((chk_iff s).1 h1)
    clear h1 h2
    go_enter Try.func48, Try.ntmps48
    go_wp2_with fail
    refine CC.out.mono ?_
    rintro e w1 ⟨rfl, hb1⟩
    have HB1 := Lib.hid hb1
    clear hb1 CC
    go_wp2_with (go_at_call 53; refine (CW.out _).mono ?_; rintro e w1 ⟨rfl, rfl⟩)
    go_loopw [5, 18] (fun o i wr => ∃ (k : Nat) (v : Value), v = o ∧ i = .int .i64 k ∧ k ≤ s.length ∧ Hid (AllLoop s m w1 wr v k)) (fun _ i _ => s.length - (intOf i).toNat)
    case atStart => exact ⟨0, _, rfl, rfl, Nat.zero_le _, OwnN.nil (Nat.le_refl _), Below.refl _ _⟩
    case round =>
      obtain ⟨k, o, hov, rfl, hk, HL⟩ := hrel
      subst hov
      obtain ⟨hown, hbl⟩ := HL.out
      by_cases hlt : k < s.length
      · obtain ⟨ad, rfl, had, c1, c2⟩ := (HA.out.below (below_then HB1.out hbl)) k hlt
        have e1 : (spCell s k).1 = .int .i64 (nth s k).1 := rfl
        have e2 : (spCell s k).2 = .int .i64 (nth s k).2 := rfl
        rw [e1] at c1
        rw [e2] at c2
        have hgl := gaps_len s m k
        have i0 : (0 : Int) ≤ (k : Int) := Int.natCast_nonneg _
        have hlt2 : (k : Int) < (s.length : Int) := by omega
        have HOW := Lib.hid hown
        have HBL := Lib.hid hbl
        unfold AllLoop
        clear hown hbl HL e1 e2
        rcases gapw_ways s m k with ⟨h1, HX⟩ | ⟨h1, HX⟩
        · generalize nth s k = y at *
          go_wp2_with fail
          exact ⟨⟨k + 1, _, rfl, by go_num, by omega, by rw [HX.out]; exact HOW.out.alloc _, HBL.out.alloc HBL.out.size _⟩, by simp [intOf] <;> omega⟩
        · generalize nth s k = y at *
          have CE := Lib.hid (endS s k (.slice (some ad) s.length c) (wr.alloc (.cells #[.int .i64 y.1, .int .i64 y.2] 50)).drew (HV.out.below (((below_then HB1.out HBL.out).alloc (below_then HB1.out HBL.out).size _).drew)) hlt hl)
          have HO1 := Lib.hid ((HOW.out.alloc (.cells #[.int .i64 y.1, .int .i64 y.2] 50)).drewN 1)
          generalize endN s k = z at *
          have HO2 := Lib.hid (HO1.out.alloc (.cells #[.int .i64 y.1, .int .i64 z] 77))
          have HB2 := Lib.hid ((HBL.out.alloc HBL.out.size (.cells #[.int .i64 y.1, .int .i64 y.2] 50)).drew)
          have HX0 := Box2.new wr (.int .i64 y.1) (.int .i64 y.2) 50
          obtain ⟨x0, x1, x2, _, _⟩ := HX0
          go_upto_region 8 with fail
          go_region_held3 (fun w' => w'.cell? ⟨wr.heap.size, 0, none⟩ = some (.int .i64 y.1))
            (first | go_keep | exact box_kept HOW.out (by simp; omega) hg6 (by assumption))
            (first
              | (go_at_call_of 59 (Value.slice (some ad) s.length c); refine CE.out.mono ?_; rintro e w2 ⟨rfl, rfl⟩)
              | (refine step_own spans_t (by rfl) (.tmp 27) (.tmp 34) (by rfl) w1.heap.size _ _ _ (by rfl) HO2.out _ 1 [.int .i64 y.1, .int .i64 z] (by rfl) (by rfl) (raw_at (by simp) #[.int .i64 y.1, .int .i64 z] _) two_cells (by omega) ?_; intro v6 w6 ho6 hb6 hg6))
          all_goals
            go_wp2_with fail
            exact ⟨⟨k + 1, _, rfl, by go_num, by omega, by rw [HX.out, svals_snoc]; exact ho6.cast (by simp) rfl, (HB2.out.alloc HB2.out.size _).trans hb6⟩, by simp [intOf] <;> omega⟩
      · obtain rfl : k = s.length := by omega
        have hgl := gaps_len s m s.length
        have hsp : SpansIs (gapsTo s m s.length) wr o := spans_of_own hown rfl
        have HALL := Lib.hid (fun c h => all_of_less (s := s) (c := c) HC.out (w := m) h)
        have CL := Lib.hid (SpanWalk.cover_is (gapsTo s m s.length) o wr hsp (by omega))
        have HBL := Lib.hid (below_then HB1.out hbl)
        clear hown hbl HL hsp
        generalize gapsTo s m s.length = l at *
        go_wp2_with fail
        refine CL.out.mono ?_
        rintro e w2 ⟨v2, c2, rfl, hs2, hl2, hb2, _⟩
        have HS := Lib.hid hs2
        have HAL := Lib.hid (HALL.out c2 hl2)
        have HB2 := Lib.hid (below_then HBL.out hb2)
        have hcl := cov_len hl2
        simp only [List.length_nil, Nat.add_zero] at hcl
        clear hs2 hl2 hb2 CL
        go_wp2_with fail
        go_ret
        exact ⟨_, c2, rfl, HS.out, .inl ⟨HM.out, HAL.out⟩, HB2.out, by omega⟩
end Go.Proofs.Ytlfmkipcgcilaaa.GapWalk
namespace Go.Proofs.Ytlfmkipcgcilaaa.GapWalk
open Go.RowKit Go.Proofs.Ytlfmkipcgcilaaa.SpanPlain Go.Proofs.Ytlfmkipcgcilaaa.StepPlain Go.Proofs.Ytlfmkipcgcilaaa.GapPlain Go.Proofs.Ytlfmkipcgcilaaa.Mem Go.Proofs.Ytlfmkipcgcilaaa.SpanMem Go.Proofs.Ytlfmkipcgcilaaa.StepMem Go.Proofs.Ytlfmkipcgcilaaa.SpanRef Go.Proofs.Ytlfmkipcgcilaaa.StepRef Go.Proofs.Ytlfmkipcgcilaaa.GapRef
set_option maxRecDepth 100000 in
set_option maxHeartbeats 3200000 in
theorem fitS (s : List Sp) (f m n : Int) (v : Value) (w : World) (hv : SpansIs s w v) (hl : s.length ≤ 1000) : Calls Try.prog 37 #[v, .int .i64 f, .int .i64 m, .int .i64 n] w (FitSays s f m n w) := by
  have CL := Lib.hid (fun W => isLongS n W)
  have CA := Lib.hid (allL s m v w hv hl)
  clear hv
  cases hb : lengthB n with
  | false =>
    rw [hb] at CL
    have HN := Lib.hid (fit_short s f m n (fun h => by rw [(lengthB_iff n).2 h] at hb; cases hb))
    clear hb CA
    go_enter Try.func37, Try.ntmps37
    go_wp2_with (go_at_call 47; refine (CL.out _).mono ?_; rintro e w1 ⟨rfl, rfl⟩)
    go_ret2
    exact ⟨0, false, rfl, HN.out, Below.refl _ _⟩
  | true =>
    rw [hb] at CL
    have hn := (lengthB_iff n).1 hb
    clear hb
    go_enter Try.func37, Try.ntmps37
    go_wp2_with (go_at_call 47; refine (CL.out _).mono ?_; rintro e w1 ⟨rfl, rfl⟩)
    refine CA.out.mono ?_
    rintro e w1 ⟨vc, c, rfl, hc, hof, hb1, hcl⟩
    obtain ⟨A, cc, rfl, hA⟩ := hc.open_
    have HA := Lib.hid hA
    have HO := Lib.hid hof
    have HB1 := Lib.hid hb1
    clear hc hA hof hb1 CA CL
    go_wp2_with fail
    go_loopw [20] (fun i wr => ∃ k : Nat, i = .int .i64 k ∧ k ≤ c.length ∧ Hid (NoFit c f n k ∧ Below w1.heap.size w1 wr)) (fun i _ => c.length - (intOf i).toNat)
    case atStart => exact ⟨0, rfl, Nat.zero_le _, fit_start _ _ _, Below.refl _ _⟩
    case round =>
      obtain ⟨k, rfl, hk, HL⟩ := hrel
      obtain ⟨hf, hbl⟩ := HL.out
      have HBL := Lib.hid hbl
      by_cases hlt : k < c.length
      · obtain ⟨ad, rfl, had, c1, c2⟩ := (HA.out.below hbl) k hlt
        have e1 : (spCell c k).1 = .int .i64 (nth c k).1 := rfl
        have e2 : (spCell c k).2 = .int .i64 (nth c k).2 := rfl
        rw [e1] at c1
        rw [e2] at c2
        have i0 : (0 : Int) ≤ (k : Int) := Int.natCast_nonneg _
        have hlt2 : (k : Int) < (c.length : Int) := by omega
        have hw := fit_ways2 s c f m n hn.1 hn.2 HO.out hlt hf
        clear hf hbl HL e1 e2
        generalize nth c k = x at *
        have HX := Lib.hid (Box2.new wr (.int .i64 x.1) (.int .i64 x.2) 77)
        have HB2 := Lib.hid (HBL.out.alloc HBL.out.size (.cells #[.int .i64 x.1, .int .i64 x.2] 77))
        have HB3 := Lib.hid (below_then HB1.out HB2.out)
        obtain ⟨x0, x1, x2, _, _⟩ := HX.out
        rcases hw with ⟨g2, HR⟩ | ⟨g2, wr1, g3, HR⟩ | ⟨g2, wr1, g3, HR⟩
        · go_wp2_with fail
          go_ret2
          exact ⟨0, false, rfl, HR.out, HB3.out⟩
        · go_wp2_with fail
          go_ret2
          exact ⟨_, true, rfl, HR.out, HB3.out⟩
        · go_wp2_with fail
          exact ⟨⟨k + 1, by go_num, by omega, HR.out, HB2.out⟩, by simp [intOf] <;> omega⟩
      · have HD := Lib.hid (fit_done hn.1 hn.2 HO.out (Nat.le_of_not_lt hlt) hf)
        clear hf hbl HL
        go_wp2_with fail
        go_ret2
        exact ⟨0, false, rfl, HD.out, below_then HB1.out HBL.out⟩
end Go.Proofs.Ytlfmkipcgcilaaa.GapWalk
namespace Go.Proofs.Ytlfmkipcgcilaaa.ShaWalk
open Go.RowKit Go.Proofs.Ytlfmkipcgcilaaa.SpanPlain Go.Proofs.Ytlfmkipcgcilaaa.StepPlain Go.Proofs.Ytlfmkipcgcilaaa.GapPlain Go.Proofs.Ytlfmkipcgcilaaa.JobPlain Go.Proofs.Ytlfmkipcgcilaaa.ShaPlain Go.Proofs.Ytlfmkipcgcilaaa.Mem Go.Proofs.Ytlfmkipcgcilaaa.SpanMem Go.Proofs.Ytlfmkipcgcilaaa.StepMem Go.Proofs.Ytlfmkipcgcilaaa.JobMem Go.Proofs.Ytlfmkipcgcilaaa.OrdMem Go.Proofs.Ytlfmkipcgcilaaa.SpanRef Go.Proofs.Ytlfmkipcgcilaaa.StepRef Go.Proofs.Ytlfmkipcgcilaaa.GapRef Go.Proofs.Ytlfmkipcgcilaaa.ShaRef
open Go.Proofs.Ytlfmkipcgcilaaa.StepWalk (atB atN NewAt AddSays PairIs)
def RunIs (a : Int) (j : Jb) (w : World) (e : Ending) (w' : World) : Prop := e = .returned (.agg #[.int .i64 a, .int .i64 (a + j.est)]) ∧ Below w.heap.size w w'
set_option maxHeartbeats 1600000 in
theorem run_i (a : Int) (j : Jb) (w : World) (ha : 0 ≤ a ∧ a ≤ 1125899906842624) (he : 1 ≤ j.est ∧ j.est ≤ 1099511627776) : Calls Try.prog 46 #[.int .i64 a, jobV j] w (RunIs a j w) := by
  have HX := Lib.hid (JobBox.new w j 52)
  have HB := Lib.hid (box_s w (.cells #[.int .i64 j.id, .string j.user, .int .i64 j.width, .int .i64 j.est, .int .i64 j.prio, .int .i64 j.sub, .int .i64 j.state, .int .i64 j.start, .int .i64 j.fin] 52))
  have hsz : (w.alloc (.cells #[.int .i64 j.id, .string j.user, .int .i64 j.width, .int .i64 j.est, .int .i64 j.prio, .int .i64 j.sub, .int .i64 j.state, .int .i64 j.start, .int .i64 j.fin] 52)).heap.size = w.heap.size + 1 := by simp
  unfold jobV jobA
  go_enter Try.func46, Try.ntmps46
  go_upto_region 1 with fail
  generalize w.alloc (.cells #[.int .i64 j.id, .string j.user, .int .i64 j.width, .int .i64 j.est, .int .i64 j.prio, .int .i64 j.sub, .int .i64 j.state, .int .i64 j.start, .int .i64 j.fin] 52) = W0 at *
  obtain ⟨y, y0, y1, y2, y3, y4, y5, y6, y7, y8, _, _, _, _, _, _, _, _, _⟩ := HX.out.alloc (.cells #[.int .i64 0, .int .i64 0] 77)
  have hz := Box2.new W0 (.int .i64 0) (.int .i64 0) 77
  rw [hsz] at hz
  have HZ := Lib.hid hz
  have HB0 := Lib.hid (thenS HB.out (box_s W0 (.cells #[.int .i64 0, .int .i64 0] 77)))
  clear hz hsz
  generalize W0.alloc (.cells #[.int .i64 0, .int .i64 0] 77) = W1 at *
  obtain ⟨b0, b1, b2, b3, b4⟩ := HZ.out
  go_wp2_with fail
  have HB2 : Hid (Below w.heap.size w ((W1.setCell ⟨w.heap.size + 1, 0, none⟩ (.int .i64 a)).setCell ⟨w.heap.size + 1, 1, none⟩ (.int .i64 (a + j.est)))) := (HB0.out.setCell (p := ⟨w.heap.size + 1, 0, none⟩) (by simp) _).setCell (p := ⟨w.heap.size + 1, 1, none⟩) (by simp) _
  have HZ2 := Lib.hid ((HZ.out.set0 (.int .i64 a)).set1 (.int .i64 (a + j.est)))
  obtain ⟨c0, c1, c2, c3, c4⟩ := HZ2.out
  exact bodyPost_ret (v := .agg #[.int .i64 a, .int .i64 (a + j.est)]) (by simp [results, Try.results46, go_sem, c0, c1, c2, c3, c4]) rfl ⟨rfl, HB2.out⟩
def LaySaysN (s : List Sp) (a : Int) (j : Jb) (w : World) (e : Ending) (w' : World) : Prop := ∃ v r b, e = .returned (.tuple #[v, .bool b]) ∧ SpansIs r w' v ∧ LayIs s a j r b ∧ Below w.heap.size w w' ∧ NewAt w.heap.size v
/-- A job's cells, kept. -/
theorem keep_job {w w' : World} {n : Nat} {a0 a1 a2 a3 a4 a5 a6 a7 a8 : Value} (hb : Below w.heap.size w w') (hl : n < w.heap.size) (h0 : w.cell? ⟨n, 0, none⟩ = some a0) (h1 : w.cell? ⟨n, 1, none⟩ = some a1) (h2 : w.cell? ⟨n, 2, none⟩ = some a2) (h3 : w.cell? ⟨n, 3, none⟩ = some a3) (h4 : w.cell? ⟨n, 4, none⟩ = some a4) (h5 : w.cell? ⟨n, 5, none⟩ = some a5) (h6 : w.cell? ⟨n, 6, none⟩ = some a6) (h7 : w.cell? ⟨n, 7, none⟩ = some a7) (h8 : w.cell? ⟨n, 8, none⟩ = some a8) :
    w'.cell? ⟨n, 0, none⟩ = some a0 ∧ w'.cell? ⟨n, 1, none⟩ = some a1 ∧ w'.cell? ⟨n, 2, none⟩ = some a2 ∧ w'.cell? ⟨n, 3, none⟩ = some a3 ∧ w'.cell? ⟨n, 4, none⟩ = some a4 ∧ w'.cell? ⟨n, 5, none⟩ = some a5 ∧ w'.cell? ⟨n, 6, none⟩ = some a6 ∧ w'.cell? ⟨n, 7, none⟩ = some a7 ∧ w'.cell? ⟨n, 8, none⟩ = some a8 ∧ n < w'.heap.size :=
  ⟨(hb.cell (p := ⟨n, 0, none⟩) hl).trans h0, (hb.cell (p := ⟨n, 1, none⟩) hl).trans h1, (hb.cell (p := ⟨n, 2, none⟩) hl).trans h2, (hb.cell (p := ⟨n, 3, none⟩) hl).trans h3, (hb.cell (p := ⟨n, 4, none⟩) hl).trans h4, (hb.cell (p := ⟨n, 5, none⟩) hl).trans h5, (hb.cell (p := ⟨n, 6, none⟩) hl).trans h6, (hb.cell (p := ⟨n, 7, none⟩) hl).trans h7, (hb.cell (p := ⟨n, 8, none⟩) hl).trans h8, Nat.lt_of_lt_of_le hl hb.size⟩
set_option maxHeartbeats 3200000 in
theorem layN (s : List Sp) (a : Int) (j : Jb) (v : Value) (w : World) (hv : SpansIs s w v) (hl : s.length ≤ 1000) : Calls Try.prog 35 #[v, .int .i64 a, jobV j] w (LaySaysN s a j w) := by
  have HX := Lib.hid (JobBox.new w j 52)
  have HB := Lib.hid (box_s w (.cells #[.int .i64 j.id, .string j.user, .int .i64 j.width, .int .i64 j.est, .int .i64 j.prio, .int .i64 j.sub, .int .i64 j.state, .int .i64 j.start, .int .i64 j.fin] 52))
  have CO := Lib.hid (GapWalk.okS s a j.width j.est v _ (hv.below HB.out) hl)
  have CA : Hid (∀ W, Below w.heap.size w W → Calls Try.prog 45 #[v, spV (runS a j), .int .i64 (-j.width)] W (AddSays s (runS a j) (-j.width) W)) := fun W hW => StepWalk.addS s (runS a j) (-j.width) v W (hv.below hW) hl
  have HM := Lib.hid (fun h => room_may (s := s) (a := a) (j := j) h)
  obtain ⟨A, c, rfl, _⟩ := hv.open_
  clear hv
  unfold jobV jobA
  cases hok : okG s a j.width j.est with
  | false =>
    rw [hok] at CO
    have HLY : Hid (LayIs s a j [] false) := .inr ⟨hok, rfl, rfl⟩
    clear hok HM CA
    go_enter Try.func35, Try.ntmps35
    go_upto_region 1 with fail
    generalize w.alloc (.cells #[.int .i64 j.id, .string j.user, .int .i64 j.width, .int .i64 j.est, .int .i64 j.prio, .int .i64 j.sub, .int .i64 j.state, .int .i64 j.start, .int .i64 j.fin] 52) = W0 at *
    obtain ⟨y, y0, y1, y2, y3, y4, y5, y6, y7, y8, _, _, _, _, _, _, _, _, _⟩ := HX.out
    go_wp2_with fail
    refine CO.out.mono ?_
    rintro e w1 ⟨rfl, hb1⟩
    have HB1 := Lib.hid (thenS HB.out hb1)
    clear hb1
    go_wp2_with fail
    go_ret2
    exact ⟨_, [], false, rfl, .inl ⟨rfl, rfl⟩, HLY.out, HB1.out, NewAt.nil⟩
  | true =>
    obtain ⟨_, hww, hee, _, h0, hmt, _, _, _⟩ := HM.out hok
    rw [hok] at CO
    have HLY : Hid (∀ r, AddIs s (runS a j) (-j.width) r → LayIs s a j r true) := fun r h => .inl ⟨hok, rfl, h⟩
    have CR := Lib.hid (fun W => run_i a j W ⟨h0, hmt⟩ hee)
    have hneg : IntKind.i64.wrap (-j.width) = -j.width := by rw [IntKind.wrap_i64]; omega
    unfold jobV jobA at CR
    unfold spV runS at CA
    dsimp only at CA
    clear hok HM h0 hmt hee hww
    go_enter Try.func35, Try.ntmps35
    go_upto_region 1 with fail
    generalize w.alloc (.cells #[.int .i64 j.id, .string j.user, .int .i64 j.width, .int .i64 j.est, .int .i64 j.prio, .int .i64 j.sub, .int .i64 j.state, .int .i64 j.start, .int .i64 j.fin] 52) = W0 at *
    obtain ⟨y, y0, y1, y2, y3, y4, y5, y6, y7, y8, _, _, _, _, _, _, _, _, _⟩ := HX.out
    go_wp2_with fail
    refine CO.out.mono ?_
    rintro e w1 ⟨rfl, hb1⟩
    have HB1 := Lib.hid (thenS HB.out hb1)
    obtain ⟨z, z0, z1, z2, z3, z4, z5, z6, z7, z8, _, _, _, _, _, _, _, _, _⟩ := HX.out.below hb1
    clear hb1 CO y y0 y1 y2 y3 y4 y5 y6 y7 y8
    go_wp2_with fail
    go_region_held3 (fun w' => w'.cell? ⟨w.heap.size, 0, none⟩ = some (.int .i64 j.id) ∧ w'.cell? ⟨w.heap.size, 1, none⟩ = some (.string j.user) ∧ w'.cell? ⟨w.heap.size, 2, none⟩ = some (.int .i64 j.width) ∧ w'.cell? ⟨w.heap.size, 3, none⟩ = some (.int .i64 j.est) ∧ w'.cell? ⟨w.heap.size, 4, none⟩ = some (.int .i64 j.prio) ∧ w'.cell? ⟨w.heap.size, 5, none⟩ = some (.int .i64 j.sub) ∧ w'.cell? ⟨w.heap.size, 6, none⟩ = some (.int .i64 j.state) ∧ w'.cell? ⟨w.heap.size, 7, none⟩ = some (.int .i64 j.start) ∧ w'.cell? ⟨w.heap.size, 8, none⟩ = some (.int .i64 j.fin) ∧ w.heap.size < w'.heap.size)
      (first | go_keep | (go_split_ands; exact keep_job (by assumption) (by assumption) (by assumption) (by assumption) (by assumption) (by assumption) (by assumption) (by assumption) (by assumption) (by assumption) (by assumption)))
      (first
        | (go_at_call 46; refine (CR.out _).mono ?_; rintro e w2 ⟨rfl, hb2⟩)
        | (go_at_call 45; refine (CA.out _ (thenS HB1.out (below_of_drew hb2))).mono ?_; rintro e w3 ⟨v3, r3, rfl, hs3, ha3, hb3, hn3⟩))
    have hb23 := thenS (thenS HB1.out (below_of_drew hb2)) hb3
    have hnew : NewAt w.heap.size v3 := hn3.mono (thenS HB1.out (below_of_drew hb2)).size
    have HS := Lib.hid hs3
    have HA := Lib.hid (HLY.out _ ha3)
    have HBB := Lib.hid hb23
    have HNW := Lib.hid hnew
    clear hs3 ha3 hb3 hb2 hb23 hn3 hnew CR CA HLY z z0 z1 z2 z3 z4 z5 z6 z7 z8
    go_wp2_with fail
    go_ret2
    exact ⟨_, r3, true, rfl, HS.out, HA.out, HBB.out, HNW.out⟩
end Go.Proofs.Ytlfmkipcgcilaaa.ShaWalk
namespace Go.Proofs.Ytlfmkipcgcilaaa.SlaWalk
open Go.RowKit Go.Proofs.Ytlfmkipcgcilaaa.SpanPlain Go.Proofs.Ytlfmkipcgcilaaa.StepPlain Go.Proofs.Ytlfmkipcgcilaaa.GapPlain Go.Proofs.Ytlfmkipcgcilaaa.JobPlain Go.Proofs.Ytlfmkipcgcilaaa.OrdPlain Go.Proofs.Ytlfmkipcgcilaaa.ApiPlain Go.Proofs.Ytlfmkipcgcilaaa.ShaPlain Go.Proofs.Ytlfmkipcgcilaaa.SlaPlain Go.Proofs.Ytlfmkipcgcilaaa.Mem Go.Proofs.Ytlfmkipcgcilaaa.SpanMem Go.Proofs.Ytlfmkipcgcilaaa.StepMem Go.Proofs.Ytlfmkipcgcilaaa.JobMem Go.Proofs.Ytlfmkipcgcilaaa.OrdMem Go.Proofs.Ytlfmkipcgcilaaa.ApiMem Go.Proofs.Ytlfmkipcgcilaaa.SpanRef Go.Proofs.Ytlfmkipcgcilaaa.StepRef Go.Proofs.Ytlfmkipcgcilaaa.GapRef Go.Proofs.Ytlfmkipcgcilaaa.ShaRef Go.Proofs.Ytlfmkipcgcilaaa.SlaRef
open Go.Proofs.Ytlfmkipcgcilaaa.StepWalk (NewAt)
open Go.Proofs.Ytlfmkipcgcilaaa.ShaWalk (LaySaysN)
set_option maxHeartbeats 1200000 in
theorem checkE (s : List Sp) (now : Int) (js : List Jb) (v u : Value) (w : World) (hv : SpansIs s w v) (hl : s.length ≤ 1000) (hu : JobsIs js w u) : Calls Try.prog 18 #[v, .int .i64 now, u] w (IntL (c16 s now js.length) w) := by
  have CK := Lib.hid (StepWalk.checkS s v w hv hl)
  obtain ⟨A, c, rfl, hn, hA⟩ := hv.open2
  obtain ⟨B, d, rfl, _⟩ := hu.open_
  have HA := Lib.hid hA
  have HP : Hid (chkB s = true → 0 < s.length) := fun h => ((chk_iff s).1 h).pos
  clear hv hu hA
  rcases c16_ways s now js.length with ⟨hc, h1⟩ | ⟨hc, g1, h1⟩ | ⟨hc, g1, g2, h1⟩ | ⟨hc, g1, g2, g3, h1⟩ | ⟨hc, g1, g2, g3, h1⟩
  · rw [hc] at CK
    have H1 := Lib.hid h1
    clear h1 hc
    go_enter Try.func18, Try.ntmps18
    go_wp2_with fail
    refine CK.out.mono ?_
    rintro e w1 ⟨rfl, hb⟩
    have HB := Lib.hid hb
    clear hb
    go_wp2_with fail
    go_ret
    exact ⟨by rw [H1.out]; rfl, HB.out⟩
  all_goals
    rw [hc] at CK
    have H1 := Lib.hid h1
    have hp := HP.out hc
    obtain ⟨ad, rfl, had, x1, x2⟩ := pair_zero HA.out hp
    have hh : (spCell s 0).1 = .int .i64 (head s) := rfl
    rw [hh] at x1
    have HX := Lib.hid x1
    have hp2 : (0 : Int) < (s.length : Int) := by omega
    clear h1 hc hh x1 x2
    go_enter Try.func18, Try.ntmps18
    go_wp2_with fail
    refine CK.out.mono ?_
    rintro e w1 ⟨rfl, hb⟩
    have HB := Lib.hid hb
    have x1 := (hb.cell had).trans HX.out
    clear hb
    go_wp2_with fail
    go_ret
    exact ⟨by rw [H1.out]; rfl, HB.out⟩
theorem fit_yes {s : List Sp} {now a : Int} {j : Jb} (h : FitIs s now j.width j.est a true) : fitF s now j = a := by
  rcases fitF_cases s now j with ⟨_, h2⟩ | ⟨_, h2⟩
  · cases (h2.unique h).2
  · exact (h2.unique h).1
theorem fit_no {s : List Sp} {now a : Int} {j : Jb} (h : FitIs s now j.width j.est a false) : fitF s now j = -1 := by
  rcases fitF_cases s now j with ⟨h1, _⟩ | ⟨_, h2⟩
  · exact h1
  · cases (h2.unique h).2
def TrialSays (s : List Sp) (now : Int) (js : List Jb) (l : List Prm) (id : Int) (w : World) (e : Ending) (w' : World) : Prop :=
  ∃ v u r t b, e = .returned (.tuple #[v, u, .bool b]) ∧ prmL.Is r w' v ∧ SpansIs t w' u ∧ ((tryP s now js l id = some r ∧ b = true ∧ t = layL s now (jobOf js id) ∧ okG s now (jobOf js id).width (jobOf js id).est = true) ∨ (tryP s now js l id = none ∧ b = false ∧ r = [] ∧ t = [])) ∧
    Below w.heap.size w w' ∧ NewAt w.heap.size v ∧ NewAt w.heap.size u
theorem TryLoop.below {js : List Jb} {id : Int} {s1 t : List Sp} {l r : List Prm} {w2 wr w' : World} {k : Nat} {sv ov : Value} (h : TryLoop js id s1 l w2 k r t sv ov wr) (hb : Below wr.heap.size wr w') : TryLoop js id s1 l w2 k r t sv ov w' :=
  ⟨h.1, h.2.1, h.2.2.1, h.2.2.2.1.below hb, h.2.2.2.2.1.below hb, h.2.2.2.2.2.1, h.2.2.2.2.2.2.trans (hb.mono h.2.2.2.2.2.2.size)⟩
set_option maxRecDepth 100000 in
set_option maxHeartbeats 1600000 in
theorem trialS (s : List Sp) (now : Int) (js : List Jb) (l : List Prm) (id : Int) (v u x : Value) (w : World) (hv : SpansIs s w v) (hu : JobsIs js w u) (hx : prmL.Is l w x) (hl : s.length + 3 * l.length + 3 ≤ 1000) (hj : js.length ≤ 200)
    (hf : 0 ≤ findL js id) (hkn : Known js l) (hmi : Mild l) : Calls Try.prog 20 #[v, .int .i64 now, u, x, .int .i64 id] w (TrialSays s now js l id w) := by
  have HV := Lib.hid hv
  have HU := Lib.hid hu
  have HKN := Lib.hid hkn
  have HMI := Lib.hid hmi
  obtain ⟨A, c, rfl, _⟩ := hv.open_
  obtain ⟨B, d, rfl, _⟩ := hu.open_
  obtain ⟨D, f, rfl, hlf, hD⟩ := prms_open hx
  have HD := Lib.hid hD
  have CJ := Lib.hid (fun W i (hW : Below w.heap.size w W) (h : 0 ≤ findL js i) => jobOfS js i _ W (HU.out.below hW) hj h)
  have CJ0 := Lib.hid (CJ.out w id (Below.refl _ _) hf)
  have HTN := Lib.hid (fun h => try_none (s := s) (now := now) (js := js) (l := l) (id := id) h)
  have HTR := Lib.hid (fun h => try_rest (s := s) (now := now) (js := js) (l := l) (id := id) h)
  have HLL := Lib.hid (fun h => layL_len (s := s) (a := now) (j := jobOf js id) h)
  clear hv hu hx hD hkn hmi hf
  generalize hjd : jobOf js id = j at *
  have HJD := Lib.hid hjd
  clear hjd
  have CL : Hid (∀ W, Below w.heap.size w W → Calls Try.prog 35 #[.slice A s.length c, .int .i64 now, jobV j] W (LaySaysN s now j W)) := fun W hW => ShaWalk.layN s now j _ W (HV.out.below hW) (by omega)
  go_enter Try.func20, Try.ntmps20
  go_upto_region 1 with fail
  go_upto_region 2 with (first
    | (go_at_call 36; refine CJ0.out.mono ?_; rintro e w1 ⟨rfl, hb1⟩; have HB1 := Lib.hid hb1; have CL1 := Lib.hid (CL.out w1 hb1); clear hb1)
    | (go_at_call 35; refine CL1.out.mono ?_; rintro e w2 ⟨v2, s1, b2, rfl, hs2, hly2, hb2, hn2⟩))
  have HB2 := Lib.hid (thenS HB1.out hb2)
  have HN2 : Hid (NewAt w.heap.size v2) := hn2.mono HB1.out.size
  clear CJ0 CL CL1 hb2 hn2
  rcases hly2 with ⟨hok, rfl, hadd⟩ | ⟨hok, rfl, rfl⟩
  case inr =>
    have HE := Lib.hid (HTN.out hok)
    obtain ⟨A2, c2, hv2, _⟩ := hs2.open_
    subst hv2
    clear hs2 hok HTN HTR HLL
    go_wp2_with fail
    go_ret3
    exact ⟨_, _, [], [], false, rfl, .inl ⟨rfl, rfl⟩, .inl ⟨rfl, rfl⟩, .inr ⟨HE.out, rfl, rfl, rfl⟩, HB2.out, NewAt.nil, NewAt.nil⟩
  case inl =>
    obtain rfl := layL_of hok hadd
    have HT0 := Lib.hid (HTR.out hok)
    have HLN := Lib.hid (HLL.out hok)
    have HOK := Lib.hid hok
    generalize hs1 : layL s now j = s1 at *
    have HS1 := Lib.hid hs1
    have HL0 : Hid (TryLoop js id s1 l w2 0 [] s1 v2 (.slice none 0 0) w2) := ⟨TryTo.start js id s1 l, Nat.le_refl _, Nat.le_refl _, hs2, OwnN.nil (Nat.le_refl _), (fun a m c e hp q => by cases q), Below.refl _ _⟩
    have HS2 := Lib.hid hs2
    obtain ⟨A2, c2, hv2, _⟩ := hs2.open_
    subst hv2
    clear hs2 hok hadd hs1 HTN HTR HLL HV
    go_wp2_with fail
    go_loopw [15, 16, 37] (fun ov sv i wr => ∃ (k : Nat) (r : List Prm) (t : List Sp), i = .int .i64 k ∧ k ≤ l.length ∧ Hid (TryLoop js id s1 l w2 k r t sv ov wr)) (fun _ _ i _ => l.length - (intOf i).toNat)
    case atStart => exact ⟨0, [], s1, rfl, Nat.zero_le _, HL0.out⟩
    case round =>
      obtain ⟨k, r, t, rfl, hk, HL⟩ := hrel
      obtain ⟨hto, hrl, htl, hst, hown, hoff, hbl⟩ := HL.out
      have HBW := Lib.hid (thenS HB2.out hbl)
      by_cases hlt : k < l.length
      · obtain ⟨ad, rfl, hat⟩ := HD.out k hlt
        rw [← nthP_at hlt] at hat
        obtain ⟨x, x0, x1, x2⟩ := hat.below HBW.out
        have hlt2 : (k : Int) < (l.length : Int) := by omega
        have i0 : (0 : Int) ≤ (k : Int) := Int.natCast_nonneg _
        have hmem : nthP l k ∈ l := by rw [nthP_at hlt]; exact List.getElem_mem hlt
        have HML := Lib.hid (HMI.out _ hmem)
        have HFI := Lib.hid (HKN.out _ hmem)
        have HSKIP := Lib.hid (fun h => hto.skip hlt h)
        have HFAIL := Lib.hid (fun h1 h2 => hto.fail hlt h1 h2)
        have HNEXT := Lib.hid (fun h1 h2 => hto.next hlt h1 h2)
        have HRL := Lib.hid hrl
        have hr200 : r.length ≤ 1000 := by omega
        have HTL : Hid (t.length ≤ 1000 ∧ t.length ≤ s1.length + 3 * k) := ⟨by have := HLN.out; omega, htl⟩
        have HST := Lib.hid hst
        have HOW := Lib.hid hown
        have HOFF := Lib.hid hoff
        have HBL := Lib.hid hbl
        obtain ⟨At, ct, hsv, _⟩ := hst.open_
        obtain ⟨Ao, co, hov⟩ := hown.shape
        subst hsv
        subst hov
        have HLP := Lib.hid HL.out
        clear hat HL hto hrl htl hst hown hoff hbl hmem
        generalize nthP l k = p at *
        have HX := Lib.hid (PrmBox.new wr p 48)
        have HBX := Lib.hid (box_s wr (.cells #[.int .i64 p.id, .int .i64 p.at_, .int .i64 p.slack] 48))
        go_upto_region 9 with fail
        clear x x0 x1 x2
        obtain ⟨P, hP⟩ : ∃ P, P = wr.heap.size := ⟨_, rfl⟩
        generalize wr.alloc (.cells #[.int .i64 p.id, .int .i64 p.at_, .int .i64 p.slack] 48) = W0 at *
        rw [← hP] at HX ⊢
        clear hP
        obtain ⟨x, x0, x1, x2, _, _, _⟩ := HX.out
        cases hid2 : (p.id == id) with
        | true =>
          have HN : Hid (TryLoop js id s1 l w2 (k + 1) r t (.slice At t.length ct) (.slice Ao r.length co) W0) := ⟨HSKIP.out hid2, Nat.le_succ_of_le HRL.out, by have := HTL.out.2; omega, HST.out.below HBX.out, HOW.out.below HBX.out, HOFF.out, (TryLoop.below HLP.out HBX.out).2.2.2.2.2.2⟩
          clear HSKIP HFAIL HNEXT HLP
          go_wp2_with fail
          exact ⟨⟨k + 1, r, t, by go_num, by omega, HN.out⟩, by simp [intOf] <;> omega⟩
        | false =>
          have HFAIL2 := Lib.hid (HFAIL.out hid2)
          have HNEXT2 := Lib.hid (HNEXT.out hid2)
          have CJ1 := Lib.hid (CJ.out W0 p.id (thenS HBW.out HBX.out) HFI.out)
          clear HSKIP HFAIL HNEXT HFI HLP
          generalize jobOf js p.id = jq at *
          unfold JobIsL jobV jobA at CJ1
          go_upto_region 10 with fail
          go_upto_region 11 with (go_at_call 36; refine CJ1.out.mono ?_; rintro e w3 ⟨rfl, hb3⟩; have HB3 := Lib.hid (thenS HBX.out hb3); have HX3 := Lib.hid (HX.out.below hb3); clear hb3)
          have HQ := Lib.hid (JobBox.new w3 jq 52)
          have HX4 := Lib.hid (HX3.out.alloc (.cells #[.int .i64 jq.id, .string jq.user, .int .i64 jq.width, .int .i64 jq.est, .int .i64 jq.prio, .int .i64 jq.sub, .int .i64 jq.state, .int .i64 jq.start, .int .i64 jq.fin] 52))
          have HB4 := Lib.hid (thenS HB3.out (box_s w3 (.cells #[.int .i64 jq.id, .string jq.user, .int .i64 jq.width, .int .i64 jq.est, .int .i64 jq.prio, .int .i64 jq.sub, .int .i64 jq.state, .int .i64 jq.start, .int .i64 jq.fin] 52)))
          obtain ⟨J, hJ⟩ : ∃ J, J = w3.heap.size := ⟨_, rfl⟩
          generalize w3.alloc (.cells #[.int .i64 jq.id, .string jq.user, .int .i64 jq.width, .int .i64 jq.est, .int .i64 jq.prio, .int .i64 jq.sub, .int .i64 jq.state, .int .i64 jq.start, .int .i64 jq.fin] 52) = W4 at *
          rw [← hJ] at HQ ⊢
          clear hJ x x0 x1 x2 CJ1 HX3 HB3 HX HBX
          have CF := Lib.hid (GapWalk.fitS t p.at_ jq.width jq.est _ W4 (HST.out.below HB4.out) HTL.out.1)
          obtain ⟨x, x0, x1, x2, _, _, _⟩ := HX4.out
          obtain ⟨z, z0, z1, z2, z3, z4, z5, z6, z7, z8, _, _, _, _, _, _, _, _, _⟩ := HQ.out
          go_upto_region 12 with (go_at_call 37; refine CF.out.mono ?_; rintro e w5 ⟨a, b5, rfl, hf5, hb5⟩)
          have HB5 := Lib.hid (thenS HB4.out hb5)
          have HX5 := Lib.hid (HX4.out.below hb5)
          have HQ5 := Lib.hid (HQ.out.below hb5)
          have HF5 := Lib.hid hf5
          clear hb5 hf5 CF x x0 x1 x2 z z0 z1 z2 z3 z4 z5 z6 z7 z8 HX4 HQ HB4
          obtain ⟨x, x0, x1, x2, _, _, _⟩ := HX5.out
          obtain ⟨m1, m2, m3⟩ := HML.out
          cases b5 with
          | false =>
            have h1 := fit_no HF5.out
            have HE : Hid (tryP s now js l id = none) := by show _ = _; rw [HT0.out]; exact HFAIL2.out (.inl (by omega))
            have h2 : a = 0 := by
              rcases HF5.out with ⟨h, _⟩ | ⟨_, h, _⟩
              · cases h
              · exact h
            subst h2
            have hd1 : IntKind.i64.wrap (0 - p.at_) = 0 - p.at_ := by rw [IntKind.wrap_i64]; omega
            clear HFAIL2 HNEXT2 h1
            go_wp2_with fail
            go_ret3
            exact ⟨_, _, [], [], false, rfl, .inl ⟨rfl, rfl⟩, .inl ⟨rfl, rfl⟩, .inr ⟨HE.out, rfl, rfl, rfl⟩, thenS HBW.out HB5.out, NewAt.nil, NewAt.nil⟩
          | true =>
            have h1 := fit_yes HF5.out
            have hr := fitF_ok (s := t) (now := p.at_) (j := jq) (by
              rcases HF5.out with ⟨_, h, _⟩ | ⟨h, _⟩
              · have := h1; rcases fitF_cases t p.at_ jq with ⟨_, h3⟩ | ⟨h3, _⟩
                · cases (h3.unique HF5.out).2
                · exact h3
              · cases h)
            rw [h1] at hr
            obtain ⟨hok5, hge, hle⟩ := hr
            have hd1 : IntKind.i64.wrap (a - p.at_) = a - p.at_ := by rw [IntKind.wrap_i64]; omega
            by_cases hbad : p.slack < a - p.at_
            · have HE : Hid (tryP s now js l id = none) := by show _ = _; rw [HT0.out]; exact HFAIL2.out (.inr (by omega))
              clear HFAIL2 HNEXT2 h1
              go_wp2_with fail
              go_ret3
              exact ⟨_, _, [], [], false, rfl, .inl ⟨rfl, rfl⟩, .inl ⟨rfl, rfl⟩, .inr ⟨HE.out, rfl, rfl, rfl⟩, thenS HBW.out HB5.out, NewAt.nil, NewAt.nil⟩
            · have HN1 : Hid (TryTo js id s1 l (k + 1) (r ++ [⟨p.id, a, p.slack - (a - p.at_)⟩]) (layL t a jq)) := by
                have h3 := HNEXT2.out (by omega)
                rw [h1] at h3
                rwa [show p.slack - (a - p.at_) = p.at_ + p.slack - a by omega]
              have hd2 : IntKind.i64.wrap (p.slack - (a - p.at_)) = p.slack - (a - p.at_) := by rw [IntKind.wrap_i64]; omega
              have HO5 := Lib.hid hok5
              have CL5 := Lib.hid (ShaWalk.layN t a jq _ w5 (HST.out.below HB5.out) HTL.out.1)
              have HLT5 := Lib.hid (layL_len hok5)
              clear HFAIL2 HNEXT2 h1 hok5
              unfold jobV jobA at CL5
              go_upto_region 15 with fail
              obtain ⟨z, z0, z1, z2, z3, z4, z5, z6, z7, z8, _, _, _, _, _, _, _, _, _⟩ := HQ5.out
              go_upto_region 16 with (go_at_call 35; refine CL5.out.mono ?_; rintro e w6 ⟨v6, r6, b6, rfl, hs6, hly6, hb6, hn6⟩)
              have HB6 := Lib.hid (thenS HB5.out hb6)
              have HX6 := Lib.hid (HX5.out.below hb6)
              have hr6 : r6 = layL t a jq := by
                rcases hly6 with ⟨h, _, h2⟩ | ⟨h, _⟩
                · exact layL_of h h2
                · rw [HO5.out] at h; cases h
              subst hr6
              have HO6 := Lib.hid ((HOW.out.below HB6.out).alloc (.cells #[.int .i64 p.id, .int .i64 a, .int .i64 (p.slack - (a - p.at_))] 48))
              have HS6 := Lib.hid (hs6.below (box_s w6 (.cells #[.int .i64 p.id, .int .i64 a, .int .i64 (p.slack - (a - p.at_))] 48)))
              have HF6 : Hid (OffRow (layL t a jq) v6 (.slice Ao r.length co)) := OffRow.fresh hn6 (HOW.out.below HB5.out)
              have HBL6 := Lib.hid ((HBL.out.trans (HB6.out.mono HBL.out.size)).trans ((box_s w6 (.cells #[.int .i64 p.id, .int .i64 a, .int .i64 (p.slack - (a - p.at_))] 48)).mono (Nat.le_trans HBL.out.size HB6.out.size)))
              obtain ⟨A6, c6, hv6, _⟩ := hs6.open_
              subst hv6
              clear hb6 hn6 hs6 hly6 CL5 x x0 x1 x2 z z0 z1 z2 z3 z4 z5 z6 z7 z8 HX5 HQ5 HST HOFF
              obtain ⟨x, x0, x1, x2, _, _, _⟩ := HX6.out
              go_wp2_with (at_builtin; refine push_sep prm_t rfl (.tmp 79) (.tmp 88) rfl w2.heap.size _ _ _ rfl HO6.out ⟨w6.heap.size, 0, none⟩ 1 1 (prmC ⟨p.id, a, p.slack - (a - p.at_)⟩) rfl rfl ?b1 (prmC_cell _) ?b2 ?_)
              case b1 => exact Raw.alloc w6 _ _
              case b2 => omega
              intro A7 c7 w7 ho7 hb7 hg7 hs7
              have HN : Hid (TryLoop js id s1 l w2 (k + 1) (r ++ [⟨p.id, a, p.slack - (a - p.at_)⟩]) (layL t a jq) (.slice A6 (layL t a jq).length c6) (.slice A7 (r.length + 1) c7) w7) :=
                ⟨HN1.out, by have := HRL.out; rw [List.length_append, List.length_singleton]; omega, by have := HTL.out.2; have := HLT5.out; omega, spans_grown HS6.out hg7 HF6.out, ho7.cast (by simp) (by rw [Lay.snoc]; rfl), HF6.out.next HS6.out hs7, HBL6.out.trans hb7⟩
              clear ho7 hb7 hg7 hs7 x x0 x1 x2 HN1 HO6 HS6 HF6 HBL6
              go_wp2_with fail
              exact ⟨⟨k + 1, _, _, by go_num, by omega, HN.out⟩, by simp [intOf] <;> omega⟩
      · obtain rfl : k = l.length := by omega
        have HE : Hid (tryP s now js l id = some r) := by show _ = _; rw [HT0.out]; exact hto.done
        have HNO := Lib.hid (NewAt.own hown HB2.out.size)
        have HSF := Lib.hid (HS2.out.below hbl)
        obtain ⟨Ao, co, hov⟩ := hown.shape
        subst hov
        have HPR : Hid (prmL.Is r wr (.slice Ao r.length co)) := Lay.Is.own hown rfl
        clear HL hto hrl htl hst hown hoff hbl
        go_wp2_with fail
        go_ret3
        exact ⟨_, _, r, s1, true, rfl, HPR.out, HSF.out, .inl ⟨HE.out, rfl, by rw [HJD.out]; exact HS1.out.symm, by rw [HJD.out]; exact HOK.out⟩, HBW.out, HNO.out, HN2.out⟩
theorem ledger_known {now : Int} {js : List Jb} {l : List Prm} (h : mayP now js l = true) : Known js l := fun p hp => by
  obtain ⟨i, hi, rfl⟩ := List.mem_iff_getElem.1 hp
  have := (mayP_at h hi).1
  rwa [nthP_at hi] at this
theorem ledger_mild {now : Int} {js : List Jb} {l : List Prm} (h : mayP now js l = true) (hn : 0 ≤ now) : Mild l := fun p hp => by
  obtain ⟨i, hi, rfl⟩ := List.mem_iff_getElem.1 hp
  obtain ⟨_, h1, h2, h3, h4, _⟩ := mayP_at h hi
  rw [nthP_at hi] at h1 h2 h3 h4
  exact ⟨by omega, h3, by omega⟩
theorem c16_now {s : List Sp} {now : Int} {n : Nat} (h : c16 s now n = 0) : chkB s = true ∧ 0 ≤ now ∧ n ≤ 100 := by
  unfold c16 at h
  split at h
  · rename_i h2
    have := ((chk_iff s).1 h2.1).lo
    split at h
    · cases h
    · exact ⟨h2.1, by omega, by omega⟩
  · cases h
theorem found_known {js : List Jb} {l : List Prm} {id : Int} (hk : Known js l) (h : 0 ≤ findP l id) : 0 ≤ findL js id := by
  rcases findP_cases l id with ⟨h1, _⟩ | ⟨k, hk2, _, h3⟩
  · omega
  · have := hk (nthP l k) (by rw [nthP_at hk2]; exact List.getElem_mem hk2)
    rwa [h3] at this
theorem canw_ways (s : List Sp) (now : Int) (js : List Jb) (l : List Prm) (id : Int) : (((c16 s now js.length) != 0) = true ∧ tryF s now js l id = none) ∨ (((c16 s now js.length) != 0) = false ∧ mayP now js l = false ∧ tryF s now js l id = none) ∨
    (((c16 s now js.length) != 0) = false ∧ mayP now js l = true ∧ decide (findP l id < 0) = true ∧ tryF s now js l id = none) ∨ (((c16 s now js.length) != 0) = false ∧ mayP now js l = true ∧ decide (findP l id < 0) = false ∧ c16 s now js.length = 0 ∧ 0 ≤ findP l id ∧ tryF s now js l id = tryP s now js l id) := by
  unfold tryF canTry
  by_cases h1 : c16 s now js.length = 0
  · cases h2 : mayP now js l with
    | false => exact .inr (.inl ⟨by rw [h1]; rfl, rfl, by simp⟩)
    | true =>
      by_cases h3 : findP l id < 0
      · exact .inr (.inr (.inl ⟨by rw [h1]; rfl, rfl, decide_eq_true h3, by rw [decide_eq_false (show ¬ 0 ≤ findP l id by omega)]; simp⟩))
      · exact .inr (.inr (.inr ⟨by rw [h1]; rfl, rfl, decide_eq_false h3, h1, by omega, by rw [h1, decide_eq_true (show 0 ≤ findP l id by omega)]; simp⟩))
  · exact .inl ⟨by simp [h1], by rw [decide_eq_false h1]; simp⟩
set_option maxRecDepth 100000 in
set_option maxHeartbeats 1600000 in
theorem tryG (s : List Sp) (now : Int) (js : List Jb) (l : List Prm) (id : Int) (v u x : Value) (w : World) (hv : SpansIs s w v) (hu : JobsIs js w u) (hx : prmL.Is l w x) (hs : s.length + 3 * l.length + 3 ≤ 1000) (hj : js.length ≤ 200) : Calls Try.prog 7 #[v, .int .i64 now, u, x, .int .i64 id] w (TrySays s now js l id w) := by
  have CE := Lib.hid (checkE s now js v u w hv (by omega) hu)
  have CK := Lib.hid (fun W (hW : Below w.heap.size w W) => checkG now js l u x W (hu.below hW) (hx.below hW) hj (by omega))
  have CP := Lib.hid (fun W (hW : Below w.heap.size w W) => placeP l id x W (hx.below hW) (by omega))
  have CT : Hid (mayP now js l = true → c16 s now js.length = 0 → 0 ≤ findP l id → ∀ W, Below w.heap.size w W → Calls Try.prog 20 #[v, .int .i64 now, u, x, .int .i64 id] W (TrialSays s now js l id W)) := fun h1 h2 h3 W hW =>
    trialS s now js l id v u x W (hv.below hW) (hu.below hW) (hx.below hW) hs hj (found_known (ledger_known h1) h3) (ledger_known h1) (ledger_mild h1 (c16_now h2).2.1)
  obtain ⟨A, c, rfl, _⟩ := hv.open_
  obtain ⟨B, d, rfl, _⟩ := hu.open_
  obtain ⟨D, f, rfl, _⟩ := hx.open_
  clear hv hu hx
  have hw := canw_ways s now js l id
  unfold TrySays
  rcases hw with ⟨h1, h0⟩ | ⟨h1, h2, h0⟩ | ⟨h1, h2, h3, h0⟩ | ⟨h1, h2, h3, h4, h5, h0⟩
  iterate 3
    · have HE := Lib.hid h0
      clear h0 CT
      try rw [h2] at CK
      generalize c16 s now js.length = C at *
      generalize findP l id = F at *
      go_enter Try.func7, Try.ntmps7
      go_wp2_with (first
        | (go_at_call 18; refine CE.out.mono ?_; rintro e w1 ⟨rfl, hb1⟩; have HB1 := Lib.hid hb1; clear hb1)
        | (go_at_call 9; refine (CK.out _ HB1.out).mono ?_; rintro e w2 ⟨rfl, hb2⟩; have HB2 := Lib.hid (thenS HB1.out hb2); clear hb2)
        | (go_at_call 19; refine (CP.out _ HB2.out).mono ?_; rintro e w3 ⟨rfl, hb3⟩; have HB3 := Lib.hid (thenS HB2.out hb3); clear hb3))
      go_ret2
      exact ⟨_, [], false, rfl, .inl ⟨rfl, rfl⟩, .inr ⟨HE.out, rfl, rfl⟩, by first | exact HB3.out | exact HB2.out | exact HB1.out⟩
  · have HE := Lib.hid h0
    have CT1 := Lib.hid (CT.out h2 h4 h5)
    clear h0 CT h4 h5
    rw [h2] at CK
    generalize c16 s now js.length = C at *
    generalize findP l id = F at *
    go_enter Try.func7, Try.ntmps7
    go_upto_region 3 with (first
      | (go_at_call 18; refine CE.out.mono ?_; rintro e w1 ⟨rfl, hb1⟩; have HB1 := Lib.hid hb1; clear hb1)
      | (go_at_call 9; refine (CK.out _ HB1.out).mono ?_; rintro e w2 ⟨rfl, hb2⟩; have HB2 := Lib.hid (thenS HB1.out hb2); clear hb2)
      | (go_at_call 19; refine (CP.out _ HB2.out).mono ?_; rintro e w3 ⟨rfl, hb3⟩; have HB3 := Lib.hid (thenS HB2.out hb3); clear hb3))
    have CT2 := Lib.hid (CT1.out _ HB3.out)
    clear CT1 CE CK CP
    go_upto_region 4 with (go_at_call 20; refine CT2.out.mono ?_; rintro e w4 ⟨v4, u4, r4, t4, b4, rfl, hr4, ht4, hc4, hb4, _, _⟩)
    have HB4 := Lib.hid (thenS HB3.out hb4)
    have HR4 := Lib.hid hr4
    have HC4 := Lib.hid hc4
    obtain ⟨A4, c4, rfl, _⟩ := hr4.open_
    clear hr4 ht4 hc4 hb4
    go_wp2_with fail
    go_ret2
    refine ⟨_, r4, b4, rfl, HR4.out, ?_, HB4.out⟩
    rw [HE.out]
    rcases HC4.out with ⟨g1, g2, _⟩ | ⟨g1, g2, g3, _⟩
    · exact .inl ⟨g1, g2⟩
    · exact .inr ⟨g1, g3, g2⟩
end Go.Proofs.Ytlfmkipcgcilaaa.SlaWalk
