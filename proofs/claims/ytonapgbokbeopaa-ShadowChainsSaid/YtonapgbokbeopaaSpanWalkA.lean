/-
  The walks of layer 3's code: May, Has, Len. The walk of layer 3's code: without. slices.SortFunc of spans by their beginnings, at a row of one's own: by the library's contract. The walk of layer 3's code: rising. The walk of layer 3's code: Cover, over the contract of rising. The walks of layer 3's code: Total, Less.
-/
import Derived.Test.YtonapgbokbeopaaSpanRef0
import Derived.Test.YtonapgbokbeopaaBase
import Derived.Test.YtonapgbokbeopaaSpanPlain
import Derived.Test.YtonapgbokbeopaaShelfG
import Derived.Lib.OwnBridge
import Derived.Lib.AppendIntMem
import Derived.BigRegion
namespace Go.Proofs.Ytonapgbokbeopaa.SpanWalk
open Go.RowKit Go.Proofs.Ytonapgbokbeopaa.SpanPlain Go.Proofs.Ytonapgbokbeopaa.Mem Go.Proofs.Ytonapgbokbeopaa.SpanMem Go.Proofs.Ytonapgbokbeopaa.SpanRef
/-- A box of two cells, behind whatever left it alone. -/
theorem box_two {w w1 : World} {x y : Value} {T : TypeId} (hb : Below (w.alloc (.cells #[x, y] T)).heap.size (w.alloc (.cells #[x, y] T)) w1) :
    w1.cell? ⟨w.heap.size, 0, none⟩ = some x ∧ w1.cell? ⟨w.heap.size, 1, none⟩ = some y ∧ w.heap.size < w1.heap.size := by
  have h := (Raw.alloc w #[x, y] T).below hb
  have h0 := h 0 x rfl
  have h1 := h 1 y rfl
  rw [add_flat] at h0 h1
  exact ⟨h0.2, h1.2, h0.1⟩
set_option maxHeartbeats 800000 in
theorem mayS (s : Sp) (w : World) : Calls Try.prog 38 #[spV s] w (BoolIs (mayB s) w) := by
  have hs := may_cases s
  obtain ⟨a, b⟩ := s
  unfold spV
  dsimp only at hs ⊢
  generalize mayB (a, b) = B at *
  rcases hs with ⟨rfl, h1, h2, h3⟩ | ⟨rfl, h1⟩ | ⟨rfl, h1, h2⟩ | ⟨rfl, h1, h2, h3⟩
  all_goals
    go_enter Try.func38, Try.ntmps38
    go_wp2_with fail
    go_ret
    exact ⟨rfl, (Below.refl _ _).alloc (Nat.le_refl _) _⟩
end Go.Proofs.Ytonapgbokbeopaa.SpanWalk
namespace Go.Proofs.Ytonapgbokbeopaa.SpanWalk
open Go.RowKit Go.Proofs.Ytonapgbokbeopaa.SpanPlain Go.Proofs.Ytonapgbokbeopaa.Mem Go.Proofs.Ytonapgbokbeopaa.SpanMem Go.Proofs.Ytonapgbokbeopaa.SpanRef
theorem OwnN.spans {base n : Nat} {w : World} {v : Value} {l : List Sp} {e : TypeId} (h : OwnN e 2 base w v n (svals l)) (hn : n = l.length) : SpansIs l w v := by
  subst hn
  rcases h.form with ⟨h1, h2, _⟩ | ⟨g, c, hv, _, _, hn, _, hr, _⟩
  · exact .inl ⟨h1, List.eq_nil_of_length_eq_zero h2⟩
  · exact .inr ⟨_, c, hv, hr, hn⟩
/-- How the loop of without stands. -/
def WithLoop (s : Sp) (g : List Sp) (w wr : World) (v : Value) (j : Nat) : Prop :=
  ∃ c f, OwnN 40 2 (w.heap.size + 1) wr v c.length (svals c) ∧ WithAt s g j f c ∧ c.length ≤ j ∧ Box2 wr w.heap.size (.int .i64 f) (.int .i64 s.2) ∧ Below w.heap.size w wr
def WithDone (s : Sp) (g : List Sp) (w wr : World) (v : Value) : Prop := ∃ j, WithLoop s g w wr v j ∧ Over s g j ∧ j ≤ g.length
theorem below_two_then {w wr w2 : World} {B : Nat} {a b : Obj} (h : Below w.heap.size w wr) (k : Below B ((wr.alloc a).alloc b) w2) (hB : w.heap.size ≤ B) : Below w.heap.size w w2 :=
  ((h.alloc h.size _).alloc (by have := h.size; simp; omega) _).trans (k.mono hB)
end Go.Proofs.Ytonapgbokbeopaa.SpanWalk
namespace Go.Proofs.Ytonapgbokbeopaa.SpanWalk
open Go.Shelf Go.RowKit Go.Lib Go.Sort Go.Proofs.Ytonapgbokbeopaa.SpanPlain Go.Proofs.Ytonapgbokbeopaa.Mem Go.Proofs.Ytonapgbokbeopaa.SpanMem Go.Proofs.Ytonapgbokbeopaa.SpanRef
theorem flat_svals (l : List Sp) : flatK spCells 2 l.toArray = (svals l).toArray := by
  refine ext_get! (by simp [svals_len]) fun t ht => ?_
  have ht' : t < l.length * 2 := by simpa using ht
  rw [get_flatK _ _ _ _ (by simpa using ht')]
  have hi : t / 2 < l.length := by omega
  obtain ⟨h1, h2⟩ := svals_at l (t / 2) hi
  have e : l.toArray[t / 2]! = l.getD (t / 2) (0, 0) := by simp [List.getD, hi]
  rw [e]
  by_cases hm : t % 2 = 0
  · have e2 : t / 2 * 2 = t := by omega
    rw [e2] at h1
    rw [hm]
    have h3 : (svals l).toArray[t]! = (spCell l (t / 2)).1 := by simp [h1]
    rw [h3]
    rfl
  · have e2 : t / 2 * 2 + 1 = t := by omega
    rw [e2] at h2
    rw [show t % 2 = 1 by omega]
    have h3 : (svals l).toArray[t]! = (spCell l (t / 2)).2 := by simp [h2]
    rw [h3]
    rfl
theorem holds_svals {w : World} {g : Nat} {l : List Sp} (h : Raw w ⟨g, 0, none⟩ (svals l)) (hf : ∀ i, w.frozen? ⟨g, i, none⟩ = false) : HoldsK spCells 2 w g 0 l.toArray := by
  unfold HoldsK
  rw [flat_svals]
  intro j hj
  have hj' : j < (svals l).length := by simpa using hj
  refine ⟨?_, by rw [Nat.zero_add]; exact hf j⟩
  have h1 := (h j (svals l)[j] (by simp [hj'])).2
  rw [add_flat] at h1
  rw [Nat.zero_add, h1]
  simp [hj']
theorem own_put {w : World} {base : Nat} {e : TypeId} {g n c q : Nat} {zs ys : List Value} (h : w.ownsRow base e 2 (.slice (some ⟨g, 0, none⟩) n c) n zs) (hy : ys.length = n * 2) :
    (putRow id (Sort.ahead w q) g 0 ys.toArray).ownsRow base e 2 (.slice (some ⟨g, 0, none⟩) n c) n ys := by
  rcases h.2 with ⟨e0, _⟩ | ⟨g', cap', cur, e0, hb, hg, hn, hm, hs, ht⟩
  · cases e0
  · injection e0 with e1 _ e3
    injection e1 with e1
    injection e1 with e1
    subst e1; subst e3
    refine ⟨hy, .inr ⟨g, c, putCells id 0 ys.toArray cur, rfl, hb, ?_, by omega, hm, by simpa [putCells] using hs, ?_⟩⟩
    · simp [putRow, mapBlock, Sort.ahead, Array.getElem?_modify, hg, onCells]
    · apply List.ext_getElem?
      intro j
      rw [List.getElem?_take, Array.getElem?_toList]
      by_cases hj : j < n * 2
      · have hjc : j < cur.size := by rw [hs]; omega
        rw [if_pos hj]
        simp only [putCells, Array.getElem?_mapIdx, Array.getElem?_eq_getElem hjc, Option.map_some]
        rw [if_pos (by simp; omega), List.getElem?_eq_getElem (by omega)]
        simp [getElem!_pos, show j < ys.length by omega]
      · rw [if_neg hj, List.getElem?_eq_none (by omega)]
def cmpFrom (x y : Sp) : Int := Lib.compareInt x.1 y.1
theorem ltFrom (x y : Sp) : ltOf cmpFrom x y = decide (x.1 < y.1) := by
  unfold ltOf cmpFrom Lib.compareInt
  by_cases h1 : x.1 < y.1
  · simp [h1]
  · by_cases h2 : y.1 < x.1 <;> simp [h1, h2]
theorem swoFrom : SWO (ltOf cmpFrom) where
  irrefl x := by rw [ltFrom]; simp
  trans x y z h1 h2 := by rw [ltFrom] at *; simp at *; omega
  ntrans x y z h1 h2 := by rw [ltFrom] at *; simp at *; omega
set_option maxHeartbeats 1000000 in
theorem closure (x y : Sp) (W : World) : Calls Try.prog 57 #[.agg #[.int .i64 x.1, .int .i64 x.2], .agg #[.int .i64 y.1, .int .i64 y.2]] W fun e w' => e = .returned (.int .i64 (cmpFrom x y)) ∧ ∃ q os', w' = grow (W.drewN q) os' := by
  have hcon := fun W' => AnyG.cmp_Compare_int Try.cmpInt x.1 y.1 W'
  change ∀ W', Calls Try.prog 50 _ _ _ at hcon
  unfold cmpFrom
  generalize Lib.compareInt x.1 y.1 = r at hcon ⊢
  go_enter Try.func57, Try.ntmps57
  go_wp2_with (go_at_call 50; refine (hcon _).mono ?_; rintro e w' ⟨rfl, rfl⟩)
  go_ret
  exact ⟨rfl, 0, _, by rw [alloc_eq_grow, alloc_eq_grow, grow_grow]; rfl⟩
/-- Rising by the beginnings. -/
def ByFrom (r : List Sp) : Prop := r.Pairwise fun a b => a.1 ≤ b.1
def SortIs (l : List Sp) (base : Nat) (v : Value) (w : World) (e : Ending) (w' : World) : Prop :=
  e = .returned (.tuple #[]) ∧ ∃ r : List Sp, r.Perm l ∧ ByFrom r ∧ OwnN 40 2 base w' v r.length (svals r) ∧ Below base w w'
set_option maxHeartbeats 1000000 in
theorem sortS (l : List Sp) (base : Nat) (v : Value) (w : World) (h : OwnN 40 2 base w v l.length (svals l)) (hl : l.length ≤ 9000) :
    Calls Try.prog 56 #[v, .func (.func 57) #[] #[]] w (SortIs l base v w) := by
  rcases h.form with ⟨rfl, hn, hx⟩ | ⟨g, c, rfl, h1, h2, h3, h4, h5, h6, hr⟩
  · have hl0 := List.eq_nil_of_length_eq_zero hn
    subst hl0
    have hcon := AnyF.slices_SortFunc_none Try.sortSp none 0 (.func (.func 57) #[] #[]) w
    change Calls Try.prog 56 _ _ _ at hcon
    refine hcon.mono ?_
    rintro e w' ⟨rfl, rfl⟩
    exact ⟨rfl, [], List.Perm.refl _, List.Pairwise.nil, h, Below.refl _ _⟩
  · have eg : ∀ args w, (callFunc 57 args).run Try.prog w = .ok (.enter 57 args) w := enters_of Try.func57 (by kernel_rfl) rfl
    have hcon := AnyQ.slices_SortFunc Try.sortSp 2 Try.isAgg40 Try.sizeOf40 spCells (fun _ => rfl) (fun x v hv => by simp [spCells] at hv; rcases hv with rfl | rfl <;> rfl) cmpFrom swoFrom 57 #[] g 0 c l.toArray w eg (fun _ _ _ _ x y => closure x y _) (holds_svals h5 h6) h2 (by show l.length < _; omega)
    change Calls Try.prog 56 #[.slice (some ⟨g, 0, none⟩) l.length c, .func (.func 57) #[] #[]] w _ at hcon
    refine hcon.mono ?_
    rintro e w' ⟨rfl, d, m, os, ⟨hs, _, hp⟩, hso, rfl⟩
    have hs' : d.size = l.length := by simpa using hs
    have hp' : d.toList.Perm l := by
      have e1 : d.extract 0 l.toArray.size = d := by rw [← hs]; simp
      have e2 : l.toArray.extract 0 l.toArray.size = l.toArray := by simp
      rw [e1, e2] at hp
      exact hp
    have hlen : d.toList.length = l.length := by simp [hs']
    have ed : flatK spCells 2 d = (svals d.toList).toArray := by have := flat_svals d.toList; simpa using this
    refine ⟨rfl, d.toList, hp', ?_, ?_, ?_⟩
    · refine List.pairwise_iff_getElem.2 fun i j hi hj hij => ?_
      have h7 := hso i j (Nat.zero_le _) hij (by simpa [hs'] using hj)
      have hi' : i < d.size := by simpa using hi
      have hj' : j < d.size := by simpa using hj
      rw [ltFrom, decide_eq_false_iff_not, getElem!_pos d j hj', getElem!_pos d i hi'] at h7
      simp only [Array.getElem_toList]
      omega
    · rw [hlen]
      refine ⟨?_, ?_⟩
      · show (grow (putRowK spCells 2 (Sort.ahead w m) g 0 d) os).ownsRow _ _ _ _ _ _
        have h8 := ownsRow_grow (own_put (q := m) hr.1 (ys := svals d.toList) (by rw [svals_len, hlen])) 0 os
        unfold putRowK
        rw [ed]
        exact h8
      · have h9 := (below_putRow (enc := id) (q := m) (d := (svals d.toList).toArray) (Below.refl base w) h1).size
        show base ≤ (grow (putRowK spCells 2 (Sort.ahead w m) g 0 d) os).heap.size
        unfold putRowK
        rw [ed]
        have := size_grow (putRow id (Sort.ahead w m) g 0 (svals d.toList).toArray) 0 os
        have := h.2
        exact Nat.le_trans (Nat.le_trans h.2 h9) (size_grow (putRow id (Sort.ahead w m) g 0 (svals d.toList).toArray) 0 os)
    · show Below base w (grow (putRowK spCells 2 (Sort.ahead w m) g 0 d) os)
      unfold putRowK
      rw [ed]
      have h9 := below_putRow (enc := id) (q := m) (d := (svals d.toList).toArray) (Below.refl base w) h1
      exact h9.trans (below_grow base _ (Nat.le_trans h.2 h9.size) 0 os)
end Go.Proofs.Ytonapgbokbeopaa.SpanWalk
namespace Go.Proofs.Ytonapgbokbeopaa.SpanWalk
open Go.RowKit Go.Proofs.Ytonapgbokbeopaa.SpanPlain Go.Proofs.Ytonapgbokbeopaa.Mem Go.Proofs.Ytonapgbokbeopaa.SpanMem Go.Proofs.Ytonapgbokbeopaa.SpanRef
/-- What rising answers. -/
def RisIs (l : List Sp) (w : World) (e : Ending) (w' : World) : Prop := ∃ v r, e = .returned v ∧ SpansIs r w' v ∧ Rises r ∧ (∀ t, anyB r t = anyB l t) ∧ r.length ≤ l.length ∧ Below w.heap.size w w'
/-- How the loop of rising stands. -/
def RisLoop (l : List Sp) (w wr : World) (v : Value) (k : Nat) : Prop :=
  OwnN 40 2 w.heap.size wr v (maysL (l.take k)).length (svals (maysL (l.take k))) ∧ Below w.heap.size w wr
set_option maxHeartbeats 1600000 in
theorem risS (l : List Sp) (v : Value) (w : World) (hv : SpansIs l w v) (hl : l.length ≤ 9000) : Calls Try.prog 54 #[v] w (RisIs l w) := by
  obtain ⟨A, cc, rfl, hA⟩ := hv.open_
  have HA := Lib.hid hA
  clear hA hv
  go_enter Try.func54, Try.ntmps54
  go_wp2_with fail
  go_loopw [3, 8] (fun o i wr => ∃ (k : Nat) (v : Value), v = o ∧ i = .int .i64 k ∧ k ≤ l.length ∧ Hid (RisLoop l w wr v k)) (fun _ i _ => l.length - (intOf i).toNat)
  case atStart => exact ⟨0, _, rfl, rfl, Nat.zero_le _, OwnN.nil (Nat.le_refl _), Below.refl _ _⟩
  case round =>
    obtain ⟨k, o, hov, rfl, hk, HL⟩ := hrel
    subst hov
    by_cases hlt : k < l.length
    · obtain ⟨hown, hbl⟩ := HL.out
      obtain ⟨ad, rfl, had, c1, c2⟩ := (HA.out.below hbl) k hlt
      have HOW := Lib.hid hown
      have HBL := Lib.hid hbl
      have HM := Lib.hid (mays_take hlt)
      have hml := mays_len l k
      have C1 := Lib.hid (fun w => mayS (l.getD k (0, 0)) w)
      clear hown hbl HL
      unfold spV at C1
      unfold spCell at c1 c2
      dsimp only at c1 c2
      unfold RisLoop
      generalize l.getD k (0, 0) = s at *
      generalize maysL (l.take k) = c at *
      cases hm : mayB s with
      | false =>
        rw [hm] at C1 HM
        clear hm
        go_wp2_with fail
        refine (C1.out _).mono ?_
        rintro e w1 ⟨rfl, hb1⟩
        have HB1 := Lib.hid hb1
        clear hb1
        go_wp2_with fail
        exact ⟨⟨k + 1, _, rfl, by go_num, by omega, by rw [HM.out]; simpa using ((HOW.out.alloc _).below HB1.out), (HBL.out.alloc HBL.out.size _).trans (HB1.out.mono (by have := HBL.out.size; simp; omega))⟩, by simp [intOf] <;> omega⟩
      | true =>
        rw [hm] at C1 HM
        clear hm
        go_wp2_with fail
        refine (C1.out _).mono ?_
        rintro e w1 ⟨rfl, hb1⟩
        obtain ⟨q0, q1, q2, q3, q4⟩ := (Box2.new wr (.int .i64 s.1) (.int .i64 s.2) 40).below hb1
        have HB1 := Lib.hid hb1
        have HO1 := Lib.hid ((HOW.out.alloc (.cells #[.int .i64 s.1, .int .i64 s.2] 40)).below hb1)
        clear hb1
        go_wp2_with (at_builtin; refine push_own spans_t rfl (.tmp 14) (.tmp 16) rfl w.heap.size _ _ _ rfl (HO1.out.alloc (.cells #[.int .i64 s.1, .int .i64 s.2] 40)) _ 1 [.int .i64 s.1, .int .i64 s.2] rfl rfl ?h1a two_cells ?h1b ?_)
        case h1a => exact raw_at rfl #[.int .i64 s.1, .int .i64 s.2] _
        case h1b => omega
        intro v2 w2 ho2 hb2 hg2
        have HO2 := Lib.hid (ho2.cast (m := (c ++ [s]).length) (ys := svals (c ++ [s])) (by simp) (by rw [svals_append]; rfl))
        have hsz := HBL.out.size
        have hsz1 := HB1.out.size
        have HB2 := Lib.hid ((((HBL.out.alloc HBL.out.size _).trans (HB1.out.mono (by simp; omega))).alloc (by simp at hsz1; omega) _).trans hb2)
        clear ho2 hb2 hg2
        go_wp2_with fail
        exact ⟨⟨k + 1, _, rfl, by go_num, by omega, by rw [HM.out]; exact HO2.out, HB2.out⟩, by simp [intOf] <;> omega⟩
    · have he : l.take k = l := List.take_of_length_le (by omega)
      obtain ⟨hown, hbl⟩ := HL.out
      rw [he] at hown
      have hml := mays_len l l.length
      rw [List.take_of_length_le (Nat.le_refl _)] at hml
      have HS := Lib.hid (sortS (maysL l) w.heap.size o wr hown (by omega))
      have HBL := Lib.hid hbl
      clear hown hbl HL he
      go_wp2_with fail
      refine HS.out.mono ?_
      rintro e w1 ⟨rfl, r, hp, hby, hown, hb⟩
      have HO := Lib.hid hown
      have HB := Lib.hid (HBL.out.trans hb)
      have HP := Lib.hid hp
      have HY := Lib.hid hby
      clear hown hb hp hby
      go_wp2_with fail
      go_ret
      exact ⟨_, r, rfl, OwnN.spans HO.out rfl, ⟨mays_may HP.out, HY.out⟩, mays_any HP.out, by have := HP.out.length_eq; omega, HB.out⟩
end Go.Proofs.Ytonapgbokbeopaa.SpanWalk
namespace Go.Proofs.Ytonapgbokbeopaa.SpanWalk
open Go.RowKit Go.Proofs.Ytonapgbokbeopaa.SpanPlain Go.Proofs.Ytonapgbokbeopaa.Mem Go.Proofs.Ytonapgbokbeopaa.SpanMem Go.Proofs.Ytonapgbokbeopaa.SpanRef
/-- A slice's length is within its capacity. -/
def Room (v : Value) : Prop := ∃ A n c, v = .slice A n c ∧ n ≤ c ∧ c ≤ maxLen
theorem own_room {e : TypeId} {k base n : Nat} {w : World} {v : Value} {xs : List Value} (h : OwnN e k base w v n xs) : Room v := by
  rcases h.form with ⟨h1, _, _⟩ | ⟨g, c, hv, _, _, h3, h4, _⟩
  · exact ⟨none, 0, 0, h1, Nat.le_refl _, Nat.zero_le _⟩
  · exact ⟨_, n, c, hv, h3, h4⟩
/-- What Cover answers. -/
def CoverIs (l : List Sp) (w : World) (e : Ending) (w' : World) : Prop := ∃ v c, e = .returned v ∧ SpansIs c w' v ∧ LessOf l [] c ∧ Below w.heap.size w w' ∧ Room v
/-- How the loop of Cover stands. -/
def CovLoop (r : List Sp) (w1 wr : World) (v : Value) (k : Nat) : Prop :=
  ∃ c, OwnN 40 2 w1.heap.size wr v c.length (svals c) ∧ CoverAt r k c ∧ c.length ≤ k ∧ Below w1.heap.size w1 wr
theorem own_shape {e : TypeId} {k base n : Nat} {w : World} {v : Value} {xs : List Value} (h : OwnN e k base w v n xs) : ∃ A c, v = .slice A n c := by
  rcases h.form with ⟨h1, h2, _⟩ | ⟨g, c, hv, _⟩
  · subst h2; exact ⟨none, 0, h1⟩
  · exact ⟨_, c, hv⟩
theorem own_there {e : TypeId} {k base n : Nat} {w : World} {v : Value} {xs : List Value} (h : OwnN e k base w v (n + 1) xs) :
    ∃ g c, v = .slice (some ⟨g, 0, none⟩) (n + 1) c ∧ base ≤ g ∧ g < w.heap.size ∧ (∀ j u, xs[j]? = some u → w.cell? ⟨g, j, none⟩ = some u) ∧ ∀ i, w.frozen? ⟨g, i, none⟩ = false := by
  rcases h.form with ⟨_, h2, _⟩ | ⟨g, c, hv, h1, h2, _, _, hr, hf, _⟩
  · omega
  · exact ⟨g, c, hv, h1, h2, fun j u hu => by have := (hr j u hu).2; rwa [add_flat] at this, hf⟩
theorem below_drawn {w1 wr w2 : World} {a b : Obj} {n : Nat} (h : Below w1.heap.size w1 wr) (k : Below w1.heap.size (((wr.alloc a).drewN n).alloc b) w2) : Below w1.heap.size w1 w2 :=
  ((below_drewN (h.alloc h.size _) n).alloc (by show _ ≤ (wr.alloc a).heap.size; have := h.size; simp; omega) _).trans k
set_option maxHeartbeats 3200000 in
theorem cover_of (l : List Sp) (v : Value) (w : World) (hl : l.length ≤ 2000) (R : Calls Try.prog 54 #[v] w (RisIs l w)) : Calls Try.prog 47 #[v] w (CoverIs l w) := by
  have HR := Lib.hid R
  clear R
  go_enter Try.func47, Try.ntmps47
  go_wp2_with fail
  refine HR.out.mono ?_
  rintro e w1 ⟨vr, r, rfl, hr, hri, ht, hlen, hb1⟩
  obtain ⟨A, cc, rfl, hA⟩ := hr.open_
  have HA := Lib.hid hA
  have HRI := Lib.hid hri
  have HT := Lib.hid ht
  have HB1 := Lib.hid hb1
  clear hr hA hri ht hb1 HR
  go_wp2_with fail
  go_loopw [3, 10] (fun o i wr => ∃ (k : Nat) (v : Value), v = o ∧ i = .int .i64 k ∧ k ≤ r.length ∧ Hid (CovLoop r w1 wr v k)) (fun _ i _ => r.length - (intOf i).toNat)
  case atStart => exact ⟨0, _, rfl, rfl, Nat.zero_le _, [], OwnN.nil (Nat.le_refl _), CoverAt.start r, Nat.le_refl _, Below.refl _ _⟩
  case round =>
    obtain ⟨k, o, hov, rfl, hk, HL⟩ := hrel
    subst hov
    by_cases hlt : k < r.length
    · obtain ⟨c, hown, hat, hck, hbl⟩ := HL.out
      obtain ⟨ad, rfl, had, c1, c2⟩ := (HA.out.below hbl) k hlt
      have HOW := Lib.hid hown
      have HAT := Lib.hid hat
      have HBL := Lib.hid hbl
      have hsn := snoc_cases c
      have HADD := Lib.hid (fun h => HAT.out.add HRI.out hlt h)
      have HGROW : Hid (∀ d q, c = d ++ [q] → ¬ q.2 < (r.getD k (0, 0)).1 → CoverAt r (k + 1) (d ++ [(q.1, max q.2 (r.getD k (0, 0)).2)])) := fun d q e h => CoverAt.grow HRI.out (e ▸ HAT.out) hlt h
      clear hown hat hbl HL
      unfold spCell at c1 c2
      dsimp only at c1 c2
      generalize r.getD k (0, 0) = s at *
      rcases hsn with rfl | ⟨d, q, rfl⟩
      · obtain ⟨B, cb, rfl⟩ := own_shape HOW.out
        have HO1 := Lib.hid (HOW.out.alloc (.cells #[.int .i64 s.1, .int .i64 s.2] 40))
        go_wp2_with fail
        go_quiet (fail)
        go_wp2_with (at_builtin; refine push_own spans_t rfl (.tmp 29) (.tmp 31) rfl w1.heap.size _ _ _ rfl ((HO1.out.drewN _).alloc (.cells #[.int .i64 s.1, .int .i64 s.2] 40)) _ 1 [.int .i64 s.1, .int .i64 s.2] rfl rfl ?h1a two_cells ?h1b ?_)
        case h1a => exact raw_at (by show (wr.alloc _).heap.size = _; simp) #[.int .i64 s.1, .int .i64 s.2] _
        case h1b => simp <;> omega
        intro v2 w2 ho2 hb2 hgr2
        have HO2 := Lib.hid ho2
        have HB2 := Lib.hid (below_drawn HBL.out hb2)
        clear ho2 hb2 hgr2
        go_wp2_with fail
        exact ⟨⟨k + 1, _, rfl, by go_num, by omega, [] ++ [s], HO2.out.cast (by simp) (by rw [svals_append]; rfl), HADD.out (fun x h => by simp at h), by simp, HB2.out⟩, by simp [intOf] <;> omega⟩
      · have hck2 : d.length + 1 ≤ k := by simpa using hck
        have HOQ : Hid (OwnN 40 2 w1.heap.size wr o (d.length + 1) (svals (d ++ [q]))) := by
          have h := HOW.out
          rw [List.length_append, List.length_singleton] at h
          exact h
        obtain ⟨g, cap, hv, hg1, hg2, hgc, hgf⟩ := own_there HOQ.out
        have ce := hgc _ _ (svals_end d q)
        have cf := hgf (d.length * 2 + 1)
        clear hgc hgf
        subst hv
        have q0 : (0 : Int) ≤ (d.length : Int) := Int.natCast_nonneg _
        have q1 : (d.length : Int) < (d.length : Int) + 1 := by omega
        have q2 : IntKind.i64.wrap ((d.length : Int) + 1 - 1) = (d.length : Int) := by rw [IntKind.wrap_i64]; omega
        by_cases hx : q.2 < s.1
        · have hx2 : decide (q.2 < s.1) = true := decide_eq_true hx
          have HA2 := Lib.hid (HADD.out (last_all HAT.out.1 hx))
          have HO1 := Lib.hid (HOQ.out.alloc (.cells #[.int .i64 s.1, .int .i64 s.2] 40))
          go_wp2_with fail
          go_quiet (fail)
          go_wp2_with (at_builtin; refine push_own spans_t rfl (.tmp 29) (.tmp 31) rfl w1.heap.size _ _ _ rfl ((HO1.out.drewN _).alloc (.cells #[.int .i64 s.1, .int .i64 s.2] 40)) _ 1 [.int .i64 s.1, .int .i64 s.2] rfl rfl ?h2a two_cells ?h2b ?_)
          case h2a => exact raw_at (by show (wr.alloc _).heap.size = _; simp) #[.int .i64 s.1, .int .i64 s.2] _
          case h2b => simp <;> omega
          intro v2 w2 ho2 hb2 hgr2
          have HO2 := Lib.hid ho2
          have HB2 := Lib.hid (below_drawn HBL.out hb2)
          clear ho2 hb2 hgr2
          go_wp2_with fail
          exact ⟨⟨k + 1, _, rfl, by go_num, by omega, (d ++ [q]) ++ [s], HO2.out.cast (by simp) (by rw [svals_append (d ++ [q])]; rfl), HA2.out, by simp <;> omega, HB2.out⟩, by simp [intOf] <;> omega⟩
        · have hx2 : decide (q.2 < s.1) = false := decide_eq_false hx
          go_wp2_with fail
          go_quiet (fail)
          go_wp2_with fail
          have HG := Lib.hid (HGROW.out d q rfl hx)
          have HB5 := Lib.hid (below_drewN (HBL.out.alloc HBL.out.size (.cells #[.int .i64 s.1, .int .i64 s.2] 40)) nq)
          have HO5 := Lib.hid ((HOQ.out.alloc (.cells #[.int .i64 s.1, .int .i64 s.2] 40)).drewN nq)
          obtain ⟨x0, x1, x2, x3, x4⟩ := (Box2.new wr (.int .i64 s.1) (.int .i64 s.2) 40).drewN nq
          have e1 : ((wr.alloc (.cells #[.int .i64 s.1, .int .i64 s.2] 40)).drewN nq).cell? ⟨g, d.length * 2 + 1, none⟩ = some (.int .i64 q.2) := ((below_alloc wr (.cells #[.int .i64 s.1, .int .i64 s.2] 40)).cell (p := ⟨g, d.length * 2 + 1, none⟩) hg2).trans ce
          have e2 : ((wr.alloc (.cells #[.int .i64 s.1, .int .i64 s.2] 40)).drewN nq).frozen? ⟨g, d.length * 2 + 1, none⟩ = false := ((below_alloc wr (.cells #[.int .i64 s.1, .int .i64 s.2] 40)).frozen (p := ⟨g, d.length * 2 + 1, none⟩) hg2).trans cf
          generalize (wr.alloc (.cells #[.int .i64 s.1, .int .i64 s.2] 40)).drewN nq = W at *
          clear x3 x4 c1 c2 ce cf x1
          go_region
          go_wp2_with fail
          exact ⟨⟨k + 1, _, rfl, by go_num, by omega, d ++ [(q.1, max q.2 s.2)], ((HO5.out.set (d.length * 2 + 1) (.int .i64 (max q.2 s.2))).drew).cast (by simp) (svals_last d q _), HG.out, by simpa using (by omega : d.length + 1 ≤ k + 1), ((HB5.out.setCell (p := ⟨g, d.length * 2 + 1, none⟩) hg1 _).drew)⟩, by simp [intOf] <;> omega⟩
    · go_wp2_with fail
      go_ret
      obtain ⟨c, hown, hat, hck, hbl⟩ := HL.out
      exact ⟨_, c, rfl, OwnN.spans hown rfl, hat.less (by omega) HT.out, HB1.out.trans (hbl.mono HB1.out.size), own_room hown⟩
end Go.Proofs.Ytonapgbokbeopaa.SpanWalk
namespace Go.Proofs.Ytonapgbokbeopaa.SpanWalk
open Go.RowKit Go.Proofs.Ytonapgbokbeopaa.SpanPlain Go.Proofs.Ytonapgbokbeopaa.Mem Go.Proofs.Ytonapgbokbeopaa.SpanMem Go.Proofs.Ytonapgbokbeopaa.SpanRef
theorem cover_is (l : List Sp) (v : Value) (w : World) (hv : SpansIs l w v) (hl : l.length ≤ 2000) : Calls Try.prog 47 #[v] w (CoverIs l w) :=
  cover_of l v w hl (risS l v w hv (by omega))
theorem coverS (l : List Sp) (v : Value) (w : World) (hv : SpansIs l w v) (hl : l.length ≤ 2000) : Calls Try.prog 47 #[v] w (LessIs l [] w) :=
  (cover_is l v w hv hl).mono fun _ _ ⟨_, _, he, h1, h2, h3, _⟩ => he ▸ less_is h1 h2 h3
end Go.Proofs.Ytonapgbokbeopaa.SpanWalk
