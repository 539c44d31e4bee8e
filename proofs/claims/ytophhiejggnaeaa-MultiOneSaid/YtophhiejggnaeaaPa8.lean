/-
  What the theorem uses of the texts below it.
-/
import Derived.Below
import Derived.Laws.OwnMore
import Derived.Deep.Draws
import Derived.Deep.OwnRows
import Derived.Lib.Hide
import Derived.OwnWalk
import Derived.Deep.QuietTactic
import Derived.BigQuiet
import Derived.Lib.SliceRun
import Derived.Test.YtophhiejggnaeaaRows
import Derived.WalkKit
import Derived.WalkSpells
import Derived.WalkLawsBesides
import Derived.Laws.StructEq
import Derived.LoopTactic
import Derived.Deep.CutBlock
import Derived.Deep.DeepCutAuto
import Derived.Deep.RegionHeld3
import Derived.ArgAppend
import Derived.Deep.RegionLaw
import Derived.Lib.AppendIntMem
import Derived.StillTailTactics
import Derived.Maps.RangeWalk
import Derived.Shelf.Small.Bits
import Derived.Shelf.Small.Wraps
import Derived.Shelf.Strconv.Itoa0
import Derived.Test.YtophhiejggnaeaaProg
import Derived.Shelf.SlSortCmp.NoneTotal
import Derived.Shelf.SlicesG.Cmp
import Derived.Lib.OwnBridge
import Derived.BigRegion
import Derived.Test.YtophhiejggnaeaaPa7
namespace Go.Proofs
open Go.Shelf
def Try.sortSp_ren : Go.Shelf.Ren := ⟨fun | 6 => 80 | 15 => 83 | 14 => 82 | 28 => 92 | 29 => 93 | 20 => 84 | 21 => 85 | 22 => 86 | 23 => 87 | 24 => 88 | 25 => 89 | 26 => 90 | 27 => 91 | 46 => 94 | 47 => 95 | 48 => 96 | 49 => 97 | 50 => 98 | 57 => 99 | n => n, fun | 22 => 92 | 24 => 74 | 25 => 118 | 3 => 3 | 39 => 116 | 0 => 0 | 53 => 129 | 55 => 131 | 4 => 4 | 46 => 123 | 45 => 122 | 50 => 98 | 5 => 5 | 9 => 9 | 66 => 132 | 70 => 136 | 76 => 138 | 77 => 139 | n => n, fun | n => n⟩
theorem Try.sortSp : Go.Proofs.SlLaysF0.n6 Try.prog Try.sortSp_ren := {
  mixed := by kernel_rfl
  f6 := ⟨Try.f80.name, by decide, Try.func80.trans (congrArg some (by kernel_rfl))⟩
  f14 := ⟨Try.f82.name, by decide, Try.func82.trans (congrArg some (by kernel_rfl))⟩
  f15 := Try.func83.trans (congrArg some (by kernel_rfl))
  f20 := ⟨Try.f84.name, by decide, Try.func84.trans (congrArg some (by kernel_rfl))⟩
  f21 := ⟨Try.f85.name, by decide, Try.func85.trans (congrArg some (by kernel_rfl))⟩
  f22 := ⟨Try.f86.name, by decide, Try.func86.trans (congrArg some (by kernel_rfl))⟩
  f23 := ⟨Try.f87.name, by decide, Try.func87.trans (congrArg some (by kernel_rfl))⟩
  f24 := ⟨Try.f88.name, by decide, Try.func88.trans (congrArg some (by kernel_rfl))⟩
  f25 := ⟨Try.f89.name, by decide, Try.func89.trans (congrArg some (by kernel_rfl))⟩
  f26 := ⟨Try.f90.name, by decide, Try.func90.trans (congrArg some (by kernel_rfl))⟩
  f27 := ⟨Try.f91.name, by decide, Try.func91.trans (congrArg some (by kernel_rfl))⟩
  f28 := Try.func92.trans (congrArg some (by kernel_rfl))
  f29 := Try.func93.trans (congrArg some (by kernel_rfl))
  f46 := ⟨Try.f94.name, by decide, Try.func94.trans (congrArg some (by kernel_rfl))⟩
  f47 := Try.func95.trans (congrArg some (by kernel_rfl))
  f48 := Try.func96.trans (congrArg some (by kernel_rfl))
  f49 := ⟨Try.f97.name, by decide, Try.func97.trans (congrArg some (by kernel_rfl))⟩
  f50 := ⟨Try.f98.name, by decide, Try.func98.trans (congrArg some (by kernel_rfl))⟩
  f57 := ⟨Try.f99.name, by decide, Try.func99.trans (congrArg some (by kernel_rfl))⟩
  t0 := Try.underlying0
  a0 := Try.isAgg0
  z0 := Try.sizeOf0
  v0 := Try.zeroValue0
  t3 := Try.underlying3
  a3 := Try.isAgg3
  z3 := Try.sizeOf3
  v3 := Try.zeroValue3
  t4 := Try.underlying4
  a4 := Try.isAgg4
  z4 := Try.sizeOf4
  v4 := Try.zeroValue4
  t5 := Try.underlying5
  a5 := Try.isAgg5
  z5 := Try.sizeOf5
  v5 := Try.zeroValue5
  t9 := Try.underlying9
  a9 := Try.isAgg9
  z9 := Try.sizeOf9
  v9 := Try.zeroValue9
  t22 := Try.underlying92
  a22 := Try.isAgg92
  z22 := Try.sizeOf92
  v22 := Try.zeroValue92
  t25 := Try.underlying118
  a25 := Try.isAgg118
  z25 := Try.sizeOf118
  v25 := Try.zeroValue118
  t39 := Try.underlying116
  a39 := Try.isAgg116
  z39 := Try.sizeOf116
  v39 := Try.zeroValue116
  t45 := Try.underlying122
  a45 := Try.isAgg122
  z45 := Try.sizeOf122
  v45 := Try.zeroValue122
  t46 := Try.underlying123
  a46 := Try.isAgg123
  z46 := Try.sizeOf123
  v46 := Try.zeroValue123
  t50 := Try.underlying98
  a50 := Try.isAgg98
  z50 := Try.sizeOf98
  v50 := Try.zeroValue98
  t53 := Try.underlying129
  a53 := Try.isAgg129
  z53 := Try.sizeOf129
  v53 := Try.zeroValue129
  t55 := Try.underlying131
  a55 := Try.isAgg131
  z55 := Try.sizeOf131
  v55 := Try.zeroValue131
  t66 := Try.underlying132
  a66 := Try.isAgg132
  z66 := Try.sizeOf132
  v66 := Try.zeroValue132
  t70 := Try.underlying136
  a70 := Try.isAgg136
  z70 := Try.sizeOf136
  v70 := Try.zeroValue136
  t76 := Try.underlying138
  a76 := Try.isAgg138
  z76 := Try.sizeOf138
  v76 := Try.zeroValue138
  t77 := Try.underlying139
  a77 := Try.isAgg139
  z77 := Try.sizeOf139
  v77 := Try.zeroValue139 }
def Try.cmpInt_ren : Go.Shelf.Ren := ⟨fun | 5 => 71 | 7 => 78 | n => n, fun | 22 => 3 | 3 => 3 | 4 => 4 | n => n, fun | n => n⟩
theorem Try.cmpInt : Go.Proofs.SlLaysC2.n5 Try.prog Try.cmpInt_ren := {
  mixed := by kernel_rfl
  f5 := ⟨Try.f71.name, by decide, Try.func71.trans (congrArg some (by kernel_rfl))⟩
  f7 := ⟨Try.f78.name, by decide, Try.func78.trans (congrArg some (by kernel_rfl))⟩
  t3 := Try.underlying3
  a3 := Try.isAgg3
  z3 := Try.sizeOf3
  v3 := Try.zeroValue3
  t4 := Try.underlying4
  a4 := Try.isAgg4
  z4 := Try.sizeOf4
  v4 := Try.zeroValue4
  t22 := Try.underlying3
  a22 := Try.isAgg3
  z22 := Try.sizeOf3
  v22 := Try.zeroValue3 }
end Go.Proofs
namespace Go.Proofs.Ytophhiejggnaeaa.SpanWalk
open Go.RowKit Go.Proofs.Ytophhiejggnaeaa.SpanPlain Go.Proofs.Ytophhiejggnaeaa.Mem Go.Proofs.Ytophhiejggnaeaa.SpanMem Go.Proofs.Ytophhiejggnaeaa.SpanRef
set_option maxHeartbeats 800000 in
theorem mayS (s : Sp) (w : World) : Calls Try.prog 57 #[spV s] w (BoolIs (mayB s) w) := by
  have hs := may_cases s
  obtain ⟨a, b⟩ := s
  unfold spV
  dsimp only at hs ⊢
  generalize mayB (a, b) = B at *
  rcases hs with ⟨rfl, h1, h2, h3⟩ | ⟨rfl, h1⟩ | ⟨rfl, h1, h2⟩ | ⟨rfl, h1, h2, h3⟩
  all_goals
    go_enter Try.func57, Try.ntmps57
    go_wp2_with fail
    go_ret
    exact ⟨rfl, (Below.refl _ _).alloc (Nat.le_refl _) _⟩
end Go.Proofs.Ytophhiejggnaeaa.SpanWalk
namespace Go.Proofs.Ytophhiejggnaeaa.SpanWalk
open Go.RowKit Go.Proofs.Ytophhiejggnaeaa.SpanPlain Go.Proofs.Ytophhiejggnaeaa.Mem Go.Proofs.Ytophhiejggnaeaa.SpanMem Go.Proofs.Ytophhiejggnaeaa.SpanRef
theorem OwnN.spans {base n : Nat} {w : World} {v : Value} {l : List Sp} {e : TypeId} (h : OwnN e 2 base w v n (svals l)) (hn : n = l.length) : SpansIs l w v := by
  subst hn
  rcases h.form with ⟨h1, h2, _⟩ | ⟨g, c, hv, _, _, hn, _, hr, _⟩
  · exact .inl ⟨h1, List.eq_nil_of_length_eq_zero h2⟩
  · exact .inr ⟨_, c, hv, hr, hn⟩
end Go.Proofs.Ytophhiejggnaeaa.SpanWalk
namespace Go.Proofs.Ytophhiejggnaeaa.SpanWalk
open Go.Shelf Go.RowKit Go.Lib Go.Sort Go.Proofs.Ytophhiejggnaeaa.SpanPlain Go.Proofs.Ytophhiejggnaeaa.Mem Go.Proofs.Ytophhiejggnaeaa.SpanMem Go.Proofs.Ytophhiejggnaeaa.SpanRef
theorem flat_svals (l : List Sp) : flatK spCells 2 l.toArray = (svals l).toArray := by
  refine ext_get! (by simp [svals_len]) fun t ht => ?_
  have ht' : t < l.length * 2 := by simpa using ht
  rw [get_flatK _ _ _ _ (by simpa using ht')]
  have hi : t / 2 < l.length := by omega
  obtain ⟨h1, h2⟩ := svals_at l (t / 2) hi
  have e : l.toArray[t / 2]! = l.getD (t / 2) (0, 0) := by simp [List.getD, hi]
  rw [e]
  by_cases hm : t % 2 = 0
  · have e2 : t / 2 * 2 = t := by omega
    rw [e2] at h1
    rw [hm]
    have h3 : (svals l).toArray[t]! = (spCell l (t / 2)).1 := by simp [h1]
    rw [h3]
    rfl
  · have e2 : t / 2 * 2 + 1 = t := by omega
    rw [e2] at h2
    rw [show t % 2 = 1 by omega]
    have h3 : (svals l).toArray[t]! = (spCell l (t / 2)).2 := by simp [h2]
    rw [h3]
    rfl
theorem holds_svals {w : World} {g : Nat} {l : List Sp} (h : Raw w ⟨g, 0, none⟩ (svals l)) (hf : ∀ i, w.frozen? ⟨g, i, none⟩ = false) : HoldsK spCells 2 w g 0 l.toArray := by
  unfold HoldsK
  rw [flat_svals]
  intro j hj
  have hj' : j < (svals l).length := by simpa using hj
  refine ⟨?_, by rw [Nat.zero_add]; exact hf j⟩
  have h1 := (h j (svals l)[j] (by simp [hj'])).2
  rw [add_flat] at h1
  rw [Nat.zero_add, h1]
  simp [hj']
theorem own_put {w : World} {base : Nat} {e : TypeId} {g n c q : Nat} {zs ys : List Value} (h : w.ownsRow base e 2 (.slice (some ⟨g, 0, none⟩) n c) n zs) (hy : ys.length = n * 2) :
    (putRow id (Sort.ahead w q) g 0 ys.toArray).ownsRow base e 2 (.slice (some ⟨g, 0, none⟩) n c) n ys := by
  rcases h.2 with ⟨e0, _⟩ | ⟨g', cap', cur, e0, hb, hg, hn, hm, hs, ht⟩
  · cases e0
  · injection e0 with e1 _ e3
    injection e1 with e1
    injection e1 with e1
    subst e1; subst e3
    refine ⟨hy, .inr ⟨g, c, putCells id 0 ys.toArray cur, rfl, hb, ?_, by omega, hm, by simpa [putCells] using hs, ?_⟩⟩
    · simp [putRow, mapBlock, Sort.ahead, Array.getElem?_modify, hg, onCells]
    · apply List.ext_getElem?
      intro j
      rw [List.getElem?_take, Array.getElem?_toList]
      by_cases hj : j < n * 2
      · have hjc : j < cur.size := by rw [hs]; omega
        rw [if_pos hj]
        simp only [putCells, Array.getElem?_mapIdx, Array.getElem?_eq_getElem hjc, Option.map_some]
        rw [if_pos (by simp; omega), List.getElem?_eq_getElem (by omega)]
        simp [getElem!_pos, show j < ys.length by omega]
      · rw [if_neg hj, List.getElem?_eq_none (by omega)]
def cmpFrom (x y : Sp) : Int := Lib.compareInt x.1 y.1
theorem ltFrom (x y : Sp) : ltOf cmpFrom x y = decide (x.1 < y.1) := by
  unfold ltOf cmpFrom Lib.compareInt
  by_cases h1 : x.1 < y.1
  · simp [h1]
  · by_cases h2 : y.1 < x.1 <;> simp [h1, h2]
theorem swoFrom : SWO (ltOf cmpFrom) where
  irrefl x := by rw [ltFrom]; simp
  trans x y z h1 h2 := by rw [ltFrom] at *; simp at *; omega
  ntrans x y z h1 h2 := by rw [ltFrom] at *; simp at *; omega
set_option maxHeartbeats 1000000 in
theorem closure (x y : Sp) (W : World) : Calls Try.prog 81 #[.agg #[.int .i64 x.1, .int .i64 x.2], .agg #[.int .i64 y.1, .int .i64 y.2]] W fun e w' => e = .returned (.int .i64 (cmpFrom x y)) ∧ ∃ q os', w' = grow (W.drewN q) os' := by
  have hcon := fun W' => AnyG.cmp_Compare_int Try.cmpInt x.1 y.1 W'
  change ∀ W', Calls Try.prog 71 _ _ _ at hcon
  unfold cmpFrom
  generalize Lib.compareInt x.1 y.1 = r at hcon ⊢
  go_enter Try.func81, Try.ntmps81
  go_wp2_with (go_at_call 71; refine (hcon _).mono ?_; rintro e w' ⟨rfl, rfl⟩)
  go_ret
  exact ⟨rfl, 0, _, by rw [alloc_eq_grow, alloc_eq_grow, grow_grow]; rfl⟩
/-- Rising by the beginnings. -/
def ByFrom (r : List Sp) : Prop := r.Pairwise fun a b => a.1 ≤ b.1
def SortIs (l : List Sp) (base : Nat) (v : Value) (w : World) (e : Ending) (w' : World) : Prop :=
  e = .returned (.tuple #[]) ∧ ∃ r : List Sp, r.Perm l ∧ ByFrom r ∧ OwnN 74 2 base w' v r.length (svals r) ∧ Below base w w'
set_option maxHeartbeats 1000000 in
theorem sortS (l : List Sp) (base : Nat) (v : Value) (w : World) (h : OwnN 74 2 base w v l.length (svals l)) (hl : l.length ≤ 9000) :
    Calls Try.prog 80 #[v, .func (.func 81) #[] #[]] w (SortIs l base v w) := by
  rcases h.form with ⟨rfl, hn, hx⟩ | ⟨g, c, rfl, h1, h2, h3, h4, h5, h6, hr⟩
  · have hl0 := List.eq_nil_of_length_eq_zero hn
    subst hl0
    have hcon := AnyF.slices_SortFunc_none Try.sortSp none 0 (.func (.func 81) #[] #[]) w
    change Calls Try.prog 80 _ _ _ at hcon
    refine hcon.mono ?_
    rintro e w' ⟨rfl, rfl⟩
    exact ⟨rfl, [], List.Perm.refl _, List.Pairwise.nil, h, Below.refl _ _⟩
  · have eg : ∀ args w, (callFunc 81 args).run Try.prog w = .ok (.enter 81 args) w := enters_of Try.func81 (by kernel_rfl) rfl
    have hcon := AnyQ.slices_SortFunc Try.sortSp 2 Try.isAgg74 Try.sizeOf74 spCells (fun _ => rfl) (fun x v hv => by simp [spCells] at hv; rcases hv with rfl | rfl <;> rfl) cmpFrom swoFrom 81 #[] g 0 c l.toArray w eg (fun _ _ _ _ x y => closure x y _) (holds_svals h5 h6) h2 (by show l.length < _; omega)
    change Calls Try.prog 80 #[.slice (some ⟨g, 0, none⟩) l.length c, .func (.func 81) #[] #[]] w _ at hcon
    refine hcon.mono ?_
    rintro e w' ⟨rfl, d, m, os, ⟨hs, _, hp⟩, hso, rfl⟩
    have hs' : d.size = l.length := by simpa using hs
    have hp' : d.toList.Perm l := by
      have e1 : d.extract 0 l.toArray.size = d := by rw [← hs]; simp
      have e2 : l.toArray.extract 0 l.toArray.size = l.toArray := by simp
      rw [e1, e2] at hp
      exact hp
    have hlen : d.toList.length = l.length := by simp [hs']
    have ed : flatK spCells 2 d = (svals d.toList).toArray := by have := flat_svals d.toList; simpa using this
    refine ⟨rfl, d.toList, hp', ?_, ?_, ?_⟩
    · refine List.pairwise_iff_getElem.2 fun i j hi hj hij => ?_
      have h7 := hso i j (Nat.zero_le _) hij (by simpa [hs'] using hj)
      have hi' : i < d.size := by simpa using hi
      have hj' : j < d.size := by simpa using hj
      rw [ltFrom, decide_eq_false_iff_not, getElem!_pos d j hj', getElem!_pos d i hi'] at h7
      simp only [Array.getElem_toList]
      omega
    · rw [hlen]
      refine ⟨?_, ?_⟩
      · show (grow (putRowK spCells 2 (Sort.ahead w m) g 0 d) os).ownsRow _ _ _ _ _ _
        have h8 := ownsRow_grow (own_put (q := m) hr.1 (ys := svals d.toList) (by rw [svals_len, hlen])) 0 os
        unfold putRowK
        rw [ed]
        exact h8
      · have h9 := (below_putRow (enc := id) (q := m) (d := (svals d.toList).toArray) (Below.refl base w) h1).size
        show base ≤ (grow (putRowK spCells 2 (Sort.ahead w m) g 0 d) os).heap.size
        unfold putRowK
        rw [ed]
        have := size_grow (putRow id (Sort.ahead w m) g 0 (svals d.toList).toArray) 0 os
        have := h.2
        exact Nat.le_trans (Nat.le_trans h.2 h9) (size_grow (putRow id (Sort.ahead w m) g 0 (svals d.toList).toArray) 0 os)
    · show Below base w (grow (putRowK spCells 2 (Sort.ahead w m) g 0 d) os)
      unfold putRowK
      rw [ed]
      have h9 := below_putRow (enc := id) (q := m) (d := (svals d.toList).toArray) (Below.refl base w) h1
      exact h9.trans (below_grow base _ (Nat.le_trans h.2 h9.size) 0 os)
end Go.Proofs.Ytophhiejggnaeaa.SpanWalk
namespace Go.Proofs.Ytophhiejggnaeaa.SpanWalk
open Go.RowKit Go.Proofs.Ytophhiejggnaeaa.SpanPlain Go.Proofs.Ytophhiejggnaeaa.Mem Go.Proofs.Ytophhiejggnaeaa.SpanMem Go.Proofs.Ytophhiejggnaeaa.SpanRef
/-- What rising answers. -/
def RisIs (l : List Sp) (w : World) (e : Ending) (w' : World) : Prop := ∃ v r, e = .returned v ∧ SpansIs r w' v ∧ Rises r ∧ (∀ t, anyB r t = anyB l t) ∧ r.length ≤ l.length ∧ Below w.heap.size w w'
/-- How the loop of rising stands. -/
def RisLoop (l : List Sp) (w wr : World) (v : Value) (k : Nat) : Prop :=
  OwnN 74 2 w.heap.size wr v (maysL (l.take k)).length (svals (maysL (l.take k))) ∧ Below w.heap.size w wr
set_option maxHeartbeats 1600000 in
theorem risS (l : List Sp) (v : Value) (w : World) (hv : SpansIs l w v) (hl : l.length ≤ 9000) : Calls Try.prog 79 #[v] w (RisIs l w) := by
  obtain ⟨A, cc, rfl, hA⟩ := hv.open_
  have HA := Lib.hid hA
  clear hA hv
  go_enter Try.func79, Try.ntmps79
  go_wp2_with fail
  go_loopw [3, 8] (fun o i wr => ∃ (k : Nat) (v : Value), v = o ∧ i = .int .i64 k ∧ k ≤ l.length ∧ Hid (RisLoop l w wr v k)) (fun _ i _ => l.length - (RowKit.intOf i).toNat)
  case atStart => exact ⟨0, _, rfl, rfl, Nat.zero_le _, OwnN.nil (Nat.le_refl _), Below.refl _ _⟩
  case round =>
    obtain ⟨k, o, hov, rfl, hk, HL⟩ := hrel
    subst hov
    by_cases hlt : k < l.length
    · obtain ⟨hown, hbl⟩ := HL.out
      obtain ⟨ad, rfl, had, c1, c2⟩ := (HA.out.below hbl) k hlt
      have HOW := Lib.hid hown
      have HBL := Lib.hid hbl
      have HM := Lib.hid (mays_take hlt)
      have hml := mays_len l k
      have C1 := Lib.hid (fun w => mayS (l.getD k (0, 0)) w)
      clear hown hbl HL
      unfold spV at C1
      unfold spCell at c1 c2
      dsimp only at c1 c2
      unfold RisLoop
      generalize l.getD k (0, 0) = s at *
      generalize maysL (l.take k) = c at *
      cases hm : mayB s with
      | false =>
        rw [hm] at C1 HM
        clear hm
        go_wp2_with fail
        refine (C1.out _).mono ?_
        rintro e w1 ⟨rfl, hb1⟩
        have HB1 := Lib.hid hb1
        clear hb1
        go_wp2_with fail
        exact ⟨⟨k + 1, _, rfl, by go_num, by omega, by rw [HM.out]; simpa using ((HOW.out.alloc _).below HB1.out), (HBL.out.alloc HBL.out.size _).trans (HB1.out.mono (by have := HBL.out.size; simp; omega))⟩, by simp [RowKit.intOf] <;> omega⟩
      | true =>
        rw [hm] at C1 HM
        clear hm
        go_wp2_with fail
        refine (C1.out _).mono ?_
        rintro e w1 ⟨rfl, hb1⟩
        obtain ⟨q0, q1, q2, q3, q4⟩ := (Box2.new wr (.int .i64 s.1) (.int .i64 s.2) 74).below hb1
        have HB1 := Lib.hid hb1
        have HO1 := Lib.hid ((HOW.out.alloc (.cells #[.int .i64 s.1, .int .i64 s.2] 74)).below hb1)
        clear hb1
        go_wp2_with (at_builtin; refine push_own spans_t rfl (.tmp 14) (.tmp 16) rfl w.heap.size _ _ _ rfl (HO1.out.alloc (.cells #[.int .i64 s.1, .int .i64 s.2] 74)) _ 1 [.int .i64 s.1, .int .i64 s.2] rfl rfl ?h1a two_cells ?h1b ?_)
        case h1a => exact raw_at rfl #[.int .i64 s.1, .int .i64 s.2] _
        case h1b => omega
        intro v2 w2 ho2 hb2 hg2
        have HO2 := Lib.hid (ho2.cast (m := (c ++ [s]).length) (ys := svals (c ++ [s])) (by simp) (by rw [svals_append]; rfl))
        have hsz := HBL.out.size
        have hsz1 := HB1.out.size
        have HB2 := Lib.hid ((((HBL.out.alloc HBL.out.size _).trans (HB1.out.mono (by simp; omega))).alloc (by simp at hsz1; omega) _).trans hb2)
        clear ho2 hb2 hg2
        go_wp2_with fail
        exact ⟨⟨k + 1, _, rfl, by go_num, by omega, by rw [HM.out]; exact HO2.out, HB2.out⟩, by simp [RowKit.intOf] <;> omega⟩
    · have he : l.take k = l := List.take_of_length_le (by omega)
      obtain ⟨hown, hbl⟩ := HL.out
      rw [he] at hown
      have hml := mays_len l l.length
      rw [List.take_of_length_le (Nat.le_refl _)] at hml
      have HS := Lib.hid (sortS (maysL l) w.heap.size o wr hown (by omega))
      have HBL := Lib.hid hbl
      clear hown hbl HL he
      go_wp2_with fail
      refine HS.out.mono ?_
      rintro e w1 ⟨rfl, r, hp, hby, hown, hb⟩
      have HO := Lib.hid hown
      have HB := Lib.hid (HBL.out.trans hb)
      have HP := Lib.hid hp
      have HY := Lib.hid hby
      clear hown hb hp hby
      go_wp2_with fail
      go_ret
      exact ⟨_, r, rfl, OwnN.spans HO.out rfl, ⟨mays_may HP.out, HY.out⟩, mays_any HP.out, by have := HP.out.length_eq; omega, HB.out⟩
end Go.Proofs.Ytophhiejggnaeaa.SpanWalk
namespace Go.Proofs.Ytophhiejggnaeaa.SpanWalk
open Go.RowKit Go.Proofs.Ytophhiejggnaeaa.SpanPlain Go.Proofs.Ytophhiejggnaeaa.Mem Go.Proofs.Ytophhiejggnaeaa.SpanMem Go.Proofs.Ytophhiejggnaeaa.SpanRef
/-- A slice's length is within its capacity. -/
def Room (v : Value) : Prop := ∃ A n c, v = .slice A n c ∧ n ≤ c ∧ c ≤ maxLen
theorem own_room {e : TypeId} {k base n : Nat} {w : World} {v : Value} {xs : List Value} (h : OwnN e k base w v n xs) : Room v := by
  rcases h.form with ⟨h1, _, _⟩ | ⟨g, c, hv, _, _, h3, h4, _⟩
  · exact ⟨none, 0, 0, h1, Nat.le_refl _, Nat.zero_le _⟩
  · exact ⟨_, n, c, hv, h3, h4⟩
/-- What Cover answers. -/
def CoverIs (l : List Sp) (w : World) (e : Ending) (w' : World) : Prop := ∃ v c, e = .returned v ∧ SpansIs c w' v ∧ LessOf l [] c ∧ Below w.heap.size w w' ∧ Room v
/-- How the loop of Cover stands. -/
def CovLoop (r : List Sp) (w1 wr : World) (v : Value) (k : Nat) : Prop :=
  ∃ c, OwnN 74 2 w1.heap.size wr v c.length (svals c) ∧ CoverAt r k c ∧ c.length ≤ k ∧ Below w1.heap.size w1 wr
theorem own_shape {e : TypeId} {k base n : Nat} {w : World} {v : Value} {xs : List Value} (h : OwnN e k base w v n xs) : ∃ A c, v = .slice A n c := by
  rcases h.form with ⟨h1, h2, _⟩ | ⟨g, c, hv, _⟩
  · subst h2; exact ⟨none, 0, h1⟩
  · exact ⟨_, c, hv⟩
theorem own_there {e : TypeId} {k base n : Nat} {w : World} {v : Value} {xs : List Value} (h : OwnN e k base w v (n + 1) xs) :
    ∃ g c, v = .slice (some ⟨g, 0, none⟩) (n + 1) c ∧ base ≤ g ∧ g < w.heap.size ∧ (∀ j u, xs[j]? = some u → w.cell? ⟨g, j, none⟩ = some u) ∧ ∀ i, w.frozen? ⟨g, i, none⟩ = false := by
  rcases h.form with ⟨_, h2, _⟩ | ⟨g, c, hv, h1, h2, _, _, hr, hf, _⟩
  · omega
  · exact ⟨g, c, hv, h1, h2, fun j u hu => by have := (hr j u hu).2; rwa [add_flat] at this, hf⟩
theorem below_drawn {w1 wr w2 : World} {a b : Obj} {n : Nat} (h : Below w1.heap.size w1 wr) (k : Below w1.heap.size (((wr.alloc a).drewN n).alloc b) w2) : Below w1.heap.size w1 w2 :=
  ((below_drewN (h.alloc h.size _) n).alloc (by show _ ≤ (wr.alloc a).heap.size; have := h.size; simp; omega) _).trans k
set_option maxHeartbeats 3200000 in
theorem cover_of (l : List Sp) (v : Value) (w : World) (hl : l.length ≤ 2000) (R : Calls Try.prog 79 #[v] w (RisIs l w)) : Calls Try.prog 75 #[v] w (CoverIs l w) := by
  have HR := Lib.hid R
  clear R
  go_enter Try.func75, Try.ntmps75
  go_wp2_with fail
  refine HR.out.mono ?_
  rintro e w1 ⟨vr, r, rfl, hr, hri, ht, hlen, hb1⟩
  obtain ⟨A, cc, rfl, hA⟩ := hr.open_
  have HA := Lib.hid hA
  have HRI := Lib.hid hri
  have HT := Lib.hid ht
  have HB1 := Lib.hid hb1
  clear hr hA hri ht hb1 HR
  go_wp2_with fail
  go_loopw [3, 10] (fun o i wr => ∃ (k : Nat) (v : Value), v = o ∧ i = .int .i64 k ∧ k ≤ r.length ∧ Hid (CovLoop r w1 wr v k)) (fun _ i _ => r.length - (RowKit.intOf i).toNat)
  case atStart => exact ⟨0, _, rfl, rfl, Nat.zero_le _, [], OwnN.nil (Nat.le_refl _), CoverAt.start r, Nat.le_refl _, Below.refl _ _⟩
  case round =>
    obtain ⟨k, o, hov, rfl, hk, HL⟩ := hrel
    subst hov
    by_cases hlt : k < r.length
    · obtain ⟨c, hown, hat, hck, hbl⟩ := HL.out
      obtain ⟨ad, rfl, had, c1, c2⟩ := (HA.out.below hbl) k hlt
      have HOW := Lib.hid hown
      have HAT := Lib.hid hat
      have HBL := Lib.hid hbl
      have hsn := snoc_cases c
      have HADD := Lib.hid (fun h => HAT.out.add HRI.out hlt h)
      have HGROW : Hid (∀ d q, c = d ++ [q] → ¬ q.2 < (r.getD k (0, 0)).1 → CoverAt r (k + 1) (d ++ [(q.1, max q.2 (r.getD k (0, 0)).2)])) := fun d q e h => CoverAt.grow HRI.out (e ▸ HAT.out) hlt h
      clear hown hat hbl HL
      unfold spCell at c1 c2
      dsimp only at c1 c2
      generalize r.getD k (0, 0) = s at *
      rcases hsn with rfl | ⟨d, q, rfl⟩
      · obtain ⟨B, cb, rfl⟩ := own_shape HOW.out
        have HO1 := Lib.hid (HOW.out.alloc (.cells #[.int .i64 s.1, .int .i64 s.2] 74))
        go_wp2_with fail
        go_quiet (fail)
        go_wp2_with (at_builtin; refine push_own spans_t rfl (.tmp 29) (.tmp 31) rfl w1.heap.size _ _ _ rfl ((HO1.out.drewN _).alloc (.cells #[.int .i64 s.1, .int .i64 s.2] 74)) _ 1 [.int .i64 s.1, .int .i64 s.2] rfl rfl ?h1a two_cells ?h1b ?_)
        case h1a => exact raw_at (by show (wr.alloc _).heap.size = _; simp) #[.int .i64 s.1, .int .i64 s.2] _
        case h1b => simp <;> omega
        intro v2 w2 ho2 hb2 hgr2
        have HO2 := Lib.hid ho2
        have HB2 := Lib.hid (below_drawn HBL.out hb2)
        clear ho2 hb2 hgr2
        go_wp2_with fail
        exact ⟨⟨k + 1, _, rfl, by go_num, by omega, [] ++ [s], HO2.out.cast (by simp) (by rw [svals_append]; rfl), HADD.out (fun x h => by simp at h), by simp, HB2.out⟩, by simp [RowKit.intOf] <;> omega⟩
      · have hck2 : d.length + 1 ≤ k := by simpa using hck
        have HOQ : Hid (OwnN 74 2 w1.heap.size wr o (d.length + 1) (svals (d ++ [q]))) := by
          have h := HOW.out
          rw [List.length_append, List.length_singleton] at h
          exact h
        obtain ⟨g, cap, hv, hg1, hg2, hgc, hgf⟩ := own_there HOQ.out
        have ce := hgc _ _ (svals_end d q)
        have cf := hgf (d.length * 2 + 1)
        clear hgc hgf
        subst hv
        have q0 : (0 : Int) ≤ (d.length : Int) := Int.natCast_nonneg _
        have q1 : (d.length : Int) < (d.length : Int) + 1 := by omega
        have q2 : IntKind.i64.wrap ((d.length : Int) + 1 - 1) = (d.length : Int) := by rw [IntKind.wrap_i64]; omega
        by_cases hx : q.2 < s.1
        · have hx2 : decide (q.2 < s.1) = true := decide_eq_true hx
          have HA2 := Lib.hid (HADD.out (last_all HAT.out.1 hx))
          have HO1 := Lib.hid (HOQ.out.alloc (.cells #[.int .i64 s.1, .int .i64 s.2] 74))
          go_wp2_with fail
          go_quiet (fail)
          go_wp2_with (at_builtin; refine push_own spans_t rfl (.tmp 29) (.tmp 31) rfl w1.heap.size _ _ _ rfl ((HO1.out.drewN _).alloc (.cells #[.int .i64 s.1, .int .i64 s.2] 74)) _ 1 [.int .i64 s.1, .int .i64 s.2] rfl rfl ?h2a two_cells ?h2b ?_)
          case h2a => exact raw_at (by show (wr.alloc _).heap.size = _; simp) #[.int .i64 s.1, .int .i64 s.2] _
          case h2b => simp <;> omega
          intro v2 w2 ho2 hb2 hgr2
          have HO2 := Lib.hid ho2
          have HB2 := Lib.hid (below_drawn HBL.out hb2)
          clear ho2 hb2 hgr2
          go_wp2_with fail
          exact ⟨⟨k + 1, _, rfl, by go_num, by omega, (d ++ [q]) ++ [s], HO2.out.cast (by simp) (by rw [svals_append (d ++ [q])]; rfl), HA2.out, by simp <;> omega, HB2.out⟩, by simp [RowKit.intOf] <;> omega⟩
        · have hx2 : decide (q.2 < s.1) = false := decide_eq_false hx
          go_wp2_with fail
          go_quiet (fail)
          go_wp2_with fail
          have HG := Lib.hid (HGROW.out d q rfl hx)
          have HB5 := Lib.hid (below_drewN (HBL.out.alloc HBL.out.size (.cells #[.int .i64 s.1, .int .i64 s.2] 74)) nq)
          have HO5 := Lib.hid ((HOQ.out.alloc (.cells #[.int .i64 s.1, .int .i64 s.2] 74)).drewN nq)
          obtain ⟨x0, x1, x2, x3, x4⟩ := (Box2.new wr (.int .i64 s.1) (.int .i64 s.2) 74).drewN nq
          have e1 : ((wr.alloc (.cells #[.int .i64 s.1, .int .i64 s.2] 74)).drewN nq).cell? ⟨g, d.length * 2 + 1, none⟩ = some (.int .i64 q.2) := ((below_alloc wr (.cells #[.int .i64 s.1, .int .i64 s.2] 74)).cell (p := ⟨g, d.length * 2 + 1, none⟩) hg2).trans ce
          have e2 : ((wr.alloc (.cells #[.int .i64 s.1, .int .i64 s.2] 74)).drewN nq).frozen? ⟨g, d.length * 2 + 1, none⟩ = false := ((below_alloc wr (.cells #[.int .i64 s.1, .int .i64 s.2] 74)).frozen (p := ⟨g, d.length * 2 + 1, none⟩) hg2).trans cf
          generalize (wr.alloc (.cells #[.int .i64 s.1, .int .i64 s.2] 74)).drewN nq = W at *
          clear x3 x4 c1 c2 ce cf x1
          go_region
          go_wp2_with fail
          exact ⟨⟨k + 1, _, rfl, by go_num, by omega, d ++ [(q.1, max q.2 s.2)], ((HO5.out.set (d.length * 2 + 1) (.int .i64 (max q.2 s.2))).drew).cast (by simp) (svals_last d q _), HG.out, by simpa using (by omega : d.length + 1 ≤ k + 1), ((HB5.out.setCell (p := ⟨g, d.length * 2 + 1, none⟩) hg1 _).drew)⟩, by simp [RowKit.intOf] <;> omega⟩
    · go_wp2_with fail
      go_ret
      obtain ⟨c, hown, hat, hck, hbl⟩ := HL.out
      exact ⟨_, c, rfl, OwnN.spans hown rfl, hat.less (by omega) HT.out, HB1.out.trans (hbl.mono HB1.out.size), own_room hown⟩
end Go.Proofs.Ytophhiejggnaeaa.SpanWalk
namespace Go.Proofs.Ytophhiejggnaeaa.SpanWalk
open Go.RowKit Go.Proofs.Ytophhiejggnaeaa.SpanPlain Go.Proofs.Ytophhiejggnaeaa.Mem Go.Proofs.Ytophhiejggnaeaa.SpanMem Go.Proofs.Ytophhiejggnaeaa.SpanRef
theorem cover_is (l : List Sp) (v : Value) (w : World) (hv : SpansIs l w v) (hl : l.length ≤ 2000) : Calls Try.prog 75 #[v] w (CoverIs l w) :=
  cover_of l v w hl (risS l v w hv (by omega))
end Go.Proofs.Ytophhiejggnaeaa.SpanWalk
namespace Go.Proofs.Ytophhiejggnaeaa.GapWalk
open Go.RowKit Go.Proofs.Ytophhiejggnaeaa.SpanPlain Go.Proofs.Ytophhiejggnaeaa.StepPlain Go.Proofs.Ytophhiejggnaeaa.GapPlain Go.Proofs.Ytophhiejggnaeaa.Mem Go.Proofs.Ytophhiejggnaeaa.SpanMem Go.Proofs.Ytophhiejggnaeaa.StepMem Go.Proofs.Ytophhiejggnaeaa.SpanRef Go.Proofs.Ytophhiejggnaeaa.StepRef Go.Proofs.Ytophhiejggnaeaa.GapRef
def BoolW (b : Bool) (w : World) (e : Ending) (w' : World) : Prop := e = .returned (.bool b) ∧ w = w'
def IntW (n : Int) (w : World) (e : Ending) (w' : World) : Prop := e = .returned (.int .i64 n) ∧ w = w'
def widthB (m : Int) : Bool := decide (1 ≤ m) && decide (m ≤ 256)
def lengthB (n : Int) : Bool := decide (1 ≤ n) && decide (n ≤ 1099511627776)
theorem widthB_iff (m : Int) : widthB m = true ↔ 1 ≤ m ∧ m ≤ 256 := by unfold widthB; simp
theorem lengthB_iff (n : Int) : lengthB n = true ↔ 1 ≤ n ∧ n ≤ 1099511627776 := by unfold lengthB; simp
theorem isWideS (t : Int) (w : World) : Calls Try.prog 55 #[.int .i64 t] w (BoolW (widthB t) w) := by
  have hw : (widthB t = true ∧ decide (1 ≤ t) = true ∧ decide (t ≤ 256) = true) ∨ (widthB t = false ∧ decide (1 ≤ t) = false) ∨ (widthB t = false ∧ decide (1 ≤ t) = true ∧ decide (t ≤ 256) = false) := by
    unfold widthB
    by_cases h1 : 1 ≤ t <;> by_cases h2 : t ≤ 256 <;> simp [h1, h2]
  generalize widthB t = B at *
  rcases hw with ⟨rfl, h1, h2⟩ | ⟨rfl, h1⟩ | ⟨rfl, h1, h2⟩
  all_goals
    go_enter Try.func55, Try.ntmps55
    go_wp2_with fail
    go_ret
    exact ⟨rfl, rfl⟩
theorem isLongS (t : Int) (w : World) : Calls Try.prog 61 #[.int .i64 t] w (BoolW (lengthB t) w) := by
  have hw : (lengthB t = true ∧ decide (1 ≤ t) = true ∧ decide (t ≤ 1099511627776) = true) ∨ (lengthB t = false ∧ decide (1 ≤ t) = false) ∨ (lengthB t = false ∧ decide (1 ≤ t) = true ∧ decide (t ≤ 1099511627776) = false) := by
    unfold lengthB
    by_cases h1 : 1 ≤ t <;> by_cases h2 : t ≤ 1099511627776 <;> simp [h1, h2]
  generalize lengthB t = B at *
  rcases hw with ⟨rfl, h1, h2⟩ | ⟨rfl, h1⟩ | ⟨rfl, h1, h2⟩
  all_goals
    go_enter Try.func61, Try.ntmps61
    go_wp2_with fail
    go_ret
    exact ⟨rfl, rfl⟩
/-- Up to when a step goes on. -/
def endN (s : List Sp) (k : Nat) : Int := if k + 1 < s.length then (nth s (k + 1)).1 else 4503599627370496
set_option maxRecDepth 100000 in
theorem endS (s : List Sp) (k : Nat) (v : Value) (w : World) (hv : SpansIs s w v) (hk : k < s.length) (hl : s.length ≤ 1000) : Calls Try.prog 74 #[v, .int .i64 k] w (IntW (endN s k) w) := by
  obtain ⟨A, c, rfl, hA⟩ := hv.open_
  have HA := Lib.hid hA
  clear hA hv
  unfold endN
  by_cases hnx : k + 1 < s.length
  · obtain ⟨ad2, rfl, had2, c3, _⟩ := HA.out (k + 1) hnx
    have e3 : (spCell s (k + 1)).1 = .int .i64 (nth s (k + 1)).1 := rfl
    rw [e3] at c3
    rw [if_pos hnx]
    have d1 : decide ((k : Int) + 1 < (s.length : Int)) = true := decide_eq_true (by omega)
    have i1 : (0 : Int) ≤ (k : Int) + 1 := by omega
    have i2 : (k : Int) + 1 < (s.length : Int) := by omega
    have i3 : ((k : Int) + 1).toNat = k + 1 := by omega
    clear e3
    generalize nth s (k + 1) = z at *
    go_enter Try.func74, Try.ntmps74
    go_wp2_with fail
    go_ret
    exact ⟨rfl, rfl⟩
  · rw [if_neg hnx]
    have d1 : decide ((k : Int) + 1 < (s.length : Int)) = false := decide_eq_false (by omega)
    go_enter Try.func74, Try.ntmps74
    go_wp2_with fail
    go_ret
    exact ⟨rfl, rfl⟩
set_option maxRecDepth 100000 in
set_option maxHeartbeats 1600000 in
theorem wideS (s : List Sp) (a n : Int) (v : Value) (w : World) (hv : SpansIs s w v) (hl : s.length ≤ 1000) : Calls Try.prog 56 #[v, .int .i64 a, .int .i64 n] w (WideSays s a n w) := by
  have CL := Lib.hid (fun W => isLongS n W)
  have HNO := Lib.hid (fun h => wide_no (s := s) (a := a) (n := n) h)
  cases hb : lengthB n with
  | false =>
    rw [hb] at CL
    have HN := Lib.hid (HNO.out (.inl (fun h => by rw [(lengthB_iff n).2 h] at hb; cases hb)))
    clear hb HNO hv
    go_enter Try.func56, Try.ntmps56
    go_wp2_with (go_at_call 61; refine (CL.out _).mono ?_; rintro e w1 ⟨rfl, rfl⟩)
    go_ret
    exact ⟨0, rfl, HN.out, Below.refl _ _⟩
  | true =>
    rw [hb] at CL
    have hn := (lengthB_iff n).1 hb
    clear hb
    by_cases ha : 1125899906842624 < a
    · have d1 : decide ((1125899906842624 : Int) < a) = true := decide_eq_true ha
      have HN := Lib.hid (HNO.out (.inr ha))
      clear HNO hv
      go_enter Try.func56, Try.ntmps56
      go_wp2_with (go_at_call 61; refine (CL.out _).mono ?_; rintro e w1 ⟨rfl, rfl⟩)
      go_ret
      exact ⟨0, rfl, HN.out, Below.refl _ _⟩
    · have d1 : decide ((1125899906842624 : Int) < a) = false := decide_eq_false ha
      obtain ⟨b, hb⟩ : ∃ b, b = IntKind.i64.wrap (a + n) := ⟨_, rfl⟩
      have HY := Lib.hid (fun k h => wide_yes (s := s) (a := a) (n := n) (b := b) (k := k) hn (by omega) (fun h0 => by rw [hb, IntKind.wrap_i64]; omega) h)
      have CM := Lib.hid (StepWalk.minS s (a, b) v w hv hl)
      unfold spV at CM
      dsimp only at CM
      have hb2 : IntKind.i64.wrap (a + n) = b := hb.symm
      clear hb hv HNO ha hn
      go_enter Try.func56, Try.ntmps56
      go_wp2_with (go_at_call 61; refine (CL.out _).mono ?_; rintro e w1 ⟨rfl, rfl⟩)
      refine CM.out.mono ?_
      rintro e w2 ⟨k, rfl, hk, hb⟩
      have HK := Lib.hid (HY.out k hk)
      have HB := Lib.hid hb
      clear hk hb HY
      go_wp2_with fail
      go_ret
      exact ⟨k, rfl, HK.out, HB.out⟩
set_option maxHeartbeats 1600000 in
theorem okS (s : List Sp) (a m n : Int) (v : Value) (w : World) (hv : SpansIs s w v) (hl : s.length ≤ 1000) : Calls Try.prog 44 #[v, .int .i64 a, .int .i64 m, .int .i64 n] w (BoolIs (okG s a m n) w) := by
  have CW := Lib.hid (fun W => isWideS m W)
  have CM := Lib.hid (wideS s a n v w hv hl)
  clear hv
  cases hb : widthB m with
  | false =>
    rw [hb] at CW
    rw [ok_not (fun h => by rw [(widthB_iff m).2 h] at hb; cases hb)]
    clear hb CM
    go_enter Try.func44, Try.ntmps44
    go_wp2_with (go_at_call 55; refine (CW.out _).mono ?_; rintro e w1 ⟨rfl, rfl⟩)
    go_ret
    exact ⟨rfl, Below.refl _ _⟩
  | true =>
    rw [hb] at CW
    have HO := Lib.hid (fun k h => ok_wide (s := s) (a := a) (m := m) (n := n) (k := k) h ((widthB_iff m).1 hb).1 ((widthB_iff m).1 hb).2)
    clear hb
    generalize hG : okG s a m n = G at *
    have HG := Lib.hid hG
    clear hG
    go_enter Try.func44, Try.ntmps44
    go_wp2_with (go_at_call 55; refine (CW.out _).mono ?_; rintro e w1 ⟨rfl, rfl⟩)
    refine CM.out.mono ?_
    rintro e w2 ⟨k, rfl, hk, hb⟩
    have HK := Lib.hid (HO.out k hk)
    have HB := Lib.hid hb
    clear hk hb HO
    cases hd : decide (m ≤ k)
    all_goals
      go_wp2_with fail
      go_ret
      exact ⟨by have h := HK.out; rw [hd] at h; rw [h]; rfl, HB.out⟩
end Go.Proofs.Ytophhiejggnaeaa.GapWalk
namespace Go.Proofs.Ytophhiejggnaeaa.GapWalk
open Go.RowKit Go.Proofs.Ytophhiejggnaeaa.SpanPlain Go.Proofs.Ytophhiejggnaeaa.StepPlain Go.Proofs.Ytophhiejggnaeaa.GapPlain Go.Proofs.Ytophhiejggnaeaa.Mem Go.Proofs.Ytophhiejggnaeaa.SpanMem Go.Proofs.Ytophhiejggnaeaa.StepMem Go.Proofs.Ytophhiejggnaeaa.SpanRef Go.Proofs.Ytophhiejggnaeaa.StepRef Go.Proofs.Ytophhiejggnaeaa.GapRef
theorem all_ways (s : List Sp) (m : Int) : (chkB s = false ∧ Hid (AllSays s m [])) ∨ (chkB s = true ∧ widthB m = false ∧ Hid (AllSays s m [])) ∨ (chkB s = true ∧ widthB m = true ∧ Hid (mayG s m 1 = true)) := by
  have e : mayG s m 1 = (chkB s && widthB m) := by unfold mayG widthB; cases chkB s <;> simp
  unfold AllSays
  rw [e]
  cases chkB s with
  | false => exact .inl ⟨rfl, .inr ⟨rfl, rfl⟩⟩
  | true =>
    cases widthB m with
    | false => exact .inr (.inl ⟨rfl, rfl, .inr ⟨rfl, rfl⟩⟩)
    | true => exact .inr (.inr ⟨rfl, rfl, rfl⟩)
theorem gapw_ways (s : List Sp) (m : Int) (k : Nat) : (decide (m ≤ (nth s k).2) = false ∧ Hid (gapsTo s m (k + 1) = gapsTo s m k)) ∨ (decide (m ≤ (nth s k).2) = true ∧ Hid (gapsTo s m (k + 1) = gapsTo s m k ++ [((nth s k).1, endN s k)])) := by
  rw [gaps_next]
  unfold gapSp endN
  by_cases h1 : m ≤ (nth s k).2
  · rw [if_pos h1]; exact .inr ⟨decide_eq_true h1, rfl⟩
  · rw [if_neg h1, List.append_nil]; exact .inl ⟨decide_eq_false h1, rfl⟩
def AllLoop (s : List Sp) (m : Int) (w wr : World) (v : Value) (k : Nat) : Prop := OwnN 74 2 w.heap.size wr v (gapsTo s m k).length (svals (gapsTo s m k)) ∧ Below w.heap.size w wr
/-- A box laid behind a row of one's own is kept where the row grows. -/
theorem box_kept {e : TypeId} {k base n : Nat} {wr W w6 : World} {o : Value} {xs : List Value} (h : OwnN e k base wr o n xs) (hw : wr.heap.size < W.heap.size) (hg : W.grownBy w6 o.ownBlock) {j : Nat} {u : Value} (hu : W.cell? ⟨wr.heap.size, j, none⟩ = some u) : w6.cell? ⟨wr.heap.size, j, none⟩ = some u :=
  (World.cell?_of_block (a := ⟨wr.heap.size, j, none⟩) (hg.block wr.heap.size hw (fun e => by have := (h.1.lt _ e.symm).2; omega))).trans hu
/-- All, with how long its answer is. -/
def AllLong (s : List Sp) (m : Int) (w : World) (e : Ending) (w' : World) : Prop := ∃ v c, e = .returned v ∧ SpansIs c w' v ∧ AllSays s m c ∧ Below w.heap.size w w' ∧ c.length ≤ 1000
set_option maxRecDepth 100000 in
set_option maxHeartbeats 3200000 in
theorem allL (s : List Sp) (m : Int) (v : Value) (w : World) (hv : SpansIs s w v) (hl : s.length ≤ 1000) : Calls Try.prog 62 #[v, .int .i64 m] w (AllLong s m w) := by
  have CC := Lib.hid (StepWalk.checkS s v w hv hl)
  have CW := Lib.hid (fun W => isWideS m W)
  have HV := Lib.hid hv
  obtain ⟨A, c, rfl, hA⟩ := hv.open_
  have HA := Lib.hid hA
  clear hv hA
  rcases all_ways s m with ⟨h1, HN⟩ | ⟨h1, h2, HN⟩ | ⟨h1, h2, HM⟩
  · rw [h1] at CC
    clear h1
    go_enter Try.func62, Try.ntmps62
    go_wp2_with fail
    refine CC.out.mono ?_
    rintro e w1 ⟨rfl, hb1⟩
    have HB1 := Lib.hid hb1
    clear hb1
    go_wp2_with fail
    go_ret
    exact ⟨_, [], rfl, .inl ⟨rfl, rfl⟩, HN.out, HB1.out, by simp⟩
  · rw [h1] at CC
    rw [h2] at CW
    clear h1 h2
    go_enter Try.func62, Try.ntmps62
    go_wp2_with fail
    refine CC.out.mono ?_
    rintro e w1 ⟨rfl, hb1⟩
    have HB1 := Lib.hid hb1
    clear hb1
    go_wp2_with (go_at_call 55; refine (CW.out _).mono ?_; rintro e w1 ⟨rfl, rfl⟩)
    go_ret
    exact ⟨_, [], rfl, .inl ⟨rfl, rfl⟩, HN.out, HB1.out, by simp⟩
  · rw [h1] at CC
    rw [h2] at CW
    have HC := Lib.hid ((chk_iff s).1 h1)
    clear h1 h2
    go_enter Try.func62, Try.ntmps62
    go_wp2_with fail
    refine CC.out.mono ?_
    rintro e w1 ⟨rfl, hb1⟩
    have HB1 := Lib.hid hb1
    clear hb1 CC
    go_wp2_with (go_at_call 55; refine (CW.out _).mono ?_; rintro e w1 ⟨rfl, rfl⟩)
    go_loopw [5, 18] (fun o i wr => ∃ (k : Nat) (v : Value), v = o ∧ i = .int .i64 k ∧ k ≤ s.length ∧ Hid (AllLoop s m w1 wr v k)) (fun _ i _ => s.length - (intOf i).toNat)
    case atStart => exact ⟨0, _, rfl, rfl, Nat.zero_le _, OwnN.nil (Nat.le_refl _), Below.refl _ _⟩
    case round =>
      obtain ⟨k, o, hov, rfl, hk, HL⟩ := hrel
      subst hov
      obtain ⟨hown, hbl⟩ := HL.out
      by_cases hlt : k < s.length
      · obtain ⟨ad, rfl, had, c1, c2⟩ := (HA.out.below (below_then HB1.out hbl)) k hlt
        have e1 : (spCell s k).1 = .int .i64 (nth s k).1 := rfl
        have e2 : (spCell s k).2 = .int .i64 (nth s k).2 := rfl
        rw [e1] at c1
        rw [e2] at c2
        have hgl := gaps_len s m k
        have i0 : (0 : Int) ≤ (k : Int) := Int.natCast_nonneg _
        have hlt2 : (k : Int) < (s.length : Int) := by omega
        have HOW := Lib.hid hown
        have HBL := Lib.hid hbl
        unfold AllLoop
        clear hown hbl HL e1 e2
        rcases gapw_ways s m k with ⟨h1, HX⟩ | ⟨h1, HX⟩
        · generalize nth s k = y at *
          go_wp2_with fail
          exact ⟨⟨k + 1, _, rfl, by go_num, by omega, by rw [HX.out]; exact HOW.out.alloc _, HBL.out.alloc HBL.out.size _⟩, by simp [intOf] <;> omega⟩
        · generalize nth s k = y at *
          have CE := Lib.hid (endS s k (.slice (some ad) s.length c) (wr.alloc (.cells #[.int .i64 y.1, .int .i64 y.2] 59)).drew (HV.out.below (((below_then HB1.out HBL.out).alloc (below_then HB1.out HBL.out).size _).drew)) hlt hl)
          have HO1 := Lib.hid ((HOW.out.alloc (.cells #[.int .i64 y.1, .int .i64 y.2] 59)).drewN 1)
          generalize endN s k = z at *
          have HO2 := Lib.hid (HO1.out.alloc (.cells #[.int .i64 y.1, .int .i64 z] 74))
          have HB2 := Lib.hid ((HBL.out.alloc HBL.out.size (.cells #[.int .i64 y.1, .int .i64 y.2] 59)).drew)
          have HX0 := Box2.new wr (.int .i64 y.1) (.int .i64 y.2) 59
          obtain ⟨x0, x1, x2, _, _⟩ := HX0
          go_upto_region 8 with fail
          go_region_held3 (fun w' => w'.cell? ⟨wr.heap.size, 0, none⟩ = some (.int .i64 y.1))
            (first | go_keep | exact box_kept HOW.out (by simp; omega) hg6 (by assumption))
            (first
              | (go_at_call_of 74 (Value.slice (some ad) s.length c); refine CE.out.mono ?_; rintro e w2 ⟨rfl, rfl⟩)
              | (refine step_own spans_t (by rfl) (.tmp 27) (.tmp 34) (by rfl) w1.heap.size _ _ _ (by rfl) HO2.out _ 1 [.int .i64 y.1, .int .i64 z] (by rfl) (by rfl) (raw_at (by simp) #[.int .i64 y.1, .int .i64 z] _) two_cells (by omega) ?_; intro v6 w6 ho6 hb6 hg6))
          all_goals
            go_wp2_with fail
            exact ⟨⟨k + 1, _, rfl, by go_num, by omega, by rw [HX.out, svals_snoc]; exact ho6.cast (by simp) rfl, (HB2.out.alloc HB2.out.size _).trans hb6⟩, by simp [intOf] <;> omega⟩
      · obtain rfl : k = s.length := by omega
        have hgl := gaps_len s m s.length
        have hsp : SpansIs (gapsTo s m s.length) wr o := spans_of_own hown rfl
        have HALL := Lib.hid (fun c h => all_of_less (s := s) (c := c) HC.out (w := m) h)
        have CL := Lib.hid (SpanWalk.cover_is (gapsTo s m s.length) o wr hsp (by omega))
        have HBL := Lib.hid (below_then HB1.out hbl)
        clear hown hbl HL hsp
        generalize gapsTo s m s.length = l at *
        go_wp2_with fail
        refine CL.out.mono ?_
        rintro e w2 ⟨v2, c2, rfl, hs2, hl2, hb2, _⟩
        have HS := Lib.hid hs2
        have HAL := Lib.hid (HALL.out c2 hl2)
        have HB2 := Lib.hid (below_then HBL.out hb2)
        have hcl := cov_len hl2
        simp only [List.length_nil, Nat.add_zero] at hcl
        clear hs2 hl2 hb2 CL
        go_wp2_with fail
        go_ret
        exact ⟨_, c2, rfl, HS.out, .inl ⟨HM.out, HAL.out⟩, HB2.out, by omega⟩
end Go.Proofs.Ytophhiejggnaeaa.GapWalk
namespace Go.Proofs.Ytophhiejggnaeaa.GapWalk
open Go.RowKit Go.Proofs.Ytophhiejggnaeaa.SpanPlain Go.Proofs.Ytophhiejggnaeaa.StepPlain Go.Proofs.Ytophhiejggnaeaa.GapPlain Go.Proofs.Ytophhiejggnaeaa.Mem Go.Proofs.Ytophhiejggnaeaa.SpanMem Go.Proofs.Ytophhiejggnaeaa.StepMem Go.Proofs.Ytophhiejggnaeaa.SpanRef Go.Proofs.Ytophhiejggnaeaa.StepRef Go.Proofs.Ytophhiejggnaeaa.GapRef
set_option maxRecDepth 100000 in
set_option maxHeartbeats 3200000 in
theorem fitS (s : List Sp) (f m n : Int) (v : Value) (w : World) (hv : SpansIs s w v) (hl : s.length ≤ 1000) : Calls Try.prog 47 #[v, .int .i64 f, .int .i64 m, .int .i64 n] w (FitSays s f m n w) := by
  have CL := Lib.hid (fun W => isLongS n W)
  have CA := Lib.hid (allL s m v w hv hl)
  clear hv
  cases hb : lengthB n with
  | false =>
    rw [hb] at CL
    have HN := Lib.hid (fit_short s f m n (fun h => by rw [(lengthB_iff n).2 h] at hb; cases hb))
    clear hb CA
    go_enter Try.func47, Try.ntmps47
    go_wp2_with (go_at_call 61; refine (CL.out _).mono ?_; rintro e w1 ⟨rfl, rfl⟩)
    go_ret2
    exact ⟨0, false, rfl, HN.out, Below.refl _ _⟩
  | true =>
    rw [hb] at CL
    have hn := (lengthB_iff n).1 hb
    clear hb
    go_enter Try.func47, Try.ntmps47
    go_wp2_with (go_at_call 61; refine (CL.out _).mono ?_; rintro e w1 ⟨rfl, rfl⟩)
    refine CA.out.mono ?_
    rintro e w1 ⟨vc, c, rfl, hc, hof, hb1, hcl⟩
    obtain ⟨A, cc, rfl, hA⟩ := hc.open_
    have HA := Lib.hid hA
    have HO := Lib.hid hof
    have HB1 := Lib.hid hb1
    clear hc hA hof hb1 CA CL
    go_wp2_with fail
    go_loopw [20] (fun i wr => ∃ k : Nat, i = .int .i64 k ∧ k ≤ c.length ∧ Hid (NoFit c f n k ∧ Below w1.heap.size w1 wr)) (fun i _ => c.length - (intOf i).toNat)
    case atStart => exact ⟨0, rfl, Nat.zero_le _, fit_start _ _ _, Below.refl _ _⟩
    case round =>
      obtain ⟨k, rfl, hk, HL⟩ := hrel
      obtain ⟨hf, hbl⟩ := HL.out
      have HBL := Lib.hid hbl
      by_cases hlt : k < c.length
      · obtain ⟨ad, rfl, had, c1, c2⟩ := (HA.out.below hbl) k hlt
        have e1 : (spCell c k).1 = .int .i64 (nth c k).1 := rfl
        have e2 : (spCell c k).2 = .int .i64 (nth c k).2 := rfl
        rw [e1] at c1
        rw [e2] at c2
        have i0 : (0 : Int) ≤ (k : Int) := Int.natCast_nonneg _
        have hlt2 : (k : Int) < (c.length : Int) := by omega
        have hw := fit_ways2 s c f m n hn.1 hn.2 HO.out hlt hf
        clear hf hbl HL e1 e2
        generalize nth c k = x at *
        have HX := Lib.hid (Box2.new wr (.int .i64 x.1) (.int .i64 x.2) 74)
        have HB2 := Lib.hid (HBL.out.alloc HBL.out.size (.cells #[.int .i64 x.1, .int .i64 x.2] 74))
        have HB3 := Lib.hid (below_then HB1.out HB2.out)
        obtain ⟨x0, x1, x2, _, _⟩ := HX.out
        rcases hw with ⟨g2, HR⟩ | ⟨g2, wr1, g3, HR⟩ | ⟨g2, wr1, g3, HR⟩
        · go_wp2_with fail
          go_ret2
          exact ⟨0, false, rfl, HR.out, HB3.out⟩
        · go_wp2_with fail
          go_ret2
          exact ⟨_, true, rfl, HR.out, HB3.out⟩
        · go_wp2_with fail
          exact ⟨⟨k + 1, by go_num, by omega, HR.out, HB2.out⟩, by simp [intOf] <;> omega⟩
      · have HD := Lib.hid (fit_done hn.1 hn.2 HO.out (Nat.le_of_not_lt hlt) hf)
        clear hf hbl HL
        go_wp2_with fail
        go_ret2
        exact ⟨0, false, rfl, HD.out, below_then HB1.out HBL.out⟩
end Go.Proofs.Ytophhiejggnaeaa.GapWalk
namespace Go.Proofs.Ytophhiejggnaeaa.ShaWalk
open Go.RowKit Go.Proofs.Ytophhiejggnaeaa.SpanPlain Go.Proofs.Ytophhiejggnaeaa.StepPlain Go.Proofs.Ytophhiejggnaeaa.GapPlain Go.Proofs.Ytophhiejggnaeaa.JobPlain Go.Proofs.Ytophhiejggnaeaa.ShaPlain Go.Proofs.Ytophhiejggnaeaa.Mem Go.Proofs.Ytophhiejggnaeaa.SpanMem Go.Proofs.Ytophhiejggnaeaa.StepMem Go.Proofs.Ytophhiejggnaeaa.JobMem Go.Proofs.Ytophhiejggnaeaa.OrdMem Go.Proofs.Ytophhiejggnaeaa.SpanRef Go.Proofs.Ytophhiejggnaeaa.StepRef Go.Proofs.Ytophhiejggnaeaa.GapRef Go.Proofs.Ytophhiejggnaeaa.ShaRef
open Go.Proofs.Ytophhiejggnaeaa.StepWalk (atB atN NewAt AddSays PairIs)
def RunIs (a : Int) (j : Jb) (w : World) (e : Ending) (w' : World) : Prop := e = .returned (.agg #[.int .i64 a, .int .i64 (a + j.est)]) ∧ Below w.heap.size w w'
set_option maxHeartbeats 1600000 in
theorem run_i (a : Int) (j : Jb) (w : World) (ha : 0 ≤ a ∧ a ≤ 1125899906842624) (he : 1 ≤ j.est ∧ j.est ≤ 1099511627776) : Calls Try.prog 46 #[.int .i64 a, jobV j] w (RunIs a j w) := by
  have HX := Lib.hid (JobBox.new w j 45)
  have HB := Lib.hid (box_s w (.cells #[.int .i64 j.id, .string j.user, .int .i64 j.width, .int .i64 j.est, .int .i64 j.prio, .int .i64 j.sub, .int .i64 j.state, .int .i64 j.start, .int .i64 j.fin] 45))
  have hsz : (w.alloc (.cells #[.int .i64 j.id, .string j.user, .int .i64 j.width, .int .i64 j.est, .int .i64 j.prio, .int .i64 j.sub, .int .i64 j.state, .int .i64 j.start, .int .i64 j.fin] 45)).heap.size = w.heap.size + 1 := by simp
  unfold jobV jobA
  go_enter Try.func46, Try.ntmps46
  go_upto_region 1 with fail
  generalize w.alloc (.cells #[.int .i64 j.id, .string j.user, .int .i64 j.width, .int .i64 j.est, .int .i64 j.prio, .int .i64 j.sub, .int .i64 j.state, .int .i64 j.start, .int .i64 j.fin] 45) = W0 at *
  obtain ⟨y, y0, y1, y2, y3, y4, y5, y6, y7, y8, _, _, _, _, _, _, _, _, _⟩ := HX.out.alloc (.cells #[.int .i64 0, .int .i64 0] 74)
  have hz := Box2.new W0 (.int .i64 0) (.int .i64 0) 74
  rw [hsz] at hz
  have HZ := Lib.hid hz
  have HB0 := Lib.hid (thenS HB.out (box_s W0 (.cells #[.int .i64 0, .int .i64 0] 74)))
  clear hz hsz
  generalize W0.alloc (.cells #[.int .i64 0, .int .i64 0] 74) = W1 at *
  obtain ⟨b0, b1, b2, b3, b4⟩ := HZ.out
  go_wp2_with fail
  have HB2 : Hid (Below w.heap.size w ((W1.setCell ⟨w.heap.size + 1, 0, none⟩ (.int .i64 a)).setCell ⟨w.heap.size + 1, 1, none⟩ (.int .i64 (a + j.est)))) := (HB0.out.setCell (p := ⟨w.heap.size + 1, 0, none⟩) (by simp) _).setCell (p := ⟨w.heap.size + 1, 1, none⟩) (by simp) _
  have HZ2 := Lib.hid ((HZ.out.set0 (.int .i64 a)).set1 (.int .i64 (a + j.est)))
  obtain ⟨c0, c1, c2, c3, c4⟩ := HZ2.out
  exact bodyPost_ret (v := .agg #[.int .i64 a, .int .i64 (a + j.est)]) (by simp [results, Try.results46, go_sem, c0, c1, c2, c3, c4]) rfl ⟨rfl, HB2.out⟩
def LaySaysN (s : List Sp) (a : Int) (j : Jb) (w : World) (e : Ending) (w' : World) : Prop := ∃ v r b, e = .returned (.tuple #[v, .bool b]) ∧ SpansIs r w' v ∧ LayIs s a j r b ∧ Below w.heap.size w w' ∧ NewAt w.heap.size v
/-- A job's cells, kept. -/
theorem keep_job {w w' : World} {n : Nat} {a0 a1 a2 a3 a4 a5 a6 a7 a8 : Value} (hb : Below w.heap.size w w') (hl : n < w.heap.size) (h0 : w.cell? ⟨n, 0, none⟩ = some a0) (h1 : w.cell? ⟨n, 1, none⟩ = some a1) (h2 : w.cell? ⟨n, 2, none⟩ = some a2) (h3 : w.cell? ⟨n, 3, none⟩ = some a3) (h4 : w.cell? ⟨n, 4, none⟩ = some a4) (h5 : w.cell? ⟨n, 5, none⟩ = some a5) (h6 : w.cell? ⟨n, 6, none⟩ = some a6) (h7 : w.cell? ⟨n, 7, none⟩ = some a7) (h8 : w.cell? ⟨n, 8, none⟩ = some a8) :
    w'.cell? ⟨n, 0, none⟩ = some a0 ∧ w'.cell? ⟨n, 1, none⟩ = some a1 ∧ w'.cell? ⟨n, 2, none⟩ = some a2 ∧ w'.cell? ⟨n, 3, none⟩ = some a3 ∧ w'.cell? ⟨n, 4, none⟩ = some a4 ∧ w'.cell? ⟨n, 5, none⟩ = some a5 ∧ w'.cell? ⟨n, 6, none⟩ = some a6 ∧ w'.cell? ⟨n, 7, none⟩ = some a7 ∧ w'.cell? ⟨n, 8, none⟩ = some a8 ∧ n < w'.heap.size :=
  ⟨(hb.cell (p := ⟨n, 0, none⟩) hl).trans h0, (hb.cell (p := ⟨n, 1, none⟩) hl).trans h1, (hb.cell (p := ⟨n, 2, none⟩) hl).trans h2, (hb.cell (p := ⟨n, 3, none⟩) hl).trans h3, (hb.cell (p := ⟨n, 4, none⟩) hl).trans h4, (hb.cell (p := ⟨n, 5, none⟩) hl).trans h5, (hb.cell (p := ⟨n, 6, none⟩) hl).trans h6, (hb.cell (p := ⟨n, 7, none⟩) hl).trans h7, (hb.cell (p := ⟨n, 8, none⟩) hl).trans h8, Nat.lt_of_lt_of_le hl hb.size⟩
set_option maxHeartbeats 1600000 in
theorem ofShS (s : List Sp) (now : Int) (j : Jb) (v : Value) (w : World) (hv : SpansIs s w v) (hl : s.length ≤ 1000) : Calls Try.prog 32 #[v, .int .i64 now, jobV j] w (ShSays s now j w) := by
  have HX := Lib.hid (JobBox.new w j 45)
  have HB := Lib.hid (box_s w (.cells #[.int .i64 j.id, .string j.user, .int .i64 j.width, .int .i64 j.est, .int .i64 j.prio, .int .i64 j.sub, .int .i64 j.state, .int .i64 j.start, .int .i64 j.fin] 45))
  have CF := Lib.hid (GapWalk.fitS s now j.width j.est v _ (hv.below HB.out) hl)
  have CA : Hid (∀ W r, Below w.heap.size w W → Calls Try.prog 48 #[v, .int .i64 r] W (PairIs (atN s r) (atB s r) W)) := fun W r hW => StepWalk.atS s r v W (hv.below hW) hl
  have HV : Hid (∀ r, FitIs s now j.width j.est r true → atN s r = val s r ∧ (0 ≤ r ∧ r ≤ 1125899906842624) ∧ (0 ≤ val s r ∧ val s r ≤ 256) ∧ (1 ≤ j.width ∧ j.width ≤ 256)) := fun r h => by
    obtain ⟨h1, h2, h3, h4, h5, h6, _⟩ := room_may (fit_ok h)
    refine ⟨?_, ⟨h5, h6⟩, h1.val_free h4, h2⟩
    unfold atN atB
    rw [(chk_iff s).2 h1, decide_eq_true h4, decide_eq_true (show r < 4503599627370496 by omega)]
    rfl
  obtain ⟨A, c, rfl, _⟩ := hv.open_
  clear hv
  unfold jobV jobA
  go_enter Try.func32, Try.ntmps32
  go_upto_region 1 with fail
  generalize w.alloc (.cells #[.int .i64 j.id, .string j.user, .int .i64 j.width, .int .i64 j.est, .int .i64 j.prio, .int .i64 j.sub, .int .i64 j.state, .int .i64 j.start, .int .i64 j.fin] 45) = W0 at *
  obtain ⟨y, y0, y1, y2, y3, y4, y5, y6, y7, y8, _, _, _, _, _, _, _, _, _⟩ := HX.out
  go_wp2_with fail
  refine CF.out.mono ?_
  rintro e w1 ⟨r, b, rfl, hf, hb1⟩
  have HB1 := Lib.hid (thenS HB.out hb1)
  obtain ⟨z, z0, z1, z2, z3, z4, z5, z6, z7, z8, _, _, _, _, _, _, _, _, _⟩ := HX.out.below hb1
  have HF := Lib.hid hf
  clear hb1 hf CF y y0 y1 y2 y3 y4 y5 y6 y7 y8
  cases b with
  | false =>
    go_wp2_with fail
    go_ret3
    refine ⟨0, 0, false, rfl, ⟨?_, rfl⟩, HB1.out⟩
    rcases HF.out with ⟨h, _⟩ | ⟨_, rfl, h⟩
    · cases h
    · exact .inr ⟨rfl, rfl, h⟩
  | true =>
    obtain ⟨e1, hr, hvr, hww⟩ := HV.out r HF.out
    have C1 := Lib.hid (CA.out w1 r HB1.out)
    rw [e1] at C1
    have hsub : IntKind.i64.wrap (val s r - j.width) = val s r - j.width := by rw [IntKind.wrap_i64]; omega
    have HSH : Hid (ShIs s now j r (val s r - j.width) true) := ⟨HF.out, rfl⟩
    have HX1 : Hid (w.heap.size < w1.heap.size) := z
    clear e1 HV CA HF z z0 z1 z3 z4 z5 z6 z7 z8
    generalize val s r = fr at *
    go_wp2_with fail
    refine C1.out.mono ?_
    rintro e w2 ⟨rfl, hb2⟩
    have q2 := (hb2.cell (p := ⟨w.heap.size, 2, none⟩) HX1.out).trans z2
    have HB2 := Lib.hid (thenS HB1.out hb2)
    clear hb2 z2 C1
    go_wp2_with fail
    go_quiet (fail)
    go_wp2_with fail
    go_ret3
    exact ⟨r, fr - j.width, true, rfl, HSH.out, below_drewN HB2.out _⟩
set_option maxHeartbeats 3200000 in
theorem layN (s : List Sp) (a : Int) (j : Jb) (v : Value) (w : World) (hv : SpansIs s w v) (hl : s.length ≤ 1000) : Calls Try.prog 31 #[v, .int .i64 a, jobV j] w (LaySaysN s a j w) := by
  have HX := Lib.hid (JobBox.new w j 45)
  have HB := Lib.hid (box_s w (.cells #[.int .i64 j.id, .string j.user, .int .i64 j.width, .int .i64 j.est, .int .i64 j.prio, .int .i64 j.sub, .int .i64 j.state, .int .i64 j.start, .int .i64 j.fin] 45))
  have CO := Lib.hid (GapWalk.okS s a j.width j.est v _ (hv.below HB.out) hl)
  have CA : Hid (∀ W, Below w.heap.size w W → Calls Try.prog 45 #[v, spV (runS a j), .int .i64 (-j.width)] W (AddSays s (runS a j) (-j.width) W)) := fun W hW => StepWalk.addS s (runS a j) (-j.width) v W (hv.below hW) hl
  have HM := Lib.hid (fun h => room_may (s := s) (a := a) (j := j) h)
  obtain ⟨A, c, rfl, _⟩ := hv.open_
  clear hv
  unfold jobV jobA
  cases hok : okG s a j.width j.est with
  | false =>
    rw [hok] at CO
    have HLY : Hid (LayIs s a j [] false) := .inr ⟨hok, rfl, rfl⟩
    clear hok HM CA
    go_enter Try.func31, Try.ntmps31
    go_upto_region 1 with fail
    generalize w.alloc (.cells #[.int .i64 j.id, .string j.user, .int .i64 j.width, .int .i64 j.est, .int .i64 j.prio, .int .i64 j.sub, .int .i64 j.state, .int .i64 j.start, .int .i64 j.fin] 45) = W0 at *
    obtain ⟨y, y0, y1, y2, y3, y4, y5, y6, y7, y8, _, _, _, _, _, _, _, _, _⟩ := HX.out
    go_wp2_with fail
    refine CO.out.mono ?_
    rintro e w1 ⟨rfl, hb1⟩
    have HB1 := Lib.hid (thenS HB.out hb1)
    clear hb1
    go_wp2_with fail
    go_ret2
    exact ⟨_, [], false, rfl, .inl ⟨rfl, rfl⟩, HLY.out, HB1.out, NewAt.nil⟩
  | true =>
    obtain ⟨_, hww, hee, _, h0, hmt, _, _, _⟩ := HM.out hok
    rw [hok] at CO
    have HLY : Hid (∀ r, AddIs s (runS a j) (-j.width) r → LayIs s a j r true) := fun r h => .inl ⟨hok, rfl, h⟩
    have CR := Lib.hid (fun W => run_i a j W ⟨h0, hmt⟩ hee)
    have hneg : IntKind.i64.wrap (-j.width) = -j.width := by rw [IntKind.wrap_i64]; omega
    unfold jobV jobA at CR
    unfold spV runS at CA
    dsimp only at CA
    clear hok HM h0 hmt hee hww
    go_enter Try.func31, Try.ntmps31
    go_upto_region 1 with fail
    generalize w.alloc (.cells #[.int .i64 j.id, .string j.user, .int .i64 j.width, .int .i64 j.est, .int .i64 j.prio, .int .i64 j.sub, .int .i64 j.state, .int .i64 j.start, .int .i64 j.fin] 45) = W0 at *
    obtain ⟨y, y0, y1, y2, y3, y4, y5, y6, y7, y8, _, _, _, _, _, _, _, _, _⟩ := HX.out
    go_wp2_with fail
    refine CO.out.mono ?_
    rintro e w1 ⟨rfl, hb1⟩
    have HB1 := Lib.hid (thenS HB.out hb1)
    obtain ⟨z, z0, z1, z2, z3, z4, z5, z6, z7, z8, _, _, _, _, _, _, _, _, _⟩ := HX.out.below hb1
    clear hb1 CO y y0 y1 y2 y3 y4 y5 y6 y7 y8
    go_wp2_with fail
    go_region_held3 (fun w' => w'.cell? ⟨w.heap.size, 0, none⟩ = some (.int .i64 j.id) ∧ w'.cell? ⟨w.heap.size, 1, none⟩ = some (.string j.user) ∧ w'.cell? ⟨w.heap.size, 2, none⟩ = some (.int .i64 j.width) ∧ w'.cell? ⟨w.heap.size, 3, none⟩ = some (.int .i64 j.est) ∧ w'.cell? ⟨w.heap.size, 4, none⟩ = some (.int .i64 j.prio) ∧ w'.cell? ⟨w.heap.size, 5, none⟩ = some (.int .i64 j.sub) ∧ w'.cell? ⟨w.heap.size, 6, none⟩ = some (.int .i64 j.state) ∧ w'.cell? ⟨w.heap.size, 7, none⟩ = some (.int .i64 j.start) ∧ w'.cell? ⟨w.heap.size, 8, none⟩ = some (.int .i64 j.fin) ∧ w.heap.size < w'.heap.size)
      (first | go_keep | (go_split_ands; exact keep_job (by assumption) (by assumption) (by assumption) (by assumption) (by assumption) (by assumption) (by assumption) (by assumption) (by assumption) (by assumption) (by assumption)))
      (first
        | (go_at_call 46; refine (CR.out _).mono ?_; rintro e w2 ⟨rfl, hb2⟩)
        | (go_at_call 45; refine (CA.out _ (thenS HB1.out (below_of_drew hb2))).mono ?_; rintro e w3 ⟨v3, r3, rfl, hs3, ha3, hb3, hn3⟩))
    have hb23 := thenS (thenS HB1.out (below_of_drew hb2)) hb3
    have hnew : NewAt w.heap.size v3 := hn3.mono (thenS HB1.out (below_of_drew hb2)).size
    have HS := Lib.hid hs3
    have HA := Lib.hid (HLY.out _ ha3)
    have HBB := Lib.hid hb23
    have HNW := Lib.hid hnew
    clear hs3 ha3 hb3 hb2 hb23 hn3 hnew CR CA HLY z z0 z1 z2 z3 z4 z5 z6 z7 z8
    go_wp2_with fail
    go_ret2
    exact ⟨_, r3, true, rfl, HS.out, HA.out, HBB.out, HNW.out⟩
end Go.Proofs.Ytophhiejggnaeaa.ShaWalk
namespace Go.Proofs.Ytophhiejggnaeaa.PasWalk
open Go.RowKit Go.Proofs.Ytophhiejggnaeaa.SpanPlain Go.Proofs.Ytophhiejggnaeaa.StepPlain Go.Proofs.Ytophhiejggnaeaa.GapPlain Go.Proofs.Ytophhiejggnaeaa.JobPlain Go.Proofs.Ytophhiejggnaeaa.OrdPlain Go.Proofs.Ytophhiejggnaeaa.ApiPlain Go.Proofs.Ytophhiejggnaeaa.ShaPlain Go.Proofs.Ytophhiejggnaeaa.SlaPlain Go.Proofs.Ytophhiejggnaeaa.TogPlain Go.Proofs.Ytophhiejggnaeaa.PasPlain Go.Proofs.Ytophhiejggnaeaa.MulPlain Go.Proofs.Ytophhiejggnaeaa.Mem Go.Proofs.Ytophhiejggnaeaa.SpanMem Go.Proofs.Ytophhiejggnaeaa.StepMem Go.Proofs.Ytophhiejggnaeaa.JobMem Go.Proofs.Ytophhiejggnaeaa.OrdMem Go.Proofs.Ytophhiejggnaeaa.ApiMem Go.Proofs.Ytophhiejggnaeaa.SpanRef Go.Proofs.Ytophhiejggnaeaa.StepRef Go.Proofs.Ytophhiejggnaeaa.GapRef Go.Proofs.Ytophhiejggnaeaa.ShaRef Go.Proofs.Ytophhiejggnaeaa.SlaRef
open Go.Proofs.Ytophhiejggnaeaa.StepWalk (NewAt)
open Go.Proofs.Ytophhiejggnaeaa.ShaWalk (LaySaysN ShSays)
section
variable {now : Int} {pr : Bool} {x : Pas} {js : List Jb} {k : Nat}
theorem drop_at (hk : k < js.length) : js.drop k = js[k] :: js.drop (k + 1) := by rw [List.getElem_cons_drop]
theorem up_start (hk : k < js.length) (h : fitF x.s now js[k] = now) : upL now pr x (js.drop k) = upL now pr (startP now x js[k]) (js.drop (k + 1)) := by
  rw [drop_at hk]
  conv => lhs; unfold upL
  rw [if_pos h]
theorem up_pass (hk : k < js.length) (h : ¬ fitF x.s now js[k] = now) (h2 : ¬ now < fitF x.s now js[k]) : upL now pr x (js.drop k) = upL now pr x (js.drop (k + 1)) := by
  rw [drop_at hk]
  conv => lhs; unfold upL
  rw [if_neg h, if_neg h2]
theorem up_late {a : Int} (hk : k < js.length) (h : fitF x.s now js[k] = a) (h2 : now < a) : upL now pr x (js.drop k) = (if pr = true then promP x a js[k] else x, js[k].id) := by
  rw [drop_at hk]
  conv => lhs; unfold upL
  rw [if_neg (by omega), if_pos (by omega), h]
end
structure UpEnd (x : Pas) (v : Value) (w : World) (N : Nat) (sv av bv : Value) (wr : World) : Prop where
  st : SpansIs x.s wr sv
  rows : OwnN 3 1 (w.heap.size + 1) wr av x.st.length (ivals x.st)
  prms : prmL.Is x.P wr bv
  newB : NewAt (w.heap.size + 1) bv
  src : sv = v ∨ NewAt (w.heap.size + 1) sv
  away : ∀ a m c, sv = .slice (some a) m c → 0 < x.s.length → a.block ≠ w.heap.size ∧ a.block ≠ N
  box : Box2 wr N av bv
  ret : Box2 wr w.heap.size (.slice none 0 0) (.slice none 0 0)
  lt : w.heap.size < N
  bel : Below w.heap.size w wr
section
variable {x : Pas} {v : Value} {w : World} {N : Nat} {sv av bv : Value} {wr w' : World}
theorem PasAt.up (h : PasAt x w N sv av (.slice none 0 0) wr) (hq : x.Q = []) (hs : sv = v ∨ NewAt (w.heap.size + 1) sv) : UpEnd x v w N sv av (.slice none 0 0) wr :=
  ⟨h.st, h.rows, .inl ⟨rfl, by simp [Pas.P, hq]⟩, NewAt.nil, hs, h.away, h.box, h.ret, h.lt, h.bel⟩
/-- A promise alone, as a literal slice, stored into the plan. -/
theorem PasAt.lit {q : Int × Jb} {O : List (Int × Jb)} (h : PasAt x w N sv av (.slice none 0 0) wr) (hq : x.Q = []) (hs : sv = v ∨ NewAt (w.heap.size + 1) sv) :
    UpEnd ⟨x.s, x.Q ++ [q], x.R, O⟩ v w N sv av (.slice (some ⟨wr.heap.size, 0, none⟩) 1 1) ((wr.setCell ⟨N, 1, none⟩ (.slice (some ⟨wr.heap.size, 0, none⟩) 1 1)).alloc (.cells #[.int .i64 q.2.id, .int .i64 q.1, .int .i64 0] 41)) := by
  have hlt := h.box.lt
  have hlt2 := h.lt
  have hP : (⟨x.s, x.Q ++ [q], x.R, O⟩ : Pas).P = [prmQ q] := by simp [Pas.P, hq]
  have hsz : (wr.setCell ⟨N, 1, none⟩ (.slice (some ⟨wr.heap.size, 0, none⟩) 1 1)).heap.size = wr.heap.size := by simp [World.setCell]
  have hr : Raw ((wr.setCell ⟨N, 1, none⟩ (.slice (some ⟨wr.heap.size, 0, none⟩) 1 1)).alloc (.cells #[.int .i64 q.2.id, .int .i64 q.1, .int .i64 0] 41)) ⟨wr.heap.size, 0, none⟩ (prmL.vals [prmQ q]) := by
    have h1 := Raw.alloc (wr.setCell ⟨N, 1, none⟩ (.slice (some ⟨wr.heap.size, 0, none⟩) 1 1)) #[.int .i64 q.2.id, .int .i64 q.1, .int .i64 0] 41
    rw [hsz] at h1
    exact h1
  have hk : ∀ b, b < wr.heap.size → b ≠ N → ((wr.setCell ⟨N, 1, none⟩ (.slice (some ⟨wr.heap.size, 0, none⟩) 1 1)).alloc (.cells #[.int .i64 q.2.id, .int .i64 q.1, .int .i64 0] 41)).heap[b]? = wr.heap[b]? := fun b hb hb2 =>
    (heap_alloc_old _ _ (by rw [hsz]; exact hb)).trans (Below.heap_setCell _ ⟨N, 1, none⟩ _ b hb2)
  refine ⟨spans_kept h.st (by simp [World.setCell]) fun a m c e hp => hk _ (spans_lt h.st a m c e hp) (h.away a m c e hp).2, (h.rows.set_apart (p := ⟨N, 1, none⟩) h.noA _).alloc _, ?_, fun a m c e => ?_, hs, h.away, (h.box.set1 _).alloc _, (h.ret.set_other (p := ⟨N, 1, none⟩) (by show N ≠ _; omega) _).alloc _, hlt2, ?_⟩
  · rw [hP]
    exact .inr ⟨_, 1, rfl, hr, Nat.le_refl _⟩
  · injection e with e
    injection e with e
    rw [← e]
    show w.heap.size + 1 ≤ wr.heap.size
    omega
  · have h2 := h.bel.setCell (p := ⟨N, 1, none⟩) (by show _ ≤ N; omega) (.slice (some ⟨wr.heap.size, 0, none⟩) 1 1)
    exact h2.alloc h2.size _
theorem UpEnd.steps {r : List Sp} {u : Value} (h : UpEnd x v w N sv av bv wr) (hb : Below wr.heap.size wr w') (hs : SpansIs r w' u) (hn : NewAt wr.heap.size u) : UpEnd ⟨r, x.Q, x.R, x.O⟩ v w N u av bv w' := by
  have hlt := h.box.lt
  have hlt2 := h.lt
  exact ⟨hs, h.rows.below hb, h.prms.below hb, h.newB, .inr (hn.mono (by omega)), (fun a m c e _ => by have := hn a m c e; omega), h.box.below hb, h.ret.below hb, h.lt, thenS h.bel hb⟩
/-- What is told of a class. -/
def UpSays (x : Pas) (v : Value) (w : World) (e : Ending) (w' : World) : Prop :=
  ∃ a b c, e = .returned (.tuple #[.agg #[a, b], c]) ∧ IntsAt x.st w' a ∧ Src w' a x.st.length (ivals x.st) ∧ prmL.Is x.P w' b ∧ SpansIs x.s w' c ∧ Below w.heap.size w w' ∧ NewAt w.heap.size a ∧ NewAt w.heap.size b ∧ (c = v ∨ NewAt w.heap.size c)
theorem UpEnd.done {W : World} (h : UpEnd x v w N sv av bv wr) (hW : W = (wr.setCell ⟨w.heap.size, 0, none⟩ av).setCell ⟨w.heap.size, 1, none⟩ bv) : Box2 W w.heap.size av bv ∧ UpSays x v w (.returned (.tuple #[.agg #[av, bv], sv])) W := by
  subst hW
  have hlt2 := h.lt
  have hk : ∀ b', b' ≠ w.heap.size → ((wr.setCell ⟨w.heap.size, 0, none⟩ av).setCell ⟨w.heap.size, 1, none⟩ bv).heap[b']? = wr.heap[b']? := fun b' h2 =>
    (Below.heap_setCell _ ⟨w.heap.size, 1, none⟩ _ b' h2).trans (Below.heap_setCell _ ⟨w.heap.size, 0, none⟩ _ b' h2)
  have hsz : wr.heap.size ≤ ((wr.setCell ⟨w.heap.size, 0, none⟩ av).setCell ⟨w.heap.size, 1, none⟩ bv).heap.size := by simp [World.setCell]
  have ho := (h.rows.set_apart (p := ⟨w.heap.size, 0, none⟩) (fun q => by have := (h.rows.block_lt q).1; simp at this; omega) av).set_apart (p := ⟨w.heap.size, 1, none⟩) (fun q => by have := (h.rows.block_lt q).1; simp at this; omega) bv
  refine ⟨(h.ret.set0 _).set1 _, av, bv, sv, rfl, IntsAt.own ho rfl, ho.src, is_kept h.prms hsz (fun a m c e _ => hk _ (by have := h.newB a m c e; omega)), spans_kept h.st hsz (fun a m c e hp => hk _ (h.away a m c e hp).1), (h.bel.setCell (p := ⟨w.heap.size, 0, none⟩) (Nat.le_refl _) _).setCell (p := ⟨w.heap.size, 1, none⟩) (Nat.le_refl _) _, (NewAt.own h.rows (Nat.le_refl _)).mono (Nat.le_succ _), h.newB.mono (Nat.le_succ _), h.src.imp id fun q => q.mono (Nat.le_succ _)⟩
end
/-- What is so in each round: the jobs ahead are laid, or have no shadow. -/
structure UpLoop (s : List Sp) (now : Int) (pr : Bool) (js : List Jb) (v : Value) (w : World) (N k : Nat) (x : Pas) (sv av : Value) (wr : World) : Prop where
  is : upL now pr (Pas.new s) js = upL now pr x (js.drop k)
  noQ : x.Q = []
  len : x.s.length ≤ s.length + 3 * x.R.length
  num : x.R.length ≤ k
  src : sv = v ∨ NewAt (w.heap.size + 1) sv
  mem : PasAt x w N sv av (.slice none 0 0) wr
section
variable {s : List Sp} {now : Int} {pr : Bool} {js : List Jb} {v : Value} {w : World} {N k : Nat} {x : Pas} {sv av sv' av' : Value} {wr w' : World}
theorem UpLoop.start (h : UpLoop s now pr js v w N k x sv av wr) (hk : k < js.length) (hn : 0 ≤ now) (hok : okG x.s now js[k].width js[k].est = true) (hs : NewAt (w.heap.size + 1) sv') (hm : PasAt (startP now x js[k]) w N sv' av' (.slice none 0 0) w') : UpLoop s now pr js v w N (k + 1) (startP now x js[k]) sv' av' w' := by
  refine ⟨h.is.trans (up_start hk (ok_fit hn hok)), h.noQ, ?_, ?_, .inr hs, hm⟩
  · have := layL_len hok
    have := h.len
    show (layL x.s now js[k]).length ≤ s.length + 3 * (x.R ++ [js[k]]).length
    rw [List.length_append, List.length_singleton]
    omega
  · have := h.num
    simp [startP]
    omega
theorem UpLoop.pass (h : UpLoop s now pr js v w N k x sv av wr) (hk : k < js.length) (hn : 0 ≤ now) (hf : fitF x.s now js[k] = -1) (hm : PasAt x w N sv av (.slice none 0 0) w') : UpLoop s now pr js v w N (k + 1) x sv av w' :=
  ⟨h.is.trans (up_pass hk (by omega) (by omega)), h.noQ, h.len, Nat.le_succ_of_le h.num, h.src, hm⟩
theorem UpLoop.late {a : Int} (h : UpLoop s now pr js v w N k x sv av wr) (hk : k < js.length) (hf : fitF x.s now js[k] = a) (ha : now < a) : (upL now pr (Pas.new s) js).1 = if pr = true then promP x a js[k] else x := by
  rw [h.is, up_late hk hf ha]
theorem UpLoop.all (h : UpLoop s now pr js v w N js.length x sv av wr) : (upL now pr (Pas.new s) js).1 = x := by
  rw [h.is, List.drop_length]
  rfl
end
set_option maxRecDepth 100000 in
set_option maxHeartbeats 1600000 in
theorem up_m (s : List Sp) (now : Int) (js : List Jb) (pr : Bool) (v u : Value) (w : World) (hv : SpansIs s w v) (hu : JobsIs js w u) (hn : 0 ≤ now) (hs : s.length + 3 * js.length ≤ 1000) :
    Calls Try.prog 21 #[v, .int .i64 now, u, .bool pr] w (UpSays (upL now pr (Pas.new s) js).1 v w) := by
  have HV := Lib.hid hv
  have HVL := Lib.hid (spans_lt hv)
  have HN0 := Lib.hid hn
  obtain ⟨B, d, rfl, _, hB⟩ := hu.open_
  have HJB := Lib.hid hB
  obtain ⟨A, c, rfl, _⟩ := hv.open_
  have HR0 := Lib.hid (Box2.new w (.slice none 0 0) (.slice none 0 0) 37)
  have HB0 := Lib.hid (box_s w (.cells #[.slice none 0 0, .slice none 0 0] 37))
  have hsz : (w.alloc (.cells #[.slice none 0 0, .slice none 0 0] 37)).heap.size = w.heap.size + 1 := by simp
  have HSZ := Lib.hid hsz
  clear hv hu hB hn hsz
  go_enter Try.func21, Try.ntmps21
  go_upto_region 1 with fail
  generalize w.alloc (.cells #[.slice none 0 0, .slice none 0 0] 37) = W0 at *
  have HX1 := Lib.hid (Box2.new W0 (.slice none 0 0) (.slice none 0 0) 37)
  have HR1 := Lib.hid (HR0.out.alloc (.cells #[.slice none 0 0, .slice none 0 0] 37))
  have HB1 := Lib.hid (thenS HB0.out (box_s W0 (.cells #[.slice none 0 0, .slice none 0 0] 37)))
  obtain ⟨N, hN⟩ : ∃ N, N = W0.heap.size := ⟨_, rfl⟩
  have HLT : Hid (w.heap.size < N) := by show _ < _; rw [hN, HSZ.out]; omega
  go_upto_region 2 with fail
  rw [← hN] at HX1 ⊢
  clear hN HR0 HB0 HSZ
  generalize W0.alloc (.cells #[.slice none 0 0, .slice none 0 0] 37) = W1 at *
  have HVW := Lib.hid (HV.out.below HB1.out)
  have HL0 : Hid (UpLoop s now pr js (.slice A s.length c) w N 0 (Pas.new s) (.slice A s.length c) (.slice none 0 0) W1) :=
    ⟨rfl, rfl, by simp [Pas.new], by simp [Pas.new], .inl rfl, PasAt.begin HVW.out (fun a m c e hp => by have := HVL.out a m c e hp; have := HLT.out; omega) HX1.out HR1.out HLT.out HB1.out⟩
  clear HVW HV HVL HX1 HR1 HB1 HLT
  go_upto_block 0 with fail
  go_cut [11] (fun sv wc => ∃ av bv, Hid (UpEnd (upL now pr (Pas.new s) js).1 (.slice A s.length c) w N sv av bv wc))
  case first =>
    go_wp2_with fail
    go_loopw [11, 22] (fun sv i wr => ∃ (k : Nat) (x : Pas) (av : Value), i = .int .i64 k ∧ k ≤ js.length ∧ Hid (UpLoop s now pr js (.slice A s.length c) w N k x sv av wr)) (fun _ i _ => js.length - (intOf i).toNat)
    case atStart => exact ⟨0, _, _, rfl, Nat.zero_le _, HL0.out⟩
    case round =>
      obtain ⟨k, x, av, rfl, hk, HL⟩ := hrel
      by_cases hlt : k < js.length
      · obtain ⟨bd, rfl, hat⟩ := HJB.out k hlt
        have HP := Lib.hid HL.out.mem
        have HSRC := Lib.hid HL.out.src
        have HNQ := Lib.hid HL.out.noQ
        obtain ⟨y, y0, y1, y2, y3, y4, y5, y6, y7, y8⟩ := hat.below HP.out.bel
        have hlt2 : (k : Int) < (js.length : Int) := by omega
        have i0 : (0 : Int) ≤ (k : Int) := Int.natCast_nonneg _
        have HLEN : Hid (x.s.length ≤ 1000) := by show _ ≤ _; have := HL.out.len; have := HL.out.num; omega
        have hstl : x.st.length ≤ 1000 := by have := HL.out.num; rw [st_len]; omega
        have HSTART := Lib.hid (fun sv' av' w' h q m => HL.out.start (sv' := sv') (av' := av') (w' := w') hlt HN0.out h q m)
        have HPASS := Lib.hid (fun w' h m => HL.out.pass (w' := w') hlt HN0.out h m)
        have HLATE := Lib.hid (fun a h q => HL.out.late (a := a) hlt h q)
        obtain ⟨j, hj2⟩ : ∃ j, j = js[k] := ⟨_, rfl⟩
        rw [← hj2] at y0 y1 y2 y3 y4 y5 y6 y7 y8 HSTART HPASS HLATE
        have hkl : k ≤ 1000 := by omega
        have HX := Lib.hid (JobBox.new wr j 45)
        have HP1 := Lib.hid (HP.out.alloc (.cells #[.int .i64 j.id, .string j.user, .int .i64 j.width, .int .i64 j.est, .int .i64 j.prio, .int .i64 j.sub, .int .i64 j.state, .int .i64 j.start, .int .i64 j.fin] 45))
        obtain ⟨J, hJ⟩ : ∃ J, J = wr.heap.size := ⟨_, rfl⟩
        have HJN : Hid (N < J) := by show N < J; rw [hJ]; exact HP.out.box.lt
        obtain ⟨A2, c2, hsv, _⟩ := HP.out.st.open_
        obtain ⟨A3, c3, hav⟩ := HP.out.rows.shape
        subst hsv
        subst hav
        clear hj2 hat HL HP HL0
        go_upto_region 6 with fail
        generalize wr.alloc (.cells #[.int .i64 j.id, .string j.user, .int .i64 j.width, .int .i64 j.est, .int .i64 j.prio, .int .i64 j.sub, .int .i64 j.state, .int .i64 j.start, .int .i64 j.fin] 45) = W2 at *
        rw [← hJ] at HX ⊢
        clear hJ y y0 y1 y2 y3 y4 y5 y6 y7 y8
        obtain ⟨y, y0, y1, y2, y3, y4, y5, y6, y7, y8, _, _, _, _, _, _, _, _, _⟩ := HX.out
        have CL := Lib.hid (ShaWalk.layN x.s now j _ W2 HP1.out.st HLEN.out)
        unfold jobV jobA at CL
        go_wp2_with fail
        refine CL.out.mono ?_
        rintro e w3 ⟨v3, r3, b3, rfl, hs3, hly3, hb3, hn3⟩
        have HX3 := Lib.hid (HX.out.below hb3)
        clear CL y y0 y1 y2 y3 y4 y5 y6 y7 y8
        rcases hly3 with ⟨hok, rfl, hadd⟩ | ⟨hok, rfl, rfl⟩
        · obtain rfl := layL_of hok hadd
          have HP3 := Lib.hid (HP1.out.steps hb3 hs3 hn3)
          have HNW3 : Hid (NewAt (w.heap.size + 1) v3) := hn3.mono (by have := HP1.out.box.lt; have := HP1.out.lt; omega)
          obtain ⟨Ar, cr, hv3, _⟩ := hs3.open_
          subst hv3
          have HP4 := Lib.hid (HP3.out.alloc (.cells #[.int .i64 j.id] 3))
          have HO4 : Hid (OwnN 3 1 (w.heap.size + 1) (w3.alloc (.cells #[.int .i64 j.id] 3)) (.slice A3 x.st.length c3) x.st.length (ivals x.st)) := HP4.out.rows
          obtain ⟨q9, q0, q1, _, _⟩ := HP3.out.box
          obtain ⟨y, y0, _, _, _, _, _, _, _, _, _, _, _, _, _, _, _, _, _⟩ := HX3.out
          clear hs3 hadd hb3 hn3 HP1 HX HX3 HPASS HLATE
          go_wp2_with (at_builtin; refine push_sep ints_t rfl (.tmp 35) (.tmp 38) rfl (w.heap.size + 1) _ _ _ rfl HO4.out ⟨w3.heap.size, 0, none⟩ 1 1 [.int .i64 j.id] rfl rfl ?a1 Mem.one_cell ?a2 ?_)
          case a1 => exact Raw.alloc w3 _ _
          case a2 => omega
          intro A5 c5 w4 ho4 hb4 hg4 hs4
          obtain ⟨e9, e0, e1, ef0, ef1⟩ := HP4.out.boxA hg4
          have HN4 := Lib.hid (HSTART.out _ _ _ hok HNW3.out (HP4.out.start ho4 hb4 hg4 hs4))
          clear ho4 hb4 hg4 hs4 HP4 HP3 HO4 HSTART q9 q0 q1 y y0 hok
          go_wp2_with fail
          exact ⟨⟨k + 1, startP now x j, _, by go_num, by omega, HN4.out⟩, by simp [intOf] <;> omega⟩
        · have HP3 := Lib.hid (HP1.out.below hb3)
          obtain ⟨Ar, cr, hv3, _⟩ := hs3.open_
          subst hv3
          have HNO := Lib.hid hok
          clear hs3 hb3 hn3 HP1 HX hok HSTART
          have CO := Lib.hid (ShaWalk.ofShS x.s now j _ w3 HP3.out.st HLEN.out)
          unfold jobV jobA at CO
          obtain ⟨y, y0, y1, y2, y3, y4, y5, y6, y7, y8, _, _, _, _, _, _, _, _, _⟩ := HX3.out
          go_wp2_with fail
          refine CO.out.mono ?_
          rintro e w5 ⟨a, p, b5, rfl, hsh, hb5⟩
          have HP5 := Lib.hid (HP3.out.below hb5)
          have HX5 := Lib.hid (HX3.out.below hb5)
          have HSH := Lib.hid hsh.1
          clear hb5 hsh CO HP3 HX3 y y0 y1 y2 y3 y4 y5 y6 y7 y8
          cases b5 with
          | false =>
            have HN4 := Lib.hid (HPASS.out _ (sh_no HSH.out) HP5.out)
            clear HPASS HLATE HP5 HX5 HSH
            go_wp2_with fail
            exact ⟨⟨k + 1, x, _, by go_num, by omega, HN4.out⟩, by simp [intOf] <;> omega⟩
          | true =>
            have HLT := Lib.hid (sh_late HSH.out HNO.out)
            have HE := Lib.hid (HLATE.out a (sh_yes HSH.out) HLT.out.1)
            clear HPASS HLATE
            cases pr with
            | false =>
              have HEND := Lib.hid (HP5.out.up HNQ.out HSRC.out)
              rw [if_neg (by decide)] at HE
              have HEND2 : Hid (UpEnd (upL now false (Pas.new s) js).1 (.slice A s.length c) w N (.slice A2 x.s.length c2) (.slice A3 x.st.length c3) (.slice none 0 0) w5) := by rw [HE.out]; exact HEND
              clear HEND HP5 HX5 HSH HLT HE HSRC HNQ
              go_wp2_with fail
              go_meet
              exact ⟨_, _, HEND2⟩
            | true =>
              rw [if_pos rfl] at HE
              have HM6 := Lib.hid (HP5.out.lit (q := (a, j)) (O := x.O ++ [(a, j)]) HNQ.out HSRC.out)
              have HX6 : Hid (JobBox ((w5.setCell ⟨N, 1, none⟩ (.slice (some ⟨w5.heap.size, 0, none⟩) 1 1)).alloc (.cells #[.int .i64 j.id, .int .i64 a, .int .i64 0] 41)) J j) := by
                have hJ1 := HX5.out.lt
                exact HX5.out.of_block (by simp [World.setCell]; omega) ((heap_alloc_old _ _ (by simp [World.setCell]; exact hJ1)).trans (Below.heap_setCell _ ⟨N, 1, none⟩ _ J (by show J ≠ N; have := HJN.out; omega)))
              obtain ⟨q9, q0, q1, qf0, qf1⟩ := HP5.out.box
              obtain ⟨y, y0, _, _, _, _, _, _, _, _, _, _, _, _, _, _, _, _, _⟩ := HX5.out
              go_upto_region 14 with fail
              clear HP5 HX5 q9 q0 q1 qf0 qf1 y y0
              generalize (w5.setCell ⟨N, 1, none⟩ (.slice (some ⟨w5.heap.size, 0, none⟩) 1 1)).alloc (.cells #[.int .i64 j.id, .int .i64 a, .int .i64 0] 41) = w6 at *
              have CL := Lib.hid (ShaWalk.layN x.s a j _ w6 HM6.out.st HLEN.out)
              unfold jobV jobA at CL
              obtain ⟨y, y0, y1, y2, y3, y4, y5, y6, y7, y8, _, _, _, _, _, _, _, _, _⟩ := HX6.out
              go_wp2_with fail
              refine CL.out.mono ?_
              rintro e w7 ⟨v7, r7, b7, rfl, hs7, hly7, hb7, hn7⟩
              rcases hly7 with ⟨hok, rfl, hadd⟩ | ⟨hok, _, _⟩
              · obtain rfl := layL_of hok hadd
                have HEND := Lib.hid (HM6.out.steps hb7 hs7 hn7)
                have HE2 : Hid ((⟨layL x.s a j, x.Q ++ [(a, j)], x.R, x.O ++ [(a, j)]⟩ : Pas) = (upL now true (Pas.new s) js).1) := HE.out.symm
                rw [HE2.out] at HEND
                obtain ⟨Ar, cr, hv7, _⟩ := hs7.open_
                subst hv7
                clear hs7 hok hadd hb7 hn7 HM6 HX6 CL y y0 y1 y2 y3 y4 y5 y6 y7 y8
                go_wp2_with fail
                go_meet
                exact ⟨_, _, HEND⟩
              · rw [HLT.out.2] at hok
                cases hok
      · obtain rfl : k = js.length := by omega
        have HEND := Lib.hid (HL.out.mem.up HL.out.noQ HL.out.src)
        rw [← HL.out.all] at HEND
        clear HL HL0
        go_wp2_with fail
        go_meet
        exact ⟨_, _, HEND⟩
  case rest =>
    obtain ⟨av, bv, HEND⟩ := hcut
    obtain ⟨A2, c2, hsv, _⟩ := HEND.out.st.open_
    obtain ⟨A3, c3, hav⟩ := HEND.out.rows.shape
    obtain ⟨A4, c4, hbv, _, _⟩ := prms_open HEND.out.prms
    subst hsv
    subst hav
    subst hbv
    have HD := Lib.hid (HEND.out.done rfl)
    obtain ⟨y, y0, y1, _, _⟩ := HEND.out.box
    obtain ⟨z, z0, z1, zf0, zf1⟩ := HEND.out.ret
    clear HEND HL0 HJB
    generalize (upL now pr (Pas.new s) js).1 = X at *
    go_wp2_with fail
    obtain ⟨r, r0, r1, _, _⟩ := HD.out.1
    generalize (wc.setCell ⟨w.heap.size, 0, none⟩ (.slice A3 X.st.length c3)).setCell ⟨w.heap.size, 1, none⟩ (.slice A4 X.P.length c4) = w8 at *
    exact bodyPost_ret (v := .tuple #[.agg #[.slice A3 X.st.length c3, .slice A4 X.P.length c4], .slice A2 X.s.length c2]) (by simp [results, Try.results21, go_sem, r0, r1]) rfl HD.out.2
end Go.Proofs.Ytophhiejggnaeaa.PasWalk
