/-
  The walk of layer 4's code: the times at which something turns, out of the map, in order.
-/
import Derived.Test.YtjkninldenoanaaStepWalkI
import Derived.Sort.OwnSortedInts
namespace Go.Proofs.Ytjkninldenoanaa.StepWalk
open Go.RowKit Go.Proofs.Ytjkninldenoanaa.SpanPlain Go.Proofs.Ytjkninldenoanaa.StepPlain Go.Proofs.Ytjkninldenoanaa.Mem Go.Proofs.Ytjkninldenoanaa.SpanMem Go.Proofs.Ytjkninldenoanaa.StepMem Go.Proofs.Ytjkninldenoanaa.SpanRef Go.Proofs.Ytjkninldenoanaa.StepRef

/-- The keys met so far. -/
structure Got (D : MapD) (left : Lit → Bool) (ks : List Int) : Prop where
  once : ks.Nodup
  mem : ∀ x, x ∈ ks ↔ Maps.has D (ik x) = true ∧ left (ik x) = false
theorem Got.start (D : MapD) : Got D (Maps.has D) [] := ⟨List.nodup_nil, fun x => by constructor <;> intro h <;> simp_all⟩
theorem same_ik (x y : Int) : (ik x).sameKey (ik y) = decide (x = y) := by simp [ik, Lit.sameKey]
theorem Got.step {D : MapD} {left : Lit → Bool} {ks : List Int} (h : Got D left ks) {x : Int} (hl : left (ik x) = true) (hh : Maps.has D (ik x) = true) : Got D (fun z => left z && !z.sameKey (ik x)) (ks ++ [x]) := by
  have hx : x ∉ ks := fun hm => by have := ((h.mem x).1 hm).2; rw [hl] at this; cases this
  refine ⟨List.nodup_append.2 ⟨h.once, by simp, fun a ha b hb => by simp at hb; subst hb; exact fun e => hx (e ▸ ha)⟩, fun y => ?_⟩
  rw [List.mem_append, h.mem, same_ik]
  by_cases hy : y = x
  · subst hy; simp [hh]
  · simp [hy]
theorem Got.sorted {D : MapD} {left : Lit → Bool} {ks : List Int} {f : Int → Int} {K : Int → Bool} (h : Got D left ks) (hl : ∀ kl, left kl = false) (ht : Tells D f K) : Rise (ks.mergeSort fun x y => decide (x ≤ y)) ∧ ∀ x, x ∈ (ks.mergeSort fun x y => decide (x ≤ y)) ↔ K x = true := by
  have hp := List.mergeSort_perm ks (fun x y => decide (x ≤ y))
  have hs := List.pairwise_mergeSort (le := fun x y : Int => decide (x ≤ y)) (fun a b c h1 h2 => by simp at *; omega) (fun a b => by simp; omega) ks
  have hn : (ks.mergeSort fun x y => decide (x ≤ y)).Nodup := hp.nodup_iff.2 h.once
  refine ⟨?_, fun x => ?_⟩
  · refine (List.pairwise_and_iff.2 ⟨hs, hn⟩).imp fun {a b} h1 => ?_
    have := of_decide_eq_true h1.1
    have := h1.2
    omega
  · rw [hp.mem_iff, h.mem, ht.has, hl]; simp
theorem map_size {w : World} {b n : Nat} {D : MapD} (h : MapAt w b n D) : Maps.size D ≤ n := by
  obtain ⟨es, clock, _, _, hs, rfl⟩ := h
  rw [Maps.size_eq, length_sorted]
  simpa using hs
/-- What rising answers. -/
def RiseSays (K : Int → Bool) (b n : Nat) (D : MapD) (w : World) (e : Ending) (w' : World) : Prop := ∃ v ks, e = .returned v ∧ IntsIs ks w' v ∧ Rise ks ∧ (∀ x, x ∈ ks ↔ K x = true) ∧ ks.length ≤ n ∧ MapAt w' b n D ∧ Below w.heap.size w w'
theorem own_off {e : TypeId} {k base n r : Nat} {w : World} {v : Value} {xs : List Value} (h : OwnN e k base w v n xs) (hr : r < base) : v.ownBlock ≠ some r := fun hc => by have := (h.1.lt _ hc).1; omega
theorem own_kept {e : TypeId} {k base n r : Nat} {w w' : World} {v : Value} {xs : List Value} (h : OwnN e k base w v n xs) (hg : w.grownBy w' (some r)) (hr : r < base) : OwnN e k base w' v n xs :=
  ⟨h.1.kept hg (.inr (own_off h hr)), Nat.le_trans h.2 hg.size⟩
set_option maxRecDepth 100000 in
set_option maxHeartbeats 3200000 in
theorem risingS (f : Int → Int) (K : Int → Bool) (b n : Nat) (D : MapD) (w : World) (hm : MapAt w b n D) (ht : Tells D f K) (hn : n ≤ 1000) (t : Int) (hk : K t = true) : Calls Try.prog 38 #[.map (some b)] w (RiseSays K b n D w) := by
  have hbl := hm.lt
  have hsz := map_size hm
  have HM := Lib.hid hm
  have HT := Lib.hid ht
  have HK := Lib.hid hk
  clear hm ht hk
  go_enter Try.func38, Try.ntmps38
  go_wp2_with (at_range; refine wpList_range_own _ rfl _ 76 rfl 3 3 intLaw Try.underlying76 _ b n D rfl HM.out ?_; intro w0 hrg0 hg0 hs0)
  go_frame
  have HB0 : Hid (Below w.heap.size w w0) := ⟨hg0.os, hg0.tape, hg0.output, hg0.size, fun i hi => hg0.block i hi (by simp)⟩
  have HR0 := Lib.hid hrg0
  have hs1 : w.heap.size + 1 ≤ w0.heap.size := by omega
  clear hrg0 hg0 hs0
  go_loopw [3] (fun o wr => ∃ (left : Lit → Bool) (cnt : Nat) (ks : List Int) (v : Value), v = o ∧ wr.ranges Try.prog 3 (plainElem Try.prog 3) b w.heap.size n D left cnt ∧ Hid (OwnN 3 1 (w.heap.size + 1) wr v ks.length (ivals ks)) ∧ Hid (Got D left ks) ∧ ks.length + cnt ≤ n ∧ Hid (Below w.heap.size w wr))
    (fun _ wr => wr.rangeLeft b w.heap.size)
  case atStart => exact ⟨_, _, [], _, rfl, HR0.out, OwnN.nil hs1, Got.start D, by simpa using hsz, HB0.out⟩
  case round =>
    obtain ⟨left, cnt, ks, o, hov, hrg, HOW, HG, hlen, HBL⟩ := hrel
    subst hov
    go_wp2_with (at_next; refine wpList_next_ranges_ii _ rfl _ rfl 3 3 .i64 .i64 intLaw Try.underlying3 Try.underlying3 b w.heap.size n _ _ _ rfl hrg ?_ ?_)
    · intro hc0 hl0
      obtain ⟨hris, hmem⟩ := HG.out.sorted hl0 HT.out
      have hmap := hrg.owns
      have hkl : ks.length ≤ n := by omega
      have hl2 : (ks.mergeSort fun x y => decide (x ≤ y)).length = ks.length := List.length_mergeSort ks
      have hpos : ks.length ≠ 0 := fun h0 => by
        have := (hmem t).2 HK.out
        rw [List.eq_nil_of_length_eq_zero (by omega : (ks.mergeSort fun x y => decide (x ≤ y)).length = 0)] at this
        simp at this
      rcases HOW.out.1.2 with ⟨_, hn0⟩ | ⟨g, cap, cur, hv, hbase, hb, h1, h2, h3, h4⟩
      · exact absurd hn0 hpos
      · subst hv
        have hH : Go.Sort.Holds (Value.int .i64) wr g 0 ks.toArray := holds_of_blockI hb (by simpa [ivals] using h4)
        have hgl : g < wr.heap.size := (Array.getElem?_eq_some_iff.1 hb).1
        have HS := Lib.hid (Try.slices_Sort_int g 0 cap ks wr hH hgl (by omega))
        have HRO : Hid (∀ nn os, OwnR 3 1 (w.heap.size + 1) (Go.Sort.grow (Go.Sort.putRow (Value.int .i64) (Go.Sort.ahead wr nn) g 0 (ks.mergeSort fun x y => decide (x ≤ y)).toArray) os) (.slice (some ⟨g, 0, none⟩) ks.length cap) ks.length (ivals (ks.mergeSort fun x y => decide (x ≤ y)))) :=
          fun nn os => ⟨ownsRow_sortedI hl2 hbase hb h1 h2 h3, by simp, Nat.le_trans HOW.out.2 (grownBy_sortedI (w := wr) (g := g) (n := nn) (os := os) _).size⟩
        have HMP : Hid (∀ nn os, MapAt (Go.Sort.grow (Go.Sort.putRow (Value.int .i64) (Go.Sort.ahead wr nn) g 0 (ks.mergeSort fun x y => decide (x ≤ y)).toArray) os) b n D) := fun nn os => hmap.kept (grownBy_sortedI _) (by simp; omega)
        have HBS : Hid (∀ nn os, Below w.heap.size w (Go.Sort.grow (Go.Sort.putRow (Value.int .i64) (Go.Sort.ahead wr nn) g 0 (ks.mergeSort fun x y => decide (x ≤ y)).toArray) os)) := fun nn os => HBL.out.grown (grownBy_sortedI _) HBL.out.size (fun j hj => by cases hj; omega)
        have HRI := Lib.hid hris
        have HME := Lib.hid hmem
        have HL2 := Lib.hid hl2
        generalize (ks.mergeSort fun x y => decide (x ≤ y)) = ts at *
        clear hH hgl hb h1 h2 h3 h4 hris hmem hmap hrg hl2 HOW
        go_wp2_with fail
        refine HS.out.mono ?_
        rintro e w' ⟨rfl, nn, os, rfl⟩
        have HOx := Lib.hid (HRO.out nn os)
        have HMx := Lib.hid (HMP.out nn os)
        have HBx := Lib.hid (HBS.out nn os)
        clear HRO HMP HBS HS
        generalize Go.Sort.grow (Go.Sort.putRow (Value.int .i64) (Go.Sort.ahead wr nn) g 0 ts.toArray) os = w9 at *
        go_wp2_with fail
        go_ret
        exact ⟨_, ts, rfl, OwnR.ints HOx.out HL2.out.symm, HRI.out, HME.out, by have := HL2.out; omega, HMx.out, HBx.out⟩
    · intro x c w1 cnt1 hwx hwc hlx hat hrg1 hlt hg1 hs2 hen
      have hhas := Maps.has_true_of_atKey hat
      have HG1 := Lib.hid (HG.out.step hlx hhas)
      have HM0 := Lib.hid hrg.left_eq
      have HO1 := Lib.hid ((own_kept HOW.out hg1 (Nat.lt_succ_self _)).alloc (.cells #[.int .i64 x] 3))
      have hoff := own_off HO1.out (Nat.lt_succ_self w.heap.size)
      have hoffb := own_off HO1.out (show b < w.heap.size + 1 by omega)
      have HOFF := Lib.hid hoff
      have HOFFB := Lib.hid hoffb
      have HRG1 := Lib.hid hrg1
      have HB1 := Lib.hid ((HBL.out.grown hg1 HBL.out.size (fun j hj => by cases hj; exact Nat.le_refl _)).alloc (Nat.le_trans HBL.out.size hg1.size) (.cells #[.int .i64 x] 3))
      obtain ⟨B, cb, hsh⟩ := HOW.out.shape
      subst hsh
      clear hwc hlx hat hrg hrg1 hg1 hs2 hhas HOW HBL HG hoff hoffb
      go_wp2_with (at_builtin; refine push_own ints_t rfl (.tmp 11) (.tmp 13) rfl (w.heap.size + 1) _ _ _ rfl HO1.out _ 1 [.int .i64 x] rfl rfl ?h1a Mem.one_cell ?h1b ?_)
      case h1a => exact raw_at (by simp) #[.int .i64 x] _
      case h1b => omega
      intro v3 w3 ho3 hb3 hg3
      have hrg3 := (HRG1.out.alloc (.cells #[.int .i64 x] 3)).kept hg3 (fun e => HOFFB.out e.symm) (fun e => HOFF.out e.symm)
      have HO3 := Lib.hid ho3
      have HB3 := Lib.hid (HB1.out.trans (hb3.mono (Nat.le_succ _)))
      have HRG3 := Lib.hid hrg3
      clear ho3 hb3 hg3 hrg3 hen
      go_wp2_with fail
      exact ⟨⟨_, cnt1, ks ++ [x], _, rfl, HRG3.out, HO3.out.cast (by simp) (by rw [ivals_append]; rfl), HG1.out, by rw [List.length_append, List.length_singleton]; omega, HB3.out⟩, by rw [HRG3.out.left_eq, HM0.out]; exact hlt⟩
end Go.Proofs.Ytjkninldenoanaa.StepWalk
