/-
  The walks of layer 12's code: the library's slices.Clone at bools; with, behind.
-/
import Derived.Test.YtnojminhbakfaaaSubWalkA
import Derived.StillTailTactics
import Derived.Deep.RegionHeld3
import Derived.IntWalk
namespace Go.Proofs.Ytnojminhbakfaaa.SubWalk
open Go.RowKit Go.Proofs.Ytnojminhbakfaaa.SubPlain Go.Proofs.Ytnojminhbakfaaa.Mem Go.Proofs.Ytnojminhbakfaaa.SubRef
theorem bools_t : ElemT Try.prog 51 4 1 1 := ElemT.mk_ (.bool false) Try.underlying51 (by kernel_rfl) rfl (by decide) (by decide)
def bvals (n : Nat) (f : Nat → Bool) : List Value := (List.range n).map fun i => .bool (f i)
theorem bvals_len (n : Nat) (f : Nat → Bool) : (bvals n f).length = n := by simp [bvals]
theorem bvals_at {n : Nat} (f : Nat → Bool) {i : Nat} (h : i < n) : (bvals n f)[i]? = some (.bool (f i)) := by simp [bvals, h]
theorem bvals_cell (n : Nat) (f : Nat → Bool) : ∀ u ∈ bvals n f, u.oneCell' = true := by
  intro u hu
  obtain ⟨i, _, rfl⟩ := List.mem_map.1 hu
  rfl
theorem bvals_set {n k : Nat} (f : Nat → Bool) (b : Bool) (h : k < n) : (bvals n f).set k (.bool b) = bvals n (fun i => if i = k then b else f i) := by
  refine List.ext_getElem (by simp [bvals]) fun i h1 h2 => ?_
  simp only [bvals, List.getElem_set, List.getElem_map, List.getElem_range]
  by_cases e : k = i
  · subst e; simp
  · rw [if_neg e, if_neg (fun h => e h.symm)]
theorem bvals_congr {n : Nat} {f g : Nat → Bool} (h : ∀ i, i < n → f i = g i) : bvals n f = bvals n g := List.map_congr_left fun i hi => by rw [h i (List.mem_range.1 hi)]
theorem raw_bools {n : Nat} {f : Nat → Bool} {w : World} {a : Addr} (h : Cells w (some a) n (fun i => .bool (f i))) : Raw w a (bvals n f) := by
  intro j u hu
  have hj : j < n := by have := (List.getElem?_eq_some_iff.1 hu).1; rwa [bvals_len] at this
  rw [bvals_at f hj] at hu
  injection hu with hu
  subst hu
  obtain ⟨a2, e, hl, hc⟩ := h j hj
  injection e with e
  subst e
  exact ⟨hl, hc⟩
/-- A new row of bools. -/
def BoolsNew (n : Nat) (f : Nat → Bool) (w : World) (e : Ending) (w' : World) : Prop := ∃ v', e = .returned v' ∧ OwnR 4 1 w.heap.size w' v' n (bvals n f) ∧ Below w.heap.size w w'
theorem bools_eql (w : World) (a : Option Addr) (n c n' c' : Nat) : (binOp .eql 51 (.slice a n c) (.slice none n' c')).run Try.prog w = .ok (.bool a.isNone) w := Lib.run_eql_slice_nil w _ _ a n c n' c' Try.underlying51
set_option maxHeartbeats 1600000 in
theorem clone_b (n : Nat) (f : Nat → Bool) (a : Addr) (c : Nat) (w : World) (hr : Raw w a (bvals n f)) (hn : n ≤ 100000) : Calls Try.prog 33 #[.slice (some a) n c] w (BoolsNew n f w) := by
  have q22 := bools_eql
  have HR := Lib.hid hr
  have H1 := Lib.hid (bvals_cell n f)
  have HL := Lib.hid (bvals_len n f)
  clear hr
  generalize hx : bvals n f = xs at *
  have HX := Lib.hid hx
  clear hx
  go_enter Try.func33, Try.ntmps33
  go_wp2_with (at_builtin; refine push_raw bools_t rfl (.tmp 5) (.tmp 6) rfl w.heap.size _ _ _ rfl (OwnR.new w 4 1) a n c xs rfl ?h0 ?h1 H1.out ?h2 ?_)
  case h0 => rw [HL.out, Nat.mul_one]
  case h1 => exact HR.out.below ((Below.refl _ _).alloc (Nat.le_refl _) _)
  case h2 => omega
  intro v' w' ho hb
  have HO := Lib.hid ho
  have HB := Lib.hid (((Below.refl _ _).alloc (Nat.le_refl _) _).trans hb)
  clear ho hb
  go_wp2_with fail
  go_ret
  exact ⟨_, rfl, by rw [HX.out]; exact HO.out, HB.out⟩
/-- Which sums there are if one more width may be taken. -/
def withF (f : Nat → Bool) (x : Nat) (i : Nat) : Bool := if x ≤ i then f i || f (i - x) else f i
/-- The same, up to k. -/
def mixF (f : Nat → Bool) (x k : Nat) (i : Nat) : Bool := if i < k then withF f x i else f i
theorem mix_zero (f : Nat → Bool) (x i : Nat) : mixF f x x i = f i := by
  unfold mixF withF
  by_cases h : i < x
  · rw [if_pos h, if_neg (by omega)]
  · rw [if_neg h]
theorem mix_succ {f : Nat → Bool} {x k : Nat} (h : x ≤ k) (i : Nat) : (if i = k then f k || f (k - x) else mixF f x k i) = mixF f x (k + 1) i := by
  unfold mixF withF
  by_cases e : i = k
  · subst e; rw [if_pos rfl, if_pos (by omega), if_pos h]
  · rw [if_neg e]
    by_cases h2 : i < k
    · rw [if_pos h2, if_pos (show i < k + 1 by omega)]
    · rw [if_neg h2, if_neg (show ¬ i < k + 1 by omega)]
theorem mix_end {f : Nat → Bool} {x k n : Nat} (h : n ≤ k) : bvals n (mixF f x k) = bvals n (withF f x) := bvals_congr fun i hi => by unfold mixF; rw [if_pos (by omega)]
/-- How the loop stands. -/
structure MoreAt (w : World) (n : Nat) (f : Nat → Bool) (x k : Nat) (v : Value) (wr : World) : Prop where
  own : OwnR 4 1 w.heap.size wr v n (bvals n (mixF f x k))
  below : Below w.heap.size w wr
theorem MoreAt.next {w wr : World} {n g c x k : Nat} {f : Nat → Bool} (h : MoreAt w n f x k (.slice (some ⟨g, 0, none⟩) n c) wr) (hx : x ≤ k) (hk : k < n) (hg : w.heap.size ≤ g) (b : Bool) (hb : b = (f k || f (k - x))) : MoreAt w n f x (k + 1) (.slice (some ⟨g, 0, none⟩) n c) (wr.setCell ⟨g, k, none⟩ (.bool b)) :=
  ⟨(h.own.set k (.bool b)).cast rfl (by rw [bvals_set _ _ hk]; exact bvals_congr fun i _ => by rw [hb]; exact mix_succ hx i), h.below.setCell hg _⟩
set_option maxRecDepth 100000 in
set_option maxHeartbeats 1600000 in
theorem with_b (n : Nat) (f : Nat → Bool) (x : Nat) (a : Addr) (c : Nat) (w : World) (hr : Raw w a (bvals n f)) (hn : n ≤ 257) (hx : x ≤ 256) : Calls Try.prog 28 #[.slice (some a) n c, .int .i64 x] w (BoolsNew n (withF f x) w) := by
  have CC := Lib.hid (clone_b n f a c w hr (by omega))
  have HR := Lib.hid hr
  clear hr
  go_enter Try.func28, Try.ntmps28
  go_wp2_with fail
  refine CC.out.mono ?_
  rintro e w1 ⟨v1, rfl, ho1, hb1⟩
  have HM1 : Hid (MoreAt w n f x x v1 w1) := Lib.hid ⟨ho1.cast rfl (bvals_congr fun i _ => (mix_zero f x i).symm), hb1⟩
  obtain ⟨g, cg, rfl, hg, _⟩ := ho1.form
  have HG := Lib.hid hg
  clear ho1 hb1 hg
  go_wp2_with fail
  go_loopw [6] (fun i wr => ∃ k : Nat, i = .int .i64 k ∧ x ≤ k ∧ k ≤ 257 ∧ Hid (MoreAt w n f x k (.slice (some ⟨g, 0, none⟩) n cg) wr)) (fun i _ => n - (intOf i).toNat)
  case atStart => exact ⟨x, rfl, Nat.le_refl _, by omega, HM1.out⟩
  case round =>
    clear HM1
    obtain ⟨k, rfl, hxk, hk, HM⟩ := hrel
    by_cases hlt : k < n
    · obtain ⟨g2, c2, e2, _, hg2, hn2, _, hraw2, hf2⟩ := HM.out.own.form
      injection e2 with e2 _ e3
      injection e2 with e2
      injection e2 with e2
      subst e2
      have k0 : (0 : Int) ≤ (k : Int) := Int.natCast_nonneg _
      have k1 : (k : Int) < (n : Int) := by omega
      have k2 : (x : Int) ≤ (k : Int) := by omega
      have hc1 : wr.cell? (a.add k) = some (.bool (f k)) := (HR.out.below HM.out.below k _ (bvals_at f hlt)).2
      have hc2 : wr.cell? (a.add (k - x)) = some (.bool (f (k - x))) := (HR.out.below HM.out.below (k - x) _ (bvals_at f (by omega))).2
      have hc3 : wr.cell? ⟨g, k, none⟩ = some (.bool (mixF f x k k)) := by
        have := (hraw2 k _ (bvals_at _ hlt)).2
        rwa [add_flat] at this
      have hf3 : wr.frozen? ⟨g, k, none⟩ = false := hf2 k
      have ht : ((k : Int) - (x : Int)).toNat = k - x := by omega
      have HN := Lib.hid (fun b hb => HM.out.next hxk hlt HG.out b hb)
      clear hraw2 hf2 HM
      generalize f (k - x) = b2 at *
      cases hb1 : f k
      · rw [hb1] at hc1
        have HN2 := Lib.hid (HN.out b2 (by rw [hb1]; rfl))
        clear hb1 HN
        go_wp2_with fail
        exact ⟨⟨k + 1, by go_num, by omega, by omega, HN2.out⟩, by simp [intOf] <;> omega⟩
      · rw [hb1] at hc1
        have HN2 := Lib.hid (HN.out true (by rw [hb1]; rfl))
        clear hb1 HN
        go_wp2_with fail
        exact ⟨⟨k + 1, by go_num, by omega, by omega, HN2.out⟩, by simp [intOf] <;> omega⟩
    · have HE : Hid (bvals n (mixF f x k) = bvals n (withF f x)) := mix_end (by omega)
      go_wp2_with fail
      go_ret
      exact ⟨_, rfl, by rw [← HE.out]; exact HM.out.own, HM.out.below⟩
end Go.Proofs.Ytnojminhbakfaaa.SubWalk
