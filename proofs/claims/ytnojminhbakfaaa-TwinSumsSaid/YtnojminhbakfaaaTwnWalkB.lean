/-
  The walks of layer 13's code: the library's slices.Repeat at one number, slices.Clone at numbers; with.
-/
import Derived.Test.YtnojminhbakfaaaTwnWalkA
import Derived.Test.YtnojminhbakfaaaSubWalkB
import Derived.Test.YtnojminhbakfaaaMove
import Derived.Test.YtnojminhbakfaaaShelf
import Derived.Lib.OwnBridge
import Derived.WalkSpells
import Derived.Deep.RegionLaw
import Derived.StillTailTactics
import Derived.Deep.RegionHeld3
import Derived.IntWalk
namespace Go.Proofs.Ytnojminhbakfaaa.TwnWalk
open Go.RowKit Go.Proofs.Ytnojminhbakfaaa.SubPlain Go.Proofs.Ytnojminhbakfaaa.ApiPlain Go.Proofs.Ytnojminhbakfaaa.TwnPlain Go.Proofs.Ytnojminhbakfaaa.Mem Go.Proofs.Ytnojminhbakfaaa.ApiMem Go.Proofs.Ytnojminhbakfaaa.SubRef Go.Proofs.Ytnojminhbakfaaa.TwnRef Go.Proofs.Ytnojminhbakfaaa.SubWalk
theorem nums_t : ElemT Try.prog 24 3 1 8 := ElemT.mk_ (.int .i64 0) Try.underlying24 (by kernel_rfl) rfl (by decide) (by decide)
def nvals (n : Nat) (f : Nat → Int) : List Value := (List.range n).map fun i => .int .i64 (f i)
theorem nvals_len (n : Nat) (f : Nat → Int) : (nvals n f).length = n := by simp [nvals]
theorem nvals_at {n : Nat} (f : Nat → Int) {i : Nat} (h : i < n) : (nvals n f)[i]? = some (.int .i64 (f i)) := by simp [nvals, h]
theorem nvals_cell (n : Nat) (f : Nat → Int) : ∀ u ∈ nvals n f, u.oneCell' = true := by
  intro u hu
  obtain ⟨i, _, rfl⟩ := List.mem_map.1 hu
  rfl
theorem nvals_set {n k : Nat} (f : Nat → Int) (b : Int) (h : k < n) : (nvals n f).set k (.int .i64 b) = nvals n (fun i => if i = k then b else f i) := by
  refine List.ext_getElem (by simp [nvals]) fun i h1 h2 => ?_
  simp only [nvals, List.getElem_set, List.getElem_map, List.getElem_range]
  by_cases e : k = i
  · subst e; simp
  · rw [if_neg e, if_neg (fun h => e h.symm)]
theorem nvals_congr {n : Nat} {f g : Nat → Int} (h : ∀ i, i < n → f i = g i) : nvals n f = nvals n g := List.map_congr_left fun i hi => by rw [h i (List.mem_range.1 hi)]
/-- A new row of numbers. -/
def NumsNew (n : Nat) (f : Nat → Int) (w : World) (e : Ending) (w' : World) : Prop := ∃ v', e = .returned v' ∧ OwnR 3 1 w.heap.size w' v' n (nvals n f) ∧ Below w.heap.size w w'
theorem nums_eql (w : World) (a : Option Addr) (n c n' c' : Nat) : (binOp .eql 24 (.slice a n c) (.slice none n' c')).run Try.prog w = .ok (.bool a.isNone) w := Lib.run_eql_slice_nil w _ _ a n c n' c' Try.underlying24
set_option maxHeartbeats 1600000 in
theorem clone_n (n : Nat) (f : Nat → Int) (a : Addr) (c : Nat) (w : World) (hr : Raw w a (nvals n f)) (hn : n ≤ 100000) : Calls Try.prog 31 #[.slice (some a) n c] w (NumsNew n f w) := by
  have q22 := nums_eql
  have HR := Lib.hid hr
  have H1 := Lib.hid (nvals_cell n f)
  have HL := Lib.hid (nvals_len n f)
  clear hr
  generalize hx : nvals n f = xs at *
  have HX := Lib.hid hx
  clear hx
  go_enter Try.func31, Try.ntmps31
  go_wp2_with (at_builtin; refine push_raw nums_t rfl (.tmp 5) (.tmp 6) rfl w.heap.size _ _ _ rfl (OwnR.new w 3 1) a n c xs rfl ?h0 ?h1 H1.out ?h2 ?_)
  case h0 => rw [HL.out, Nat.mul_one]
  case h1 => exact HR.out.below ((Below.refl _ _).alloc (Nat.le_refl _) _)
  case h2 => omega
  intro v' w' ho hb
  have HO := Lib.hid ho
  have HB := Lib.hid (((Below.refl _ _).alloc (Nat.le_refl _) _).trans hb)
  clear ho hb
  go_wp2_with fail
  go_ret
  exact ⟨_, rfl, by rw [HX.out]; exact HO.out, HB.out⟩
theorem make_nums (W : World) (N : Nat) (h : N ≤ 300) : (Instr.makeSlice 24 (.int .i64 (N : Int)) (.int .i64 (N : Int))).run Try.prog W = .ok (.slice (some ⟨W.heap.size, 0, none⟩) N N) (W.alloc (.cells (madeCells #[Value.int .i64 0] N) 3)) := by
  have h1 := run_make_row' (P := Try.prog) 24 3 (.int .i64 0) 8 Try.underlying24 (by kernel_rfl) rfl .i64 .i64 N (by omega) (by omega) W
  exact h1
/-- How the doubling stands: the first m numbers are x. -/
structure HalfAt (w : World) (x : Int) (g N m : Nat) (wr : World) : Prop where
  own : wr.ownsRow w.heap.size 3 1 (.slice (some ⟨g, 0, none⟩) N N) N (nvals N (fun i => if i < m then x else 0))
  below : Below w.heap.size w wr
theorem half_take {N m k : Nat} (x : Int) (h : m + k ≤ N) : (nvals N (fun i => if i < m then x else 0)).take m ++ nvals k (fun _ => x) ++ (nvals N (fun i => if i < m then x else 0)).drop (m + k) = nvals N (fun i => if i < m + k then x else 0) := by
  refine List.ext_getElem (by simp [nvals]; omega) fun i h1 h2 => ?_
  simp only [nvals, List.length_map, List.length_range] at h2
  rw [List.getElem_append]
  split
  · rename_i h3
    rw [List.getElem_append]
    split
    · rename_i h4
      simp only [nvals, List.length_take, List.length_map, List.length_range] at h4
      simp only [nvals, List.getElem_take, List.getElem_map, List.getElem_range]
      rw [if_pos (by omega), if_pos (by omega)]
    · rename_i h4
      simp only [nvals, List.length_append, List.length_take, List.length_map, List.length_range] at h3 h4
      simp only [nvals, List.getElem_map, List.getElem_range]
      rw [if_pos (by omega)]
  · rename_i h3
    simp only [nvals, List.length_append, List.length_take, List.length_map, List.length_range] at h3
    simp only [nvals, List.getElem_drop, List.getElem_map, List.getElem_range, List.length_append, List.length_take, List.length_map, List.length_range]
    rw [if_neg (by omega), if_neg (by omega)]
/-- A copy within the row: what it does, and how the row stands then. -/
theorem HalfAt.copy {w : World} {x : Int} {g N m : Nat} {wr : World} (h : HalfAt w x g N m wr) (hm : m ≤ N) (k dLen dCap : Nat) (a : Addr) (sLen sCap : Nat) (hk : Nat.min sLen dLen = k) (hmk : m + k ≤ N)
    (hsrc : ∀ j v, (nvals k (fun _ => x))[j]? = some v → wr.cell? (a.add j) = some v) :
    (∀ ty, (Builtin.copy_ #[24, 24] ty #[.slice (some ⟨g, m, none⟩) dLen dCap, .slice (some a) sLen sCap]).run Try.prog wr = .ok (goInt k) (wr.setCells g m (nvals k (fun _ => x)))) ∧ HalfAt w x g N (m + k) (wr.setCells g m (nvals k (fun _ => x))) := by
  have hg := own_cap h.own
  have h1 := own_copy nums_t h.own m dLen dCap a sLen sCap k (nvals k (fun _ => x)) hk (by rw [nvals_len, Nat.mul_one]) hsrc (nvals_cell _ _) (by rw [nvals_len, nvals_len]; exact hmk)
  refine ⟨h1.1, ⟨?_, below_wipe hg.2.2.1 _ _ _ h.below⟩⟩
  have h2 := h1.2.1
  rw [nvals_len, half_take x hmk] at h2
  exact h2
theorem u64_in {x : Nat} (h : x < 18446744073709551616) : IntKind.u64.wrap (x : Int) = (x : Int) := by
  show ((x : Int) % 18446744073709551616) = x
  omega
set_option maxRecDepth 100000 in
set_option maxHeartbeats 1600000 in
theorem repeat_n (x : Int) (a : Addr) (c : Nat) (w : World) (N : Nat) (hr : Raw w a [.int .i64 x]) (h1 : 1 ≤ N) (h2 : N ≤ 300) : Calls Try.prog 24 #[.slice (some a) 1 c, .int .i64 (N : Int)] w (NumsNew N (fun _ => x) w) := by
  have hmk := make_nums w N h2
  have HM := Lib.hid ((Try.bits_Mul 1 N (by decide) (by omega) w).mono fun _ _ h => (⟨h.1, h.2.symm⟩ : _ ∧ w = _))
  have hd0 : 1 * N / 18446744073709551616 = 0 := by omega
  have hd1 : 1 * N % 18446744073709551616 = N := by omega
  rw [hd0, hd1] at HM
  have hX0 : Hid (HalfAt w x w.heap.size N 0 (w.alloc (.cells (madeCells #[Value.int .i64 0] N) 3))) := Lib.hid ⟨by
    have h3 := World.ownsRow_lit (base := w.heap.size) (e := 3) (size := 1) w (madeCells #[Value.int .i64 0] N) N (Nat.le_refl _) (by unfold maxLen; omega) (by simp [madeCells])
    have e : (madeCells #[Value.int .i64 0] N).toList = nvals N (fun i => if i < 0 then x else 0) := by
      refine List.ext_getElem (by simp [madeCells, nvals]) fun i _ _ => ?_
      simp [madeCells, nvals, Nat.mod_one]
    rw [e] at h3
    exact h3, (Below.refl _ _).alloc (Nat.le_refl _) _⟩
  have n0 : (0 : Int) ≤ (N : Int) := Int.natCast_nonneg _
  have n1 : decide ((N : Int) < 0) = false := decide_eq_false (by omega)
  have n2 : decide ((9223372036854775807 : Int) < (N : Int)) = false := decide_eq_false (by omega)
  have n3 : IntKind.u64.wrap (N : Int) = (N : Int) := u64_in (by omega)
  have n4 : IntKind.i64.wrap (N : Int) = (N : Int) := IntWalk.i64_in _ (by omega)
  have hC1 := hX0.out.copy (Nat.zero_le _) 1 N N a 1 c (by simp only [Nat.min_def]; split <;> omega) (by omega) (fun j v hv => by
    have hj : j = 0 := by
      have := (List.getElem?_eq_some_iff.1 hv).1
      rw [nvals_len] at this
      omega
    subst hj
    rw [nvals_at _ (by omega)] at hv
    obtain ⟨q1, q2⟩ := hr 0 _ rfl
    rw [← hv]
    exact (((Below.refl w.heap.size w).alloc (Nat.le_refl _) _).cell (by rw [add_block]; exact q1)).trans q2)
  have HC1 := Lib.hid hC1.1
  have HX1 := Lib.hid hC1.2
  obtain ⟨g, hg⟩ : ∃ g, g = w.heap.size := ⟨_, rfl⟩
  rw [← hg] at HC1 HX1 hmk
  have hga : N = 0 ∨ g ≠ a.block ∧ True := .inr ⟨by have := (hr 0 _ rfl).1; omega, trivial⟩
  clear hd0 hd1 hX0 hC1 hr hga hg
  generalize hW0 : w.alloc (.cells (madeCells #[Value.int .i64 0] N) 3) = W0 at *
  generalize hW1 : W0.setCells g 0 (nvals 1 (fun _ => x)) = W1 at *
  clear hW0 hW1
  go_enter Try.func24, Try.ntmps24
  go_wp2_with (first
    | (go_at_call 30; refine HM.out.mono ?_; rintro e w1 ⟨rfl, rfl⟩)
    | (refine wpList_copy_run rfl (.tmp 31) (.tmp 32) _ _ rfl _ _ rfl rfl (HC1.out _) ?_))
  go_loopw [8] (fun i wr => ∃ m : Nat, i = .int .i64 m ∧ 1 ≤ m ∧ m ≤ N ∧ Hid (HalfAt w x g N m wr)) (fun i _ => N - (intOf i).toNat)
  case atStart => exact ⟨1, rfl, Nat.le_refl _, h1, HX1⟩
  case round =>
    obtain ⟨m, rfl, hm1, hm2, HX⟩ := hrel
    by_cases hlt : m < N
    · have hC2 := (show HalfAt w x g N m wr.drew from ⟨HX.out.own.drew, HX.out.below.drew⟩).copy hm2 (Nat.min m (N - m)) (N - m) (N - m) ⟨g, 0, none⟩ m N rfl (by simp only [Nat.min_def]; split <;> omega) (fun j v hv => by
        have hj : j < Nat.min m (N - m) := by
          have := (List.getElem?_eq_some_iff.1 hv).1
          rwa [nvals_len] at this
        have hj2 : j < m := by have := Nat.min_le_left m (N - m); simp only [Nat.min_def] at hj; split at hj <;> omega
        rw [nvals_at _ hj] at hv
        rw [add_flat, ← hv]
        have := own_at HX.out.own (nvals_at _ (show j < N by omega))
        rw [if_pos hj2] at this
        exact this)
      have HC2 := Lib.hid hC2.1
      have HX2 := Lib.hid hC2.2
      clear hC2
      have hk : Nat.min m (N - m) ≤ N - m ∧ 1 ≤ Nat.min m (N - m) := by simp only [Nat.min_def]; split <;> omega
      generalize Nat.min m (N - m) = k at *
      generalize wr.drew.setCells g m (nvals k (fun _ => x)) = W2 at *
      have k0 : (0 : Int) ≤ (m : Int) := Int.natCast_nonneg _
      have k1 : (m : Int) < (N : Int) := by omega
      have k2 : ¬ N = m := by omega
      go_wp2_with fail
      go_region_law (refine step_copy_run rfl (.tmp 41) (.tmp 44) 24 24 rfl _ _ (by simp [Act.eval, Act.put]) (by simp [Act.eval, Act.put]) (HC2.out _) ?_)
      have k3 : IntKind.i64.wrap ((m : Int) + (k : Int)) = ((m + k : Nat) : Int) := by rw [IntWalk.i64_in _ (by omega)]; omega
      simp [Act.put, k3]
      go_wp2_with fail
      exact ⟨⟨m + k, by go_num, by omega, by omega, HX2.out⟩, by simp [intOf] <;> omega⟩
    · obtain rfl : m = N := by omega
      have HE : Hid (nvals m (fun i => if i < m then x else 0) = nvals m (fun _ => x)) := Lib.hid (nvals_congr fun i hi => if_pos hi)
      go_wp2_with fail
      go_ret
      refine ⟨_, rfl, ⟨by rw [← HE.out]; exact HX.out.own, by simp, HX.out.below.size⟩, HX.out.below⟩
end Go.Proofs.Ytnojminhbakfaaa.TwnWalk
