/-
  The walk of layer 13's with: of each sum the least part of long ones if one more item may be taken.
-/
import Derived.Test.YtnojminhbakfaaaTwnWalkB
namespace Go.Proofs.Ytnojminhbakfaaa.TwnWalk
open Go.RowKit Go.Proofs.Ytnojminhbakfaaa.SubPlain Go.Proofs.Ytnojminhbakfaaa.ApiPlain Go.Proofs.Ytnojminhbakfaaa.TwnPlain Go.Proofs.Ytnojminhbakfaaa.Mem Go.Proofs.Ytnojminhbakfaaa.ApiMem Go.Proofs.Ytnojminhbakfaaa.SubRef Go.Proofs.Ytnojminhbakfaaa.TwnRef Go.Proofs.Ytnojminhbakfaaa.SubWalk
/-- What is least if one more item may be taken. -/
def withN (f : Nat → Int) (x : Nat) (p : Int) (i : Nat) : Int := if x ≤ i then min (f i) (f (i - x) + p) else f i
/-- The same, up to k. -/
def mixN (f : Nat → Int) (x : Nat) (p : Int) (k : Nat) (i : Nat) : Int := if i < k then withN f x p i else f i
theorem mixN_zero (f : Nat → Int) (x : Nat) (p : Int) (i : Nat) : mixN f x p x i = f i := by
  unfold mixN withN
  by_cases h : i < x
  · rw [if_pos h, if_neg (by omega)]
  · rw [if_neg h]
theorem mixN_succ {f : Nat → Int} {x k : Nat} {p : Int} (h : x ≤ k) (i : Nat) : (if i = k then min (f k) (f (k - x) + p) else mixN f x p k i) = mixN f x p (k + 1) i := by
  unfold mixN withN
  by_cases e : i = k
  · subst e; rw [if_pos rfl, if_pos (by omega), if_pos h]
  · rw [if_neg e]
    by_cases h2 : i < k
    · rw [if_pos h2, if_pos (show i < k + 1 by omega)]
    · rw [if_neg h2, if_neg (show ¬ i < k + 1 by omega)]
theorem mixN_end {f : Nat → Int} {x k n : Nat} {p : Int} (h : n ≤ k) : nvals n (mixN f x p k) = nvals n (withN f x p) := nvals_congr fun i hi => by unfold mixN; rw [if_pos (by omega)]
theorem raw_nums {n : Nat} {f : Nat → Int} {w : World} {a : Addr} (h : Cells w (some a) n (fun i => .int .i64 (f i))) : Raw w a (nvals n f) := by
  intro j u hu
  have hj : j < n := by have := (List.getElem?_eq_some_iff.1 hu).1; rwa [nvals_len] at this
  rw [nvals_at f hj] at hu
  injection hu with hu
  subst hu
  obtain ⟨a2, e, hl, hc⟩ := h j hj
  injection e with e
  subst e
  exact ⟨hl, hc⟩
/-- How the loop stands. -/
structure LessAt (w : World) (n : Nat) (f : Nat → Int) (x : Nat) (p : Int) (k : Nat) (v : Value) (wr : World) : Prop where
  own : OwnR 3 1 w.heap.size wr v n (nvals n (mixN f x p k))
  below : Below w.heap.size w wr
theorem LessAt.next {w wr : World} {n g c x k : Nat} {p : Int} {f : Nat → Int} (h : LessAt w n f x p k (.slice (some ⟨g, 0, none⟩) n c) wr) (hx : x ≤ k) (hk : k < n) (hg : w.heap.size ≤ g) {w' : World} (hb : Below wr.heap.size wr w') (b : Int) (hm : b = min (f k) (f (k - x) + p)) : LessAt w n f x p (k + 1) (.slice (some ⟨g, 0, none⟩) n c) (w'.setCell ⟨g, k, none⟩ (.int .i64 b)) :=
  ⟨((h.own.below hb).set k (.int .i64 b)).cast rfl (by rw [nvals_set _ _ hk]; exact nvals_congr fun i _ => by rw [hm]; exact mixN_succ hx i), (h.below.trans (hb.mono h.below.size)).setCell hg _⟩
set_option maxRecDepth 100000 in
set_option maxHeartbeats 1600000 in
theorem with_n (n : Nat) (f : Nat → Int) (x : Nat) (gl : Bool) (a : Addr) (c : Nat) (w : World) (hr : Raw w a (nvals n f)) (hn : n ≤ 257) (hx : x ≤ 256) (hf : ∀ i, 0 ≤ f i ∧ f i ≤ 257) (hp : 0 ≤ partI ⟨x, gl⟩ ∧ partI ⟨x, gl⟩ ≤ 256) : Calls Try.prog 25 #[.slice (some a) n c, .agg #[.int .i64 x, .bool gl]] w (NumsNew n (withN f x (partI ⟨x, gl⟩)) w) := by
  have CP := Lib.hid (part_i x gl)
  generalize partI ⟨x, gl⟩ = p at *
  obtain ⟨p1, p2⟩ := hp
  obtain ⟨bx, hbx⟩ : ∃ n, n = w.heap.size := ⟨_, rfl⟩
  have HBX := Lib.hid (ItmBox.new_at hbx.symm ⟨x, gl⟩ 39)
  have HBB := Lib.hid ((Below.refl w.heap.size w).alloc (Nat.le_refl _) (.cells #[.int .i64 x, .bool gl] 39))
  have hab : n = 0 ∨ a.block < bx := by
    by_cases h : n = 0
    · exact .inl h
    · right; rw [hbx]; exact (hr 0 _ (nvals_at f (by omega))).1
  have HR := Lib.hid (hr.below HBB.out)
  have HF := Lib.hid hf
  clear hr hf
  go_enter Try.func25, Try.ntmps25
  go_upto_region 1 with fail
  rw [← hbx]
  have HBXW : Hid (bx = w.heap.size) := Lib.hid hbx
  clear hbx
  generalize w.alloc (.cells #[.int .i64 x, .bool gl] 39) = W at *
  have CC := Lib.hid (clone_n n f a c W HR.out (by omega))
  go_upto_region 2 with (go_at_call 31; refine CC.out.mono ?_; rintro e w1 ⟨v1, rfl, ho1, hb1⟩)
  have HM1 : Hid (LessAt W n f x p x v1 w1) := Lib.hid ⟨ho1.cast rfl (nvals_congr fun i _ => (mixN_zero f x p i).symm), hb1⟩
  obtain ⟨g, cg, rfl, hg, _⟩ := ho1.form
  have HG := Lib.hid hg
  have hbxl := HBX.out.lt
  obtain ⟨b0, b1, b2, b3, b4⟩ := HBX.out.below hb1
  have hgb : bx < g := by omega
  clear ho1 hb1 hg
  dsimp only at b1 b2
  go_wp2_with fail
  clear b0 b1 b2 b3 b4
  go_loopw [6] (fun i wr => ∃ k : Nat, i = .int .i64 k ∧ x ≤ k ∧ k ≤ 257 ∧ Hid (LessAt W n f x p k (.slice (some ⟨g, 0, none⟩) n cg) wr)) (fun i _ => n - (intOf i).toNat)
  case atStart => exact ⟨x, rfl, Nat.le_refl _, by omega, HM1.out⟩
  case round =>
    clear HM1
    obtain ⟨k, rfl, hxk, hk, HM⟩ := hrel
    by_cases hlt : k < n
    · obtain ⟨g2, c2, e2, _, hg2, hn2, _, hraw2, hf2⟩ := HM.out.own.form
      injection e2 with e2 _ e3
      injection e2 with e2
      injection e2 with e2
      subst e2
      subst e3
      have hal : a.block < bx := by omega
      have hgl : g < wr.heap.size := (hraw2 0 _ (nvals_at _ (by omega))).1
      obtain ⟨b0, b1, b2, b3, b4⟩ := HBX.out.below HM.out.below
      dsimp only at b1 b2
      have k0 : (0 : Int) ≤ (k : Int) := Int.natCast_nonneg _
      have k1 : (k : Int) < (n : Int) := by omega
      have k2 : (x : Int) ≤ (k : Int) := by omega
      have e1 : wr.drew.cell? (a.add k) = some (.int .i64 (f k)) := (HR.out.below HM.out.below k _ (nvals_at f hlt)).2
      have e2 : wr.drew.cell? (a.add (k - x)) = some (.int .i64 (f (k - x))) := (HR.out.below HM.out.below (k - x) _ (nvals_at f (by omega))).2
      have e3 : wr.drew.cell? ⟨g, k, none⟩ = some (.int .i64 (mixN f x p k k)) := by
        have := (hraw2 k _ (nvals_at _ hlt)).2
        rwa [add_flat] at this
      have e4 : wr.drew.frozen? ⟨g, k, none⟩ = false := hf2 k
      have e5 : wr.drew.cell? ⟨bx, 0, none⟩ = some (.int .i64 x) := b1
      have e6 : wr.drew.cell? ⟨bx, 1, none⟩ = some (.bool gl) := b2
      have hac : a.block < wr.drew.heap.size := by show a.block < wr.heap.size; omega
      have hbc : bx < wr.drew.heap.size := b0
      have hgc : g < wr.drew.heap.size := hgl
      have ht : ((k : Int) - (x : Int)).toNat = k - x := by omega
      have ht2 : IntKind.i64.wrap ((k : Int) - (x : Int)) = (k : Int) - (x : Int) := IntWalk.i64_in _ (by omega)
      have ht3 : 0 ≤ (k : Int) - (x : Int) := by omega
      have ht4 : (k : Int) - (x : Int) < (n : Int) := by omega
      have hfk := HF.out k
      have hfx := HF.out (k - x)
      have HN := Lib.hid (fun w' hb b hm => HM.out.next (w' := w') hxk hlt HG.out hb b hm)
      have hne1 : (⟨g, k, none⟩ : Addr) ≠ a.add k := fun h => by have := congrArg Addr.block h; rw [add_block] at this; simp only at this; omega
      have hne2 : (⟨g, k, none⟩ : Addr) ≠ a.add (k - x) := fun h => by have := congrArg Addr.block h; rw [add_block] at this; simp only at this; omega
      have hne3 : (⟨g, k, none⟩ : Addr) ≠ ⟨bx, 0, none⟩ := fun h => by have := congrArg Addr.block h; simp only at this; omega
      have hne4 : (⟨g, k, none⟩ : Addr) ≠ ⟨bx, 1, none⟩ := fun h => by have := congrArg Addr.block h; simp only at this; omega
      clear hraw2 hf2 HM b0 b1 b2 b3 b4
      generalize f (k - x) = y2 at *
      generalize f k = y1 at *
      have ht5 : IntKind.i64.wrap (y2 + p) = y2 + p := IntWalk.i64_in _ (by omega)
      go_wp2_with fail
      go_region_held3 (fun w' => w'.cell? (a.add k) = some (.int .i64 y1) ∧ w'.cell? (a.add (k - x)) = some (.int .i64 y2) ∧ w'.cell? ⟨bx, 0, none⟩ = some (.int .i64 x) ∧ w'.cell? ⟨bx, 1, none⟩ = some (.bool gl))
        (first | go_keep | (go_split_ands; exact ⟨(World.cell?_setCell_other _ _ _ _ hne1).trans (by assumption), (World.cell?_setCell_other _ _ _ _ hne2).trans (by assumption), (World.cell?_setCell_other _ _ _ _ hne3).trans (by assumption), (World.cell?_setCell_other _ _ _ _ hne4).trans (by assumption)⟩) | (go_split_ands; exact ⟨(hb5.cell (p := a.add k) (by rw [add_block]; exact hac)).trans (by assumption), (hb5.cell (p := a.add (k - x)) (by rw [add_block]; exact hac)).trans (by assumption), (hb5.cell (p := ⟨bx, 0, none⟩) hbc).trans (by assumption), (hb5.cell (p := ⟨bx, 1, none⟩) hbc).trans (by assumption)⟩))
        ((go_at_call 18; refine (CP.out _).mono ?_; rintro e w5 ⟨rfl, hb5⟩; have q3 := (hb5.cell (p := ⟨g, k, none⟩) hgc).trans e3; have q4 := (hb5.frozen (p := ⟨g, k, none⟩) hgc).trans e4))
      have HN2 := Lib.hid (HN.out w5 (below_of_drew hb5) (if y2 + p < y1 then y2 + p else y1) (by split <;> omega))
      clear hb5 q3 q4 HN
      generalize (if y2 + p < y1 then y2 + p else y1) = y at *
      go_wp2_with fail
      exact ⟨⟨k + 1, by go_num, by omega, by omega, HN2.out⟩, by simp [intOf] <;> omega⟩
    · have HE : Hid (nvals n (mixN f x p k) = nvals n (withN f x p)) := mixN_end (by omega)
      go_wp2_with fail
      go_ret
      exact ⟨_, rfl, by rw [← HE.out]; exact ⟨(HM.out.own.toN.rebase HBB.out.size).1, HM.out.own.2.1, Nat.le_trans HBB.out.size HM.out.own.2.2⟩, below_then HBB.out HM.out.below⟩
end Go.Proofs.Ytnojminhbakfaaa.TwnWalk
