/-
  The walk of layer 12's behind: which sums there are, place by place.
-/
import Derived.Test.YtnojminhbakfaaaSubWalkB
namespace Go.Proofs.Ytnojminhbakfaaa.SubWalk
open Go.RowKit Go.Proofs.Ytnojminhbakfaaa.SubPlain Go.Proofs.Ytnojminhbakfaaa.Mem Go.Proofs.Ytnojminhbakfaaa.SubRef
theorem make_rows (W : World) (N : Nat) (h : N ≤ 64) : (Instr.makeSlice 49 (.int .i64 ((N : Int) + 1)) (.int .i64 ((N : Int) + 1))).run Try.prog W = .ok (.slice (some ⟨W.heap.size, 0, none⟩) (N + 1) (N + 1)) (W.alloc (.cells (madeCells #[Value.slice none 0 0] (N + 1)) 51)) := by
  have h1 := run_make_row' (P := Try.prog) 49 51 (.slice none 0 0) 24 Try.underlying49 (by kernel_rfl) rfl .i64 .i64 (N + 1) (by omega) (by omega) W
  exact h1
theorem make_bools (W : World) (R : Nat) (h : R ≤ 256) : (Instr.makeSlice 51 (.int .i64 ((R : Int) + 1)) (.int .i64 ((R : Int) + 1))).run Try.prog W = .ok (.slice (some ⟨W.heap.size, 0, none⟩) (R + 1) (R + 1)) (W.alloc (.cells (madeCells #[Value.bool false] (R + 1)) 4)) := by
  have h1 := run_make_row' (P := Try.prog) 51 4 (.bool false) 1 Try.underlying51 (by kernel_rfl) rfl .i64 .i64 (R + 1) (by omega) (by omega) W
  exact h1
theorem row_below {w w' : World} {b n : Nat} {t : TypeId} {f : Nat → Value} (h : w.rowIs b t n f) (hb : Below w.heap.size w w') : w'.rowIs b t n f := h.of_block (hb.block b h.lt)
/-- One place's sums, in a row of their own. -/
def RowOf (ws : List Int) (R g i : Nat) (v : Value) (wr : World) : Prop := ∃ b c, v = .slice (some ⟨b, 0, none⟩) (R + 1) c ∧ R + 1 ≤ c ∧ g < b ∧ b < wr.heap.size ∧ Raw wr ⟨b, 0, none⟩ (bvals (R + 1) (fromB ws i))
theorem RowOf.below {ws : List Int} {R g i : Nat} {v : Value} {wr w' : World} (h : RowOf ws R g i v wr) (hb : Below wr.heap.size wr w') : RowOf ws R g i v w' := by
  obtain ⟨b, c, e, hc, hg, hl, hr⟩ := h
  exact ⟨b, c, e, hc, hg, Nat.lt_of_lt_of_le hl hb.size, hr.below hb⟩
theorem RowOf.set {ws : List Int} {R g i : Nat} {v : Value} {wr : World} (h : RowOf ws R g i v wr) (j : Nat) (u : Value) : RowOf ws R g i v (wr.setCell ⟨g, j, none⟩ u) := by
  obtain ⟨b, c, e, hc, hg, hl, hr⟩ := h
  have hblk : (wr.setCell ⟨g, j, none⟩ u).heap[b]? = wr.heap[b]? := Below.heap_setCell wr ⟨g, j, none⟩ u b (by show b ≠ g; omega)
  exact ⟨b, c, e, hc, hg, by simp [World.setCell]; exact hl, fun q x hx => by
    rw [add_flat]
    have := hr q x hx
    rw [add_flat] at this
    exact ⟨by simp [World.setCell]; exact hl, (World.cell?_of_block (a := ⟨b, q, none⟩) hblk).trans this.2⟩⟩
/-- The rows from place k on. -/
structure RowsAt (ws : List Int) (R : Nat) (w : World) (g k : Nat) (F : Nat → Value) (wr : World) : Prop where
  row : wr.rowIs g 51 (ws.length + 1) F
  rows : ∀ i, k ≤ i → i ≤ ws.length → RowOf ws R g i (F i) wr
  base : w.heap.size ≤ g
  below : Below w.heap.size w wr
theorem RowsAt.calls {ws : List Int} {R : Nat} {w : World} {g k : Nat} {F : Nat → Value} {wr w' : World} (h : RowsAt ws R w g k F wr) (hb : Below wr.heap.size wr w') : RowsAt ws R w g k F w' :=
  ⟨row_below h.row hb, fun i h1 h2 => (h.rows i h1 h2).below hb, h.base, h.below.trans (hb.mono h.below.size)⟩
theorem RowsAt.drewN {ws : List Int} {R : Nat} {w : World} {g k : Nat} {F : Nat → Value} {wr : World} (h : RowsAt ws R w g k F wr) (q : Nat) : RowsAt ws R w g k F (wr.drewN q) :=
  h.calls (below_drewN (Below.refl _ _) q)
theorem RowsAt.next {ws : List Int} {R : Nat} {w : World} {g k : Nat} {F : Nat → Value} {wr : World} (h : RowsAt ws R w g (k + 1) F wr) {v : Value} (hv : RowOf ws R g k v wr) : RowsAt ws R w g k (fun j => if j = k then v else F j) (wr.setCell ⟨g, k, none⟩ v) :=
  ⟨h.row.set k v, fun i h1 h2 => by
    by_cases e : i = k
    · subst e; rw [if_pos rfl]; exact hv.set _ _
    · rw [if_neg e]; exact (h.rows i (by omega) h2).set _ _, h.base, h.below.setCell h.base _⟩
/-- What the widths behind a place come to, each number by the next place's. -/
theorem from_with {ws : List Int} (hw : ws.all wideB = true) {k : Nat} (h : k < ws.length) {x : Nat} (hx : ws[k] = (x : Int)) (n : Nat) : bvals n (withF (fromB ws (k + 1)) x) = bvals n (fromB ws k) := bvals_congr fun i _ => by
  unfold withF
  by_cases hi : x ≤ i
  · rw [if_pos hi, from_high h (by omega) (by omega), hx, Int.toNat_natCast]
  · rw [if_neg hi, from_low hw h (by omega)]
def BehindIs (ws : List Int) (R : Nat) (w : World) (e : Ending) (w' : World) : Prop := ∃ g F, e = .returned (.slice (some ⟨g, 0, none⟩) (ws.length + 1) (ws.length + 1)) ∧ RowsAt ws R w g 0 F w'
/-- The first row: nothing behind the last place. -/
theorem last_row {ws : List Int} {R : Nat} {w W : World} {g : Nat} {F : Nat → Value} {b : Nat} (hr : W.rowIs g 51 (ws.length + 1) F) (hg : w.heap.size ≤ g) (hgb : g < b) (hF : F ws.length = .slice (some ⟨b, 0, none⟩) (R + 1) (R + 1))
    (hb : Below w.heap.size w W) (hs : W.rowIs b 4 (R + 1) (fun _ => .bool false)) : RowsAt ws R w g ws.length F (W.setCell ⟨b, 0, none⟩ (.bool true)) := by
  refine ⟨hr.setOther (by show g ≠ b; omega) _, fun i h1 h2 => ?_, hg, hb.setCell (by show w.heap.size ≤ b; omega) _⟩
  obtain rfl : i = ws.length := by omega
  have h3 := hs.set 0 (.bool true)
  refine ⟨b, R + 1, hF, Nat.le_refl _, hgb, h3.lt, raw_bools ((Cells.of_row h3).congr fun j hj => ?_)⟩
  rw [from_end (Nat.le_refl _)]
  by_cases e : j = 0
  · rw [if_pos e, decide_eq_true e]
  · rw [if_neg e, decide_eq_false e]
theorem size_setCell (W : World) (p : Addr) (u : Value) : (W.setCell p u).heap.size = W.heap.size := by simp [World.setCell]
set_option maxRecDepth 100000 in
set_option maxHeartbeats 1600000 in
theorem behind_b (ws : List Int) (R : Nat) (v : Value) (w : World) (hv : IntsAt ws w v) (hw : ws.all wideB = true) (hl : ws.length ≤ 64) (hR : R ≤ 256) : Calls Try.prog 21 #[v, .int .i64 R] w (BehindIs ws R w) := by
  obtain ⟨A, c, rfl, hc, hA⟩ := hv
  have HA := Lib.hid hA
  have HW := Lib.hid hw
  have hmk1 := make_rows w ws.length hl
  have HMK2 := Lib.hid (fun W => make_bools W R hR)
  clear hA hw
  go_enter Try.func21, Try.ntmps21
  go_upto_region 2 with fail
  have HR0 := Lib.hid (World.rowIs_made w (.slice none 0 0) (ws.length + 1) 51)
  have HB0 := Lib.hid ((Below.refl w.heap.size w).alloc (Nat.le_refl _) (.cells (madeCells #[Value.slice none 0 0] (ws.length + 1)) 51))
  obtain ⟨g, hg⟩ : ∃ g, g = w.heap.size := ⟨_, rfl⟩
  rw [← hg] at HR0 ⊢
  generalize w.alloc (.cells (madeCells #[Value.slice none 0 0] (ws.length + 1)) 51) = W0 at *
  have HG := Lib.hid hg
  clear hmk1 hg
  have hmk2 := HMK2.out W0
  have hgl := HR0.out.lt
  have hc1 : (W0.alloc (.cells (madeCells #[Value.bool false] (R + 1)) 4)).cell? ⟨g, ws.length, none⟩ = some (.slice none 0 0) := (HR0.out.alloc _).cell (by omega)
  have hf1 : (W0.alloc (.cells (madeCells #[Value.bool false] (R + 1)) 4)).frozen? ⟨g, ws.length, none⟩ = false := (HR0.out.alloc _).frozen _
  go_upto_region 3 with fail
  have hg := HG.out
  have HR1 := Lib.hid ((HR0.out.set ws.length (.slice (some ⟨W0.heap.size, 0, none⟩) (R + 1) (R + 1))).alloc (.cells (madeCells #[Value.bool false] (R + 1)) 4))
  have HS1 := Lib.hid (World.rowIs_made (W0.setCell ⟨g, ws.length, none⟩ (.slice (some ⟨W0.heap.size, 0, none⟩) (R + 1) (R + 1))) (.bool false) (R + 1) 4)
  rw [size_setCell] at HS1
  have HB1 := Lib.hid ((HB0.out.setCell (p := ⟨g, ws.length, none⟩) (by show w.heap.size ≤ g; omega) (.slice (some ⟨W0.heap.size, 0, none⟩) (R + 1) (R + 1))).alloc (by rw [size_setCell]; exact HB0.out.size) (.cells (madeCells #[Value.bool false] (R + 1)) 4))
  obtain ⟨b, hb⟩ : ∃ b, b = W0.heap.size := ⟨_, rfl⟩
  rw [← hb] at HR1 HS1 HB1 hgl ⊢
  clear hmk2 hc1 hf1 HR0 HB0
  generalize (W0.setCell ⟨g, ws.length, none⟩ (.slice (some ⟨b, 0, none⟩) (R + 1) (R + 1))).alloc (.cells (madeCells #[Value.bool false] (R + 1)) 4) = W1 at *
  have hc2 : W1.cell? ⟨g, ws.length, none⟩ = some (.slice (some ⟨b, 0, none⟩) (R + 1) (R + 1)) := by
    have := HR1.out.cell (i := ws.length) (by omega)
    rwa [if_pos rfl] at this
  have hc3 : W1.cell? ⟨b, 0, none⟩ = some (.bool false) := HS1.out.cell (by omega)
  have hf3 : W1.frozen? ⟨b, 0, none⟩ = false := HS1.out.frozen _
  have HL := Lib.hid (last_row HR1.out (w := w) (by omega) hgl (by rw [if_pos rfl]) HB1.out HS1.out)
  have HGL := Lib.hid hgl
  clear hg hgl hb HR1 HS1 HB1
  go_upto_region 4 with fail
  clear hc2 hc3 hf3
  generalize W1.setCell ⟨b, 0, none⟩ (.bool true) = W2 at *
  go_wp2_with fail
  go_loopw [6] (fun i wr => ∃ (k : Nat) (F : Nat → Value), i = .int .i64 ((k : Int) - 1) ∧ k ≤ ws.length ∧ Hid (RowsAt ws R w g k F wr)) (fun i _ => (intOf i + 1).toNat)
  case atStart => exact ⟨ws.length, _, rfl, Nat.le_refl _, HL.out⟩
  case round =>
    clear HL
    obtain ⟨k, F, hi, hk, HF⟩ := hrel
    cases k with
    | zero =>
      subst hi
      go_wp2_with fail
      go_ret
      exact ⟨_, _, rfl, HF.out⟩
    | succ k =>
      rw [show ((k + 1 : Nat) : Int) - 1 = (k : Int) by omega] at hi
      subst hi
      have hlt : k < ws.length := by omega
      obtain ⟨ad, rfl, hla, hca⟩ := HA.out.at hlt
      obtain ⟨b1, c1, hF1, hc1, hgb1, hbl1, hraw1⟩ := HF.out.rows (k + 1) (Nat.le_refl _) (by omega)
      have hx : wideB ws[k] = true := (List.all_eq_true.1 HW.out) _ (List.getElem_mem _)
      unfold wideB at hx
      rw [Bool.and_eq_true, decide_eq_true_eq, decide_eq_true_eq] at hx
      obtain ⟨x, hx2⟩ : ∃ x : Nat, ws[k] = (x : Int) := ⟨ws[k].toNat, by omega⟩
      have hx3 : x ≤ 256 := by omega
      have e1 : wr.drew.cell? (ad.add k) = some (.int .i64 x) := by
        rw [← hx2, ← getD_at hlt]
        exact (HF.out.below.cell (by rw [add_block]; exact hla)).trans hca
      have e2 : wr.drew.cell? ⟨g, k + 1, none⟩ = some (.slice (some ⟨b1, 0, none⟩) (R + 1) c1) := by rw [← hF1]; exact HF.out.row.cell (by omega)
      have e3 : wr.drew.cell? ⟨g, k, none⟩ = some (F k) := HF.out.row.cell (by omega)
      have e4 : wr.drew.frozen? ⟨g, k, none⟩ = false := HF.out.row.frozen _
      have e5 : IntKind.i64.wrap ((k : Int) + 1) = (k : Int) + 1 := IntWalk.i64_in _ (by omega)
      have e6 : ((k : Int) + 1).toNat = k + 1 := by omega
      have k0 : (0 : Int) ≤ (k : Int) := Int.natCast_nonneg _
      have k1 : (k : Int) < (ws.length : Int) := by omega
      have k2 : (0 : Int) ≤ (k : Int) + 1 := by omega
      have k3 : (k : Int) + 1 < (ws.length : Int) + 1 := by omega
      have hne1 : (⟨g, k, none⟩ : Addr) ≠ ad.add k := fun h => by
        have h2 := congrArg Addr.block h
        rw [add_block] at h2
        have := HF.out.base
        simp only at h2
        omega
      have hne2 : (⟨g, k, none⟩ : Addr) ≠ ⟨g, k + 1, none⟩ := fun h => by
        have h2 := congrArg Addr.off h
        simp only at h2
        omega
      have k4 : (k : Int) < (ws.length : Int) + 1 := by omega
      have CW := Lib.hid (with_b (R + 1) (fromB ws (k + 1)) x ⟨b1, 0, none⟩ c1 wr.drew hraw1 (by omega) hx3)
      have HX := Lib.hid (from_with HW.out hlt hx2 (R + 1))
      have hgl := HF.out.row.lt
      have had : (ad.add k).block < wr.drew.heap.size := by rw [add_block]; exact Nat.lt_of_lt_of_le hla HF.out.below.size
      clear hx hx2 hraw1 hF1 hca
      go_wp2_with fail
      go_region_held3 (fun w' => w'.cell? (ad.add k) = some (.int .i64 x) ∧ w'.cell? ⟨g, k + 1, none⟩ = some (.slice (some ⟨b1, 0, none⟩) (R + 1) c1))
        (first | go_keep | (go_split_ands; exact ⟨(World.cell?_setCell_other _ _ _ _ hne1).trans (by assumption), (World.cell?_setCell_other _ _ _ _ hne2).trans (by assumption)⟩) | (go_split_ands; exact ⟨(hb5.cell had).trans (by assumption), (hb5.cell (p := ⟨g, k + 1, none⟩) hgl).trans (by assumption)⟩))
        ((go_at_call 28; refine CW.out.mono ?_; rintro e w5 ⟨v5, rfl, ho5, hb5⟩; obtain ⟨g5, c5, rfl, hg5, hl5, hn5, _, hr5, _⟩ := ho5.form; have q3 := (hb5.cell (p := ⟨g, k, none⟩) hgl).trans e3; have q4 := (hb5.frozen (p := ⟨g, k, none⟩) hgl).trans e4))
      all_goals
        have HN : Hid (RowsAt ws R w g k (fun j => if j = k then .slice (some ⟨g5, 0, none⟩) (R + 1) c5 else F j) (w5.setCell ⟨g, k, none⟩ (.slice (some ⟨g5, 0, none⟩) (R + 1) c5))) := by
          refine ((HF.out.drewN 1).calls hb5).next ⟨g5, c5, rfl, hn5, Nat.lt_of_lt_of_le hgl hg5, hl5, ?_⟩
          rw [← HX.out]
          exact hr5
        clear ho5 hb5 q3 q4 hr5 hg5 hl5 hn5 HF
        go_wp2_with fail
        exact ⟨⟨k, _, rfl, by omega, HN.out⟩, by simp [intOf] <;> omega⟩
end Go.Proofs.Ytnojminhbakfaaa.SubWalk
