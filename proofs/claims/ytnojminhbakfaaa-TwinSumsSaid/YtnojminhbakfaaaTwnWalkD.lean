/-
  The walk of layer 13's behind: of each sum the least part of long ones, place by place.
-/
import Derived.Test.YtnojminhbakfaaaTwnWalkC
namespace Go.Proofs.Ytnojminhbakfaaa.TwnWalk
open Go.RowKit Go.Proofs.Ytnojminhbakfaaa.SubPlain Go.Proofs.Ytnojminhbakfaaa.ApiPlain Go.Proofs.Ytnojminhbakfaaa.TwnPlain Go.Proofs.Ytnojminhbakfaaa.Mem Go.Proofs.Ytnojminhbakfaaa.ApiMem Go.Proofs.Ytnojminhbakfaaa.SubRef Go.Proofs.Ytnojminhbakfaaa.TwnRef Go.Proofs.Ytnojminhbakfaaa.SubWalk
theorem make_rows_n (W : World) (N : Nat) (h : N ≤ 64) : (Instr.makeSlice 44 (.int .i64 ((N : Int) + 1)) (.int .i64 ((N : Int) + 1))).run Try.prog W = .ok (.slice (some ⟨W.heap.size, 0, none⟩) (N + 1) (N + 1)) (W.alloc (.cells (madeCells #[Value.slice none 0 0] (N + 1)) 24)) := by
  have h1 := run_make_row' (P := Try.prog) 44 24 (.slice none 0 0) 24 Try.underlying44 (by kernel_rfl) rfl .i64 .i64 (N + 1) (by omega) (by omega) W
  exact h1
theorem row_below_n {w w' : World} {b n : Nat} {t : TypeId} {f : Nat → Value} (h : w.rowIs b t n f) (hb : Below w.heap.size w w') : w'.rowIs b t n f := h.of_block (hb.block b h.lt)
/-- One place's numbers, in a row of their own. -/
def RowOfN (l : List Itm) (R g i : Nat) (v : Value) (wr : World) : Prop := ∃ b c, v = .slice (some ⟨b, 0, none⟩) (R + 1) c ∧ R + 1 ≤ c ∧ g < b ∧ b < wr.heap.size ∧ Raw wr ⟨b, 0, none⟩ (nvals (R + 1) (lstF l i))
theorem RowOfN.below {l : List Itm} {R g i : Nat} {v : Value} {wr w' : World} (h : RowOfN l R g i v wr) (hb : Below wr.heap.size wr w') : RowOfN l R g i v w' := by
  obtain ⟨b, c, e, hc, hg, hl, hr⟩ := h
  exact ⟨b, c, e, hc, hg, Nat.lt_of_lt_of_le hl hb.size, hr.below hb⟩
theorem RowOfN.set {l : List Itm} {R g i : Nat} {v : Value} {wr : World} (h : RowOfN l R g i v wr) (j : Nat) (u : Value) : RowOfN l R g i v (wr.setCell ⟨g, j, none⟩ u) := by
  obtain ⟨b, c, e, hc, hg, hl, hr⟩ := h
  have hblk : (wr.setCell ⟨g, j, none⟩ u).heap[b]? = wr.heap[b]? := Below.heap_setCell wr ⟨g, j, none⟩ u b (by show b ≠ g; omega)
  exact ⟨b, c, e, hc, hg, by simp [World.setCell]; exact hl, fun q x hx => by
    rw [add_flat]
    have := hr q x hx
    rw [add_flat] at this
    exact ⟨by simp [World.setCell]; exact hl, (World.cell?_of_block (a := ⟨b, q, none⟩) hblk).trans this.2⟩⟩
/-- The rows from place k on. -/
structure RowsAtN (l : List Itm) (R : Nat) (w : World) (g k : Nat) (F : Nat → Value) (wr : World) : Prop where
  row : wr.rowIs g 24 (l.length + 1) F
  rows : ∀ i, k ≤ i → i ≤ l.length → RowOfN l R g i (F i) wr
  base : w.heap.size ≤ g
  below : Below w.heap.size w wr
theorem RowsAtN.calls {l : List Itm} {R : Nat} {w : World} {g k : Nat} {F : Nat → Value} {wr w' : World} (h : RowsAtN l R w g k F wr) (hb : Below wr.heap.size wr w') : RowsAtN l R w g k F w' :=
  ⟨row_below_n h.row hb, fun i h1 h2 => (h.rows i h1 h2).below hb, h.base, h.below.trans (hb.mono h.below.size)⟩
theorem RowsAtN.drewN {l : List Itm} {R : Nat} {w : World} {g k : Nat} {F : Nat → Value} {wr : World} (h : RowsAtN l R w g k F wr) (q : Nat) : RowsAtN l R w g k F (wr.drewN q) :=
  h.calls (below_drewN (Below.refl _ _) q)
theorem RowsAtN.next {l : List Itm} {R : Nat} {w : World} {g k : Nat} {F : Nat → Value} {wr : World} (h : RowsAtN l R w g (k + 1) F wr) {v : Value} (hv : RowOfN l R g k v wr) : RowsAtN l R w g k (fun j => if j = k then v else F j) (wr.setCell ⟨g, k, none⟩ v) :=
  ⟨h.row.set k v, fun i h1 h2 => by
    by_cases e : i = k
    · subst e; rw [if_pos rfl]; exact hv.set _ _
    · rw [if_neg e]; exact (h.rows i (by omega) h2).set _ _, h.base, h.below.setCell h.base _⟩
theorem from_withN {l : List Itm} {k : Nat} (h : k < l.length) {x : Nat} {gl : Bool} (hx : l[k] = ⟨(x : Int), gl⟩) (n : Nat) : nvals n (withN (lstF l (k + 1)) x (partI ⟨(x : Int), gl⟩)) = nvals n (lstF l k) := nvals_congr fun i _ => by
  rw [lstF_at h, hx]
  unfold withN
  by_cases hi : x ≤ i
  · rw [if_pos hi, if_pos (by show (x : Int) ≤ (i : Int); omega), show (Itm.mk (x : Int) gl).width.toNat = x from Int.toNat_natCast x]
  · rw [if_neg hi, if_neg (by show ¬ (x : Int) ≤ (i : Int); omega)]
def BehindN (l : List Itm) (R : Nat) (w : World) (e : Ending) (w' : World) : Prop := ∃ g F, e = .returned (.slice (some ⟨g, 0, none⟩) (l.length + 1) (l.length + 1)) ∧ RowsAtN l R w g 0 F w'
/-- The first row: nothing behind the last place. -/
theorem last_row_n {l : List Itm} {R : Nat} {w W : World} {g : Nat} {F : Nat → Value} {b c : Nat} (hr : W.rowIs g 24 (l.length + 1) F) (hg : w.heap.size ≤ g) (hgb : g < b) (hF : F l.length = .slice (some ⟨b, 0, none⟩) (R + 1) c)
    (hb : Below w.heap.size w W) {base : Nat} (hs : OwnR 3 1 base W (.slice (some ⟨b, 0, none⟩) (R + 1) c) (R + 1) (nvals (R + 1) (fun _ => 257))) : RowsAtN l R w g l.length F (W.setCell ⟨b, 0, none⟩ (.int .i64 0)) := by
  refine ⟨hr.setOther (by show g ≠ b; omega) _, fun i h1 h2 => ?_, hg, hb.setCell (by show w.heap.size ≤ b; omega) _⟩
  obtain rfl : i = l.length := by omega
  have h3 := hs.set 0 (.int .i64 0)
  rw [nvals_set _ _ (by omega)] at h3
  have e : nvals (R + 1) (fun i => if i = 0 then 0 else 257) = nvals (R + 1) (lstF l l.length) := nvals_congr fun j _ => (lstF_end (Nat.le_refl _) j).symm
  rw [e] at h3
  obtain ⟨g2, c2, e2, _, hl2, hc2, _, hraw2, _⟩ := h3.form
  injection e2 with e2 _ e3
  injection e2 with e2
  injection e2 with e2
  subst e2
  subst e3
  exact ⟨b, c, hF, hc2, hgb, hl2, hraw2⟩
theorem size_setCell_n (W : World) (p : Addr) (u : Value) : (W.setCell p u).heap.size = W.heap.size := by simp [World.setCell]
set_option maxRecDepth 100000 in
set_option maxHeartbeats 1600000 in
theorem behind_n (l : List Itm) (R : Nat) (v : Value) (w : World) (hv : ItmsAt l w v) (hw : (wsOf l).all wideB = true) (hl : l.length ≤ 64) (hR : R ≤ 256) : Calls Try.prog 17 #[v, .int .i64 R] w (BehindN l R w) := by
  obtain ⟨A, c, rfl, hc, hA⟩ := hv
  have HA := Lib.hid hA
  have HW := Lib.hid hw
  have hmk1 := make_rows_n w l.length hl
  clear hA hw
  go_enter Try.func17, Try.ntmps17
  go_upto_region 2 with fail
  have HR0 := Lib.hid (World.rowIs_made w (.slice none 0 0) (l.length + 1) 24)
  have HB0 := Lib.hid ((Below.refl w.heap.size w).alloc (Nat.le_refl _) (.cells (madeCells #[Value.slice none 0 0] (l.length + 1)) 24))
  obtain ⟨g, hg⟩ : ∃ g, g = w.heap.size := ⟨_, rfl⟩
  rw [← hg] at HR0 ⊢
  generalize w.alloc (.cells (madeCells #[Value.slice none 0 0] (l.length + 1)) 24) = W0 at *
  have HG := Lib.hid hg
  clear hmk1 hg
  have CR : Hid (Calls Try.prog 24 #[.slice (some ⟨W0.heap.size, 0, none⟩) 1 1, .int .i64 ((R : Int) + 1)] (W0.alloc (.cells #[.int .i64 257] 3)) (NumsNew (R + 1) (fun _ => 257) (W0.alloc (.cells #[.int .i64 257] 3)))) := Lib.hid (repeat_n 257 ⟨W0.heap.size, 0, none⟩ 1 (W0.alloc (.cells #[.int .i64 257] 3)) (R + 1) (Raw.alloc W0 #[.int .i64 257] 3) (by omega) (by omega))
  have hgl := HR0.out.lt
  go_upto_region 3 with (go_at_call 24; refine CR.out.mono ?_; rintro e w1 ⟨v1, rfl, ho1, hb1⟩; obtain ⟨b, cb, rfl, hgb1, _, _, _, _, _⟩ := ho1.form; have hbb : Below W0.heap.size W0 w1 := ((Below.refl W0.heap.size W0).alloc (Nat.le_refl _) _).trans (hb1.mono (by simp)); have hr1 := row_below_n HR0.out hbb; have hc1 : w1.cell? ⟨g, l.length, none⟩ = some (.slice none 0 0) := hr1.cell (by omega); have hf1 : w1.frozen? ⟨g, l.length, none⟩ = false := hr1.frozen _)
  have hg := HG.out
  have hgb : g < b := by simp at hgb1; omega
  have HR1 := Lib.hid (hr1.set l.length (.slice (some ⟨b, 0, none⟩) (R + 1) cb))
  have HO1 : Hid (OwnR 3 1 (W0.alloc (.cells #[.int .i64 257] 3)).heap.size (w1.setCell ⟨g, l.length, none⟩ (.slice (some ⟨b, 0, none⟩) (R + 1) cb)) (.slice (some ⟨b, 0, none⟩) (R + 1) cb) (R + 1) (nvals (R + 1) (fun _ => 257))) := Lib.hid ⟨(ho1.toN.set_other (p := ⟨g, l.length, none⟩) (by show g < _; simp; omega) _).1, ho1.2.1, by rw [size_setCell_n]; exact ho1.2.2⟩
  have HB1 := Lib.hid ((HB0.out.trans (hbb.mono HB0.out.size)).setCell (p := ⟨g, l.length, none⟩) (by show w.heap.size ≤ g; omega) (.slice (some ⟨b, 0, none⟩) (R + 1) cb))
  clear ho1 hb1 hbb hr1 hc1 hf1 HR0 HB0 CR hgb1
  generalize w1.setCell ⟨g, l.length, none⟩ (.slice (some ⟨b, 0, none⟩) (R + 1) cb) = W1 at *
  have hc2 : W1.cell? ⟨g, l.length, none⟩ = some (.slice (some ⟨b, 0, none⟩) (R + 1) cb) := by
    have := HR1.out.cell (i := l.length) (by omega)
    rwa [if_pos rfl] at this
  obtain ⟨b9, c9, e9, _, hbl, hnb, _, hraw9, hfz9⟩ := HO1.out.form
  injection e9 with e9 _ e8
  injection e9 with e9
  injection e9 with e9
  subst e9
  subst e8
  have hc3 : W1.cell? ⟨b, 0, none⟩ = some (.int .i64 257) := by
    have := (hraw9 0 _ (nvals_at _ (by omega))).2
    rwa [add_flat] at this
  have hf3 : W1.frozen? ⟨b, 0, none⟩ = false := hfz9 0
  have HL := Lib.hid (last_row_n HR1.out (w := w) (by omega) hgb (by rw [if_pos rfl]) HB1.out HO1.out)
  have HGL := Lib.hid hgb
  clear hg hgb HR1 HO1 HB1 hraw9 hfz9 hbl hgl
  go_upto_region 4 with fail
  clear hc2 hc3 hf3
  generalize W1.setCell ⟨b, 0, none⟩ (.int .i64 0) = W2 at *
  go_wp2_with fail
  go_loopw [6] (fun i wr => ∃ (k : Nat) (F : Nat → Value), i = .int .i64 ((k : Int) - 1) ∧ k ≤ l.length ∧ Hid (RowsAtN l R w g k F wr)) (fun i _ => (intOf i + 1).toNat)
  case atStart => exact ⟨l.length, _, rfl, Nat.le_refl _, HL.out⟩
  case round =>
    clear HL
    obtain ⟨k, F, hi, hk, HF⟩ := hrel
    cases k with
    | zero =>
      subst hi
      go_wp2_with fail
      go_ret
      exact ⟨_, _, rfl, HF.out⟩
    | succ k =>
      rw [show ((k + 1 : Nat) : Int) - 1 = (k : Int) by omega] at hi
      subst hi
      have hlt : k < l.length := by omega
      obtain ⟨ad, rfl, hat⟩ := HA.out k hlt
      obtain ⟨hla, i1, i2⟩ := hat.below HF.out.below
      obtain ⟨b1, c1, hF1, hc1, hgb1, hbl1, hraw1⟩ := HF.out.rows (k + 1) (Nat.le_refl _) (by omega)
      have hx : wideB l[k].width = true := (List.all_eq_true.1 HW.out) _ (by rw [← ws_at hlt]; exact List.getElem_mem _)
      unfold wideB at hx
      rw [Bool.and_eq_true, decide_eq_true_eq, decide_eq_true_eq] at hx
      obtain ⟨x, gl, hx2⟩ : ∃ (x : Nat) (gl : Bool), l[k] = ⟨(x : Int), gl⟩ := ⟨l[k].width.toNat, l[k].long, by rw [show ((l[k].width.toNat : Nat) : Int) = l[k].width by omega]⟩
      rw [hx2] at hx i1 i2
      dsimp only at hx i1 i2
      have hx3 : x ≤ 256 := by omega
      have hpb := part_bound (x := ⟨(x : Int), gl⟩) hx.1
      dsimp only at hpb
      have e1 : wr.drew.cell? (ad.add (k * 2)) = some (.int .i64 x) := i1
      have e1b : wr.drew.cell? ⟨(ad.add (k * 2)).block, (ad.add (k * 2)).off + 1, none⟩ = some (.bool gl) := i2
      have e2 : wr.drew.cell? ⟨g, k + 1, none⟩ = some (.slice (some ⟨b1, 0, none⟩) (R + 1) c1) := by rw [← hF1]; exact HF.out.row.cell (by omega)
      have e3 : wr.drew.cell? ⟨g, k, none⟩ = some (F k) := HF.out.row.cell (by omega)
      have e4 : wr.drew.frozen? ⟨g, k, none⟩ = false := HF.out.row.frozen _
      have e5 : IntKind.i64.wrap ((k : Int) + 1) = (k : Int) + 1 := IntWalk.i64_in _ (by omega)
      have e6 : ((k : Int) + 1).toNat = k + 1 := by omega
      have k0 : (0 : Int) ≤ (k : Int) := Int.natCast_nonneg _
      have k1 : (k : Int) < (l.length : Int) := by omega
      have k2 : (0 : Int) ≤ (k : Int) + 1 := by omega
      have k3 : (k : Int) + 1 < (l.length : Int) + 1 := by omega
      have had : (ad.add (k * 2)).block < w.heap.size := by obtain ⟨z, ez, hz⟩ := HA.out k hlt; injection ez with ez; subst ez; exact hz.lt
      have hne0 : g ≠ (ad.add (k * 2)).block := by have := HF.out.base; omega
      have hne1 : (⟨g, k, none⟩ : Addr) ≠ ad.add (k * 2) := fun h => by
        have h2 := congrArg Addr.block h
        simp only at h2
        exact hne0 h2
      have hne1b : (⟨g, k, none⟩ : Addr) ≠ ⟨(ad.add (k * 2)).block, (ad.add (k * 2)).off + 1, none⟩ := fun h => by
        have h2 := congrArg Addr.block h
        simp only at h2
        exact hne0 h2
      have hne2 : (⟨g, k, none⟩ : Addr) ≠ ⟨g, k + 1, none⟩ := fun h => by
        have h2 := congrArg Addr.off h
        simp only at h2
        omega
      have k4 : (k : Int) < (l.length : Int) + 1 := by omega
      have CW := Lib.hid (with_n (R + 1) (lstF l (k + 1)) x gl ⟨b1, 0, none⟩ c1 wr.drew hraw1 (by omega) hx3 (lstF_bound HW.out (k + 1)) (by omega))
      have HX := Lib.hid (from_withN hlt hx2 (R + 1))
      have hgl := HF.out.row.lt
      have had2 : (ad.add (k * 2)).block < wr.drew.heap.size := hla
      clear hx hx2 hraw1 hF1 hat i1 i2 hla hpb had hne0
      generalize partI ⟨(x : Int), gl⟩ = p at *
      go_wp2_with fail
      go_region_held3 (fun w' => w'.cell? (ad.add (k * 2)) = some (.int .i64 x) ∧ w'.cell? ⟨(ad.add (k * 2)).block, (ad.add (k * 2)).off + 1, none⟩ = some (.bool gl) ∧ w'.cell? ⟨g, k + 1, none⟩ = some (.slice (some ⟨b1, 0, none⟩) (R + 1) c1))
        (first | go_keep | (go_split_ands; exact ⟨(World.cell?_setCell_other _ _ _ _ hne1).trans (by assumption), (World.cell?_setCell_other _ _ _ _ hne1b).trans (by assumption), (World.cell?_setCell_other _ _ _ _ hne2).trans (by assumption)⟩) | (go_split_ands; exact ⟨(hb5.cell had2).trans (by assumption), (hb5.cell (p := ⟨(ad.add (k * 2)).block, (ad.add (k * 2)).off + 1, none⟩) had2).trans (by assumption), (hb5.cell (p := ⟨g, k + 1, none⟩) hgl).trans (by assumption)⟩))
        ((go_at_call 25; refine CW.out.mono ?_; rintro e w5 ⟨v5, rfl, ho5, hb5⟩; obtain ⟨g5, c5, rfl, hg5, hl5, hn5, _, hr5, _⟩ := ho5.form; have q3 := (hb5.cell (p := ⟨g, k, none⟩) hgl).trans e3; have q4 := (hb5.frozen (p := ⟨g, k, none⟩) hgl).trans e4))
      all_goals
        have HN : Hid (RowsAtN l R w g k (fun j => if j = k then .slice (some ⟨g5, 0, none⟩) (R + 1) c5 else F j) (w5.setCell ⟨g, k, none⟩ (.slice (some ⟨g5, 0, none⟩) (R + 1) c5))) := by
          refine ((HF.out.drewN 1).calls hb5).next ⟨g5, c5, rfl, hn5, Nat.lt_of_lt_of_le hgl hg5, hl5, ?_⟩
          rw [← HX.out]
          exact hr5
        clear ho5 hb5 q3 q4 hr5 hg5 hl5 hn5 HF
        go_wp2_with fail
        exact ⟨⟨k, _, rfl, by omega, HN.out⟩, by simp [intOf] <;> omega⟩
end Go.Proofs.Ytnojminhbakfaaa.TwnWalk
