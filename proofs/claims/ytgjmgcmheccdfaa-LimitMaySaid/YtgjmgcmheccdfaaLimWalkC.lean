/-
  The walks of layer 10's code: the library's slices.Clone, slices.Insert, slices.Delete at limits; Set, Drop.
-/
import Derived.Test.YtgjmgcmheccdfaaLimWalkA
import Derived.Test.YtgjmgcmheccdfaaMove
import Derived.Lib.OwnBridge
import Derived.WalkSpells
import Derived.Deep.RegionLaw
namespace Go.Proofs.Ytgjmgcmheccdfaa.LimWalk
open Go.RowKit Go.Proofs.Ytgjmgcmheccdfaa.JobPlain Go.Proofs.Ytgjmgcmheccdfaa.ApiPlain Go.Proofs.Ytgjmgcmheccdfaa.LimPlain Go.Proofs.Ytgjmgcmheccdfaa.Mem Go.Proofs.Ytgjmgcmheccdfaa.ApiMem Go.Proofs.Ytgjmgcmheccdfaa.LimRef
/-- What Clone answers. -/
def CloneIs (l : List Lim) (w : World) (e : Ending) (w' : World) : Prop := ∃ v', e = .returned v' ∧ ((v' = .slice none 0 0 ∧ l = []) ∨ OwnR 24 3 w.heap.size w' v' l.length (limL.vals l)) ∧ Below w.heap.size w w'
theorem lims_eql (w : World) (a : Option Addr) (n c n' c' : Nat) : (binOp .eql 22 (.slice a n c) (.slice none n' c')).run Try.prog w = .ok (.bool a.isNone) w := Lib.run_eql_slice_nil w _ _ a n c n' c' Try.underlying22
set_option maxHeartbeats 1600000 in
theorem clone_l (l : List Lim) (v : Value) (w : World) (hv : limL.Is l w v) (hl : l.length ≤ 100000) : Calls Try.prog 19 #[v] w (CloneIs l w) := by
  have q22 := lims_eql
  rcases hv with ⟨rfl, rfl⟩ | ⟨a, c, rfl, hr, hn⟩
  · go_enter Try.func19, Try.ntmps19
    go_wp2_with fail
    go_ret
    exact ⟨_, rfl, .inl ⟨rfl, rfl⟩, Below.refl _ _⟩
  · have HR := Lib.hid hr
    have H1 := Lib.hid (limL.cell l)
    have HL := Lib.hid (limL.vals_len l)
    clear hr
    generalize hx : limL.vals l = xs at *
    have HX := Lib.hid hx
    clear hx
    go_enter Try.func19, Try.ntmps19
    go_wp2_with (at_builtin; refine push_raw lim_t rfl (.tmp 5) (.tmp 6) rfl w.heap.size _ _ _ rfl (OwnR.new w 24 3) a l.length c xs rfl HL.out ?h1 H1.out ?h2 ?_)
    case h1 => exact HR.out.below (below_new _ _)
    case h2 => omega
    intro v' w' ho hb
    have HO := Lib.hid ho
    have HB := Lib.hid (((Below.refl _ _).alloc (Nat.le_refl _) _).trans hb)
    clear ho hb
    go_wp2_with fail
    go_ret
    exact ⟨_, rfl, .inr (by rw [HX.out]; exact HO.out), HB.out⟩
/-- What Insert and Delete answer. -/
def RowSays (l : List Lim) (base : Nat) (w : World) (e : Ending) (w' : World) : Prop := ∃ v, e = .returned v ∧ limL.Is l w' v ∧ Below base w w'
theorem vals_cut (l : List Lim) (k : Nat) : (limL.vals l).take (k * 3) = limL.vals (l.take k) := limL.take l k
theorem vals_rest (l : List Lim) (k : Nat) : (limL.vals l).drop (k * 3) = limL.vals (l.drop k) := limL.drop l k
theorem take_len {l : List Lim} {k : Nat} (h : k ≤ l.length) : (l.take k).length = k := by rw [List.length_take]; omega
set_option maxRecDepth 100000 in
set_option maxHeartbeats 6400000 in
theorem delete_l (l : List Lim) (base g c k : Nat) (w : World) (ho : w.ownsRow base 24 3 (.slice (some ⟨g, 0, none⟩) l.length c) l.length (limL.vals l)) (hb : base ≤ w.heap.size) (hk : k < l.length) (hl : l.length ≤ 1000) :
    Calls Try.prog 22 #[.slice (some ⟨g, 0, none⟩) l.length c, .int .i64 k, .int .i64 ((k : Int) + 1)] w (RowSays (l.take k ++ l.drop (k + 1)) base w) := by
  obtain ⟨hnc, hcm, hbg, _⟩ := own_cap ho
  have hnil : (limL.vals (l.drop (k + 1))).length = (l.length - (k + 1)) * 3 := by rw [limL.vals_len, List.length_drop]; rfl
  -- what is moved to the left
  obtain ⟨A, hA, hsrc⟩ : ∃ A : Addr, (if c = k + 1 then some (⟨g, 0, none⟩ : Addr) else some ⟨g, (k + 1) * 3, none⟩) = some A ∧ ∀ t u, (limL.vals (l.drop (k + 1)))[t]? = some u → w.drew.cell? (A.add t) = some u := by
    by_cases h : c = k + 1
    · refine ⟨_, if_pos h, fun t u hu => ?_⟩
      have h0 : (limL.vals (l.drop (k + 1))).length = 0 := by rw [hnil]; omega
      rw [List.length_eq_zero_iff.1 h0] at hu
      simp at hu
    · refine ⟨_, if_neg h, fun t u hu => ?_⟩
      rw [← vals_rest, List.getElem?_drop] at hu
      have := own_at ho hu
      unfold Addr.add
      split
      · subst t; exact this
      · exact this
  obtain ⟨i0, z, hi0, hz0, hz1, hz2, hzs⟩ := (lim_t).info
  have ho2 : (w.drew).ownsRow base 24 3 (.slice (some ⟨g, 0, none⟩) k c) k (limL.vals (l.take k)) := by
    have := own_cut ho (m := k) (by omega)
    rwa [vals_cut] at this
  obtain ⟨W1, hr1, ho3, hg1⟩ := run_append_fits w.drew base 22 22 24 i0 3 (lim_t).und hi0 hz1 g k c _ ho2 A (l.length - (k + 1)) (c - (k + 1)) _ hnil hsrc (limL.cell _) (by omega)
  rw [← limL.append] at ho3
  generalize hL : l.take k ++ l.drop (k + 1) = L at *
  have hLl : L.length = l.length - 1 := by rw [← hL, List.length_append, take_len (by omega), List.length_drop]; omega
  have hkn : k + (l.length - (k + 1)) = l.length - 1 := by omega
  rw [hkn] at hr1 ho3
  have hb1 : Below base w W1 := below_of_grown ((Below.refl base w).drew) ho2 hb hg1
  obtain ⟨ys, hys, ho4⟩ := own_stretch ho3 (m := 1) (by omega)
  have hlen3 : (limL.vals L).length = (l.length - 1) * 3 := ho3.1
  have hcl : ∀ ty, (Builtin.clear_ #[22] ty #[.slice (some ⟨g, (l.length - 1) * 3, none⟩) (l.length - (l.length - 1)) (c - (l.length - 1))]).run Try.prog W1 = .ok (.tuple #[]) (W1.setCells g ((l.length - 1) * 3) (Builtin.zeroCells (Value.agg #[.string ⟨#[]⟩, .int .i64 0, .int .i64 0]).cells (l.length - (l.length - 1))).toList) := fun ty => by
    have e3 : (Value.agg #[Value.string ⟨#[]⟩, Value.int .i64 0, Value.int .i64 0]).cells.size = 3 := by simp [Value.cells]
    refine clear_k W1 22 24 ty _ (lim_t).und Try.zeroValue24 ?_ (by rw [e3]; decide) g _ _ _ (by omega) (fun j hj => ?_) (fun j hj => ho3.frozenAt _)
    · intro u hu
      simp [Value.cells] at hu
      rcases hu with rfl | rfl <;> rfl
    · rw [e3] at hj
      have : (limL.vals L ++ ys)[(l.length - 1) * 3 + j]? = some ((limL.vals L ++ ys)[(l.length - 1) * 3 + j]'(by rw [List.length_append, hlen3, hys]; omega)) := List.getElem?_eq_getElem _
      rw [own_at ho4 this]
      rfl
  have HR : Hid (RowSays L base w (.returned (.slice (some ⟨g, 0, none⟩) (l.length - 1) c)) (W1.setCells g ((l.length - 1) * 3) (Builtin.zeroCells (Value.agg #[.string ⟨#[]⟩, .int .i64 0, .int .i64 0]).cells (l.length - (l.length - 1))).toList)) := by
    refine ⟨_, rfl, .inr ⟨⟨g, 0, none⟩, c, by rw [hLl], raw_wipe ?_ (by rw [hlen3]; exact Nat.le_refl _), by omega⟩, below_wipe hbg _ _ _ hb1⟩
    exact fun j u hu => ⟨(own_cap ho3).2.2.2, by rw [add_flat]; exact own_at ho3 hu⟩
  have HRUN : Hid (∀ ty, (Builtin.append_ #[22, 22] ty #[.slice (some ⟨g, 0, none⟩) k c, .slice (some A) (l.length - (k + 1)) (c - (k + 1))]).run Try.prog w.drew = .ok (.slice (some ⟨g, 0, none⟩) (l.length - 1) c) W1) := fun ty => hr1
  have k0 : (0 : Int) ≤ (k : Int) := Int.natCast_nonneg _
  have k1 : (k : Int) < (l.length : Int) := by omega
  have k2 : (k : Int) + 1 ≤ (l.length : Int) := by omega
  have k3 : ((k : Int) + 1).toNat = k + 1 := by omega
  have k10 : (0 : Int) ≤ (k : Int) + 1 := by omega
  have k4 : ¬ ((k : Int) = (k : Int) + 1) := by omega
  have k5 : ¬ c = l.length - 1 := by omega
  have k6 : l.length - 1 ≤ c := by omega
  have k7 : k ≤ c := by omega
  have k8 : k + 1 ≤ c := by omega
  have k9 : ((l.length - 1 : Nat) : Int) ≤ (l.length : Int) := by omega
  unfold maxLen at hcm
  clear hsrc ho ho2 ho3 ho4 hlen3 hys hLl hL hnil hkn hi0 hz0 hz1 hz2 hzs hg1 hb1 hr1
  go_enter Try.func22, Try.ntmps22
  go_wp2_with fail
  go_region_law (refine step_append_run rfl (.tmp 22) (.tmp 25) 22 22 rfl _ _ (by simp [Act.eval, Act.put]) (by simp [Act.eval, Act.put]) (HRUN.out _) ?_)
  go_wp2_with fail
  go_ret
  exact HR.out
/-- A block that holds one limit, and no more. -/
def OneAt (w : World) (vb : Nat) (x : Lim) : Prop := w.heap[vb]? = some (.cells #[.string x.user, .int .i64 x.jobs, .int .i64 x.procs] 24)
section
variable {w : World} {vb : Nat} {x : Lim}
theorem OneAt.lt (h : OneAt w vb x) : vb < w.heap.size := by
  unfold OneAt at h
  exact (Array.getElem?_eq_some_iff.1 h).1
theorem OneAt.cell (h : OneAt w vb x) : ∀ j u, (limC x)[j]? = some u → w.cell? ⟨vb, j, none⟩ = some u := fun j u hu => by
  rw [cell_of_row w vb j _ _ (0, 0) h]
  simpa [limC] using hu
theorem OneAt.raw (h : OneAt w vb x) : Raw w ⟨vb, 0, none⟩ (limC x) := fun j u hu => ⟨h.lt, by rw [add_flat]; exact h.cell j u hu⟩
theorem OneAt.shape (h : OneAt w vb x) : w.shape? vb = some (24, 3) := by unfold World.shape?; rw [h]; rfl
theorem OneAt.frozen (h : OneAt w vb x) (j : Nat) : w.frozen? ⟨vb, j, none⟩ = false := frozen_of_row w vb j _ _ h
end
theorem overlaps_l (w : World) (vb g o lb cb c : Nat) (x : Lim) (hx : OneAt w vb x) (hne : vb ≠ g) (hs : w.shape? g = some (24, c * 3)) (hc : 0 < c) :
    (callFunc 34 #[.slice (some ⟨vb, 0, none⟩) 1 1, .slice (some ⟨g, o, none⟩) lb cb]).run Try.prog w = .ok (.value (.bool false)) w := by
  rw [run_callFunc_extern Try.func34 (by kernel_rfl) (by kernel_rfl) (by kernel_rfl) (e := Extern.SlicesOverlaps.overlaps #[22, 22] #[4]) (by kernel_rfl),
    Lib.run_overlaps_apart w 22 4 24 Try.underlying22 3 Try.sizeOf24 ⟨vb, 0, none⟩ ⟨g, o, none⟩ 1 1 lb cb hne 24 24 3 (c * 3) hx.shape hs (by omega) (hx.frozen 0) (hx.frozen 3)]
  rfl
theorem vals_new (l : List Lim) (k : Nat) (x : Lim) : limL.vals (l.take k ++ x :: l.drop k) = limL.vals (l.take k) ++ limC x ++ limL.vals (l.drop k) := by
  rw [limL.append, limL.cons, List.append_assoc]
  rfl
set_option maxRecDepth 100000 in
set_option maxHeartbeats 6400000 in
theorem insert_end (l : List Lim) (x : Lim) (base g c vb : Nat) (w : World) (ho : OwnR 24 3 base w (.slice (some ⟨g, 0, none⟩) l.length c) l.length (limL.vals l)) (hx : OneAt w vb x) (hl : l.length ≤ 1000) :
    Calls Try.prog 21 #[.slice (some ⟨g, 0, none⟩) l.length c, .int .i64 l.length, .slice (some ⟨vb, 0, none⟩) 1 1] w (RowSays (l ++ [x]) base w) := by
  have HO := Lib.hid ho
  have HX := Lib.hid hx.raw
  obtain ⟨hnc, hcm, hbg, _⟩ := own_cap ho.1
  unfold maxLen at hcm
  clear ho hx
  by_cases hcl : c = l.length
  all_goals
    go_enter Try.func21, Try.ntmps21
    go_wp2_with (at_builtin; refine push_raw lim_t rfl (.tmp 23) (.tmp 24) rfl base _ _ _ rfl HO.out ⟨vb, 0, none⟩ 1 1 (limC x) rfl rfl HX.out (limC_cell x) (by omega) ?_)
    intro v' w' ho' hb'
    have HR : Hid (RowSays (l ++ [x]) base w (.returned v') w') := ⟨_, rfl, Lay.Is.own (L := limL) (n := l.length + 1) ((ho'.cast rfl (limL.snoc l x).symm).toN) (by simp), hb'⟩
    clear ho' hb'
    go_wp2_with fail
    go_ret
    exact HR.out
set_option maxRecDepth 100000 in
set_option maxHeartbeats 6400000 in
theorem insert_grow (l : List Lim) (x : Lim) (base g c vb k : Nat) (w : World) (ho : OwnR 24 3 base w (.slice (some ⟨g, 0, none⟩) l.length c) l.length (limL.vals l)) (hx : OneAt w vb x) (hk : k < l.length) (hc : c < l.length + 1) (hl : l.length ≤ 1000) :
    Calls Try.prog 21 #[.slice (some ⟨g, 0, none⟩) l.length c, .int .i64 k, .slice (some ⟨vb, 0, none⟩) 1 1] w (RowSays (l.take k ++ x :: l.drop k) base w) := by
  obtain ⟨hnc, _, hbg, hgl⟩ := own_cap ho.1
  have hbw := ho.2.2
  obtain ⟨W1, c', ys, hr, hys, hb1, ho1⟩ := own_zeros lim_t Try.underlying3 ho.1 (i := k) (z := l.length + 1 - k) (by omega) (by omega) (by omega) (by omega)
  have hkk : k + (l.length + 1 - k) = l.length + 1 := by omega
  rw [hkk] at hr ho1
  rw [vals_cut] at ho1
  obtain ⟨hnc', hcm', _, hN⟩ := own_cap ho1
  have hPl : (limL.vals (l.take k)).length = k * 3 := by rw [limL.vals_len, take_len (by omega)]; rfl
  have hDl : (limL.vals (l.drop k)).length = (l.length - k) * 3 := by rw [limL.vals_len, List.length_drop]; rfl
  have hxc : (limC x).length = 3 := rfl
  have hx0 : (limL.vals (l.take k) ++ ys).length = (l.length + 1) * 3 := ho1.1
  have hne : w.heap.size ≠ vb := by have := hx.lt; omega
  have hne2 : w.heap.size ≠ g := by omega
  -- what is put in
  obtain ⟨hc1, ho2, hg2⟩ := own_copy lim_t ho1 (k * 3) (l.length + 1 - k) (c' - k) ⟨vb, 0, none⟩ 1 1 1 (limC x) (by simp only [Nat.min_def]; split <;> omega) rfl (fun j u hu => by
    rw [add_flat, hb1.cell (p := ⟨vb, j, none⟩) hx.lt]
    exact hx.cell j u hu) (limC_cell x) (by rw [hx0, hxc]; omega)
  generalize hW2 : W1.setCells w.heap.size (k * 3) (limC x) = W2 at *
  have e1 : (limL.vals (l.take k) ++ ys).take (k * 3) = limL.vals (l.take k) := List.take_left' hPl
  rw [e1] at ho2
  generalize hZ : (limL.vals (l.take k) ++ ys).drop (k * 3 + (limC x).length) = Z at *
  have hx1 : (limL.vals (l.take k) ++ limC x ++ Z).length = (l.length + 1) * 3 := ho2.1
  -- what follows
  obtain ⟨hc2, ho3, hg3⟩ := own_copy (w := W2.drew) lim_t ho2 ((k + 1) * 3) (l.length - k) (c' - (k + 1)) ⟨g, k * 3, none⟩ (l.length - k) (c - k) (l.length - k) (limL.vals (l.drop k)) (by simp only [Nat.min_def]; split <;> omega) hDl (fun j u hu => by
    have h1 : w.cell? ⟨g, k * 3 + j, none⟩ = some u := by
      rw [← vals_rest, List.getElem?_drop] at hu
      exact own_at ho.1 hu
    have h2 := (hb1.cell (p := ⟨g, k * 3 + j, none⟩) hgl).trans h1
    have h3 := hg2.cell h2 (by simp; exact fun e => hne2 e.symm)
    unfold Addr.add
    split
    · subst j; exact h3
    · exact h3) (limL.cell _) (by rw [hx1, hDl]; omega)
  have e2 : (limL.vals (l.take k) ++ limC x ++ Z).take ((k + 1) * 3) = limL.vals (l.take k) ++ limC x := List.take_left' (by rw [List.length_append, hPl, hxc]; omega)
  have e3 : (limL.vals (l.take k) ++ limC x ++ Z).drop ((k + 1) * 3 + (limL.vals (l.drop k)).length) = [] := List.drop_of_length_le (by rw [hx1, hDl]; omega)
  rw [e2, e3, List.append_nil, ← vals_new] at ho3
  have HR : Hid (RowSays (l.take k ++ x :: l.drop k) base w (.returned (.slice (some ⟨w.heap.size, 0, none⟩) (l.length + 1) c')) (W2.drew.setCells w.heap.size ((k + 1) * 3) (limL.vals (l.drop k)))) := by
    refine ⟨_, rfl, .inr ⟨⟨w.heap.size, 0, none⟩, c', by rw [new_len (by omega)], fun j u hu => ⟨?_, by rw [add_flat]; exact own_at ho3 hu⟩, by rw [new_len (by omega)]; exact hnc'⟩, below_wipe hbw _ _ _ ?_⟩
    · exact (own_cap ho3).2.2.2
    · rw [← hW2]
      exact (below_wipe hbw (limC x) (k * 3) W1 (hb1.mono hbw)).drew
  have HR1 : Hid (∀ ty, (Builtin.append_ #[22, 3] ty #[.slice (some ⟨g, 0, none⟩) k c, .int .i64 ((l.length : Int) + 1 - (k : Int))]).run Try.prog w = .ok (.slice (some ⟨w.heap.size, 0, none⟩) (l.length + 1) c') W1) := fun ty => by
    rw [show (l.length : Int) + 1 - (k : Int) = ((l.length + 1 - k : Nat) : Int) by omega]
    exact hr ty
  have HC1 := Lib.hid hc1
  have HC2 := Lib.hid hc2
  generalize W2.drew.setCells w.heap.size ((k + 1) * 3) (limL.vals (l.drop k)) = W3 at *
  have k0 : (0 : Int) ≤ (k : Int) := Int.natCast_nonneg _
  have k1 : (k : Int) < (l.length : Int) := by omega
  have k2 : ¬ ((k : Int) = (l.length : Int)) := by omega
  have k3 : (c : Int) < (l.length : Int) + 1 := by omega
  have k4 : ¬ c = k := by omega
  have k5 : ¬ c' = k := by omega
  have k6 : ¬ c' = k + 1 := by omega
  have k11 : k ≤ l.length := by omega
  have k7 : (0 : Int) ≤ (k : Int) + 1 := by omega
  have k8 : ((k : Int) + 1).toNat = k + 1 := by omega
  have k9 : k ≤ c := by omega
  have k10 : IntKind.i64.wrap ((k : Int) + 1) = (k : Int) + 1 := by rw [IntKind.wrap_i64]; omega
  unfold maxLen at hcm'
  clear hr hys hb1 ho1 hkk ho hx hx0 hc1 ho2 hg2 hW2 e1 hZ hx1 hc2 ho3 hg3 e2 e3 hPl hDl hxc hne hne2 hN hbw hbg hgl
  go_enter Try.func21, Try.ntmps21
  go_wp2_with (first
    | (at_builtin; refine wpList_append_runs rfl (.tmp 34) (.tmp 39) _ _ rfl _ _ rfl rfl (HR1.out _) ?_)
    | (refine wpList_copy_run rfl (.tmp 43) (.tmp 44) _ _ rfl _ _ rfl rfl (HC1.out _) ?_))
  go_region_law (refine step_copy_run rfl (.tmp 50) (.tmp 53) 22 22 rfl _ _ (by simp [Act.eval, Act.put]) (by simp [Act.eval, Act.put]) (HC2.out _) ?_)
  go_wp2_with fail
  go_ret
  exact HR.out
set_option maxRecDepth 100000 in
set_option maxHeartbeats 6400000 in
theorem insert_shift (l : List Lim) (x : Lim) (base g c vb k : Nat) (w : World) (ho : OwnR 24 3 base w (.slice (some ⟨g, 0, none⟩) l.length c) l.length (limL.vals l)) (hx : OneAt w vb x) (hne : vb ≠ g) (hk : k < l.length) (hc : l.length + 1 ≤ c) (hl : l.length ≤ 1000) :
    Calls Try.prog 21 #[.slice (some ⟨g, 0, none⟩) l.length c, .int .i64 k, .slice (some ⟨vb, 0, none⟩) 1 1] w (RowSays (l.take k ++ x :: l.drop k) base w) := by
  obtain ⟨hnc, hcm, hbg, hgl⟩ := own_cap ho.1
  have hbw := ho.2.2
  have HOV : Hid (∀ lb cb, (callFunc 34 #[.slice (some ⟨vb, 0, none⟩) 1 1, .slice (some ⟨g, (k + 1) * 3, none⟩) lb cb]).run Try.prog w = .ok (.value (.bool false)) w) := fun lb cb => overlaps_l w vb g _ lb cb c x hx hne (own_shape ho.1) (by omega)
  obtain ⟨ys, hys, ho1⟩ := own_stretch ho.1 (m := 1) hc
  have hVl : (limL.vals l).length = l.length * 3 := by rw [limL.vals_len]; rfl
  have hDl : (limL.vals (l.drop k)).length = (l.length - k) * 3 := by rw [limL.vals_len, List.length_drop]; rfl
  have hPl : (limL.vals (l.take k)).length = k * 3 := by rw [limL.vals_len, take_len (by omega)]; rfl
  have hxc : (limC x).length = 3 := rfl
  have hx0 : (limL.vals l ++ ys).length = (l.length + 1) * 3 := ho1.1
  -- what follows
  obtain ⟨hc1, ho2, hg2⟩ := own_copy (w := w.drew) lim_t ho1 ((k + 1) * 3) (l.length - k) (c - (k + 1)) ⟨g, k * 3, none⟩ (l.length + 1 - k) (c - k) (l.length - k) (limL.vals (l.drop k)) (by simp only [Nat.min_def]; split <;> omega) hDl (fun j u hu => by
    rw [← vals_rest, List.getElem?_drop] at hu
    have h1 : w.drew.cell? ⟨g, k * 3 + j, none⟩ = some u := own_at ho.1 hu
    unfold Addr.add
    split
    · subst j; exact h1
    · exact h1) (limL.cell _) (by rw [hx0, hDl]; omega)
  generalize hW1 : w.drew.setCells g ((k + 1) * 3) (limL.vals (l.drop k)) = W1 at *
  have e1 : (limL.vals l ++ ys).drop ((k + 1) * 3 + (limL.vals (l.drop k)).length) = [] := List.drop_of_length_le (by rw [hx0, hDl]; omega)
  have e2 : ∃ z, z.length = 3 ∧ (limL.vals l ++ ys).take ((k + 1) * 3) = limL.vals (l.take k) ++ z := by
    refine ⟨((limL.vals l).drop (k * 3)).take 3, by rw [List.length_take, List.length_drop, hVl]; omega, ?_⟩
    rw [List.take_append_of_le_length (by rw [hVl]; omega), show (k + 1) * 3 = k * 3 + 3 by omega, List.take_add, vals_cut]
  obtain ⟨z, hz, e2⟩ := e2
  rw [e1, e2, List.append_nil] at ho2
  have hx1 : (limL.vals (l.take k) ++ z ++ limL.vals (l.drop k)).length = (l.length + 1) * 3 := ho2.1
  -- what is put in
  obtain ⟨hc2, ho3, hg3⟩ := own_copy lim_t ho2 (k * 3) (l.length + 1 - k) (c - k) ⟨vb, 0, none⟩ 1 1 1 (limC x) (by simp only [Nat.min_def]; split <;> omega) rfl (fun j u hu => by
    have h1 : w.drew.cell? ⟨vb, j, none⟩ = some u := hx.cell j u hu
    rw [add_flat]
    exact hg2.cell h1 (by simp; exact hne)) (limC_cell x) (by rw [hx1, hxc]; omega)
  have e3 : (limL.vals (l.take k) ++ z ++ limL.vals (l.drop k)).take (k * 3) = limL.vals (l.take k) := by rw [List.append_assoc]; exact List.take_left' hPl
  have e4 : (limL.vals (l.take k) ++ z ++ limL.vals (l.drop k)).drop (k * 3 + (limC x).length) = limL.vals (l.drop k) := List.drop_left' (by rw [List.length_append, hPl, hz, hxc])
  rw [e3, e4, ← vals_new] at ho3
  have HR : Hid (RowSays (l.take k ++ x :: l.drop k) base w (.returned (.slice (some ⟨g, 0, none⟩) (l.length + 1) c)) (W1.setCells g (k * 3) (limC x))) := by
    refine ⟨_, rfl, .inr ⟨⟨g, 0, none⟩, c, by rw [new_len (by omega)], fun j u hu => ⟨?_, by rw [add_flat]; exact own_at ho3 hu⟩, by rw [new_len (by omega)]; exact hc⟩, below_wipe hbg _ _ _ ?_⟩
    · exact (own_cap ho3).2.2.2
    · rw [← hW1]
      exact below_wipe hbg _ _ _ (Below.refl _ _).drew
  have HC1 := Lib.hid hc1
  have HC2 := Lib.hid hc2
  generalize W1.setCells g (k * 3) (limC x) = W3 at *
  have k0 : (0 : Int) ≤ (k : Int) := Int.natCast_nonneg _
  have k1 : (k : Int) < (l.length : Int) := by omega
  have k2 : ¬ ((k : Int) = (l.length : Int)) := by omega
  have k3 : ¬ (c : Int) < (l.length : Int) + 1 := by omega
  have k12 : (k : Int) ≤ (l.length : Int) + 1 := by omega
  have k4 : ¬ c = k := by omega
  have k6 : ¬ c = k + 1 := by omega
  have k11 : k ≤ l.length := by omega
  have k7 : (0 : Int) ≤ (k : Int) + 1 := by omega
  have k8 : ((k : Int) + 1).toNat = k + 1 := by omega
  have k10 : IntKind.i64.wrap ((k : Int) + 1) = (k : Int) + 1 := by rw [IntKind.wrap_i64]; omega
  unfold maxLen at hcm
  clear ho ho1 hys hVl hDl hPl hxc hx0 hc1 ho2 hg2 hW1 e1 e2 hz hx1 hc2 ho3 hg3 e3 e4 hx hbw hbg hgl
  go_enter Try.func21, Try.ntmps21
  go_wp2_with (simp only [HOV.out])
  go_region_law (refine step_copy_run rfl (.tmp 73) (.tmp 76) 22 22 rfl _ _ (by simp [Act.eval, Act.put]) (by simp [Act.eval, Act.put]) (HC1.out _) ?_)
  go_wp2_with (refine wpList_copy_run rfl (.tmp 80) (.tmp 81) _ _ rfl _ _ rfl rfl (HC2.out _) ?_)
  go_ret
  exact HR.out
theorem insert_l (l : List Lim) (x : Lim) (base g c vb k : Nat) (w : World) (ho : OwnR 24 3 base w (.slice (some ⟨g, 0, none⟩) l.length c) l.length (limL.vals l)) (hx : OneAt w vb x) (hne : vb ≠ g) (hk : k ≤ l.length) (hl : l.length ≤ 1000) :
    Calls Try.prog 21 #[.slice (some ⟨g, 0, none⟩) l.length c, .int .i64 k, .slice (some ⟨vb, 0, none⟩) 1 1] w (RowSays (l.take k ++ x :: l.drop k) base w) := by
  by_cases h1 : k < l.length
  · by_cases h2 : c < l.length + 1
    · exact insert_grow l x base g c vb k w ho hx h1 h2 hl
    · exact insert_shift l x base g c vb k w ho hx hne h1 (by omega) hl
  · have e : k = l.length := by omega
    subst e
    have := insert_end l x base g c vb w ho hx hl
    rw [List.take_of_length_le (Nat.le_refl _), List.drop_of_length_le (Nat.le_refl _)]
    exact this
end Go.Proofs.Ytgjmgcmheccdfaa.LimWalk
