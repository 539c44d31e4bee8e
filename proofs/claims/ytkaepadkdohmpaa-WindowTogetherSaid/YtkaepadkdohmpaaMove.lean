/-
  Rows of one's own whose elements are moved: the builtin copy at elements of many cells, a row cut and stretched within its room, an append of zeros that grows, clear at elements of many cells; steps of regions that draw.
-/
import Derived.Test.YtkaepadkdohmpaaLay
import Derived.Laws.IdiomCopy
import Derived.Lib.AppendZerosOnto
import Derived.Lib.Overlaps
import Derived.Lib.JoinLaws
import Derived.Maps.AppendAt
namespace Go.Proofs.Ytkaepadkdohmpaa.Mem
open Go.RowKit
theorem run_copy_k {P : Program} (w : World) (dT sT ty elem : TypeId) (k b o dLen dCap : Nat) (a : Addr) (sLen sCap m : Nat) (cs : List Value)
    (hu : P.underlying dT = some (.slice elem)) (hs : (P.info? elem).map (·.size) = some k) (hm : Nat.min sLen dLen = m) (hn : cs.length = m * k)
    (hsrc : ∀ j v, cs[j]? = some v → w.cell? (a.add j) = some v) (hc : ∀ j, j < cs.length → (w.cell? ⟨b, o + j, none⟩).isSome = true) (hf : ∀ j, j < cs.length → w.frozen? ⟨b, o + j, none⟩ = false) (h1 : ∀ v ∈ cs, v.oneCell' = true) :
    (Builtin.copy_ #[dT, sT] ty #[.slice (some ⟨b, o, none⟩) dLen dCap, .slice (some a) sLen sCap]).run P w = .ok (goInt m) (w.setCells b o cs) := by
  have hl := run_loadCells_list (P := P) w a cs hsrc
  have hst := run_storeCells_cells (P := P) b o cs 0 w (by simpa using hc) (by simpa using hf) h1
  cases hq : P.info? elem with
  | none => simp [hq] at hs
  | some i =>
    have hi : i.size = k := by simpa [hq] using hs
    simp [Builtin.copy_, run_underlying hu, Builtin.lenOf, Builtin.firstCells, sizeOf, typeInfo, hq, hi, hm, ← hn, hl, hst]
theorem size_of {P : Program} {T e : TypeId} {k bytes : Nat} (E : ElemT P T e k bytes) : (P.info? e).map (·.size) = some k := by
  obtain ⟨i, z, hi, _, h1, _⟩ := E.info
  rw [hi]
  exact congrArg some h1
section
variable {w : World} {base : Nat} {e : TypeId} {k g n c : Nat} {xs : List Value}
theorem own_cells {base : Nat} {e : TypeId} {k g n c : Nat} : ∀ (ys xs : List Value) (o : Nat) (w : World), w.ownsRow base e k (.slice (some ⟨g, 0, none⟩) n c) n xs → o + ys.length ≤ xs.length →
    (w.setCells g o ys).ownsRow base e k (.slice (some ⟨g, 0, none⟩) n c) n (xs.take o ++ ys ++ xs.drop (o + ys.length)) ∧ w.grownBy (w.setCells g o ys) (some g)
  | [], xs, o, w, h, _ => ⟨by simpa [World.setCells] using h, ⟨rfl, rfl, rfl, Nat.le_refl _, fun _ _ _ => rfl⟩⟩
  | y :: ys, xs, o, w, h, hl => by
    have hs := h.stored o y
    have hlen : (xs.set o y).length = xs.length := List.length_set
    have ih := own_cells ys (xs.set o y) (o + 1) (w.setCell ⟨g, o, none⟩ y) hs.1 (by rw [hlen]; simp at hl; omega)
    have ho : o < xs.length := by simp at hl; omega
    have e1 : (xs.set o y).take (o + 1) = xs.take o ++ [y] := by
      have hl2 : (xs.take o).length = o := by rw [List.length_take]; omega
      rw [List.set_eq_take_append_cons_drop, if_pos ho]
      have := List.take_length_add_append (l₁ := xs.take o) (l₂ := y :: xs.drop (o + 1)) 1
      rw [hl2] at this
      exact this
    have e2 : (xs.set o y).drop (o + 1 + ys.length) = xs.drop (o + (y :: ys).length) := by
      rw [List.drop_set_of_lt (by omega)]
      congr 1
      simp
      omega
    rw [e1, e2] at ih
    refine ⟨?_, hs.2.trans ih.2⟩
    have h2 := ih.1
    rw [List.append_assoc (xs.take o) [y] ys] at h2
    exact h2
theorem own_cut (h : w.ownsRow base e k (.slice (some ⟨g, 0, none⟩) n c) n xs) {m : Nat} (hm : m ≤ n) : w.ownsRow base e k (.slice (some ⟨g, 0, none⟩) m c) m (xs.take (m * k)) := by
  have hmk : m * k ≤ n * k := Nat.mul_le_mul_right _ hm
  refine ⟨by rw [List.length_take, h.1]; omega, ?_⟩
  rcases h.2 with ⟨h', _⟩ | ⟨g', cap', cur, h', hb, hg, hnc, hcm, hcs, htake⟩
  · simp at h'
  · simp only [Value.slice.injEq, Option.some.injEq, Addr.mk.injEq, and_true, true_and] at h'
    obtain ⟨rfl, rfl⟩ := h'
    exact .inr ⟨g, c, cur, rfl, hb, hg, Nat.le_trans hm hnc, hcm, hcs, by rw [← htake, List.take_take, Nat.min_eq_left hmk]⟩
theorem own_stretch (h : w.ownsRow base e k (.slice (some ⟨g, 0, none⟩) n c) n xs) {m : Nat} (hm : n + m ≤ c) : ∃ ys, ys.length = m * k ∧ w.ownsRow base e k (.slice (some ⟨g, 0, none⟩) (n + m) c) (n + m) (xs ++ ys) := by
  have hmk : (n + m) * k ≤ c * k := Nat.mul_le_mul_right _ hm
  rw [Nat.add_mul] at hmk
  rcases h.2 with ⟨h', _⟩ | ⟨g', cap', cur, h', hb, hg, hnc, hcm, hcs, htake⟩
  · simp at h'
  · simp only [Value.slice.injEq, Option.some.injEq, Addr.mk.injEq, and_true, true_and] at h'
    obtain ⟨rfl, rfl⟩ := h'
    have hl : ((cur.toList.drop (n * k)).take (m * k)).length = m * k := by rw [List.length_take, List.length_drop, Array.length_toList, hcs]; omega
    refine ⟨(cur.toList.drop (n * k)).take (m * k), hl, ⟨by rw [List.length_append, h.1, hl, Nat.add_mul], .inr ⟨g, c, cur, rfl, hb, hg, hm, hcm, hcs, ?_⟩⟩⟩
    rw [← htake, Nat.add_mul, List.take_add]
theorem own_shape (h : w.ownsRow base e k (.slice (some ⟨g, 0, none⟩) n c) n xs) : w.shape? g = some (e, c * k) := by
  rcases h.2 with ⟨h', _⟩ | ⟨g', cap', cur, h', hb, hg, hnc, hcm, hcs, htake⟩
  · simp at h'
  · simp only [Value.slice.injEq, Option.some.injEq, Addr.mk.injEq, and_true, true_and] at h'
    obtain ⟨rfl, rfl⟩ := h'
    unfold World.shape?
    rw [hg, ← hcs]
theorem own_cap (h : w.ownsRow base e k (.slice (some ⟨g, 0, none⟩) n c) n xs) : n ≤ c ∧ c ≤ maxLen ∧ base ≤ g ∧ g < w.heap.size := by
  have hlt := h.lt g rfl
  rcases h.2 with ⟨h', _⟩ | ⟨g', cap', cur, h', hb, hg, hnc, hcm, hcs, htake⟩
  · simp at h'
  · simp only [Value.slice.injEq, Option.some.injEq, Addr.mk.injEq, and_true, true_and] at h'
    obtain ⟨rfl, rfl⟩ := h'
    exact ⟨hnc, hcm, hlt⟩
/-- Copy onto a row of one's own, from place o on. -/
theorem own_copy {P : Program} {T : TypeId} {bytes : Nat} (E : ElemT P T e k bytes) (h : w.ownsRow base e k (.slice (some ⟨g, 0, none⟩) n c) n xs) (o dLen dCap : Nat) (a : Addr) (sLen sCap m : Nat) (ys : List Value)
    (hm : Nat.min sLen dLen = m) (hn : ys.length = m * k) (hsrc : ∀ j v, ys[j]? = some v → w.cell? (a.add j) = some v) (h1 : ∀ v ∈ ys, v.oneCell' = true) (ho : o + ys.length ≤ xs.length) :
    (∀ ty, (Builtin.copy_ #[T, T] ty #[.slice (some ⟨g, o, none⟩) dLen dCap, .slice (some a) sLen sCap]).run P w = .ok (goInt m) (w.setCells g o ys)) ∧
      (w.setCells g o ys).ownsRow base e k (.slice (some ⟨g, 0, none⟩) n c) n (xs.take o ++ ys ++ xs.drop (o + ys.length)) ∧ w.grownBy (w.setCells g o ys) (some g) := by
  refine ⟨fun ty => run_copy_k w T T ty e k g o dLen dCap a sLen sCap m ys E.und (size_of E) hm hn hsrc (fun j hj => ?_) (fun j _ => h.frozenAt _) h1, own_cells ys xs o w h ho⟩
  rw [h.cellAt _ (by rw [← h.1]; omega), List.getElem?_eq_getElem (by omega)]
  rfl
/-- Cells of a row. -/
theorem own_at (h : w.ownsRow base e k (.slice (some ⟨g, 0, none⟩) n c) n xs) {j : Nat} {u : Value} (hu : xs[j]? = some u) : w.cell? ⟨g, j, none⟩ = some u := by have := h.cells rfl j u hu; rwa [add_flat] at this
/-- An append of zeros that has no room: a new row. -/
theorem own_zeros {P : Program} {T tn : TypeId} {bytes : Nat} (E : ElemT P T e k bytes) (htn : P.underlying tn = some (.int .i64)) (h : w.ownsRow base e k (.slice (some ⟨g, 0, none⟩) n c) n xs) {i z : Nat} (hi : i ≤ n) (hz : 0 < z) (hg : c < i + z) (hb : i + z ≤ 1099511627776) :
    ∃ W c' ys, (∀ ty, (Builtin.append_ #[T, tn] ty #[.slice (some ⟨g, 0, none⟩) i c, .int .i64 (z : Int)]).run P w = .ok (.slice (some ⟨w.heap.size, 0, none⟩) (i + z) c') W) ∧ ys.length = z * k ∧ Below w.heap.size w W ∧
      W.ownsRow w.heap.size e k (.slice (some ⟨w.heap.size, 0, none⟩) (i + z) c') (i + z) (xs.take (i * k) ++ ys) := by
  obtain ⟨ti, zv, hi0, hz0, hz1, hz2, hzs⟩ := E.info
  have hik : i * k ≤ n * k := Nat.mul_le_mul_right _ hi
  have hby : (i + z) * bytes ≤ 140737488355328 := by
    have := Nat.mul_le_mul hb E.small
    omega
  have hzb : z * bytes ≤ (i + z) * bytes := Nat.mul_le_mul_right _ (by omega)
  have hold : (Builtin.firstCells ti.size i (.slice (some ⟨g, 0, none⟩) i c)).run P w.drew = .ok (xs.take (i * k)).toArray w.drew := by
    rw [hz1]
    refine run_firstCells_some w.drew k i ⟨g, 0, none⟩ i c (xs.take (i * k)) (by rw [List.length_take, h.1]; omega) (fun j v hj => ?_)
    rw [add_flat]
    rw [List.getElem?_take] at hj
    split at hj
    · exact own_at h hj
    · cases hj
  have hr := fun ty => Lib.run_append_grow_zeros w T tn ty e ti zv .i64 .i64 E.und htn hi0 hz0 (some ⟨g, 0, none⟩) i c (xs.take (i * k)) hold z hz (by rw [hz1]; exact E.pos) hg (by omega) (by rw [hz2]; omega) (by rw [hz2]; exact growslice_fits hg hby)
  have hge := grownCap_ge w (i + z) c e
  have hle := grownCap_le_maxLen w (i + z) c e (by unfold maxLen; omega)
  have hzc : ∀ q, (Builtin.zeroCells zv.cells q).size = q * k := fun q => by simp [Builtin.zeroCells, hzs]
  have htl : (xs.take (i * k)).length = i * k := by rw [List.length_take, h.1]; omega
  refine ⟨_, grownCap w (i + z) c e, (Builtin.zeroCells zv.cells z).toList, hr, by rw [Array.length_toList, hzc], ((Below.refl w.heap.size w).drew).alloc (Nat.le_refl _) _, ⟨by rw [List.length_append, htl, Array.length_toList, hzc, Nat.add_mul], .inr ⟨w.heap.size, _, _, rfl, Nat.le_refl _, heap_alloc_new w.drew _, hge, hle, ?_, ?_⟩⟩⟩
  · rw [Array.size_append, Array.size_append, List.size_toArray, htl, hzc, hzc]
    have : (grownCap w (i + z) c e - (i + z)) * k = grownCap w (i + z) c e * k - (i + z) * k := Nat.sub_mul _ _ _
    have h2 : (i + z) * k ≤ grownCap w (i + z) c e * k := Nat.mul_le_mul_right _ hge
    rw [Nat.add_mul] at this h2
    rw [this]
    omega
  · rw [Array.toList_append, Array.toList_append]
    refine List.take_left' ?_
    rw [List.length_append, htl, Array.length_toList, hzc, Nat.add_mul]
end
theorem one_zeros {z : Array Value} (h : ∀ u ∈ z.toList, u.oneCell' = true) (hz : 0 < z.size) (n : Nat) : ∀ u ∈ (Builtin.zeroCells z n).toList, u.oneCell' = true := by
  intro u hu
  simp [Builtin.zeroCells] at hu
  obtain ⟨i, _, rfl⟩ := hu
  have hi : i % z.size < z.size := Nat.mod_lt _ hz
  rw [getElem!_pos z _ hi]
  exact h _ (by simp)
/-- The builtin clear at elements of many cells. -/
theorem clear_k {P : Program} (w : World) (T e ty : TypeId) (z : Value) (ht : P.underlying T = some (.slice e)) (hv : ∀ w, (zeroValue e).run P w = .ok z w) (hz1 : ∀ u ∈ z.cells.toList, u.oneCell' = true) (hz : 0 < z.cells.size) (b o n c : Nat) (hn : 0 < n)
    (hc : ∀ j, j < n * z.cells.size → (w.cell? ⟨b, o + j, none⟩).isSome = true) (hf : ∀ j, j < n * z.cells.size → w.frozen? ⟨b, o + j, none⟩ = false) :
    (Builtin.clear_ #[T] ty #[.slice (some ⟨b, o, none⟩) n c]).run P w = .ok (.tuple #[]) (w.setCells b o (Builtin.zeroCells z.cells n).toList) := by
  have hl : (Builtin.zeroCells z.cells n).toList.length = n * z.cells.size := by simp [Builtin.zeroCells]
  have hst := run_storeCells_cells (P := P) b o (Builtin.zeroCells z.cells n).toList 0 w (by rw [hl]; simpa using hc) (by rw [hl]; simpa using hf) (one_zeros hz1 hz n)
  simp only [Nat.add_zero] at hst
  obtain ⟨m, rfl⟩ : ∃ m, n = m + 1 := ⟨n - 1, by omega⟩
  simp [Builtin.clear_, run_underlying ht, hv, hst]
section
variable {P : Program} {ops : Array Oper} {o : Oper} {a : Act} {w : World}
/-- A builtin of two arguments whose run is known, as a step of a region that draws. -/
theorem step_copy_run {K : Act → World → Prop} {Q : Exit → Act → World → Prop} {E : Prop}
    (hg : o.guard = none) (d x : Operand) (dT sT : TypeId) (hop : o.op = Op.call { callee := Callee.builtin Builtin.copy, args := #[d, x], argTypes := #[dT, sT] })
    (v u : Value) (hd : a.eval d = v) (hx : a.eval x = u) {v' : Value} {w' : World} (hr : (Builtin.copy_ #[dT, sT] o.type #[v, u]).run P w = .ok v' w') (hK : K (a.put o.dst v') w') :
    if Region.wanted o (yielded ops a.tmps) = true then Oper.wp P o a w K Q else E := by
  have hw : Region.wanted o (yielded ops a.tmps) = true := by simp [Region.wanted, hg]
  rw [if_pos hw]
  unfold Oper.wp
  simp [execOp, hop, resolve, invoke, builtin, hd, hx, hr, Result.andThen]
  exact hK
theorem step_append_run {K : Act → World → Prop} {Q : Exit → Act → World → Prop} {E : Prop}
    (hg : o.guard = none) (d x : Operand) (dT sT : TypeId) (hop : o.op = Op.call { callee := Callee.builtin Builtin.append, args := #[d, x], argTypes := #[dT, sT] })
    (v u : Value) (hd : a.eval d = v) (hx : a.eval x = u) {v' : Value} {w' : World} (hr : (Builtin.append_ #[dT, sT] o.type #[v, u]).run P w = .ok v' w') (hK : K (a.put o.dst v') w') :
    if Region.wanted o (yielded ops a.tmps) = true then Oper.wp P o a w K Q else E := by
  have hw : Region.wanted o (yielded ops a.tmps) = true := by simp [Region.wanted, hg]
  rw [if_pos hw]
  unfold Oper.wp
  simp [execOp, hop, resolve, invoke, builtin, hd, hx, hr, Result.andThen]
  exact hK
theorem wpList_copy_run {rest : List Oper} {Q : Exit → Act → World → Prop} (hgd : o.guard = none) (d s : Operand) (t t' : TypeId)
    (ho : o.op = .call { callee := .builtin .copy, args := #[d, s], argTypes := #[t, t'] }) (v u : Value) (hd : a.eval d = v) (hs : a.eval s = u) {v' : Value} {w' : World}
    (hr : (Builtin.copy_ #[t, t'] o.type #[v, u]).run P w = .ok v' w') (h : wpList P ops Q rest (a.put o.dst v') w') : wpList P ops Q (o :: rest) a w := by
  refine wpList_plain hgd fun K hK => ?_
  unfold Oper.wp execOp
  simp only [ho, resolve, invoke, builtin, Sem.run_bind, Sem.run_pure, Result.andThen_ok, List.map_toArray, List.map_cons, List.map_nil, hd, hs, hr]
  exact hK _ _ h
theorem wpList_append_runs {rest : List Oper} {Q : Exit → Act → World → Prop} (hgd : o.guard = none) (d s : Operand) (t t' : TypeId)
    (ho : o.op = .call { callee := .builtin .append, args := #[d, s], argTypes := #[t, t'] }) (v u : Value) (hd : a.eval d = v) (hs : a.eval s = u) {v' : Value} {w' : World}
    (hr : (Builtin.append_ #[t, t'] o.type #[v, u]).run P w = .ok v' w') (h : wpList P ops Q rest (a.put o.dst v') w') : wpList P ops Q (o :: rest) a w := by
  refine wpList_plain hgd fun K hK => ?_
  unfold Oper.wp execOp
  simp only [ho, resolve, invoke, builtin, Sem.run_bind, Sem.run_pure, Result.andThen_ok, List.map_toArray, List.map_cons, List.map_nil, hd, hs, hr]
  exact hK _ _ h
end
end Go.Proofs.Ytkaepadkdohmpaa.Mem
