/-
  The frame of layer 13's statements hands over items, rows of integers, integers, an array of two: what lies in memory.
-/
import Derived.Test.YtnojminhbakfaaaTwnLawC
import Derived.Test.YtnojminhbakfaaaReadInts
import Derived.Test.YtnojminhbakfaaaApiRead
namespace Go.Proofs.Ytnojminhbakfaaa.TwnWalk
open Go.RowKit Go.Proofs.Ytnojminhbakfaaa.SubPlain Go.Proofs.Ytnojminhbakfaaa.ApiPlain Go.Proofs.Ytnojminhbakfaaa.TwnPlain Go.Proofs.Ytnojminhbakfaaa.Mem Go.Proofs.Ytnojminhbakfaaa.ApiMem Go.Proofs.Ytnojminhbakfaaa.SubRef Go.Proofs.Ytnojminhbakfaaa.TwnRef Go.Proofs.Ytnojminhbakfaaa.SubWalk Go.Proofs.Ytnojminhbakfaaa.Read
open Go.ChangeShapes Go.WideShapes Go.Deep
theorem cells_pair : Try.prog.cellsOf 35 = 2 := by kernel_rfl
set_option maxRecDepth 100000 in
theorem pair_lims {H : Type} {enc : TypeId × Value → H} {W : World} {base : Nat} {v : Value} {d : DataW H} {p : List MemPlace} (hv : Value.okWide Try.prog W .any base 35 v)
    (h : DataW.Trod enc Try.prog W 0 (fun _ => true) true 35 v d p) : ∃ a b, v = .agg #[.int .i64 a, .int .i64 b] ∧ (-9223372036854775808 ≤ a ∧ a ≤ 9223372036854775807) ∧ -9223372036854775808 ≤ b ∧ b ≤ 9223372036854775807 := by
  obtain ⟨cs, rfl, hsz, _⟩ : ∃ cs, v = .agg cs ∧ cs.size = Try.prog.cellsOf 35 ∧ Row.okWide Try.prog W .any base 35 cs := by
    simpa [Value.okWide, Try.underlying35] using hv
  rw [cells_pair] at hsz
  obtain ⟨l⟩ := cs
  match l, hsz with
  | [c0, c1], _ =>
    obtain ⟨fuel, hf⟩ := h
    obtain ⟨xs, m, _, _, _, hl, hel⟩ := DataW.trod_array Try.underlying35 hf
    have e0 := hel 0 (by omega)
    have e1 := hel 1 (by omega)
    match xs, hl with
    | [y0, y1], _ =>
      rw [cells_i] at e0 e1
      obtain ⟨x0, f0, _, w0⟩ := DataW.trod_int Try.underlying3 e0
      obtain ⟨x1, f1, _, w1⟩ := DataW.trod_int Try.underlying3 e1
      simp [Value.cells] at f0 f1
      subst f0 f1
      exact ⟨x0, x1, rfl, wf_lim w0, wf_lim w1⟩
set_option maxRecDepth 100000 in
theorem best_open {H : Type} {enc : TypeId × Value → H} {d0 d1 d2 : DataW H} {p0 p1 p2 : List MemPlace} (W : World) (base : Nat) (v0 v1 v2 : Value) (g0 : Value.okWide Try.prog W .any base 22 v0) (g1 : Value.okWide Try.prog W .any base 3 v1) (g2 : Value.okWide Try.prog W .any base 3 v2)
    (h0 : DataW.Trod enc Try.prog W 0 (fun _ => true) true 22 v0 d0 p0) (h1 : DataW.Trod enc Try.prog W 0 (fun _ => true) true 3 v1 d1 p1) (h2 : DataW.Trod enc Try.prog W 0 (fun _ => true) true 3 v2 d2 p2) :
    Calls Try.prog 3 #[v0, v1, v2] W (TrueIs W) := by
  obtain ⟨l, hl, hf⟩ := itms_read g0 h0
  obtain ⟨r, rfl, hr⟩ := int_lims g1 h1
  obtain ⟨s, rfl, hs⟩ := int_lims g2 h2
  exact bestT_any l r s v0 W (ItmsAt.of hl) (fun x hx => (hf x hx).f0) hr hs
set_option maxRecDepth 100000 in
theorem sums_open {H : Type} {enc : TypeId × Value → H} {d0 d1 d2 : DataW H} {p0 p1 p2 : List MemPlace} (W : World) (base : Nat) (v0 v1 v2 : Value) (g0 : Value.okWide Try.prog W .any base 22 v0) (g1 : Value.okWide Try.prog W .any base 24 v1) (g2 : Value.okWide Try.prog W .any base 35 v2)
    (h0 : DataW.Trod enc Try.prog W 0 (fun _ => true) true 22 v0 d0 p0) (h1 : DataW.Trod enc Try.prog W 0 (fun _ => true) true 24 v1 d1 p1) (h2 : DataW.Trod enc Try.prog W 0 (fun _ => true) true 35 v2 d2 p2) :
    Calls Try.prog 4 #[v0, v1, v2] W (TrueIs W) := by
  obtain ⟨l, hl, hf⟩ := itms_read g0 h0
  obtain ⟨ps, hp, hg⟩ := ints_read g1 h1
  obtain ⟨a, b, rfl, ha, _⟩ := pair_lims g2 h2
  exact sumsT_any l ps a b v0 v1 W (ItmsAt.of hl) (fun x hx => (hf x hx).f0) hp hg ha
end Go.Proofs.Ytnojminhbakfaaa.TwnWalk
