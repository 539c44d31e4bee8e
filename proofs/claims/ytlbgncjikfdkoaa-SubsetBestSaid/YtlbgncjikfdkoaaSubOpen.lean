/-
  The frame of layer 12's statements hands over rows of integers, an integer: what lies in memory.
-/
import Derived.Test.YtlbgncjikfdkoaaSubLawC
import Derived.Test.YtlbgncjikfdkoaaReadInts
namespace Go.Proofs.Ytlbgncjikfdkoaa.SubWalk
open Go.RowKit Go.Proofs.Ytlbgncjikfdkoaa.SubPlain Go.Proofs.Ytlbgncjikfdkoaa.Mem Go.Proofs.Ytlbgncjikfdkoaa.Read
open Go.ChangeShapes Go.WideShapes Go.Deep
set_option maxRecDepth 100000 in
theorem best_open {H : Type} {enc : TypeId × Value → H} {d0 d1 : DataW H} {p0 p1 : List MemPlace} (W : World) (base : Nat) (v0 v1 : Value) (g0 : Value.okWide Try.prog W .any base 22 v0) (g1 : Value.okWide Try.prog W .any base 3 v1)
    (h0 : DataW.Trod enc Try.prog W 0 (fun _ => true) true 22 v0 d0 p0) (h1 : DataW.Trod enc Try.prog W 0 (fun _ => true) true 3 v1 d1 p1) :
    Calls Try.prog 3 #[v0, v1] W (TrueIs W) := by
  obtain ⟨l, hl, hf⟩ := ints_read g0 h0
  obtain ⟨r, rfl, hr⟩ := int_lims g1 h1
  exact best_any l r v0 W hl hf hr
set_option maxRecDepth 100000 in
theorem reach_open {H : Type} {enc : TypeId × Value → H} {d0 d1 d2 : DataW H} {p0 p1 p2 : List MemPlace} (W : World) (base : Nat) (v0 v1 v2 : Value) (g0 : Value.okWide Try.prog W .any base 22 v0) (g1 : Value.okWide Try.prog W .any base 3 v1) (g2 : Value.okWide Try.prog W .any base 22 v2)
    (h0 : DataW.Trod enc Try.prog W 0 (fun _ => true) true 22 v0 d0 p0) (h1 : DataW.Trod enc Try.prog W 0 (fun _ => true) true 3 v1 d1 p1) (h2 : DataW.Trod enc Try.prog W 0 (fun _ => true) true 22 v2 d2 p2) :
    Calls Try.prog 4 #[v0, v1, v2] W (TrueIs W) := by
  obtain ⟨l, hl, hf⟩ := ints_read g0 h0
  obtain ⟨r, rfl, hr⟩ := int_lims g1 h1
  obtain ⟨ps, hp, hg⟩ := ints_read g2 h2
  exact reach_any l ps r v0 v2 W hl hf hp hg hr
end Go.Proofs.Ytlbgncjikfdkoaa.SubWalk
