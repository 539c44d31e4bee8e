/-
  The frame of layer 6's statements hands over a slice of steps, integers, two integers: what lies in memory.
-/
import Derived.Test.YtalopnkdnlkdoaaGapLawC
import Derived.Test.YtalopnkdnlkdoaaReadStep
import Derived.Test.YtalopnkdnlkdoaaReadArr2
namespace Go.Proofs.Ytalopnkdnlkdoaa.GapWalk
open Go.RowKit Go.Proofs.Ytalopnkdnlkdoaa.SpanPlain Go.Proofs.Ytalopnkdnlkdoaa.StepPlain Go.Proofs.Ytalopnkdnlkdoaa.GapPlain Go.Proofs.Ytalopnkdnlkdoaa.Mem Go.Proofs.Ytalopnkdnlkdoaa.SpanMem Go.Proofs.Ytalopnkdnlkdoaa.StepMem Go.Proofs.Ytalopnkdnlkdoaa.SpanRef Go.Proofs.Ytalopnkdnlkdoaa.Read
open Go.ChangeShapes Go.WideShapes Go.Deep
set_option maxRecDepth 100000 in
theorem fit_open {H : Type} {enc : TypeId × Value → H} {d0 d1 d2 : DataW H} {p0 p1 p2 : List MemPlace} (W : World) (base : Nat) (v0 v1 v2 : Value) (g0 : Value.okWide Try.prog W .any base 22 v0) (g1 : Value.okWide Try.prog W .any base 3 v1) (g2 : Value.okWide Try.prog W .any base 23 v2)
    (h0 : DataW.Trod enc Try.prog W 0 (fun _ => true) true 22 v0 d0 p0) (h1 : DataW.Trod enc Try.prog W 0 (fun _ => true) true 3 v1 d1 p1) (h2 : DataW.Trod enc Try.prog W 0 (fun _ => true) true 23 v2 d2 p2) :
    Calls Try.prog 3 #[v0, v1, v2] W (TrueIs W) := by
  obtain ⟨s, hs⟩ := steps_read g0 h0
  obtain ⟨f, rfl⟩ := int_val g1 h1
  obtain ⟨m, n, rfl⟩ := arr2_val g2 h2
  exact fit_any s f m n _ W hs
set_option maxRecDepth 100000 in
theorem ok_open {H : Type} {enc : TypeId × Value → H} {d0 d1 d2 : DataW H} {p0 p1 p2 : List MemPlace} (W : World) (base : Nat) (v0 v1 v2 : Value) (g0 : Value.okWide Try.prog W .any base 22 v0) (g1 : Value.okWide Try.prog W .any base 3 v1) (g2 : Value.okWide Try.prog W .any base 23 v2)
    (h0 : DataW.Trod enc Try.prog W 0 (fun _ => true) true 22 v0 d0 p0) (h1 : DataW.Trod enc Try.prog W 0 (fun _ => true) true 3 v1 d1 p1) (h2 : DataW.Trod enc Try.prog W 0 (fun _ => true) true 23 v2 d2 p2) :
    Calls Try.prog 4 #[v0, v1, v2] W (TrueIs W) := by
  obtain ⟨s, hs⟩ := steps_read g0 h0
  obtain ⟨a, rfl⟩ := int_val g1 h1
  obtain ⟨p, n, rfl⟩ := arr2_val g2 h2
  exact ok_any s a p n _ W hs
set_option maxRecDepth 100000 in
theorem all_open {H : Type} {enc : TypeId × Value → H} {d0 d1 d2 : DataW H} {p0 p1 p2 : List MemPlace} (W : World) (base : Nat) (v0 v1 v2 : Value) (g0 : Value.okWide Try.prog W .any base 22 v0) (g1 : Value.okWide Try.prog W .any base 3 v1) (g2 : Value.okWide Try.prog W .any base 3 v2)
    (h0 : DataW.Trod enc Try.prog W 0 (fun _ => true) true 22 v0 d0 p0) (h1 : DataW.Trod enc Try.prog W 0 (fun _ => true) true 3 v1 d1 p1) (h2 : DataW.Trod enc Try.prog W 0 (fun _ => true) true 3 v2 d2 p2) :
    Calls Try.prog 5 #[v0, v1, v2] W (TrueIs W) := by
  obtain ⟨s, hs⟩ := steps_read g0 h0
  obtain ⟨m, rfl⟩ := int_val g1 h1
  obtain ⟨t, rfl⟩ := int_val g2 h2
  exact all_any s m t _ W hs
end Go.Proofs.Ytalopnkdnlkdoaa.GapWalk
