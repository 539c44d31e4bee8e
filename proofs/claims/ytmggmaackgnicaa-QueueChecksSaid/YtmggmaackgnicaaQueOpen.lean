/-
  The frame of layer 9's statements hands over classes, jobs, integers: what lies in memory.
-/
import Derived.Test.YtmggmaackgnicaaQueLawC
import Derived.Test.YtmggmaackgnicaaApiRead
import Derived.Test.YtmggmaackgnicaaOrdRead
namespace Go.Proofs.Ytmggmaackgnicaa.QueWalk
open Go.RowKit Go.Proofs.Ytmggmaackgnicaa.JobPlain Go.Proofs.Ytmggmaackgnicaa.ApiPlain Go.Proofs.Ytmggmaackgnicaa.QuePlain Go.Proofs.Ytmggmaackgnicaa.Mem Go.Proofs.Ytmggmaackgnicaa.ApiMem Go.Proofs.Ytmggmaackgnicaa.OrdMem Go.Proofs.Ytmggmaackgnicaa.QueRef Go.Proofs.Ytmggmaackgnicaa.Read
open Go.ChangeShapes Go.WideShapes Go.Deep
set_option maxRecDepth 100000 in
theorem checks_open {H : Type} {enc : TypeId × Value → H} {d0 d1 d2 : DataW H} {p0 p1 p2 : List MemPlace} (W : World) (base : Nat) (v0 v1 v2 : Value) (g0 : Value.okWide Try.prog W .any base 22 v0) (g1 : Value.okWide Try.prog W .any base 3 v1) (g2 : Value.okWide Try.prog W .any base 3 v2)
    (h0 : DataW.Trod enc Try.prog W 0 (fun _ => true) true 22 v0 d0 p0) (h1 : DataW.Trod enc Try.prog W 0 (fun _ => true) true 3 v1 d1 p1) (h2 : DataW.Trod enc Try.prog W 0 (fun _ => true) true 3 v2 d2 p2) :
    Calls Try.prog 3 #[v0, v1, v2] W (TrueIs W) := by
  obtain ⟨l, hl, hs⟩ := cls_read g0 h0
  obtain ⟨x, rfl⟩ := int_val g1 h1
  obtain ⟨y, rfl⟩ := int_val g2 h2
  exact checks_any l x y v0 W hl hs
set_option maxRecDepth 100000 in
theorem splits_open {H : Type} {enc : TypeId × Value → H} {d0 d1 : DataW H} {p0 p1 : List MemPlace} (W : World) (base : Nat) (v0 v1 : Value) (g0 : Value.okWide Try.prog W .any base 22 v0) (g1 : Value.okWide Try.prog W .any base 35 v1)
    (h0 : DataW.Trod enc Try.prog W 0 (fun _ => true) true 22 v0 d0 p0) (h1 : DataW.Trod enc Try.prog W 0 (fun _ => true) true 35 v1 d1 p1) :
    Calls Try.prog 4 #[v0, v1] W (TrueIs W) := by
  obtain ⟨l, hl, hs⟩ := cls_read g0 h0
  obtain ⟨js, hj⟩ := jobs_read g1 h1
  exact splits_any l js v0 v1 W hl hj hs
end Go.Proofs.Ytmggmaackgnicaa.QueWalk
