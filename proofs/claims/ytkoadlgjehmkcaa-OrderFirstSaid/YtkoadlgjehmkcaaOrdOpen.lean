/-
  The frame of layer 8's statements hands over jobs, a job, integers: what lies in memory.
-/
import Derived.Test.YtkoadlgjehmkcaaOrdLawB
import Derived.Test.YtkoadlgjehmkcaaOrdLawC
import Derived.Test.YtkoadlgjehmkcaaOrdLawD
import Derived.Test.YtkoadlgjehmkcaaOrdRead
namespace Go.Proofs.Ytkoadlgjehmkcaa.OrdWalk
open Go.RowKit Go.Proofs.Ytkoadlgjehmkcaa.JobPlain Go.Proofs.Ytkoadlgjehmkcaa.OrdPlain Go.Proofs.Ytkoadlgjehmkcaa.Mem Go.Proofs.Ytkoadlgjehmkcaa.JobMem Go.Proofs.Ytkoadlgjehmkcaa.OrdMem Go.Proofs.Ytkoadlgjehmkcaa.Read
open Go.ChangeShapes Go.WideShapes Go.Deep
set_option maxRecDepth 100000 in
theorem sorts_open {H : Type} {enc : TypeId × Value → H} {d0 d1 d2 : DataW H} {p0 p1 p2 : List MemPlace} (W : World) (base : Nat) (v0 v1 v2 : Value) (g0 : Value.okWide Try.prog W .any base 22 v0) (g1 : Value.okWide Try.prog W .any base 24 v1) (g2 : Value.okWide Try.prog W .any base 3 v2)
    (h0 : DataW.Trod enc Try.prog W 0 (fun _ => true) true 22 v0 d0 p0) (h1 : DataW.Trod enc Try.prog W 0 (fun _ => true) true 24 v1 d1 p1) (h2 : DataW.Trod enc Try.prog W 0 (fun _ => true) true 3 v2 d2 p2) :
    Calls Try.prog 3 #[v0, v1, v2] W (TrueIs W) := by
  obtain ⟨l, hl⟩ := jobs_read g0 h0
  obtain ⟨j, rfl, _⟩ := job_val g1 h1
  obtain ⟨id, rfl⟩ := int_val g2 h2
  exact sorts_any l j id v0 W hl
set_option maxRecDepth 100000 in
theorem ahead_open {H : Type} {enc : TypeId × Value → H} {d0 d1 d2 : DataW H} {p0 p1 p2 : List MemPlace} (W : World) (base : Nat) (v0 v1 v2 : Value) (g0 : Value.okWide Try.prog W .any base 24 v0) (g1 : Value.okWide Try.prog W .any base 24 v1) (g2 : Value.okWide Try.prog W .any base 24 v2)
    (h0 : DataW.Trod enc Try.prog W 0 (fun _ => true) true 24 v0 d0 p0) (h1 : DataW.Trod enc Try.prog W 0 (fun _ => true) true 24 v1 d1 p1) (h2 : DataW.Trod enc Try.prog W 0 (fun _ => true) true 24 v2 d2 p2) :
    Calls Try.prog 4 #[v0, v1, v2] W (TrueIs W) := by
  obtain ⟨a, rfl, _⟩ := job_val g0 h0
  obtain ⟨b, rfl, _⟩ := job_val g1 h1
  obtain ⟨c, rfl, _⟩ := job_val g2 h2
  exact ahead_any a b c W
set_option maxRecDepth 100000 in
theorem first_open {H : Type} {enc : TypeId × Value → H} {d0 d1 d2 : DataW H} {p0 p1 p2 : List MemPlace} (W : World) (base : Nat) (v0 v1 v2 : Value) (g0 : Value.okWide Try.prog W .any base 22 v0) (g1 : Value.okWide Try.prog W .any base 3 v1) (g2 : Value.okWide Try.prog W .any base 3 v2)
    (h0 : DataW.Trod enc Try.prog W 0 (fun _ => true) true 22 v0 d0 p0) (h1 : DataW.Trod enc Try.prog W 0 (fun _ => true) true 3 v1 d1 p1) (h2 : DataW.Trod enc Try.prog W 0 (fun _ => true) true 3 v2 d2 p2) :
    Calls Try.prog 5 #[v0, v1, v2] W (TrueIs W) := by
  obtain ⟨l, hl⟩ := jobs_read g0 h0
  obtain ⟨m, rfl⟩ := int_val g1 h1
  obtain ⟨x, rfl⟩ := int_val g2 h2
  exact first_any l m x v0 W hl
end Go.Proofs.Ytkoadlgjehmkcaa.OrdWalk
