/-
  The frame of layer 10's statements hands over limits, uses, a limit, a job, a text: what lies in memory.
-/
import Derived.Test.YtgjmgcmheccdfaaLimLawB
import Derived.Test.YtgjmgcmheccdfaaLimLawC
import Derived.Test.YtgjmgcmheccdfaaApiRead
import Derived.Test.YtgjmgcmheccdfaaJobRead
namespace Go.Proofs.Ytgjmgcmheccdfaa.LimWalk
open Go.RowKit Go.Proofs.Ytgjmgcmheccdfaa.JobPlain Go.Proofs.Ytgjmgcmheccdfaa.ApiPlain Go.Proofs.Ytgjmgcmheccdfaa.LimPlain Go.Proofs.Ytgjmgcmheccdfaa.Mem Go.Proofs.Ytgjmgcmheccdfaa.ApiMem Go.Proofs.Ytgjmgcmheccdfaa.JobMem Go.Proofs.Ytgjmgcmheccdfaa.LimRef Go.Proofs.Ytgjmgcmheccdfaa.Read
open Go.ChangeShapes Go.WideShapes Go.Deep
set_option maxRecDepth 100000 in
theorem sets_open {H : Type} {enc : TypeId × Value → H} {d0 d1 d2 : DataW H} {p0 p1 p2 : List MemPlace} (W : World) (base : Nat) (v0 v1 v2 : Value) (g0 : Value.okWide Try.prog W .any base 22 v0) (g1 : Value.okWide Try.prog W .any base 24 v1) (g2 : Value.okWide Try.prog W .any base 9 v2)
    (h0 : DataW.Trod enc Try.prog W 0 (fun _ => true) true 22 v0 d0 p0) (h1 : DataW.Trod enc Try.prog W 0 (fun _ => true) true 24 v1 d1 p1) (h2 : DataW.Trod enc Try.prog W 0 (fun _ => true) true 9 v2 d2 p2) :
    Calls Try.prog 3 #[v0, v1, v2] W (TrueIs W) := by
  obtain ⟨l, hl, hs⟩ := lims_read g0 h0
  obtain ⟨x, rfl, hx⟩ := lim_val g1 h1
  obtain ⟨s, rfl, hz⟩ := str_val g2 h2
  exact sets_any l x s v0 W hl hs hx hz
set_option maxRecDepth 100000 in
theorem may_open {H : Type} {enc : TypeId × Value → H} {d0 d1 d2 : DataW H} {p0 p1 p2 : List MemPlace} (W : World) (base : Nat) (v0 v1 v2 : Value) (g0 : Value.okWide Try.prog W .any base 22 v0) (g1 : Value.okWide Try.prog W .any base 34 v1) (g2 : Value.okWide Try.prog W .any base 36 v2)
    (h0 : DataW.Trod enc Try.prog W 0 (fun _ => true) true 22 v0 d0 p0) (h1 : DataW.Trod enc Try.prog W 0 (fun _ => true) true 34 v1 d1 p1) (h2 : DataW.Trod enc Try.prog W 0 (fun _ => true) true 36 v2 d2 p2) :
    Calls Try.prog 4 #[v0, v1, v2] W (TrueIs W) := by
  obtain ⟨l, hl, hs⟩ := lims_read g0 h0
  obtain ⟨us, hu, hus⟩ := uses_read g1 h1
  obtain ⟨j, rfl, hj⟩ := job_val g2 h2
  exact may_any l us j v0 v1 W hl hu hs hus hj
end Go.Proofs.Ytgjmgcmheccdfaa.LimWalk
