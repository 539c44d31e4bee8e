/-
  The frame of layer 15's statements hands over steps, times, jobs: what lies in memory.
-/
import Derived.Test.YtonapgbokbeopaaShaLawC
import Derived.Test.YtonapgbokbeopaaShaLawD
import Derived.Test.YtonapgbokbeopaaReadStep
import Derived.Test.YtonapgbokbeopaaReadArr2
import Derived.Test.YtonapgbokbeopaaOrdRead
namespace Go.Proofs.Ytonapgbokbeopaa.ShaWalk
open Go.RowKit Go.Proofs.Ytonapgbokbeopaa.SpanPlain Go.Proofs.Ytonapgbokbeopaa.StepPlain Go.Proofs.Ytonapgbokbeopaa.JobPlain Go.Proofs.Ytonapgbokbeopaa.Mem Go.Proofs.Ytonapgbokbeopaa.SpanMem Go.Proofs.Ytonapgbokbeopaa.StepMem Go.Proofs.Ytonapgbokbeopaa.JobMem Go.Proofs.Ytonapgbokbeopaa.OrdMem Go.Proofs.Ytonapgbokbeopaa.Read
open Go.ChangeShapes Go.WideShapes Go.Deep Go.ChangeMaps
set_option maxRecDepth 100000 in
theorem of_open {H : Type} {enc : TypeId × Value → H} {d0 d1 d2 : DataW H} {p0 p1 p2 : List MemPlace} (W : World) (base : Nat) (v0 v1 v2 : Value) (g0 : Value.okWide Try.prog W .any base 22 v0) (g1 : Value.okWide Try.prog W .any base 23 v1) (g2 : Value.okWide Try.prog W .any base 25 v2)
    (h0 : DataW.Trod enc Try.prog W 0 (fun _ => true) true 22 v0 d0 p0) (h1 : DataW.Trod enc Try.prog W 0 (fun _ => true) true 23 v1 d1 p1) (h2 : DataW.Trod enc Try.prog W 0 (fun _ => true) true 25 v2 d2 p2) :
    Calls Try.prog 3 #[v0, v1, v2] W (TrueIs W) := by
  obtain ⟨s, hs⟩ := steps_read g0 h0
  obtain ⟨now, t, rfl⟩ := arr2_val g1 h1
  obtain ⟨j, rfl, _⟩ := job_val g2 h2
  exact of_any s now t j _ W hs
set_option maxRecDepth 100000 in
theorem lifts_open {H : Type} {enc : TypeId × Value → H} {d0 d1 d2 : DataW H} {p0 p1 p2 : List MemPlace} (W : World) (base : Nat) (v0 v1 v2 : Value) (g0 : Value.okWide Try.prog W .any base 22 v0) (g1 : Value.okWide Try.prog W .any base 3 v1) (g2 : Value.okWide Try.prog W .any base 25 v2)
    (h0 : DataW.Trod enc Try.prog W 0 (fun _ => true) true 22 v0 d0 p0) (h1 : DataW.Trod enc Try.prog W 0 (fun _ => true) true 3 v1 d1 p1) (h2 : DataW.Trod enc Try.prog W 0 (fun _ => true) true 25 v2 d2 p2) :
    Calls Try.prog 4 #[v0, v1, v2] W (TrueIs W) := by
  obtain ⟨s, hs⟩ := steps_read g0 h0
  obtain ⟨a, rfl⟩ := int_val g1 h1
  obtain ⟨j, rfl, _⟩ := job_val g2 h2
  exact lifts_any s a j _ W hs
set_option maxRecDepth 100000 in
theorem chains_open {H : Type} {enc : TypeId × Value → H} {d0 d1 d2 : DataW H} {p0 p1 p2 : List MemPlace} (W : World) (base : Nat) (v0 v1 v2 : Value) (g0 : Value.okWide Try.prog W .any base 22 v0) (g1 : Value.okWide Try.prog W .any base 3 v1) (g2 : Value.okWide Try.prog W .any base 43 v2)
    (h0 : DataW.Trod enc Try.prog W 0 (fun _ => true) true 22 v0 d0 p0) (h1 : DataW.Trod enc Try.prog W 0 (fun _ => true) true 3 v1 d1 p1) (h2 : DataW.Trod enc Try.prog W 0 (fun _ => true) true 43 v2 d2 p2) :
    Calls Try.prog 5 #[v0, v1, v2] W (TrueIs W) := by
  obtain ⟨s, hs⟩ := steps_read g0 h0
  obtain ⟨now, rfl⟩ := int_val g1 h1
  obtain ⟨l, hl⟩ := jobs_read g2 h2
  exact chains_any s now l _ _ W hs hl
end Go.Proofs.Ytonapgbokbeopaa.ShaWalk
