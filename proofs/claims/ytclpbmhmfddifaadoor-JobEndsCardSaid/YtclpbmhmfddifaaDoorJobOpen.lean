/-
  The frame of layer 7's statements hands over a job, integers, a text, pairs of integers: what lies in memory.
-/
import Derived.Test.YtclpbmhmfddifaaDoorJobLawC
import Derived.Test.YtclpbmhmfddifaaDoorJobLawD
import Derived.Test.YtclpbmhmfddifaaDoorJobRead
import Derived.Test.YtclpbmhmfddifaaDoorJobReadT
namespace Go.Proofs.YtclpbmhmfddifaaDoor.JobWalk
open Go.RowKit Go.Proofs.YtclpbmhmfddifaaDoor.JobPlain Go.Proofs.YtclpbmhmfddifaaDoor.Mem Go.Proofs.YtclpbmhmfddifaaDoor.JobMem Go.Proofs.YtclpbmhmfddifaaDoor.JobRef Go.Proofs.YtclpbmhmfddifaaDoor.Read
open Go.ChangeShapes Go.WideShapes Go.Deep
set_option maxRecDepth 100000 in
theorem turns_open {H : Type} {enc : TypeId × Value → H} {d0 d1 d2 : DataW H} {p0 p1 p2 : List MemPlace} (W : World) (base : Nat) (v0 v1 v2 : Value) (g0 : Value.okWide Tryd.prog W .any base 23 v0) (g1 : Value.okWide Tryd.prog W .any base 3 v1) (g2 : Value.okWide Tryd.prog W .any base 3 v2)
    (h0 : DataW.Trod enc Tryd.prog W 0 (fun _ => true) true 23 v0 d0 p0) (h1 : DataW.Trod enc Tryd.prog W 0 (fun _ => true) true 3 v1 d1 p1) (h2 : DataW.Trod enc Tryd.prog W 0 (fun _ => true) true 3 v2 d2 p2) (hL : Lays W) :
    Calls Tryd.prog 3 #[v0, v1, v2] W (TrueIs W) := by
  obtain ⟨j, rfl, hf⟩ := job_val g0 h0
  obtain ⟨ev, rfl⟩ := int_val g1 h1
  obtain ⟨t, rfl, ht⟩ := int_fit g2 h2
  exact turns_any j ev t W hL hf ht
set_option maxRecDepth 100000 in
theorem tells_open {H : Type} {enc : TypeId × Value → H} {d0 d1 d2 : DataW H} {p0 p1 p2 : List MemPlace} (W : World) (base : Nat) (v0 v1 v2 : Value) (g0 : Value.okWide Tryd.prog W .any base 23 v0) (g1 : Value.okWide Tryd.prog W .any base 9 v1) (g2 : Value.okWide Tryd.prog W .any base 3 v2)
    (h0 : DataW.Trod enc Tryd.prog W 0 (fun _ => true) true 23 v0 d0 p0) (h1 : DataW.Trod enc Tryd.prog W 0 (fun _ => true) true 9 v1 d1 p1) (h2 : DataW.Trod enc Tryd.prog W 0 (fun _ => true) true 3 v2 d2 p2) (hL : Lays W) :
    Calls Tryd.prog 4 #[v0, v1, v2] W (TrueIs W) := by
  obtain ⟨j, rfl, hf⟩ := job_val g0 h0
  obtain ⟨s, rfl, hs⟩ := str_val g1 h1
  obtain ⟨t, rfl, ht⟩ := int_fit g2 h2
  exact tells_any j s t W hL hf hs ht
set_option maxRecDepth 100000 in
theorem ends_open {H : Type} {enc : TypeId × Value → H} {d0 d1 : DataW H} {p0 p1 : List MemPlace} (W : World) (base : Nat) (v0 v1 : Value) (g0 : Value.okWide Tryd.prog W .any base 23 v0) (g1 : Value.okWide Tryd.prog W .any base 36 v1)
    (h0 : DataW.Trod enc Tryd.prog W 0 (fun _ => true) true 23 v0 d0 p0) (h1 : DataW.Trod enc Tryd.prog W 0 (fun _ => true) true 36 v1 d1 p1) (hL : Lays W) :
    Calls Tryd.prog 5 #[v0, v1] W (TrueIs W) := by
  obtain ⟨j, rfl, hf⟩ := job_val g0 h0
  obtain ⟨l, A, c, hv, hp, hb⟩ := twos_read g1 h1
  exact ends_any j l v1 W hL hf ⟨A, c, hv, hp, hb⟩
end Go.Proofs.YtclpbmhmfddifaaDoor.JobWalk
