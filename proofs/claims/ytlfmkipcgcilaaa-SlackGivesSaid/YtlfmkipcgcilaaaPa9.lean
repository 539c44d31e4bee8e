/-
  What the theorem uses of the texts below it.
-/
import Derived.Below
import Derived.Laws.OwnMore
import Derived.Deep.Draws
import Derived.Deep.OwnRows
import Derived.Lib.Hide
import Derived.OwnWalk
import Derived.Deep.QuietTactic
import Derived.BigQuiet
import Derived.Lib.SliceRun
import Derived.Test.YtlfmkipcgcilaaaRows
import Derived.WalkKit
import Derived.WalkSpells
import Derived.WalkLawsBesides
import Derived.Laws.StructEq
import Derived.LoopTactic
import Derived.Deep.CutBlock
import Derived.Deep.DeepCutAuto
import Derived.Deep.RegionHeld3
import Derived.ArgAppend
import Derived.Deep.RegionLaw
import Derived.Lib.AppendIntMem
import Derived.StillTailTactics
import Derived.Shelf.Abstract
import Derived.Lib.OwnBridge
import Derived.Shelf.Small.Bits
import Derived.Shelf.Small.Wraps
import Derived.Shelf.Strconv.Itoa0
import Derived.Test.YtlfmkipcgcilaaaProg
import Derived.Shelf.SlSortCmp.NoneTotal
import Derived.Shelf.SlicesG.Cmp
import Derived.BigRegion
import Derived.OpenShut
import Derived.Lib.SmallJoins
import Derived.Deep.Strs
import Derived.ChangeMaps5
import Derived.Test.YtlfmkipcgcilaaaPa8
namespace Go.Proofs.Ytlfmkipcgcilaaa.SlaWalk
open Go.RowKit Go.Proofs.Ytlfmkipcgcilaaa.SpanPlain Go.Proofs.Ytlfmkipcgcilaaa.StepPlain Go.Proofs.Ytlfmkipcgcilaaa.JobPlain Go.Proofs.Ytlfmkipcgcilaaa.ApiPlain Go.Proofs.Ytlfmkipcgcilaaa.Mem Go.Proofs.Ytlfmkipcgcilaaa.SpanMem Go.Proofs.Ytlfmkipcgcilaaa.StepMem Go.Proofs.Ytlfmkipcgcilaaa.JobMem Go.Proofs.Ytlfmkipcgcilaaa.OrdMem Go.Proofs.Ytlfmkipcgcilaaa.ApiMem Go.Proofs.Ytlfmkipcgcilaaa.Read
open Go.ChangeShapes Go.WideShapes Go.Deep Go.ChangeMaps
theorem cells_jobs2 : Try.prog.cellsOf 26 = 2 := by kernel_rfl
theorem cells_sl1 : Try.prog.cellsOf 23 = 1 := by kernel_rfl
theorem cells_sl2 : Try.prog.cellsOf 24 = 1 := by kernel_rfl
set_option maxRecDepth 100000 in
theorem jobs_val {H : Type} {enc : TypeId × Value → H} {W : World} {base : Nat} {v : Value} {d : DataW H} {p : List MemPlace} (hv : Value.okWide Try.prog W .any base 26 v)
    (h : DataW.Trod enc Try.prog W 0 (fun _ => true) true 26 v d p) : ∃ a b js l, v = .agg #[a, b] ∧ JobsIs js W a ∧ prmL.Is l W b := by
  obtain ⟨cs, rfl, hsz⟩ := okWide_struct Try.underlying26 hv
  obtain ⟨fuel, hf⟩ := h
  obtain ⟨y0, y1, m, hl, h0, h1⟩ := trod_s2 Try.underlying26 hf
  rw [cells_jobs2] at hl
  obtain ⟨l⟩ := cs
  match l, hl with
  | [c0, c1], _ =>
    dsimp only [Value.cells] at h0 h1
    rw [cells_sl1] at h0
    rw [cells_sl2] at h1
    obtain ⟨js, hj, _⟩ := jobs_cell h0
    obtain ⟨ps, hp, _⟩ := lay_read_cell prmL (P := PrmFit) Try.underlying24 cells_prm (fun h => prm_read h) h1
    exact ⟨c0, c1, js, ps, rfl, hj, hp⟩
set_option maxRecDepth 100000 in
theorem tries_open {H : Type} {enc : TypeId × Value → H} {d0 d1 d2 : DataW H} {p0 p1 p2 : List MemPlace} (W : World) (base : Nat) (v0 v1 v2 : Value) (g0 : Value.okWide Try.prog W .any base 22 v0) (g1 : Value.okWide Try.prog W .any base 26 v1) (g2 : Value.okWide Try.prog W .any base 27 v2)
    (h0 : DataW.Trod enc Try.prog W 0 (fun _ => true) true 22 v0 d0 p0) (h1 : DataW.Trod enc Try.prog W 0 (fun _ => true) true 26 v1 d1 p1) (h2 : DataW.Trod enc Try.prog W 0 (fun _ => true) true 27 v2 d2 p2) :
    Calls Try.prog 3 #[v0, v1, v2] W (TrueIs W) := by
  obtain ⟨s, hs⟩ := steps_read g0 h0
  obtain ⟨a, b, js, l, rfl, hj, hp⟩ := jobs_val g1 h1
  obtain ⟨now, id, rfl⟩ := arr2_val g2 h2
  exact tries_any s js l now id _ _ _ W hs hj hp
set_option maxRecDepth 100000 in
theorem pass_open {H : Type} {enc : TypeId × Value → H} {d0 d1 d2 : DataW H} {p0 p1 p2 : List MemPlace} (W : World) (base : Nat) (v0 v1 v2 : Value) (g0 : Value.okWide Try.prog W .any base 22 v0) (g1 : Value.okWide Try.prog W .any base 3 v1) (g2 : Value.okWide Try.prog W .any base 26 v2)
    (h0 : DataW.Trod enc Try.prog W 0 (fun _ => true) true 22 v0 d0 p0) (h1 : DataW.Trod enc Try.prog W 0 (fun _ => true) true 3 v1 d1 p1) (h2 : DataW.Trod enc Try.prog W 0 (fun _ => true) true 26 v2 d2 p2) :
    Calls Try.prog 4 #[v0, v1, v2] W (TrueIs W) := by
  obtain ⟨s, hs⟩ := steps_read g0 h0
  obtain ⟨now, rfl⟩ := int_val g1 h1
  obtain ⟨a, b, js, l, rfl, hj, hp⟩ := jobs_val g2 h2
  exact pass_any s js l now _ _ _ W hs hj hp
set_option maxRecDepth 100000 in
theorem gives_open {H : Type} {enc : TypeId × Value → H} {d0 d1 d2 : DataW H} {p0 p1 p2 : List MemPlace} (W : World) (base : Nat) (v0 v1 v2 : Value) (g0 : Value.okWide Try.prog W .any base 22 v0) (g1 : Value.okWide Try.prog W .any base 3 v1) (g2 : Value.okWide Try.prog W .any base 26 v2)
    (h0 : DataW.Trod enc Try.prog W 0 (fun _ => true) true 22 v0 d0 p0) (h1 : DataW.Trod enc Try.prog W 0 (fun _ => true) true 3 v1 d1 p1) (h2 : DataW.Trod enc Try.prog W 0 (fun _ => true) true 26 v2 d2 p2) :
    Calls Try.prog 5 #[v0, v1, v2] W (TrueIs W) := by
  obtain ⟨s, hs⟩ := steps_read g0 h0
  obtain ⟨now, rfl⟩ := int_val g1 h1
  obtain ⟨a, b, js, l, rfl, hj, hp⟩ := jobs_val g2 h2
  exact gives_any s js l now _ _ _ W hs hj hp
end Go.Proofs.Ytlfmkipcgcilaaa.SlaWalk
