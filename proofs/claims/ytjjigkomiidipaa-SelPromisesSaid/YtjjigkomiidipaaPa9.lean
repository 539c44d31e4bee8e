/-
  What the theorem uses of the texts below it.
-/
import Derived.Below
import Derived.Laws.OwnMore
import Derived.Deep.Draws
import Derived.Deep.OwnRows
import Derived.Lib.Hide
import Derived.OwnWalk
import Derived.Deep.QuietTactic
import Derived.BigQuiet
import Derived.Lib.SliceRun
import Derived.Test.YtjjigkomiidipaaRows
import Derived.WalkKit
import Derived.WalkSpells
import Derived.WalkLawsBesides
import Derived.Laws.StructEq
import Derived.LoopTactic
import Derived.Deep.CutBlock
import Derived.Deep.DeepCutAuto
import Derived.Deep.RegionHeld3
import Derived.ArgAppend
import Derived.Deep.RegionLaw
import Derived.Shelf.Small.Bits
import Derived.Shelf.Small.Wraps
import Derived.Shelf.Strconv.Itoa0
import Derived.Shelf.Bits.Mul64
import Derived.Test.YtjjigkomiidipaaProg
import Derived.Lib.ItoaNum
import Derived.Laws.Bits64b
import Derived.Deep.LoopGhost
import Derived.Shelf.SlSortCmp.NoneTotal
import Derived.Shelf.SlicesG.Cmp
import Derived.Lib.OwnBridge
import Derived.Lib.AppendIntMem
import Derived.BigRegion
import Derived.OpenShut
import Derived.Lib.SmallJoins
import Derived.Deep.Strs
import Derived.ChangeMaps5
import Derived.Test.YtjjigkomiidipaaPa8
namespace Go.Proofs.Ytjjigkomiidipaa.Read
open Go.RowKit Go.Proofs.Ytjjigkomiidipaa.JobPlain Go.Proofs.Ytjjigkomiidipaa.Mem Go.Proofs.Ytjjigkomiidipaa.JobMem
open Go.ChangeShapes Go.WideShapes Go.Deep Go.ChangeMaps
set_option maxRecDepth 100000 in
theorem wf_bounds {x : Int} (h : (Lit.int .i64 x).wf = true) : -9223372036854775808 ≤ x ∧ x ≤ 9223372036854775807 := by
  simp only [Lit.wf, Bool.and_eq_true, decide_eq_true_eq] at h
  exact h
set_option maxRecDepth 100000 in
theorem trod_struct9 {H : Type} {enc : TypeId × Value → H} {P : Program} {w : World} {base : Nat} {spare : Nat → Bool} {held : Bool} {t : TypeId} {f0 f1 f2 f3 f4 f5 f6 f7 f8 : Field} {fuel : Nat} {cs : List Value} {x : DataW H × List MemPlace} (ht : P.underlying t = some (.struct #[f0, f1, f2, f3, f4, f5, f6, f7, f8])) (h : DataW.trod enc P w base spare held fuel t cs = some x) :
    ∃ y0 y1 y2 y3 y4 y5 y6 y7 y8 n, cs.length = P.cellsOf t ∧ DataW.trod enc P w base spare held n f0.type ((cs.drop f0.offset).take (P.cellsOf f0.type)) = some y0 ∧ DataW.trod enc P w base spare held n f1.type ((cs.drop f1.offset).take (P.cellsOf f1.type)) = some y1 ∧ DataW.trod enc P w base spare held n f2.type ((cs.drop f2.offset).take (P.cellsOf f2.type)) = some y2 ∧ DataW.trod enc P w base spare held n f3.type ((cs.drop f3.offset).take (P.cellsOf f3.type)) = some y3 ∧ DataW.trod enc P w base spare held n f4.type ((cs.drop f4.offset).take (P.cellsOf f4.type)) = some y4 ∧ DataW.trod enc P w base spare held n f5.type ((cs.drop f5.offset).take (P.cellsOf f5.type)) = some y5 ∧ DataW.trod enc P w base spare held n f6.type ((cs.drop f6.offset).take (P.cellsOf f6.type)) = some y6 ∧ DataW.trod enc P w base spare held n f7.type ((cs.drop f7.offset).take (P.cellsOf f7.type)) = some y7 ∧ DataW.trod enc P w base spare held n f8.type ((cs.drop f8.offset).take (P.cellsOf f8.type)) = some y8 := by
  obtain ⟨xs, n, _, rfl, hl, hlen, hf⟩ := DataW.trod_struct ht h
  match xs, hlen with
  | [y0, y1, y2, y3, y4, y5, y6, y7, y8], _ => exact ⟨y0, y1, y2, y3, y4, y5, y6, y7, y8, n, hl, by simpa using hf 0 f0 rfl, by simpa using hf 1 f1 rfl, by simpa using hf 2 f2 rfl, by simpa using hf 3 f3 rfl, by simpa using hf 4 f4 rfl, by simpa using hf 5 f5 rfl, by simpa using hf 6 f6 rfl, by simpa using hf 7 f7 rfl, by simpa using hf 8 f8 rfl⟩
set_option maxRecDepth 100000 in
theorem cells_str1 : Try.prog.cellsOf 9 = 1 := by kernel_rfl
set_option maxRecDepth 100000 in
theorem cells_job : Try.prog.cellsOf 23 = 9 := by kernel_rfl
set_option maxRecDepth 100000 in
theorem job_read {H : Type} {enc : TypeId × Value → H} {W : World} {sp : Nat → Bool} {base n : Nat} {cs : List Value} {y : DataW H × List MemPlace} (h : DataW.trod enc Try.prog W base sp true n 23 cs = some y) : ∃ j : Jb, cs = (jobA j).toList ∧ Fit j := by
  obtain ⟨y0, y1, y2, y3, y4, y5, y6, y7, y8, m, hl, h0, h1, h2, h3, h4, h5, h6, h7, h8⟩ := trod_struct9 Try.underlying23 h
  rw [cells_job] at hl
  match cs, hl with
  | [c0, c1, c2, c3, c4, c5, c6, c7, c8], _ =>
    dsimp only at h0 h1 h2 h3 h4 h5 h6 h7 h8
    rw [cells_int1] at h0 h2 h3 h4 h5 h6 h7 h8
    rw [cells_str1] at h1
    obtain ⟨x0, f0, _, _⟩ := DataW.trod_int Try.underlying3 h0
    obtain ⟨x1, f1, _, w1⟩ := DataW.trod_string Try.underlying9 h1
    obtain ⟨x2, f2, _, _⟩ := DataW.trod_int Try.underlying3 h2
    obtain ⟨x3, f3, _, _⟩ := DataW.trod_int Try.underlying3 h3
    obtain ⟨x4, f4, _, _⟩ := DataW.trod_int Try.underlying3 h4
    obtain ⟨x5, f5, _, _⟩ := DataW.trod_int Try.underlying3 h5
    obtain ⟨x6, f6, _, _⟩ := DataW.trod_int Try.underlying3 h6
    obtain ⟨x7, f7, _, _⟩ := DataW.trod_int Try.underlying3 h7
    obtain ⟨x8, f8, _, w8⟩ := DataW.trod_int Try.underlying3 h8
    simp at f0 f1 f2 f3 f4 f5 f6 f7 f8
    subst f0 f1 f2 f3 f4 f5 f6 f7 f8
    have hw := wf_bounds w8
    exact ⟨⟨x0, x1, x2, x3, x4, x5, x6, x7, x8⟩, rfl, hw.1, hw.2, w1⟩
set_option maxRecDepth 100000 in
theorem job_val {H : Type} {enc : TypeId × Value → H} {W : World} {base : Nat} {v : Value} {d : DataW H} {p : List MemPlace} (hv : Value.okWide Try.prog W .any base 23 v)
    (h : DataW.Trod enc Try.prog W 0 (fun _ => true) true 23 v d p) : ∃ j, v = jobV j ∧ Fit j := by
  obtain ⟨cs, rfl, hsz⟩ := okWide_struct Try.underlying23 hv
  obtain ⟨fuel, hf⟩ := h
  obtain ⟨j, hs, hj⟩ := job_read hf
  obtain ⟨l⟩ := cs
  simp [Value.cells] at hs
  subst hs
  exact ⟨j, rfl, hj⟩
end Go.Proofs.Ytjjigkomiidipaa.Read
namespace Go.Proofs.Ytjjigkomiidipaa.Read
open Go.RowKit Go.Proofs.Ytjjigkomiidipaa.JobPlain Go.Proofs.Ytjjigkomiidipaa.OrdPlain Go.Proofs.Ytjjigkomiidipaa.Mem Go.Proofs.Ytjjigkomiidipaa.JobMem Go.Proofs.Ytjjigkomiidipaa.OrdMem
open Go.ChangeShapes Go.WideShapes Go.Deep
end Go.Proofs.Ytjjigkomiidipaa.Read
namespace Go.Proofs.Ytjjigkomiidipaa.Read
open Go.RowKit Go.Proofs.Ytjjigkomiidipaa.Mem Go.Proofs.Ytjjigkomiidipaa.JobPlain Go.Proofs.Ytjjigkomiidipaa.JobMem Go.Proofs.Ytjjigkomiidipaa.OrdMem
open Go.ChangeShapes Go.WideShapes Go.Deep Go.ChangeMaps
/-- Jobs, as rows of nine cells. -/
def jobL : Lay Jb := ⟨9, jobC, fun _ => rfl, jobC_cell, by decide⟩
set_option maxRecDepth 100000 in
theorem jobs_cell {H : Type} {enc : TypeId × Value → H} {W : World} {c0 : Value} {fuel : Nat} {y : DataW H × List MemPlace} (hf : DataW.trod enc Try.prog W 0 (fun _ => true) true fuel 33 [c0] = some y) : ∃ l, JobsIs l W c0 ∧ ∀ j ∈ l, Fit j := by
  obtain ⟨l, h1, h2⟩ := lay_read_cell jobL (P := Fit) Try.underlying33 cells_job (fun h => by
    obtain ⟨j, h1, h2⟩ := job_read h
    exact ⟨j, h1, h2⟩) hf
  exact ⟨l, h1, h2⟩
end Go.Proofs.Ytjjigkomiidipaa.Read
namespace Go.Proofs.Ytjjigkomiidipaa.Read
open Go.RowKit Go.Proofs.Ytjjigkomiidipaa.ApiPlain Go.Proofs.Ytjjigkomiidipaa.Mem Go.Proofs.Ytjjigkomiidipaa.ApiMem
open Go.ChangeShapes Go.WideShapes Go.Deep Go.ChangeMaps
theorem trod_s2 {H : Type} {enc : TypeId × Value → H} {P : Program} {w : World} {base : Nat} {spare : Nat → Bool} {held : Bool} {t : TypeId} {f0 f1 : Field} {fuel : Nat} {cs : List Value} {x : DataW H × List MemPlace} (ht : P.underlying t = some (.struct #[f0, f1])) (h : DataW.trod enc P w base spare held fuel t cs = some x) :
    ∃ y0 y1 n, cs.length = P.cellsOf t ∧ DataW.trod enc P w base spare held n f0.type ((cs.drop f0.offset).take (P.cellsOf f0.type)) = some y0 ∧ DataW.trod enc P w base spare held n f1.type ((cs.drop f1.offset).take (P.cellsOf f1.type)) = some y1 := by
  obtain ⟨xs, n, _, rfl, hl, hlen, hf⟩ := DataW.trod_struct ht h
  match xs, hlen with
  | [y0, y1], _ => exact ⟨y0, y1, n, hl, by simpa using hf 0 f0 rfl, by simpa using hf 1 f1 rfl⟩
theorem cells_rat : Try.prog.cellsOf 25 = 2 := by kernel_rfl
set_option maxRecDepth 100000 in
theorem rat_read {H : Type} {enc : TypeId × Value → H} {W : World} {sp : Nat → Bool} {base n : Nat} {cs : List Value} {y : DataW H × List MemPlace} (h : DataW.trod enc Try.prog W base sp true n 25 cs = some y) : ∃ x : Rto, cs = ratC x ∧ RtoFit x := by
  obtain ⟨y0, y1, m, hl, h0, h1⟩ := trod_s2 Try.underlying25 h
  rw [cells_rat] at hl
  match cs, hl with
  | [c0, c1], _ =>
    dsimp only at h0 h1
    rw [cells_i] at h0
    rw [cells_i] at h1
    obtain ⟨x0, f0, _, w0⟩ := DataW.trod_int Try.underlying3 h0
    obtain ⟨x1, f1, _, w1⟩ := DataW.trod_int Try.underlying3 h1
    simp at f0 f1
    subst f0 f1
    exact ⟨⟨x0, x1⟩, rfl, wf_lim w0, wf_lim w1⟩
set_option maxRecDepth 100000 in
theorem rat_val {H : Type} {enc : TypeId × Value → H} {W : World} {base : Nat} {v : Value} {d : DataW H} {p : List MemPlace} (hv : Value.okWide Try.prog W .any base 25 v)
    (h : DataW.Trod enc Try.prog W 0 (fun _ => true) true 25 v d p) : ∃ x, v = ratV x ∧ RtoFit x := by
  obtain ⟨cs, rfl, hsz⟩ := okWide_struct Try.underlying25 hv
  obtain ⟨fuel, hf⟩ := h
  obtain ⟨j, hs, hj⟩ := rat_read hf
  obtain ⟨l⟩ := cs
  simp [Value.cells] at hs
  subst hs
  exact ⟨j, rfl, hj⟩
end Go.Proofs.Ytjjigkomiidipaa.Read
namespace Go.Proofs.Ytjjigkomiidipaa.SelWalk
open Go.RowKit Go.Proofs.Ytjjigkomiidipaa.SpanPlain Go.Proofs.Ytjjigkomiidipaa.StepPlain Go.Proofs.Ytjjigkomiidipaa.JobPlain Go.Proofs.Ytjjigkomiidipaa.ApiPlain Go.Proofs.Ytjjigkomiidipaa.Mem Go.Proofs.Ytjjigkomiidipaa.SpanMem Go.Proofs.Ytjjigkomiidipaa.StepMem Go.Proofs.Ytjjigkomiidipaa.JobMem Go.Proofs.Ytjjigkomiidipaa.OrdMem Go.Proofs.Ytjjigkomiidipaa.ApiMem Go.Proofs.Ytjjigkomiidipaa.Read
open Go.ChangeShapes Go.WideShapes Go.Deep Go.ChangeMaps
theorem cells_jobs3 : Try.prog.cellsOf 35 = 3 := by kernel_rfl
theorem cells_sl1 : Try.prog.cellsOf 33 = 1 := by kernel_rfl
theorem cells_rat2 : Try.prog.cellsOf 25 = 2 := by kernel_rfl
set_option maxRecDepth 100000 in
theorem jobs_val {H : Type} {enc : TypeId × Value → H} {W : World} {base : Nat} {v : Value} {d : DataW H} {p : List MemPlace} (hv : Value.okWide Try.prog W .any base 35 v)
    (h : DataW.Trod enc Try.prog W 0 (fun _ => true) true 35 v d p) : ∃ a js num den, v = .agg #[a, .int .i64 num, .int .i64 den] ∧ JobsIs js W a := by
  obtain ⟨cs, rfl, hsz⟩ := okWide_struct Try.underlying35 hv
  obtain ⟨fuel, hf⟩ := h
  obtain ⟨y0, y1, m, hl, h0, h1⟩ := trod_s2 Try.underlying35 hf
  rw [cells_jobs3] at hl
  obtain ⟨l⟩ := cs
  match l, hl with
  | [c0, c1, c2], _ =>
    dsimp only [Value.cells] at h0 h1
    rw [cells_sl1] at h0
    rw [cells_rat2] at h1
    obtain ⟨js, hj, _⟩ := jobs_cell h0
    obtain ⟨x, hx, _⟩ := rat_read h1
    simp [ratC] at hx
    obtain ⟨rfl, rfl⟩ := hx
    exact ⟨c0, js, _, _, rfl, hj⟩
set_option maxRecDepth 100000 in
theorem over_open {H : Type} {enc : TypeId × Value → H} {d0 d1 d2 : DataW H} {p0 p1 p2 : List MemPlace} (W : World) (base : Nat) (v0 v1 v2 : Value) (g0 : Value.okWide Try.prog W .any base 23 v0) (g1 : Value.okWide Try.prog W .any base 3 v1) (g2 : Value.okWide Try.prog W .any base 25 v2)
    (h0 : DataW.Trod enc Try.prog W 0 (fun _ => true) true 23 v0 d0 p0) (h1 : DataW.Trod enc Try.prog W 0 (fun _ => true) true 3 v1 d1 p1) (h2 : DataW.Trod enc Try.prog W 0 (fun _ => true) true 25 v2 d2 p2) :
    Calls Try.prog 3 #[v0, v1, v2] W (TrueIs W) := by
  obtain ⟨j, rfl, _⟩ := job_val g0 h0
  obtain ⟨now, rfl⟩ := int_val g1 h1
  obtain ⟨x, rfl, _⟩ := rat_val g2 h2
  exact over_any j now x.num x.den W
set_option maxRecDepth 100000 in
theorem promises_open {H : Type} {enc : TypeId × Value → H} {d0 d1 d2 : DataW H} {p0 p1 p2 : List MemPlace} (W : World) (base : Nat) (v0 v1 v2 : Value) (g0 : Value.okWide Try.prog W .any base 32 v0) (g1 : Value.okWide Try.prog W .any base 3 v1) (g2 : Value.okWide Try.prog W .any base 35 v2)
    (h0 : DataW.Trod enc Try.prog W 0 (fun _ => true) true 32 v0 d0 p0) (h1 : DataW.Trod enc Try.prog W 0 (fun _ => true) true 3 v1 d1 p1) (h2 : DataW.Trod enc Try.prog W 0 (fun _ => true) true 35 v2 d2 p2) :
    Calls Try.prog 4 #[v0, v1, v2] W (TrueIs W) := by
  obtain ⟨s, hs⟩ := steps_read g0 h0
  obtain ⟨now, rfl⟩ := int_val g1 h1
  obtain ⟨a, js, num, den, rfl, hj⟩ := jobs_val g2 h2
  exact promises_any s js now num den _ _ W hs hj
end Go.Proofs.Ytjjigkomiidipaa.SelWalk
