/-
  What the seat's condition gives the walks: the table of the states' words.
-/
import Derived.Test.YtclpbmhmfddifaaDoorJobSay
import Derived.LaidMore
import Derived.Stop.Joined
import Derived.ProofKit
import Derived.OpenShut
namespace Go.Proofs.YtclpbmhmfddifaaDoor.JobWalk
open Go.RowKit Go.Proofs.YtclpbmhmfddifaaDoor.JobPlain Go.Proofs.YtclpbmhmfddifaaDoor.Mem Go.Proofs.YtclpbmhmfddifaaDoor.JobMem Go.Proofs.YtclpbmhmfddifaaDoor.JobRef Go.ChangeShapes Go.WideShapes Go.ChangeAt Go.WideMaps Go.WideElems
/-- The table's cells: the words of the states. -/
def Lays (w : World) : Prop := 0 < w.heap.size ∧ ∀ i : Nat, i < 6 → w.cell? ⟨0, i, none⟩ = some (.string (wordL i))
theorem Lays.below {w w' : World} (h : Lays w) (hb : Below w.heap.size w w') : Lays w' :=
  ⟨Nat.lt_of_lt_of_le h.1 hb.size, fun i hi => (hb.cell (p := ⟨0, i, none⟩) h.1).trans (h.2 i hi)⟩
theorem gWords : Tryd.prog.globalNamed "stint/job.words" = some 0 := by kernel_rfl
theorem tWords : (Tryd.prog.globals[0]?).map (·.type) = some 44 := by kernel_rfl
theorem str_of {l : List UInt8} {s : ByteArray} (h : s.data.toList = l) : s = ⟨l.toArray⟩ := by
  apply ByteArray.ext
  rw [← h]
set_option maxRecDepth 100000 in
theorem lays_of {W : World} (h : laidMetH Tryd.prog Rows.jobTurnsRow.laid W) : Lays W := by
  rw [MakeChecks.laidMetH_plain _ _ _ (by kernel_rfl)] at h
  obtain ⟨ps, ⟨g0, t0, cs0, f0, p0, q0, hg0, ht0, hv0, hd0, _, _⟩, _, _⟩ := h
  obtain rfl := Option.some.inj (gWords.symm.trans hg0)
  obtain rfl := Option.some.inj (tWords.symm.trans ht0)
  obtain ⟨xs, m1, rfl, hx1, hlen, hn3, hel⟩ := DataW.trod_array Tryd.underlying44 hd0
  have c9 : Tryd.prog.cellsOf 9 = 1 := by kernel_rfl
  have c40 : Tryd.prog.cellsOf 44 = 6 := by kernel_rfl
  rw [c40] at hlen
  rw [c9] at hel
  obtain ⟨l⟩ := cs0
  match l, hlen, xs, hn3 with
  | [c0, c1, c2, c3, c4, c5], _, [x0, x1, x2, x3, x4, x5], _ =>
    simp only [Prod.mk.injEq, Rows.laid_stint_job_words, DataW.agg.injEq, List.map_cons, List.map_nil, List.cons.injEq, and_true] at hx1
    obtain ⟨⟨e0, e1, e2, e3, e4, e5⟩, _⟩ := hx1
    obtain ⟨s0, f0, y0, _⟩ := DataW.trod_string Tryd.underlying9 (show _ = some x0 from hel 0 (by decide))
    obtain ⟨s1, f1, y1, _⟩ := DataW.trod_string Tryd.underlying9 (show _ = some x1 from hel 1 (by decide))
    obtain ⟨s2, f2, y2, _⟩ := DataW.trod_string Tryd.underlying9 (show _ = some x2 from hel 2 (by decide))
    obtain ⟨s3, f3, y3, _⟩ := DataW.trod_string Tryd.underlying9 (show _ = some x3 from hel 3 (by decide))
    obtain ⟨s4, f4, y4, _⟩ := DataW.trod_string Tryd.underlying9 (show _ = some x4 from hel 4 (by decide))
    obtain ⟨s5, f5, y5, _⟩ := DataW.trod_string Tryd.underlying9 (show _ = some x5 from hel 5 (by decide))
    simp at f0 f1 f2 f3 f4 f5
    subst f0 f1 f2 f3 f4 f5
    rw [y0] at e0
    simp only [DataW.lit.injEq, Lit.string.injEq] at e0
    obtain rfl := str_of e0.symm
    rw [y1] at e1
    simp only [DataW.lit.injEq, Lit.string.injEq] at e1
    obtain rfl := str_of e1.symm
    rw [y2] at e2
    simp only [DataW.lit.injEq, Lit.string.injEq] at e2
    obtain rfl := str_of e2.symm
    rw [y3] at e3
    simp only [DataW.lit.injEq, Lit.string.injEq] at e3
    obtain rfl := str_of e3.symm
    rw [y4] at e4
    simp only [DataW.lit.injEq, Lit.string.injEq] at e4
    obtain rfl := str_of e4.symm
    rw [y5] at e5
    simp only [DataW.lit.injEq, Lit.string.injEq] at e5
    obtain rfl := str_of e5.symm
    have hc := fun i => World.var?_cell hg0 hv0 i
    refine ⟨World.block_lt_of_cell? _ _ (show W.cell? ⟨0, 0, none⟩ = some _ from hc 0), fun i hi => ?_⟩
    have h6 : i = 0 ∨ i = 1 ∨ i = 2 ∨ i = 3 ∨ i = 4 ∨ i = 5 := by omega
    rcases h6 with rfl | rfl | rfl | rfl | rfl | rfl
    all_goals exact hc _
end Go.Proofs.YtclpbmhmfddifaaDoor.JobWalk
