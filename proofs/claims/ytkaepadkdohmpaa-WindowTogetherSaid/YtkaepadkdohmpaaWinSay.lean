/-
  What layer 14's functions answer: the posts that the law texts name; the example of the statements.
-/
import Derived.Test.YtkaepadkdohmpaaWinRefA
import Derived.Test.YtkaepadkdohmpaaTwnRefA
import Derived.Test.YtkaepadkdohmpaaStepRef0
import Derived.Test.YtkaepadkdohmpaaGapRefA
import Derived.Test.YtkaepadkdohmpaaOrdRefB
import Derived.Test.YtkaepadkdohmpaaJobRefA
namespace Go.Proofs.Ytkaepadkdohmpaa.WinWalk
open Go.RowKit Go.Proofs.Ytkaepadkdohmpaa.SpanPlain Go.Proofs.Ytkaepadkdohmpaa.StepPlain Go.Proofs.Ytkaepadkdohmpaa.GapPlain Go.Proofs.Ytkaepadkdohmpaa.JobPlain Go.Proofs.Ytkaepadkdohmpaa.OrdPlain Go.Proofs.Ytkaepadkdohmpaa.SubPlain Go.Proofs.Ytkaepadkdohmpaa.ApiPlain Go.Proofs.Ytkaepadkdohmpaa.TwnPlain Go.Proofs.Ytkaepadkdohmpaa.WinPlain Go.Proofs.Ytkaepadkdohmpaa.Mem Go.Proofs.Ytkaepadkdohmpaa.SpanMem Go.Proofs.Ytkaepadkdohmpaa.JobMem Go.Proofs.Ytkaepadkdohmpaa.OrdMem Go.Proofs.Ytkaepadkdohmpaa.ApiMem
def TrueW (w : World) (e : Ending) (w' : World) : Prop := e = .returned (.bool true) ∧ Below w.heap.size w w'
def idsW (l : List Jb) : List Int := l.map fun j => j.id
def ChooseSays (s : List Sp) (now : Int) (jobs : List Jb) (x : Lok) (w : World) (e : Ending) (w' : World) : Prop :=
  ∃ u, e = .returned (.tuple #[u, .int .i64 (errW s now x)]) ∧ IntsAt (idsW (chosenW s now jobs x)) w' u ∧ Below w.heap.size w w'
/-- The example of the statements. -/
def exS : List Sp := [(0, 3), (9, 8)]
def exJ : List Jb := [⟨4, ⟨#[]⟩, 3, 20, 0, 0, 0, 0, 0⟩, ⟨5, ⟨#[]⟩, 2, 5, 0, 0, 0, 0, 0⟩]
def exX : Lok := ⟨5, 9, 2⟩
theorem ex_ids : idsW (chosenW exS 0 exJ exX) = [5] := by decide +kernel
theorem ex_err : errW exS 0 exX = 0 := by decide +kernel
end Go.Proofs.Ytkaepadkdohmpaa.WinWalk
