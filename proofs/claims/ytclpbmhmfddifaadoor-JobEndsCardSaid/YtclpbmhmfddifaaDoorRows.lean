/-
  NARROWER THAN 'FOR EVERY INPUT', by the rows' own cells (each row's printed sentence says how): JobTurns: laid · JobTells: laid · JobEnds: laid.
  DERIVED. THE GIVEN ROWS OF THIS SEAT. 3 by the template 'for every input the law returns true; each argument reads behind the call as it read before'; 0 by the template 'total and deterministic' (their statements: YtclpbmhmfddifaaDoorTotals.lean).
  GIVEN WITH THE SEED: the statements are not yours to turn. If you find one false, say at which input.
  Laid BY PROGRAM, IN A SANDBOX (cutbox-rows.mjs): the forced cells as the released guide's own fill.sh prints them over the translation def27f0148e672eb… (all of the seat's roots in one cut). By AI agents, Wed Nov 11 2026. No macro, syntax, notation, axiom, sorry.
-/
import Derived.Test.YtclpbmhmfddifaaDoorChecked
import GoSem.Claim
import GoSem.ClaimJoined
import GoSem.ClaimMapViews
import Derived.JoinedTies
import Derived.KernelRfl
namespace Go.Proofs.YtclpbmhmfddifaaDoor
/- THE CELL 'sum', in the pinned program and in every row, IS THE sha256 OF THE DUMP (.gsa) THAT YtclpbmhmfddifaaDoorProg.lean LOADS. Nothing in Lean hashes anything: it is a label: what it is worth is what the hold of that sum in a sandbox is worth. -/
noncomputable def Tryd.pinned : Pinned := { name := "ytclpbmhmfddifaadoor", sum := "def27f0148e672ebbdff451b271671d1f1f11825fe8e627b671ed9cfb69c6086", checked := Tryd.checked }
namespace Rows
def none {H : Type} : Left H := { results := [], args := [] }

/- WHAT THE LISTED PACKAGE-LEVEL VARIABLES READ AS WHEN THE CALL BEGINS. Each datum BY PROGRAM (the guide's laid-datum.mjs) off the statement by which the dump's own 'gosem.cut.vars' lays the variable. In a bare row this is a premise. The card (YtclpbmhmfddifaaDoorCards.lean) ties it to the program's text. -/
def laid_stint_job_words {H : Type} : DataW H := .agg [.lit (.string [104, 101, 108, 100]), .lit (.string [113, 117, 101, 117, 101, 100]), .lit (.string [114, 117, 110, 110, 105, 110, 103]), .lit (.string [100, 111, 110, 101]), .lit (.string [107, 105, 108, 108, 101, 100]), .lit (.string [99, 97, 110, 99, 101, 108, 108, 101, 100])]

/-- 'stintlaw07.JobTurns': WHATEVER THE INPUT: true; the input reads as it did. -/
def jobTurnsSpec : ChangeSpec := { name := "jobTurns", fn := fun _ => fun
  | [d1, d2, d3] => { results := [.lit (.bool true)], args := [d1, d2, d3] }
  | _ => none }
def jobTurnsRow : OpenClaim := { program := "ytclpbmhmfddifaadoor", sum := "def27f0148e672ebbdff451b271671d1f1f11825fe8e627b671ed9cfb69c6086", func := "stint/stintlaw07.JobTurns", spec := "jobTurns", named := ["stint/job.words"], apart := false, laid := [("stint/job.words", laid_stint_job_words)] }
def JobTurnsSaid : Prop := jobTurnsRow.holds Tryd.pinned (OpenSpec.ofChange jobTurnsSpec)

/-- ITS FALSE NEIGHBOUR: 'it returns false'. Refute it at one input. -/
def jobTurnsWrong : ChangeSpec := { name := "jobTurns", fn := fun _ => fun
  | [d1, d2, d3] => { results := [.lit (.bool false)], args := [d1, d2, d3] }
  | _ => none }
def JobTurnsWrongFalsely : Prop := jobTurnsRow.holds Tryd.pinned (OpenSpec.ofChange jobTurnsWrong)

/-- 'stintlaw07.JobTells': WHATEVER THE INPUT: true; the input reads as it did. -/
def jobTellsSpec : ChangeSpec := { name := "jobTells", fn := fun _ => fun
  | [d1, d2, d3] => { results := [.lit (.bool true)], args := [d1, d2, d3] }
  | _ => none }
def jobTellsRow : OpenClaim := { program := "ytclpbmhmfddifaadoor", sum := "def27f0148e672ebbdff451b271671d1f1f11825fe8e627b671ed9cfb69c6086", func := "stint/stintlaw07.JobTells", spec := "jobTells", named := ["stint/job.words"], apart := false, laid := [("stint/job.words", laid_stint_job_words)] }
def JobTellsSaid : Prop := jobTellsRow.holds Tryd.pinned (OpenSpec.ofChange jobTellsSpec)

/-- ITS FALSE NEIGHBOUR: 'it returns false'. Refute it at one input. -/
def jobTellsWrong : ChangeSpec := { name := "jobTells", fn := fun _ => fun
  | [d1, d2, d3] => { results := [.lit (.bool false)], args := [d1, d2, d3] }
  | _ => none }
def JobTellsWrongFalsely : Prop := jobTellsRow.holds Tryd.pinned (OpenSpec.ofChange jobTellsWrong)

/-- 'stintlaw07.JobEnds': WHATEVER THE INPUT: true; the input reads as it did. -/
def jobEndsSpec : ChangeSpec := { name := "jobEnds", fn := fun _ => fun
  | [d1, d2] => { results := [.lit (.bool true)], args := [d1, d2] }
  | _ => none }
def jobEndsRow : OpenClaim := { program := "ytclpbmhmfddifaadoor", sum := "def27f0148e672ebbdff451b271671d1f1f11825fe8e627b671ed9cfb69c6086", func := "stint/stintlaw07.JobEnds", spec := "jobEnds", named := ["stint/job.words"], apart := false, laid := [("stint/job.words", laid_stint_job_words)] }
def JobEndsSaid : Prop := jobEndsRow.holds Tryd.pinned (OpenSpec.ofChange jobEndsSpec)

/-- ITS FALSE NEIGHBOUR: 'it returns false'. Refute it at one input. -/
def jobEndsWrong : ChangeSpec := { name := "jobEnds", fn := fun _ => fun
  | [d1, d2] => { results := [.lit (.bool false)], args := [d1, d2] }
  | _ => none }
def JobEndsWrongFalsely : Prop := jobEndsRow.holds Tryd.pinned (OpenSpec.ofChange jobEndsWrong)

/- THE SECOND FORM. 'bulk': how many values and letters a reading holds, each counted each time it is reached (what is shared counts as often as it is met; a slice's spare places count too). A statement '..UptoSaid' is the law's where the arguments, and the package variables that the reading takes, are together of bulk at most 1048576: NARROWER than '..Said'. Prove '..Said' where nothing that the law and all that it calls make is longer than what came in: it says more and counts as full. Else prove '..UptoSaid'. A law counts once. -/
mutual
def uptoBulk {H : Type} : DataW H → Nat
  | .lit (.string bytes) => bytes.length + 1
  | .lit _ => 1
  | .nil => 1
  | .ptr d => uptoBulk d + 1
  | .slice elems spare => uptoBulkAll elems + uptoBulkAll spare + 1
  | .agg parts => uptoBulkAll parts + 1
  | .iface _ d => uptoBulk d + 1
  | .map entries => uptoBulkEntries entries + 1
  | .held _ => 1
def uptoBulkAll {H : Type} : List (DataW H) → Nat
  | [] => 0
  | d :: r => uptoBulk d + uptoBulkAll r
def uptoBulkEntries {H : Type} : List (Lit × DataW H) → Nat
  | [] => 0
  | x :: r => uptoBulkEntry x + uptoBulkEntries r
def uptoBulkEntry {H : Type} : Lit × DataW H → Nat
  | (.string bytes, d) => bytes.length + uptoBulk d + 1
  | (_, d) => uptoBulk d + 1
 end
def uptoSmall : (H : Type) → List (DataW H) → Bool := fun _ ds => decide (uptoBulkAll ds ≤ 1048576)
def OpenSpec.upto (s : _root_.Go.ChangeSpec) : _root_.Go.OpenSpec := { _root_.Go.OpenSpec.ofChange s with cond := some uptoSmall }

/-- 'stintlaw07.JobTurns', WHERE WHAT IT READS IS OF BULK AT MOST 1048576: true; the input reads as it did. -/
def jobTurnsUptoRow : OpenClaim := { program := "ytclpbmhmfddifaadoor", sum := "def27f0148e672ebbdff451b271671d1f1f11825fe8e627b671ed9cfb69c6086", func := "stint/stintlaw07.JobTurns", spec := "jobTurns", named := ["stint/job.words"], apart := false, laid := [("stint/job.words", laid_stint_job_words)], narrowed := true }
def JobTurnsUptoSaid : Prop := jobTurnsUptoRow.holds Tryd.pinned (OpenSpec.upto jobTurnsSpec)

/-- 'stintlaw07.JobTells', WHERE WHAT IT READS IS OF BULK AT MOST 1048576: true; the input reads as it did. -/
def jobTellsUptoRow : OpenClaim := { program := "ytclpbmhmfddifaadoor", sum := "def27f0148e672ebbdff451b271671d1f1f11825fe8e627b671ed9cfb69c6086", func := "stint/stintlaw07.JobTells", spec := "jobTells", named := ["stint/job.words"], apart := false, laid := [("stint/job.words", laid_stint_job_words)], narrowed := true }
def JobTellsUptoSaid : Prop := jobTellsUptoRow.holds Tryd.pinned (OpenSpec.upto jobTellsSpec)

/-- 'stintlaw07.JobEnds', WHERE WHAT IT READS IS OF BULK AT MOST 1048576: true; the input reads as it did. -/
def jobEndsUptoRow : OpenClaim := { program := "ytclpbmhmfddifaadoor", sum := "def27f0148e672ebbdff451b271671d1f1f11825fe8e627b671ed9cfb69c6086", func := "stint/stintlaw07.JobEnds", spec := "jobEnds", named := ["stint/job.words"], apart := false, laid := [("stint/job.words", laid_stint_job_words)], narrowed := true }
def JobEndsUptoSaid : Prop := jobEndsUptoRow.holds Tryd.pinned (OpenSpec.upto jobEndsSpec)

end Rows
end Go.Proofs.YtclpbmhmfddifaaDoor
