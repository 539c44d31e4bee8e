/-
  No cell of these rows narrows 'for every input' (looked for: loops, veiled, ifaces, maps, wideKeys, modest, calm, conditions, laid).
  DERIVED. THE GIVEN ROWS OF THIS SEAT. 3 by the template 'for every input the law returns true; each argument reads behind the call as it read before'; 0 by the template 'total and deterministic' (their statements: YtlfmkipcgcilaaaTotals.lean).
  GIVEN WITH THE SEED: the statements are not yours to turn. If you find one false, say at which input.
  Laid BY PROGRAM, IN A SANDBOX (cutbox-rows.mjs): the forced cells as the released guide's own fill.sh prints them over the translation bb25811baef27a3b… (all of the seat's roots in one cut). By AI agents, Wed Nov 11 2026. No macro, syntax, notation, axiom, sorry.
-/
import Derived.Test.YtlfmkipcgcilaaaChecked
import GoSem.Claim
import GoSem.ClaimJoined
import GoSem.ClaimMapViews
import Derived.JoinedTies
import Derived.KernelRfl
namespace Go.Proofs.Ytlfmkipcgcilaaa
/- THE CELL 'sum', in the pinned program and in every row, IS THE sha256 OF THE DUMP (.gsa) THAT YtlfmkipcgcilaaaProg.lean LOADS. Nothing in Lean hashes anything: it is a label: what it is worth is what the hold of that sum in a sandbox is worth. -/
noncomputable def Try.pinned : Pinned := { name := "ytlfmkipcgcilaaa", sum := "bb25811baef27a3b5d1eb28ad92eaed24d168b1901f4fe298cdb005044c55c4c", checked := Try.checked }
namespace Rows
def none {H : Type} : Left H := { results := [], args := [] }

/-- 'stintlaw19.SlackTries': WHATEVER THE INPUT: true; the input reads as it did. -/
def slackTriesSpec : ChangeSpec := { name := "slackTries", fn := fun _ => fun
  | [d1, d2, d3] => { results := [.lit (.bool true)], args := [d1, d2, d3] }
  | _ => none }
def slackTriesRow : OpenClaim := { program := "ytlfmkipcgcilaaa", sum := "bb25811baef27a3b5d1eb28ad92eaed24d168b1901f4fe298cdb005044c55c4c", func := "stint/stintlaw19.SlackTries", spec := "slackTries", unfollowed := true, recurses := true, apart := false }
def SlackTriesSaid : Prop := slackTriesRow.holds Try.pinned (OpenSpec.ofChange slackTriesSpec)

/-- ITS FALSE NEIGHBOUR: 'it returns false'. Refute it at one input. -/
def slackTriesWrong : ChangeSpec := { name := "slackTries", fn := fun _ => fun
  | [d1, d2, d3] => { results := [.lit (.bool false)], args := [d1, d2, d3] }
  | _ => none }
def SlackTriesWrongFalsely : Prop := slackTriesRow.holds Try.pinned (OpenSpec.ofChange slackTriesWrong)

/-- 'stintlaw19.SlackPass': WHATEVER THE INPUT: true; the input reads as it did. -/
def slackPassSpec : ChangeSpec := { name := "slackPass", fn := fun _ => fun
  | [d1, d2, d3] => { results := [.lit (.bool true)], args := [d1, d2, d3] }
  | _ => none }
def slackPassRow : OpenClaim := { program := "ytlfmkipcgcilaaa", sum := "bb25811baef27a3b5d1eb28ad92eaed24d168b1901f4fe298cdb005044c55c4c", func := "stint/stintlaw19.SlackPass", spec := "slackPass", unfollowed := true, recurses := true, apart := false }
def SlackPassSaid : Prop := slackPassRow.holds Try.pinned (OpenSpec.ofChange slackPassSpec)

/-- ITS FALSE NEIGHBOUR: 'it returns false'. Refute it at one input. -/
def slackPassWrong : ChangeSpec := { name := "slackPass", fn := fun _ => fun
  | [d1, d2, d3] => { results := [.lit (.bool false)], args := [d1, d2, d3] }
  | _ => none }
def SlackPassWrongFalsely : Prop := slackPassRow.holds Try.pinned (OpenSpec.ofChange slackPassWrong)

/-- 'stintlaw19.SlackGives': WHATEVER THE INPUT: true; the input reads as it did. -/
def slackGivesSpec : ChangeSpec := { name := "slackGives", fn := fun _ => fun
  | [d1, d2, d3] => { results := [.lit (.bool true)], args := [d1, d2, d3] }
  | _ => none }
def slackGivesRow : OpenClaim := { program := "ytlfmkipcgcilaaa", sum := "bb25811baef27a3b5d1eb28ad92eaed24d168b1901f4fe298cdb005044c55c4c", func := "stint/stintlaw19.SlackGives", spec := "slackGives", unfollowed := true, recurses := true, apart := false }
def SlackGivesSaid : Prop := slackGivesRow.holds Try.pinned (OpenSpec.ofChange slackGivesSpec)

/-- ITS FALSE NEIGHBOUR: 'it returns false'. Refute it at one input. -/
def slackGivesWrong : ChangeSpec := { name := "slackGives", fn := fun _ => fun
  | [d1, d2, d3] => { results := [.lit (.bool false)], args := [d1, d2, d3] }
  | _ => none }
def SlackGivesWrongFalsely : Prop := slackGivesRow.holds Try.pinned (OpenSpec.ofChange slackGivesWrong)

/- THE SECOND FORM. 'bulk': how many values and letters a reading holds, each counted each time it is reached (what is shared counts as often as it is met; a slice's spare places count too). A statement '..UptoSaid' is the law's where the arguments, and the package variables that the reading takes, are together of bulk at most 1048576: NARROWER than '..Said'. Prove '..Said' where nothing that the law and all that it calls make is longer than what came in: it says more and counts as full. Else prove '..UptoSaid'. A law counts once. -/
mutual
def uptoBulk {H : Type} : DataW H → Nat
  | .lit (.string bytes) => bytes.length + 1
  | .lit _ => 1
  | .nil => 1
  | .ptr d => uptoBulk d + 1
  | .slice elems spare => uptoBulkAll elems + uptoBulkAll spare + 1
  | .agg parts => uptoBulkAll parts + 1
  | .iface _ d => uptoBulk d + 1
  | .map entries => uptoBulkEntries entries + 1
  | .held _ => 1
def uptoBulkAll {H : Type} : List (DataW H) → Nat
  | [] => 0
  | d :: r => uptoBulk d + uptoBulkAll r
def uptoBulkEntries {H : Type} : List (Lit × DataW H) → Nat
  | [] => 0
  | x :: r => uptoBulkEntry x + uptoBulkEntries r
def uptoBulkEntry {H : Type} : Lit × DataW H → Nat
  | (.string bytes, d) => bytes.length + uptoBulk d + 1
  | (_, d) => uptoBulk d + 1
 end
def uptoSmall : (H : Type) → List (DataW H) → Bool := fun _ ds => decide (uptoBulkAll ds ≤ 1048576)
def OpenSpec.upto (s : _root_.Go.ChangeSpec) : _root_.Go.OpenSpec := { _root_.Go.OpenSpec.ofChange s with cond := some uptoSmall }

/-- 'stintlaw19.SlackTries', WHERE WHAT IT READS IS OF BULK AT MOST 1048576: true; the input reads as it did. -/
def slackTriesUptoRow : OpenClaim := { program := "ytlfmkipcgcilaaa", sum := "bb25811baef27a3b5d1eb28ad92eaed24d168b1901f4fe298cdb005044c55c4c", func := "stint/stintlaw19.SlackTries", spec := "slackTries", unfollowed := true, recurses := true, apart := false, narrowed := true }
def SlackTriesUptoSaid : Prop := slackTriesUptoRow.holds Try.pinned (OpenSpec.upto slackTriesSpec)

/-- 'stintlaw19.SlackPass', WHERE WHAT IT READS IS OF BULK AT MOST 1048576: true; the input reads as it did. -/
def slackPassUptoRow : OpenClaim := { program := "ytlfmkipcgcilaaa", sum := "bb25811baef27a3b5d1eb28ad92eaed24d168b1901f4fe298cdb005044c55c4c", func := "stint/stintlaw19.SlackPass", spec := "slackPass", unfollowed := true, recurses := true, apart := false, narrowed := true }
def SlackPassUptoSaid : Prop := slackPassUptoRow.holds Try.pinned (OpenSpec.upto slackPassSpec)

/-- 'stintlaw19.SlackGives', WHERE WHAT IT READS IS OF BULK AT MOST 1048576: true; the input reads as it did. -/
def slackGivesUptoRow : OpenClaim := { program := "ytlfmkipcgcilaaa", sum := "bb25811baef27a3b5d1eb28ad92eaed24d168b1901f4fe298cdb005044c55c4c", func := "stint/stintlaw19.SlackGives", spec := "slackGives", unfollowed := true, recurses := true, apart := false, narrowed := true }
def SlackGivesUptoSaid : Prop := slackGivesUptoRow.holds Try.pinned (OpenSpec.upto slackGivesSpec)

end Rows
end Go.Proofs.Ytlfmkipcgcilaaa
