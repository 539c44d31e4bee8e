/-
  No cell of these rows narrows 'for every input' (looked for: loops, veiled, ifaces, maps, wideKeys, modest, calm, conditions, laid).
  DERIVED. THE GIVEN ROWS OF THIS SEAT. 3 by the template 'for every input the law returns true; each argument reads behind the call as it read before'; 0 by the template 'total and deterministic' (their statements: YtnjhboanhjjldaaTotals.lean).
  GIVEN WITH THE SEED: the statements are not yours to turn. If you find one false, say at which input.
  Laid BY PROGRAM, IN A SANDBOX (cutbox-rows.mjs): the forced cells as the released guide's own fill.sh prints them over the translation 8eab1fdd5f286842… (all of the seat's roots in one cut). By AI agents, Wed Nov 11 2026. No macro, syntax, notation, axiom, sorry.
-/
import Derived.Test.YtnjhboanhjjldaaChecked
import GoSem.Claim
import GoSem.ClaimJoined
import GoSem.ClaimMapViews
import Derived.JoinedTies
import Derived.KernelRfl
namespace Go.Proofs.Ytnjhboanhjjldaa
/- THE CELL 'sum', in the pinned program and in every row, IS THE sha256 OF THE DUMP (.gsa) THAT YtnjhboanhjjldaaProg.lean LOADS. Nothing in Lean hashes anything: it is a label: what it is worth is what the hold of that sum in a sandbox is worth. -/
noncomputable def Try.pinned : Pinned := { name := "ytnjhboanhjjldaa", sum := "8eab1fdd5f28684279723a6441de90d47d8d0cb30bd4672ecc40599819fafb65", checked := Try.checked }
namespace Rows
def none {H : Type} : Left H := { results := [], args := [] }

/-- 'stintlaw04.StepOf': WHATEVER THE INPUT: true; the input reads as it did. -/
def stepOfSpec : ChangeSpec := { name := "stepOf", fn := fun _ => fun
  | [d1, d2] => { results := [.lit (.bool true)], args := [d1, d2] }
  | _ => none }
def stepOfRow : OpenClaim := { program := "ytnjhboanhjjldaa", sum := "8eab1fdd5f28684279723a6441de90d47d8d0cb30bd4672ecc40599819fafb65", func := "stint/stintlaw04.StepOf", spec := "stepOf", unfollowed := true, recurses := true, apart := false }
def StepOfSaid : Prop := stepOfRow.holds Try.pinned (OpenSpec.ofChange stepOfSpec)

/-- ITS FALSE NEIGHBOUR: 'it returns false'. Refute it at one input. -/
def stepOfWrong : ChangeSpec := { name := "stepOf", fn := fun _ => fun
  | [d1, d2] => { results := [.lit (.bool false)], args := [d1, d2] }
  | _ => none }
def StepOfWrongFalsely : Prop := stepOfRow.holds Try.pinned (OpenSpec.ofChange stepOfWrong)

/-- 'stintlaw04.StepLooks': WHATEVER THE INPUT: true; the input reads as it did. -/
def stepLooksSpec : ChangeSpec := { name := "stepLooks", fn := fun _ => fun
  | [d1, d2, d3] => { results := [.lit (.bool true)], args := [d1, d2, d3] }
  | _ => none }
def stepLooksRow : OpenClaim := { program := "ytnjhboanhjjldaa", sum := "8eab1fdd5f28684279723a6441de90d47d8d0cb30bd4672ecc40599819fafb65", func := "stint/stintlaw04.StepLooks", spec := "stepLooks", unfollowed := true, recurses := true, apart := false }
def StepLooksSaid : Prop := stepLooksRow.holds Try.pinned (OpenSpec.ofChange stepLooksSpec)

/-- ITS FALSE NEIGHBOUR: 'it returns false'. Refute it at one input. -/
def stepLooksWrong : ChangeSpec := { name := "stepLooks", fn := fun _ => fun
  | [d1, d2, d3] => { results := [.lit (.bool false)], args := [d1, d2, d3] }
  | _ => none }
def StepLooksWrongFalsely : Prop := stepLooksRow.holds Try.pinned (OpenSpec.ofChange stepLooksWrong)

/-- 'stintlaw04.StepAdds': WHATEVER THE INPUT: true; the input reads as it did. -/
def stepAddsSpec : ChangeSpec := { name := "stepAdds", fn := fun _ => fun
  | [d1, d2, d3] => { results := [.lit (.bool true)], args := [d1, d2, d3] }
  | _ => none }
def stepAddsRow : OpenClaim := { program := "ytnjhboanhjjldaa", sum := "8eab1fdd5f28684279723a6441de90d47d8d0cb30bd4672ecc40599819fafb65", func := "stint/stintlaw04.StepAdds", spec := "stepAdds", unfollowed := true, recurses := true, apart := false }
def StepAddsSaid : Prop := stepAddsRow.holds Try.pinned (OpenSpec.ofChange stepAddsSpec)

/-- ITS FALSE NEIGHBOUR: 'it returns false'. Refute it at one input. -/
def stepAddsWrong : ChangeSpec := { name := "stepAdds", fn := fun _ => fun
  | [d1, d2, d3] => { results := [.lit (.bool false)], args := [d1, d2, d3] }
  | _ => none }
def StepAddsWrongFalsely : Prop := stepAddsRow.holds Try.pinned (OpenSpec.ofChange stepAddsWrong)

/- THE SECOND FORM. 'bulk': how many values and letters a reading holds, each counted each time it is reached (what is shared counts as often as it is met; a slice's spare places count too). A statement '..UptoSaid' is the law's where the arguments, and the package variables that the reading takes, are together of bulk at most 1048576: NARROWER than '..Said'. Prove '..Said' where nothing that the law and all that it calls make is longer than what came in: it says more and counts as full. Else prove '..UptoSaid'. A law counts once. -/
mutual
def uptoBulk {H : Type} : DataW H → Nat
  | .lit (.string bytes) => bytes.length + 1
  | .lit _ => 1
  | .nil => 1
  | .ptr d => uptoBulk d + 1
  | .slice elems spare => uptoBulkAll elems + uptoBulkAll spare + 1
  | .agg parts => uptoBulkAll parts + 1
  | .iface _ d => uptoBulk d + 1
  | .map entries => uptoBulkEntries entries + 1
  | .held _ => 1
def uptoBulkAll {H : Type} : List (DataW H) → Nat
  | [] => 0
  | d :: r => uptoBulk d + uptoBulkAll r
def uptoBulkEntries {H : Type} : List (Lit × DataW H) → Nat
  | [] => 0
  | x :: r => uptoBulkEntry x + uptoBulkEntries r
def uptoBulkEntry {H : Type} : Lit × DataW H → Nat
  | (.string bytes, d) => bytes.length + uptoBulk d + 1
  | (_, d) => uptoBulk d + 1
 end
def uptoSmall : (H : Type) → List (DataW H) → Bool := fun _ ds => decide (uptoBulkAll ds ≤ 1048576)
def OpenSpec.upto (s : _root_.Go.ChangeSpec) : _root_.Go.OpenSpec := { _root_.Go.OpenSpec.ofChange s with cond := some uptoSmall }

/-- 'stintlaw04.StepOf', WHERE WHAT IT READS IS OF BULK AT MOST 1048576: true; the input reads as it did. -/
def stepOfUptoRow : OpenClaim := { program := "ytnjhboanhjjldaa", sum := "8eab1fdd5f28684279723a6441de90d47d8d0cb30bd4672ecc40599819fafb65", func := "stint/stintlaw04.StepOf", spec := "stepOf", unfollowed := true, recurses := true, apart := false, narrowed := true }
def StepOfUptoSaid : Prop := stepOfUptoRow.holds Try.pinned (OpenSpec.upto stepOfSpec)

/-- 'stintlaw04.StepLooks', WHERE WHAT IT READS IS OF BULK AT MOST 1048576: true; the input reads as it did. -/
def stepLooksUptoRow : OpenClaim := { program := "ytnjhboanhjjldaa", sum := "8eab1fdd5f28684279723a6441de90d47d8d0cb30bd4672ecc40599819fafb65", func := "stint/stintlaw04.StepLooks", spec := "stepLooks", unfollowed := true, recurses := true, apart := false, narrowed := true }
def StepLooksUptoSaid : Prop := stepLooksUptoRow.holds Try.pinned (OpenSpec.upto stepLooksSpec)

/-- 'stintlaw04.StepAdds', WHERE WHAT IT READS IS OF BULK AT MOST 1048576: true; the input reads as it did. -/
def stepAddsUptoRow : OpenClaim := { program := "ytnjhboanhjjldaa", sum := "8eab1fdd5f28684279723a6441de90d47d8d0cb30bd4672ecc40599819fafb65", func := "stint/stintlaw04.StepAdds", spec := "stepAdds", unfollowed := true, recurses := true, apart := false, narrowed := true }
def StepAddsUptoSaid : Prop := stepAddsUptoRow.holds Try.pinned (OpenSpec.upto stepAddsSpec)

end Rows
end Go.Proofs.Ytnjhboanhjjldaa
