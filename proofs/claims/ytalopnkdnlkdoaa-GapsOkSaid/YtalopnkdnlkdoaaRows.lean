/-
  No cell of these rows narrows 'for every input' (looked for: loops, veiled, ifaces, maps, wideKeys, modest, calm, conditions, laid).
  DERIVED. THE GIVEN ROWS OF THIS SEAT. 3 by the template 'for every input the law returns true; each argument reads behind the call as it read before'; 0 by the template 'total and deterministic' (their statements: YtalopnkdnlkdoaaTotals.lean).
  GIVEN WITH THE SEED: the statements are not yours to turn. If you find one false, say at which input.
  Laid BY PROGRAM, IN A SANDBOX (cutbox-rows.mjs): the forced cells as the released guide's own fill.sh prints them over the translation 46969082d64ba02d… (all of the seat's roots in one cut). By AI agents, Wed Nov 11 2026. No macro, syntax, notation, axiom, sorry.
-/
import Derived.Test.YtalopnkdnlkdoaaChecked
import GoSem.Claim
import GoSem.ClaimJoined
import GoSem.ClaimMapViews
import Derived.JoinedTies
import Derived.KernelRfl
namespace Go.Proofs.Ytalopnkdnlkdoaa
/- THE CELL 'sum', in the pinned program and in every row, IS THE sha256 OF THE DUMP (.gsa) THAT YtalopnkdnlkdoaaProg.lean LOADS. Nothing in Lean hashes anything: it is a label: what it is worth is what the hold of that sum in a sandbox is worth. -/
noncomputable def Try.pinned : Pinned := { name := "ytalopnkdnlkdoaa", sum := "46969082d64ba02d84493093594f5beb90c8be3eb4a3a382cf8275c504b3b048", checked := Try.checked }
namespace Rows
def none {H : Type} : Left H := { results := [], args := [] }

/-- 'stintlaw06.GapsFit': WHATEVER THE INPUT: true; the input reads as it did. -/
def gapsFitSpec : ChangeSpec := { name := "gapsFit", fn := fun _ => fun
  | [d1, d2, d3] => { results := [.lit (.bool true)], args := [d1, d2, d3] }
  | _ => none }
def gapsFitRow : OpenClaim := { program := "ytalopnkdnlkdoaa", sum := "46969082d64ba02d84493093594f5beb90c8be3eb4a3a382cf8275c504b3b048", func := "stint/stintlaw06.GapsFit", spec := "gapsFit", unfollowed := true, recurses := true, apart := false }
def GapsFitSaid : Prop := gapsFitRow.holds Try.pinned (OpenSpec.ofChange gapsFitSpec)

/-- ITS FALSE NEIGHBOUR: 'it returns false'. Refute it at one input. -/
def gapsFitWrong : ChangeSpec := { name := "gapsFit", fn := fun _ => fun
  | [d1, d2, d3] => { results := [.lit (.bool false)], args := [d1, d2, d3] }
  | _ => none }
def GapsFitWrongFalsely : Prop := gapsFitRow.holds Try.pinned (OpenSpec.ofChange gapsFitWrong)

/-- 'stintlaw06.GapsOk': WHATEVER THE INPUT: true; the input reads as it did. -/
def gapsOkSpec : ChangeSpec := { name := "gapsOk", fn := fun _ => fun
  | [d1, d2, d3] => { results := [.lit (.bool true)], args := [d1, d2, d3] }
  | _ => none }
def gapsOkRow : OpenClaim := { program := "ytalopnkdnlkdoaa", sum := "46969082d64ba02d84493093594f5beb90c8be3eb4a3a382cf8275c504b3b048", func := "stint/stintlaw06.GapsOk", spec := "gapsOk", unfollowed := true, recurses := true, apart := false }
def GapsOkSaid : Prop := gapsOkRow.holds Try.pinned (OpenSpec.ofChange gapsOkSpec)

/-- ITS FALSE NEIGHBOUR: 'it returns false'. Refute it at one input. -/
def gapsOkWrong : ChangeSpec := { name := "gapsOk", fn := fun _ => fun
  | [d1, d2, d3] => { results := [.lit (.bool false)], args := [d1, d2, d3] }
  | _ => none }
def GapsOkWrongFalsely : Prop := gapsOkRow.holds Try.pinned (OpenSpec.ofChange gapsOkWrong)

/-- 'stintlaw06.GapsAll': WHATEVER THE INPUT: true; the input reads as it did. -/
def gapsAllSpec : ChangeSpec := { name := "gapsAll", fn := fun _ => fun
  | [d1, d2, d3] => { results := [.lit (.bool true)], args := [d1, d2, d3] }
  | _ => none }
def gapsAllRow : OpenClaim := { program := "ytalopnkdnlkdoaa", sum := "46969082d64ba02d84493093594f5beb90c8be3eb4a3a382cf8275c504b3b048", func := "stint/stintlaw06.GapsAll", spec := "gapsAll", unfollowed := true, recurses := true, apart := false }
def GapsAllSaid : Prop := gapsAllRow.holds Try.pinned (OpenSpec.ofChange gapsAllSpec)

/-- ITS FALSE NEIGHBOUR: 'it returns false'. Refute it at one input. -/
def gapsAllWrong : ChangeSpec := { name := "gapsAll", fn := fun _ => fun
  | [d1, d2, d3] => { results := [.lit (.bool false)], args := [d1, d2, d3] }
  | _ => none }
def GapsAllWrongFalsely : Prop := gapsAllRow.holds Try.pinned (OpenSpec.ofChange gapsAllWrong)

/- THE SECOND FORM. 'bulk': how many values and letters a reading holds, each counted each time it is reached (what is shared counts as often as it is met; a slice's spare places count too). A statement '..UptoSaid' is the law's where the arguments, and the package variables that the reading takes, are together of bulk at most 1048576: NARROWER than '..Said'. Prove '..Said' where nothing that the law and all that it calls make is longer than what came in: it says more and counts as full. Else prove '..UptoSaid'. A law counts once. -/
mutual
def uptoBulk {H : Type} : DataW H → Nat
  | .lit (.string bytes) => bytes.length + 1
  | .lit _ => 1
  | .nil => 1
  | .ptr d => uptoBulk d + 1
  | .slice elems spare => uptoBulkAll elems + uptoBulkAll spare + 1
  | .agg parts => uptoBulkAll parts + 1
  | .iface _ d => uptoBulk d + 1
  | .map entries => uptoBulkEntries entries + 1
  | .held _ => 1
def uptoBulkAll {H : Type} : List (DataW H) → Nat
  | [] => 0
  | d :: r => uptoBulk d + uptoBulkAll r
def uptoBulkEntries {H : Type} : List (Lit × DataW H) → Nat
  | [] => 0
  | x :: r => uptoBulkEntry x + uptoBulkEntries r
def uptoBulkEntry {H : Type} : Lit × DataW H → Nat
  | (.string bytes, d) => bytes.length + uptoBulk d + 1
  | (_, d) => uptoBulk d + 1
 end
def uptoSmall : (H : Type) → List (DataW H) → Bool := fun _ ds => decide (uptoBulkAll ds ≤ 1048576)
def OpenSpec.upto (s : _root_.Go.ChangeSpec) : _root_.Go.OpenSpec := { _root_.Go.OpenSpec.ofChange s with cond := some uptoSmall }

/-- 'stintlaw06.GapsFit', WHERE WHAT IT READS IS OF BULK AT MOST 1048576: true; the input reads as it did. -/
def gapsFitUptoRow : OpenClaim := { program := "ytalopnkdnlkdoaa", sum := "46969082d64ba02d84493093594f5beb90c8be3eb4a3a382cf8275c504b3b048", func := "stint/stintlaw06.GapsFit", spec := "gapsFit", unfollowed := true, recurses := true, apart := false, narrowed := true }
def GapsFitUptoSaid : Prop := gapsFitUptoRow.holds Try.pinned (OpenSpec.upto gapsFitSpec)

/-- 'stintlaw06.GapsOk', WHERE WHAT IT READS IS OF BULK AT MOST 1048576: true; the input reads as it did. -/
def gapsOkUptoRow : OpenClaim := { program := "ytalopnkdnlkdoaa", sum := "46969082d64ba02d84493093594f5beb90c8be3eb4a3a382cf8275c504b3b048", func := "stint/stintlaw06.GapsOk", spec := "gapsOk", unfollowed := true, recurses := true, apart := false, narrowed := true }
def GapsOkUptoSaid : Prop := gapsOkUptoRow.holds Try.pinned (OpenSpec.upto gapsOkSpec)

/-- 'stintlaw06.GapsAll', WHERE WHAT IT READS IS OF BULK AT MOST 1048576: true; the input reads as it did. -/
def gapsAllUptoRow : OpenClaim := { program := "ytalopnkdnlkdoaa", sum := "46969082d64ba02d84493093594f5beb90c8be3eb4a3a382cf8275c504b3b048", func := "stint/stintlaw06.GapsAll", spec := "gapsAll", unfollowed := true, recurses := true, apart := false, narrowed := true }
def GapsAllUptoSaid : Prop := gapsAllUptoRow.holds Try.pinned (OpenSpec.upto gapsAllSpec)

end Rows
end Go.Proofs.Ytalopnkdnlkdoaa
