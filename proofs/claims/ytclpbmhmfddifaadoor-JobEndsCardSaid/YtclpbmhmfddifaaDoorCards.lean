/-
  DERIVED. GIVEN WITH THE SEED: THE CARDS: each row of YtclpbmhmfddifaaDoorRows.lean that lists a variable, with what it lists TIED to the program's text (the seventh form; the later family's looks); each row that meets fmt, with fmt's text TOLD by the authors' own Lean function (tested against real Go, not proved from fmt's source: count such statements apart). THE CARD IS WHAT COUNTS. Prove the row's statement (the work); the ties are given (YtclpbmhmfddifaaDoorTie.lean); close each card by the builder's one call (the guide's Derived/Test/ToyasCard.lean, 'card_holds'). Laid BY PROGRAM, IN A SANDBOX (cutbox-door.mjs). By AI agents, Wed Nov 11 2026. No macro, syntax, notation, axiom, sorry.
-/
import Derived.Test.YtclpbmhmfddifaaDoorRows
import GoSem.ClaimSeven
namespace Go.Proofs.YtclpbmhmfddifaaDoor
namespace Rows

/-- THE TIED CARD OF 'stintlaw07.JobTurns'. -/
def jobTurnsCard : Claim7 := { stood := { row := jobTurnsRow, standIns := [], harness := (true, "84fdb6cb85ab61a30ac34340d8e42b1bcee8accb519f38b815b60487e831a5cb"), looks := false }, kinds := [], alts := [], laidByText := true, laidKinds := [.data], laidTests := true, laidLooks := .later }
def JobTurnsCardSaid : Prop := Claim7.holds Tryd.pinned (.plain (OpenSpec.ofChange jobTurnsSpec)) jobTurnsCard

/-- THE TIED CARD OF 'stintlaw07.JobTells'. -/
def jobTellsCard : Claim7 := { stood := { row := jobTellsRow, standIns := [], harness := (true, "84fdb6cb85ab61a30ac34340d8e42b1bcee8accb519f38b815b60487e831a5cb"), looks := false }, kinds := [], alts := [], laidByText := true, laidKinds := [.data], laidTests := true, laidLooks := .later }
def JobTellsCardSaid : Prop := Claim7.holds Tryd.pinned (.plain (OpenSpec.ofChange jobTellsSpec)) jobTellsCard

/-- THE TIED CARD OF 'stintlaw07.JobEnds'. -/
def jobEndsCard : Claim7 := { stood := { row := jobEndsRow, standIns := [], harness := (true, "84fdb6cb85ab61a30ac34340d8e42b1bcee8accb519f38b815b60487e831a5cb"), looks := false }, kinds := [], alts := [], laidByText := true, laidKinds := [.data], laidTests := true, laidLooks := .later }
def JobEndsCardSaid : Prop := Claim7.holds Tryd.pinned (.plain (OpenSpec.ofChange jobEndsSpec)) jobEndsCard

/-- THE SECOND FORM's CARD OF 'stintlaw07.JobTurns'. -/
def jobTurnsUptoCard : Claim7 := { stood := { row := jobTurnsUptoRow, standIns := [], harness := (true, "84fdb6cb85ab61a30ac34340d8e42b1bcee8accb519f38b815b60487e831a5cb"), looks := false }, kinds := [], alts := [], laidByText := true, laidKinds := [.data], laidTests := true, laidLooks := .later }
def JobTurnsUptoCardSaid : Prop := Claim7.holds Tryd.pinned (.plain (OpenSpec.upto jobTurnsSpec)) jobTurnsUptoCard

/-- THE SECOND FORM's CARD OF 'stintlaw07.JobTells'. -/
def jobTellsUptoCard : Claim7 := { stood := { row := jobTellsUptoRow, standIns := [], harness := (true, "84fdb6cb85ab61a30ac34340d8e42b1bcee8accb519f38b815b60487e831a5cb"), looks := false }, kinds := [], alts := [], laidByText := true, laidKinds := [.data], laidTests := true, laidLooks := .later }
def JobTellsUptoCardSaid : Prop := Claim7.holds Tryd.pinned (.plain (OpenSpec.upto jobTellsSpec)) jobTellsUptoCard

/-- THE SECOND FORM's CARD OF 'stintlaw07.JobEnds'. -/
def jobEndsUptoCard : Claim7 := { stood := { row := jobEndsUptoRow, standIns := [], harness := (true, "84fdb6cb85ab61a30ac34340d8e42b1bcee8accb519f38b815b60487e831a5cb"), looks := false }, kinds := [], alts := [], laidByText := true, laidKinds := [.data], laidTests := true, laidLooks := .later }
def JobEndsUptoCardSaid : Prop := Claim7.holds Tryd.pinned (.plain (OpenSpec.upto jobEndsSpec)) jobEndsUptoCard
end Rows
end Go.Proofs.YtclpbmhmfddifaaDoor
