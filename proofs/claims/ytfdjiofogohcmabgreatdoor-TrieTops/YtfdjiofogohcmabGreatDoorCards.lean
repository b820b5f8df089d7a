/-
  DERIVED. GIVEN WITH THE SEED: THE CARDS: each row of YtfdjiofogohcmabGreatDoorRows.lean that lists a variable, with what it lists TIED to the program's text (the seventh form; the later family's looks); each row that meets fmt, with fmt's text TOLD by the authors' own Lean function (tested against real Go, not proved from fmt's source: count such statements apart). THE CARD IS WHAT COUNTS. Prove the row's statement (the work); the ties are given (YtfdjiofogohcmabGreatDoorTie.lean); close each card by the builder's one call (the guide's Derived/Test/ToyasCard.lean, 'card_holds'). Laid BY PROGRAM, IN A SANDBOX (cutbox-door.mjs). By AI agents, Wed Nov 11 2026. No macro, syntax, notation, axiom, sorry.
-/
import Derived.Test.YtfdjiofogohcmabGreatDoorRows
import GoSem.ClaimSeven
namespace Go.Proofs.YtfdjiofogohcmabGreatDoor
namespace Rows

/-- THE TIED CARD OF 'pharoslaw06.TrieTops'. -/
def trieTopsCard : Claim7 := { stood := { row := trieTopsRow, standIns := [], harness := (true, "d0a88df2e882817b14d4ea4f1c45df6a992305665a481478defc7bf3e51b28fd"), looks := false }, kinds := [], alts := [], laidByText := true, laidKinds := [.data, .data, .data], laidTests := true, laidLooks := .later }
def TrieTopsCardSaid : Prop := Claim7.holds Tryz.pinned (.plain (OpenSpec.ofChange trieTopsSpec)) trieTopsCard

/-- THE SECOND FORM's CARD OF 'pharoslaw06.TrieTops'. -/
def trieTopsUptoCard : Claim7 := { stood := { row := trieTopsUptoRow, standIns := [], harness := (true, "d0a88df2e882817b14d4ea4f1c45df6a992305665a481478defc7bf3e51b28fd"), looks := false }, kinds := [], alts := [], laidByText := true, laidKinds := [.data, .data, .data], laidTests := true, laidLooks := .later }
def TrieTopsUptoCardSaid : Prop := Claim7.holds Tryz.pinned (.plain (OpenSpec.upto trieTopsSpec)) trieTopsUptoCard
end Rows
end Go.Proofs.YtfdjiofogohcmabGreatDoor
