/-
  DERIVED. GIVEN WITH THE SEED: THE CARDS: each row of YtgefjmpnpebfoabDoorRows.lean that lists a variable, with what it lists TIED to the program's text (the seventh form; the later family's looks); each row that meets fmt, with fmt's text TOLD by the authors' own Lean function (tested against real Go, not proved from fmt's source: count such statements apart). THE CARD IS WHAT COUNTS. Prove the row's statement (the work); the ties are given (YtgefjmpnpebfoabDoorTie.lean); close each card by the builder's one call (the guide's Derived/Test/ToyasCard.lean, 'card_holds'). Laid BY PROGRAM, IN A SANDBOX (cutbox-door.mjs). By AI agents, Wed Nov 11 2026. No macro, syntax, notation, axiom, sorry.
-/
import Derived.Test.YtgefjmpnpebfoabDoorRows
import GoSem.ClaimSeven
namespace Go.Proofs.YtgefjmpnpebfoabDoor
namespace Rows

/-- THE TIED CARD OF 'pharoslaw12.SignOnes'. -/
def signOnesCard : Claim7 := { stood := { row := signOnesRow, standIns := [], harness := (true, "5e190e9557cfc039ace44c288a69d5d28c58487cb50c3bc7d9b5449182633102"), looks := false }, kinds := [], alts := [], laidByText := true, laidKinds := [.data, .data, .data, .data, .data, .data, .data], laidTests := true, laidLooks := .later }
def SignOnesCardSaid : Prop := Claim7.holds Tryd.pinned (.plain (OpenSpec.ofChange signOnesSpec)) signOnesCard

/-- THE SECOND FORM's CARD OF 'pharoslaw12.SignOnes'. -/
def signOnesUptoCard : Claim7 := { stood := { row := signOnesUptoRow, standIns := [], harness := (true, "5e190e9557cfc039ace44c288a69d5d28c58487cb50c3bc7d9b5449182633102"), looks := false }, kinds := [], alts := [], laidByText := true, laidKinds := [.data, .data, .data, .data, .data, .data, .data], laidTests := true, laidLooks := .later }
def SignOnesUptoCardSaid : Prop := Claim7.holds Tryd.pinned (.plain (OpenSpec.upto signOnesSpec)) signOnesUptoCard
end Rows
end Go.Proofs.YtgefjmpnpebfoabDoor
