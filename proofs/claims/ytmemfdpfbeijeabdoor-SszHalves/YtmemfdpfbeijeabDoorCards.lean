/-
  DERIVED. GIVEN WITH THE SEED: THE CARDS: each row of YtmemfdpfbeijeabDoorRows.lean that lists a variable, with what it lists TIED to the program's text (the seventh form; the later family's looks); each row that meets fmt, with fmt's text TOLD by the authors' own Lean function (tested against real Go, not proved from fmt's source: count such statements apart). THE CARD IS WHAT COUNTS. Prove the row's statement (the work); the ties are given (YtmemfdpfbeijeabDoorTie.lean); close each card by the builder's one call (the guide's Derived/Test/ToyasCard.lean, 'card_holds'). Laid BY PROGRAM, IN A SANDBOX (cutbox-door.mjs). By AI agents, Wed Nov 11 2026. No macro, syntax, notation, axiom, sorry.
-/
import Derived.Test.YtmemfdpfbeijeabDoorRows
import GoSem.ClaimSeven
namespace Go.Proofs.YtmemfdpfbeijeabDoor
namespace Rows

/-- THE TIED CARD OF 'pharoslaw08.SszHalves'. -/
def sszHalvesCard : Claim7 := { stood := { row := sszHalvesRow, standIns := [], harness := (true, "93bb18af4b38c4c80d4da15a796aa4096ffcb482a9ffa9c6047353bc91065379"), looks := false }, kinds := [], alts := [], laidByText := true, laidKinds := [.data, .data], laidTests := true, laidLooks := .later }
def SszHalvesCardSaid : Prop := Claim7.holds Tryd.pinned (.plain (OpenSpec.ofChange sszHalvesSpec)) sszHalvesCard

/-- THE TIED CARD OF 'pharoslaw08.SszJoins'. -/
def sszJoinsCard : Claim7 := { stood := { row := sszJoinsRow, standIns := [], harness := (true, "93bb18af4b38c4c80d4da15a796aa4096ffcb482a9ffa9c6047353bc91065379"), looks := false }, kinds := [], alts := [], laidByText := true, laidKinds := [.data, .data], laidTests := true, laidLooks := .later }
def SszJoinsCardSaid : Prop := Claim7.holds Tryd.pinned (.plain (OpenSpec.ofChange sszJoinsSpec)) sszJoinsCard

/-- THE SECOND FORM's CARD OF 'pharoslaw08.SszHalves'. -/
def sszHalvesUptoCard : Claim7 := { stood := { row := sszHalvesUptoRow, standIns := [], harness := (true, "93bb18af4b38c4c80d4da15a796aa4096ffcb482a9ffa9c6047353bc91065379"), looks := false }, kinds := [], alts := [], laidByText := true, laidKinds := [.data, .data], laidTests := true, laidLooks := .later }
def SszHalvesUptoCardSaid : Prop := Claim7.holds Tryd.pinned (.plain (OpenSpec.upto sszHalvesSpec)) sszHalvesUptoCard

/-- THE SECOND FORM's CARD OF 'pharoslaw08.SszJoins'. -/
def sszJoinsUptoCard : Claim7 := { stood := { row := sszJoinsUptoRow, standIns := [], harness := (true, "93bb18af4b38c4c80d4da15a796aa4096ffcb482a9ffa9c6047353bc91065379"), looks := false }, kinds := [], alts := [], laidByText := true, laidKinds := [.data, .data], laidTests := true, laidLooks := .later }
def SszJoinsUptoCardSaid : Prop := Claim7.holds Tryd.pinned (.plain (OpenSpec.upto sszJoinsSpec)) sszJoinsUptoCard
end Rows
end Go.Proofs.YtmemfdpfbeijeabDoor
