/-
  DERIVED. GIVEN WITH THE SEED: THE CARDS: each row of YteknhghmliihhaaDoorRows.lean that lists a variable, with what it lists TIED to the program's text (the seventh form; the later family's looks); each row that meets fmt, with fmt's text TOLD by the authors' own Lean function (tested against real Go, not proved from fmt's source: count such statements apart). THE CARD IS WHAT COUNTS. Prove the row's statement (the work); the ties are given (YteknhghmliihhaaDoorTie.lean); close each card by the builder's one call (the guide's Derived/Test/ToyasCard.lean, 'card_holds'). Laid BY PROGRAM, IN A SANDBOX (cutbox-door.mjs). By AI agents, Wed Nov 11 2026. No macro, syntax, notation, axiom, sorry.
-/
import Derived.Test.YteknhghmliihhaaDoorRows
import GoSem.ClaimSeven
namespace Go.Proofs.YteknhghmliihhaaDoor
namespace Rows

/-- THE TIED CARD OF 'pharoslaw11.PairLines'. -/
def pairLinesCard : Claim7 := { stood := { row := pairLinesRow, standIns := [], harness := (true, "c84487459dfb9805e96220a8ae9f7c751503127f717a676d94663e5d20410b88"), looks := false }, kinds := [], alts := [], laidByText := true, laidKinds := [.data, .data, .data], laidTests := true, laidLooks := .later }
def PairLinesCardSaid : Prop := Claim7.holds Tryd.pinned (.plain (OpenSpec.ofChange pairLinesSpec)) pairLinesCard

/-- THE TIED CARD OF 'pharoslaw11.PairPairs'. -/
def pairPairsCard : Claim7 := { stood := { row := pairPairsRow, standIns := [], harness := (true, "c84487459dfb9805e96220a8ae9f7c751503127f717a676d94663e5d20410b88"), looks := false }, kinds := [], alts := [], laidByText := true, laidKinds := [.data, .data, .data], laidTests := true, laidLooks := .later }
def PairPairsCardSaid : Prop := Claim7.holds Tryd.pinned (.plain (OpenSpec.ofChange pairPairsSpec)) pairPairsCard

/-- THE TIED CARD OF 'pharoslaw11.PairSame'. -/
def pairSameCard : Claim7 := { stood := { row := pairSameRow, standIns := [], harness := (true, "c84487459dfb9805e96220a8ae9f7c751503127f717a676d94663e5d20410b88"), looks := false }, kinds := [], alts := [], laidByText := true, laidKinds := [.data, .data, .data], laidTests := true, laidLooks := .later }
def PairSameCardSaid : Prop := Claim7.holds Tryd.pinned (.plain (OpenSpec.ofChange pairSameSpec)) pairSameCard

/-- THE TIED CARD OF 'pharoslaw11.PairNone'. -/
def pairNoneCard : Claim7 := { stood := { row := pairNoneRow, standIns := [], harness := (true, "c84487459dfb9805e96220a8ae9f7c751503127f717a676d94663e5d20410b88"), looks := false }, kinds := [], alts := [], laidByText := true, laidKinds := [.data, .data, .data], laidTests := true, laidLooks := .later }
def PairNoneCardSaid : Prop := Claim7.holds Tryd.pinned (.plain (OpenSpec.ofChange pairNoneSpec)) pairNoneCard

/-- THE TIED CARD OF 'pharoslaw11.PairInf'. -/
def pairInfCard : Claim7 := { stood := { row := pairInfRow, standIns := [], harness := (true, "c84487459dfb9805e96220a8ae9f7c751503127f717a676d94663e5d20410b88"), looks := false }, kinds := [], alts := [], laidByText := true, laidKinds := [.data, .data, .data], laidTests := true, laidLooks := .later }
def PairInfCardSaid : Prop := Claim7.holds Tryd.pinned (.plain (OpenSpec.ofChange pairInfSpec)) pairInfCard

/-- THE SECOND FORM's CARD OF 'pharoslaw11.PairLines'. -/
def pairLinesUptoCard : Claim7 := { stood := { row := pairLinesUptoRow, standIns := [], harness := (true, "c84487459dfb9805e96220a8ae9f7c751503127f717a676d94663e5d20410b88"), looks := false }, kinds := [], alts := [], laidByText := true, laidKinds := [.data, .data, .data], laidTests := true, laidLooks := .later }
def PairLinesUptoCardSaid : Prop := Claim7.holds Tryd.pinned (.plain (OpenSpec.upto pairLinesSpec)) pairLinesUptoCard

/-- THE SECOND FORM's CARD OF 'pharoslaw11.PairPairs'. -/
def pairPairsUptoCard : Claim7 := { stood := { row := pairPairsUptoRow, standIns := [], harness := (true, "c84487459dfb9805e96220a8ae9f7c751503127f717a676d94663e5d20410b88"), looks := false }, kinds := [], alts := [], laidByText := true, laidKinds := [.data, .data, .data], laidTests := true, laidLooks := .later }
def PairPairsUptoCardSaid : Prop := Claim7.holds Tryd.pinned (.plain (OpenSpec.upto pairPairsSpec)) pairPairsUptoCard

/-- THE SECOND FORM's CARD OF 'pharoslaw11.PairSame'. -/
def pairSameUptoCard : Claim7 := { stood := { row := pairSameUptoRow, standIns := [], harness := (true, "c84487459dfb9805e96220a8ae9f7c751503127f717a676d94663e5d20410b88"), looks := false }, kinds := [], alts := [], laidByText := true, laidKinds := [.data, .data, .data], laidTests := true, laidLooks := .later }
def PairSameUptoCardSaid : Prop := Claim7.holds Tryd.pinned (.plain (OpenSpec.upto pairSameSpec)) pairSameUptoCard

/-- THE SECOND FORM's CARD OF 'pharoslaw11.PairNone'. -/
def pairNoneUptoCard : Claim7 := { stood := { row := pairNoneUptoRow, standIns := [], harness := (true, "c84487459dfb9805e96220a8ae9f7c751503127f717a676d94663e5d20410b88"), looks := false }, kinds := [], alts := [], laidByText := true, laidKinds := [.data, .data, .data], laidTests := true, laidLooks := .later }
def PairNoneUptoCardSaid : Prop := Claim7.holds Tryd.pinned (.plain (OpenSpec.upto pairNoneSpec)) pairNoneUptoCard

/-- THE SECOND FORM's CARD OF 'pharoslaw11.PairInf'. -/
def pairInfUptoCard : Claim7 := { stood := { row := pairInfUptoRow, standIns := [], harness := (true, "c84487459dfb9805e96220a8ae9f7c751503127f717a676d94663e5d20410b88"), looks := false }, kinds := [], alts := [], laidByText := true, laidKinds := [.data, .data, .data], laidTests := true, laidLooks := .later }
def PairInfUptoCardSaid : Prop := Claim7.holds Tryd.pinned (.plain (OpenSpec.upto pairInfSpec)) pairInfUptoCard
end Rows
end Go.Proofs.YteknhghmliihhaaDoor
