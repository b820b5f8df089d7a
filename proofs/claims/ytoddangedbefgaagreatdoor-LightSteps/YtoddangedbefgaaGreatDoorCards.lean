/-
  DERIVED. GIVEN WITH THE SEED: THE CARDS: each row of YtoddangedbefgaaGreatDoorRows.lean that lists a variable, with what it lists TIED to the program's text (the seventh form; the later family's looks); each row that meets fmt, with fmt's text TOLD by the authors' own Lean function (tested against real Go, not proved from fmt's source: count such statements apart). THE CARD IS WHAT COUNTS. Prove the row's statement (the work); the ties are given (YtoddangedbefgaaGreatDoorTie.lean); close each card by the builder's one call (the guide's Derived/Test/ToyasCard.lean, 'card_holds'). Laid BY PROGRAM, IN A SANDBOX (cutbox-door.mjs). By AI agents, Wed Nov 11 2026. No macro, syntax, notation, axiom, sorry.
-/
import Derived.Test.YtoddangedbefgaaGreatDoorRows
import GoSem.ClaimSeven
namespace Go.Proofs.YtoddangedbefgaaGreatDoor
namespace Rows

/-- THE TIED CARD OF 'pharoslaw14.LightBegins'. -/
def lightBeginsCard : Claim7 := { stood := { row := lightBeginsRow, standIns := [], harness := (true, "0a167a0249c3b329ee54f5b6b5671b63b80823fd9ffebc69611241b2a6a4b871"), looks := false }, kinds := [], alts := [], laidByText := true, laidKinds := [.data, .data, .data, .data, .data, .data, .data], laidTests := true, laidLooks := .later }
def LightBeginsCardSaid : Prop := Claim7.holds Tryz.pinned (.plain (OpenSpec.ofChange lightBeginsSpec)) lightBeginsCard

/-- THE TIED CARD OF 'pharoslaw14.LightChecks'. -/
def lightChecksCard : Claim7 := { stood := { row := lightChecksRow, standIns := [], harness := (true, "0a167a0249c3b329ee54f5b6b5671b63b80823fd9ffebc69611241b2a6a4b871"), looks := false }, kinds := [], alts := [], laidByText := true, laidKinds := [.data, .data, .data, .data, .data, .data, .data], laidTests := true, laidLooks := .later }
def LightChecksCardSaid : Prop := Claim7.holds Tryz.pinned (.plain (OpenSpec.ofChange lightChecksSpec)) lightChecksCard

/-- THE TIED CARD OF 'pharoslaw14.LightBetter'. -/
def lightBetterCard : Claim7 := { stood := { row := lightBetterRow, standIns := [], harness := (true, "0a167a0249c3b329ee54f5b6b5671b63b80823fd9ffebc69611241b2a6a4b871"), looks := false }, kinds := [], alts := [], laidByText := true, laidKinds := [.data, .data, .data, .data, .data, .data, .data], laidTests := true, laidLooks := .later }
def LightBetterCardSaid : Prop := Claim7.holds Tryz.pinned (.plain (OpenSpec.ofChange lightBetterSpec)) lightBetterCard

/-- THE TIED CARD OF 'pharoslaw14.LightApplies'. -/
def lightAppliesCard : Claim7 := { stood := { row := lightAppliesRow, standIns := [], harness := (true, "0a167a0249c3b329ee54f5b6b5671b63b80823fd9ffebc69611241b2a6a4b871"), looks := false }, kinds := [], alts := [], laidByText := true, laidKinds := [.data, .data, .data, .data, .data, .data, .data], laidTests := true, laidLooks := .later }
def LightAppliesCardSaid : Prop := Claim7.holds Tryz.pinned (.plain (OpenSpec.ofChange lightAppliesSpec)) lightAppliesCard

/-- THE TIED CARD OF 'pharoslaw14.LightForces'. -/
def lightForcesCard : Claim7 := { stood := { row := lightForcesRow, standIns := [], harness := (true, "0a167a0249c3b329ee54f5b6b5671b63b80823fd9ffebc69611241b2a6a4b871"), looks := false }, kinds := [], alts := [], laidByText := true, laidKinds := [.data, .data, .data, .data, .data, .data, .data], laidTests := true, laidLooks := .later }
def LightForcesCardSaid : Prop := Claim7.holds Tryz.pinned (.plain (OpenSpec.ofChange lightForcesSpec)) lightForcesCard

/-- THE TIED CARD OF 'pharoslaw14.LightSteps'. -/
def lightStepsCard : Claim7 := { stood := { row := lightStepsRow, standIns := [], harness := (true, "0a167a0249c3b329ee54f5b6b5671b63b80823fd9ffebc69611241b2a6a4b871"), looks := false }, kinds := [], alts := [], laidByText := true, laidKinds := [.data, .data, .data, .data, .data, .data, .data], laidTests := true, laidLooks := .later }
def LightStepsCardSaid : Prop := Claim7.holds Tryz.pinned (.plain (OpenSpec.ofChange lightStepsSpec)) lightStepsCard

/-- THE SECOND FORM's CARD OF 'pharoslaw14.LightBegins'. -/
def lightBeginsUptoCard : Claim7 := { stood := { row := lightBeginsUptoRow, standIns := [], harness := (true, "0a167a0249c3b329ee54f5b6b5671b63b80823fd9ffebc69611241b2a6a4b871"), looks := false }, kinds := [], alts := [], laidByText := true, laidKinds := [.data, .data, .data, .data, .data, .data, .data], laidTests := true, laidLooks := .later }
def LightBeginsUptoCardSaid : Prop := Claim7.holds Tryz.pinned (.plain (OpenSpec.upto lightBeginsSpec)) lightBeginsUptoCard

/-- THE SECOND FORM's CARD OF 'pharoslaw14.LightChecks'. -/
def lightChecksUptoCard : Claim7 := { stood := { row := lightChecksUptoRow, standIns := [], harness := (true, "0a167a0249c3b329ee54f5b6b5671b63b80823fd9ffebc69611241b2a6a4b871"), looks := false }, kinds := [], alts := [], laidByText := true, laidKinds := [.data, .data, .data, .data, .data, .data, .data], laidTests := true, laidLooks := .later }
def LightChecksUptoCardSaid : Prop := Claim7.holds Tryz.pinned (.plain (OpenSpec.upto lightChecksSpec)) lightChecksUptoCard

/-- THE SECOND FORM's CARD OF 'pharoslaw14.LightBetter'. -/
def lightBetterUptoCard : Claim7 := { stood := { row := lightBetterUptoRow, standIns := [], harness := (true, "0a167a0249c3b329ee54f5b6b5671b63b80823fd9ffebc69611241b2a6a4b871"), looks := false }, kinds := [], alts := [], laidByText := true, laidKinds := [.data, .data, .data, .data, .data, .data, .data], laidTests := true, laidLooks := .later }
def LightBetterUptoCardSaid : Prop := Claim7.holds Tryz.pinned (.plain (OpenSpec.upto lightBetterSpec)) lightBetterUptoCard

/-- THE SECOND FORM's CARD OF 'pharoslaw14.LightApplies'. -/
def lightAppliesUptoCard : Claim7 := { stood := { row := lightAppliesUptoRow, standIns := [], harness := (true, "0a167a0249c3b329ee54f5b6b5671b63b80823fd9ffebc69611241b2a6a4b871"), looks := false }, kinds := [], alts := [], laidByText := true, laidKinds := [.data, .data, .data, .data, .data, .data, .data], laidTests := true, laidLooks := .later }
def LightAppliesUptoCardSaid : Prop := Claim7.holds Tryz.pinned (.plain (OpenSpec.upto lightAppliesSpec)) lightAppliesUptoCard

/-- THE SECOND FORM's CARD OF 'pharoslaw14.LightForces'. -/
def lightForcesUptoCard : Claim7 := { stood := { row := lightForcesUptoRow, standIns := [], harness := (true, "0a167a0249c3b329ee54f5b6b5671b63b80823fd9ffebc69611241b2a6a4b871"), looks := false }, kinds := [], alts := [], laidByText := true, laidKinds := [.data, .data, .data, .data, .data, .data, .data], laidTests := true, laidLooks := .later }
def LightForcesUptoCardSaid : Prop := Claim7.holds Tryz.pinned (.plain (OpenSpec.upto lightForcesSpec)) lightForcesUptoCard

/-- THE SECOND FORM's CARD OF 'pharoslaw14.LightSteps'. -/
def lightStepsUptoCard : Claim7 := { stood := { row := lightStepsUptoRow, standIns := [], harness := (true, "0a167a0249c3b329ee54f5b6b5671b63b80823fd9ffebc69611241b2a6a4b871"), looks := false }, kinds := [], alts := [], laidByText := true, laidKinds := [.data, .data, .data, .data, .data, .data, .data], laidTests := true, laidLooks := .later }
def LightStepsUptoCardSaid : Prop := Claim7.holds Tryz.pinned (.plain (OpenSpec.upto lightStepsSpec)) lightStepsUptoCard
end Rows
end Go.Proofs.YtoddangedbefgaaGreatDoor
