/-
  DERIVED. GIVEN WITH THE SEED: THE CARDS: each row of YtbmapdkcccdmfaaGreatDoorRows.lean that lists a variable, with what it lists TIED to the program's text (the seventh form; the later family's looks); each row that meets fmt, with fmt's text TOLD by the authors' own Lean function (tested against real Go, not proved from fmt's source: count such statements apart). THE CARD IS WHAT COUNTS. Prove the row's statement (the work); the ties are given (YtbmapdkcccdmfaaGreatDoorTie.lean); close each card by the builder's one call (the guide's Derived/Test/ToyasCard.lean, 'card_holds'). Laid BY PROGRAM, IN A SANDBOX (cutbox-door.mjs). By AI agents, Wed Nov 11 2026. No macro, syntax, notation, axiom, sorry.
-/
import Derived.Test.YtbmapdkcccdmfaaGreatDoorRows
import GoSem.ClaimSeven
namespace Go.Proofs.YtbmapdkcccdmfaaGreatDoor
namespace Rows

/-- THE TIED CARD OF 'pharoslaw07.ProofChecks'. -/
def proofChecksCard : Claim7 := { stood := { row := proofChecksRow, standIns := [], harness := (true, "9d0d599a84d416b13f58f101af43db6c7af370ae474759ace00c1decd8053a2f"), looks := false }, kinds := [], alts := [], laidByText := true, laidKinds := [.data, .data, .data], laidTests := true, laidLooks := .later }
def ProofChecksCardSaid : Prop := Claim7.holds Tryz.pinned (.plain (OpenSpec.ofChange proofChecksSpec)) proofChecksCard

/-- THE TIED CARD OF 'pharoslaw07.ProofHonest'. -/
def proofHonestCard : Claim7 := { stood := { row := proofHonestRow, standIns := [], harness := (true, "9d0d599a84d416b13f58f101af43db6c7af370ae474759ace00c1decd8053a2f"), looks := false }, kinds := [], alts := [], laidByText := true, laidKinds := [.data, .data, .data], laidTests := true, laidLooks := .later }
def ProofHonestCardSaid : Prop := Claim7.holds Tryz.pinned (.plain (OpenSpec.ofChange proofHonestSpec)) proofHonestCard

/-- THE SECOND FORM's CARD OF 'pharoslaw07.ProofChecks'. -/
def proofChecksUptoCard : Claim7 := { stood := { row := proofChecksUptoRow, standIns := [], harness := (true, "9d0d599a84d416b13f58f101af43db6c7af370ae474759ace00c1decd8053a2f"), looks := false }, kinds := [], alts := [], laidByText := true, laidKinds := [.data, .data, .data], laidTests := true, laidLooks := .later }
def ProofChecksUptoCardSaid : Prop := Claim7.holds Tryz.pinned (.plain (OpenSpec.upto proofChecksSpec)) proofChecksUptoCard

/-- THE SECOND FORM's CARD OF 'pharoslaw07.ProofHonest'. -/
def proofHonestUptoCard : Claim7 := { stood := { row := proofHonestUptoRow, standIns := [], harness := (true, "9d0d599a84d416b13f58f101af43db6c7af370ae474759ace00c1decd8053a2f"), looks := false }, kinds := [], alts := [], laidByText := true, laidKinds := [.data, .data, .data], laidTests := true, laidLooks := .later }
def ProofHonestUptoCardSaid : Prop := Claim7.holds Tryz.pinned (.plain (OpenSpec.upto proofHonestSpec)) proofHonestUptoCard
end Rows
end Go.Proofs.YtbmapdkcccdmfaaGreatDoor
