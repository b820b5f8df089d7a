/-
  DERIVED. GIVEN WITH THE SEED: THE CARDS: each row of YtbmapdkcccdmfaaDoorRows.lean that lists a variable, with what it lists TIED to the program's text (the seventh form; the later family's looks); each row that meets fmt, with fmt's text TOLD by the authors' own Lean function (tested against real Go, not proved from fmt's source: count such statements apart). THE CARD IS WHAT COUNTS. Prove the row's statement (the work); the ties are given (YtbmapdkcccdmfaaDoorTie.lean); close each card by the builder's one call (the guide's Derived/Test/ToyasCard.lean, 'card_holds'). Laid BY PROGRAM, IN A SANDBOX (cutbox-door.mjs). By AI agents, Wed Nov 11 2026. No macro, syntax, notation, axiom, sorry.
-/
import Derived.Test.YtbmapdkcccdmfaaDoorRows
import GoSem.ClaimSeven
namespace Go.Proofs.YtbmapdkcccdmfaaDoor
namespace Rows

/-- THE TIED CARD OF 'pharoslaw07.ProofSizes'. -/
def proofSizesCard : Claim7 := { stood := { row := proofSizesRow, standIns := [], harness := (true, "7f39a23d479bd5f947c1c8937e98352c8f4b93f9667bd2d0bc6fe4d339c106d3"), looks := false }, kinds := [], alts := [], laidByText := true, laidKinds := [.data, .data, .data], laidTests := true, laidLooks := .later }
def ProofSizesCardSaid : Prop := Claim7.holds Tryd.pinned (.plain (OpenSpec.ofChange proofSizesSpec)) proofSizesCard

/-- THE TIED CARD OF 'pharoslaw07.ProofSound'. -/
def proofSoundCard : Claim7 := { stood := { row := proofSoundRow, standIns := [], harness := (true, "7f39a23d479bd5f947c1c8937e98352c8f4b93f9667bd2d0bc6fe4d339c106d3"), looks := false }, kinds := [], alts := [], laidByText := true, laidKinds := [.data, .data, .data], laidTests := true, laidLooks := .later }
def ProofSoundCardSaid : Prop := Claim7.holds Tryd.pinned (.plain (OpenSpec.ofChange proofSoundSpec)) proofSoundCard

/-- THE TIED CARD OF 'pharoslaw07.ProofOnly'. -/
def proofOnlyCard : Claim7 := { stood := { row := proofOnlyRow, standIns := [], harness := (true, "7f39a23d479bd5f947c1c8937e98352c8f4b93f9667bd2d0bc6fe4d339c106d3"), looks := false }, kinds := [], alts := [], laidByText := true, laidKinds := [.data, .data, .data], laidTests := true, laidLooks := .later }
def ProofOnlyCardSaid : Prop := Claim7.holds Tryd.pinned (.plain (OpenSpec.ofChange proofOnlySpec)) proofOnlyCard

/-- THE TIED CARD OF 'pharoslaw07.ProofLeads'. -/
def proofLeadsCard : Claim7 := { stood := { row := proofLeadsRow, standIns := [], harness := (true, "7f39a23d479bd5f947c1c8937e98352c8f4b93f9667bd2d0bc6fe4d339c106d3"), looks := false }, kinds := [], alts := [], laidByText := true, laidKinds := [.data, .data, .data], laidTests := true, laidLooks := .later }
def ProofLeadsCardSaid : Prop := Claim7.holds Tryd.pinned (.plain (OpenSpec.ofChange proofLeadsSpec)) proofLeadsCard

/-- THE SECOND FORM's CARD OF 'pharoslaw07.ProofSizes'. -/
def proofSizesUptoCard : Claim7 := { stood := { row := proofSizesUptoRow, standIns := [], harness := (true, "7f39a23d479bd5f947c1c8937e98352c8f4b93f9667bd2d0bc6fe4d339c106d3"), looks := false }, kinds := [], alts := [], laidByText := true, laidKinds := [.data, .data, .data], laidTests := true, laidLooks := .later }
def ProofSizesUptoCardSaid : Prop := Claim7.holds Tryd.pinned (.plain (OpenSpec.upto proofSizesSpec)) proofSizesUptoCard

/-- THE SECOND FORM's CARD OF 'pharoslaw07.ProofSound'. -/
def proofSoundUptoCard : Claim7 := { stood := { row := proofSoundUptoRow, standIns := [], harness := (true, "7f39a23d479bd5f947c1c8937e98352c8f4b93f9667bd2d0bc6fe4d339c106d3"), looks := false }, kinds := [], alts := [], laidByText := true, laidKinds := [.data, .data, .data], laidTests := true, laidLooks := .later }
def ProofSoundUptoCardSaid : Prop := Claim7.holds Tryd.pinned (.plain (OpenSpec.upto proofSoundSpec)) proofSoundUptoCard

/-- THE SECOND FORM's CARD OF 'pharoslaw07.ProofOnly'. -/
def proofOnlyUptoCard : Claim7 := { stood := { row := proofOnlyUptoRow, standIns := [], harness := (true, "7f39a23d479bd5f947c1c8937e98352c8f4b93f9667bd2d0bc6fe4d339c106d3"), looks := false }, kinds := [], alts := [], laidByText := true, laidKinds := [.data, .data, .data], laidTests := true, laidLooks := .later }
def ProofOnlyUptoCardSaid : Prop := Claim7.holds Tryd.pinned (.plain (OpenSpec.upto proofOnlySpec)) proofOnlyUptoCard

/-- THE SECOND FORM's CARD OF 'pharoslaw07.ProofLeads'. -/
def proofLeadsUptoCard : Claim7 := { stood := { row := proofLeadsUptoRow, standIns := [], harness := (true, "7f39a23d479bd5f947c1c8937e98352c8f4b93f9667bd2d0bc6fe4d339c106d3"), looks := false }, kinds := [], alts := [], laidByText := true, laidKinds := [.data, .data, .data], laidTests := true, laidLooks := .later }
def ProofLeadsUptoCardSaid : Prop := Claim7.holds Tryd.pinned (.plain (OpenSpec.upto proofLeadsSpec)) proofLeadsUptoCard
end Rows
end Go.Proofs.YtbmapdkcccdmfaaDoor
