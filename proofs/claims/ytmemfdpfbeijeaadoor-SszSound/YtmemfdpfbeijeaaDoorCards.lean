/-
  DERIVED. GIVEN WITH THE SEED: THE CARDS: each row of YtmemfdpfbeijeaaDoorRows.lean that lists a variable, with what it lists TIED to the program's text (the seventh form; the later family's looks); each row that meets fmt, with fmt's text TOLD by the authors' own Lean function (tested against real Go, not proved from fmt's source: count such statements apart). THE CARD IS WHAT COUNTS. Prove the row's statement (the work); the ties are given (YtmemfdpfbeijeaaDoorTie.lean); close each card by the builder's one call (the guide's Derived/Test/ToyasCard.lean, 'card_holds'). Laid BY PROGRAM, IN A SANDBOX (cutbox-door.mjs). By AI agents, Wed Nov 11 2026. No macro, syntax, notation, axiom, sorry.
-/
import Derived.Test.YtmemfdpfbeijeaaDoorRows
import GoSem.ClaimSeven
namespace Go.Proofs.YtmemfdpfbeijeaaDoor
namespace Rows

/-- THE TIED CARD OF 'pharoslaw08.SszPacks'. -/
def sszPacksCard : Claim7 := { stood := { row := sszPacksRow, standIns := [], harness := (true, "5a90fa09831c7f72f08f0a74a0aee7dfe4e25f6e4cf2bbefc475e587587c331f"), looks := false }, kinds := [], alts := [], laidByText := true, laidKinds := [.data, .data], laidTests := true, laidLooks := .later }
def SszPacksCardSaid : Prop := Claim7.holds Tryd.pinned (.plain (OpenSpec.ofChange sszPacksSpec)) sszPacksCard

/-- THE TIED CARD OF 'pharoslaw08.SszRoots'. -/
def sszRootsCard : Claim7 := { stood := { row := sszRootsRow, standIns := [], harness := (true, "5a90fa09831c7f72f08f0a74a0aee7dfe4e25f6e4cf2bbefc475e587587c331f"), looks := false }, kinds := [], alts := [], laidByText := true, laidKinds := [.data, .data], laidTests := true, laidLooks := .later }
def SszRootsCardSaid : Prop := Claim7.holds Tryd.pinned (.plain (OpenSpec.ofChange sszRootsSpec)) sszRootsCard

/-- THE TIED CARD OF 'pharoslaw08.SszDepths'. -/
def sszDepthsCard : Claim7 := { stood := { row := sszDepthsRow, standIns := [], harness := (true, "5a90fa09831c7f72f08f0a74a0aee7dfe4e25f6e4cf2bbefc475e587587c331f"), looks := false }, kinds := [], alts := [], laidByText := true, laidKinds := [.data, .data], laidTests := true, laidLooks := .later }
def SszDepthsCardSaid : Prop := Claim7.holds Tryd.pinned (.plain (OpenSpec.ofChange sszDepthsSpec)) sszDepthsCard

/-- THE TIED CARD OF 'pharoslaw08.SszChecks'. -/
def sszChecksCard : Claim7 := { stood := { row := sszChecksRow, standIns := [], harness := (true, "5a90fa09831c7f72f08f0a74a0aee7dfe4e25f6e4cf2bbefc475e587587c331f"), looks := false }, kinds := [], alts := [], laidByText := true, laidKinds := [.data, .data], laidTests := true, laidLooks := .later }
def SszChecksCardSaid : Prop := Claim7.holds Tryd.pinned (.plain (OpenSpec.ofChange sszChecksSpec)) sszChecksCard

/-- THE TIED CARD OF 'pharoslaw08.SszBack'. -/
def sszBackCard : Claim7 := { stood := { row := sszBackRow, standIns := [], harness := (true, "5a90fa09831c7f72f08f0a74a0aee7dfe4e25f6e4cf2bbefc475e587587c331f"), looks := false }, kinds := [], alts := [], laidByText := true, laidKinds := [.data, .data], laidTests := true, laidLooks := .later }
def SszBackCardSaid : Prop := Claim7.holds Tryd.pinned (.plain (OpenSpec.ofChange sszBackSpec)) sszBackCard

/-- THE TIED CARD OF 'pharoslaw08.SszSound'. -/
def sszSoundCard : Claim7 := { stood := { row := sszSoundRow, standIns := [], harness := (true, "5a90fa09831c7f72f08f0a74a0aee7dfe4e25f6e4cf2bbefc475e587587c331f"), looks := false }, kinds := [], alts := [], laidByText := true, laidKinds := [.data, .data], laidTests := true, laidLooks := .later }
def SszSoundCardSaid : Prop := Claim7.holds Tryd.pinned (.plain (OpenSpec.ofChange sszSoundSpec)) sszSoundCard

/-- THE SECOND FORM's CARD OF 'pharoslaw08.SszPacks'. -/
def sszPacksUptoCard : Claim7 := { stood := { row := sszPacksUptoRow, standIns := [], harness := (true, "5a90fa09831c7f72f08f0a74a0aee7dfe4e25f6e4cf2bbefc475e587587c331f"), looks := false }, kinds := [], alts := [], laidByText := true, laidKinds := [.data, .data], laidTests := true, laidLooks := .later }
def SszPacksUptoCardSaid : Prop := Claim7.holds Tryd.pinned (.plain (OpenSpec.upto sszPacksSpec)) sszPacksUptoCard

/-- THE SECOND FORM's CARD OF 'pharoslaw08.SszRoots'. -/
def sszRootsUptoCard : Claim7 := { stood := { row := sszRootsUptoRow, standIns := [], harness := (true, "5a90fa09831c7f72f08f0a74a0aee7dfe4e25f6e4cf2bbefc475e587587c331f"), looks := false }, kinds := [], alts := [], laidByText := true, laidKinds := [.data, .data], laidTests := true, laidLooks := .later }
def SszRootsUptoCardSaid : Prop := Claim7.holds Tryd.pinned (.plain (OpenSpec.upto sszRootsSpec)) sszRootsUptoCard

/-- THE SECOND FORM's CARD OF 'pharoslaw08.SszDepths'. -/
def sszDepthsUptoCard : Claim7 := { stood := { row := sszDepthsUptoRow, standIns := [], harness := (true, "5a90fa09831c7f72f08f0a74a0aee7dfe4e25f6e4cf2bbefc475e587587c331f"), looks := false }, kinds := [], alts := [], laidByText := true, laidKinds := [.data, .data], laidTests := true, laidLooks := .later }
def SszDepthsUptoCardSaid : Prop := Claim7.holds Tryd.pinned (.plain (OpenSpec.upto sszDepthsSpec)) sszDepthsUptoCard

/-- THE SECOND FORM's CARD OF 'pharoslaw08.SszChecks'. -/
def sszChecksUptoCard : Claim7 := { stood := { row := sszChecksUptoRow, standIns := [], harness := (true, "5a90fa09831c7f72f08f0a74a0aee7dfe4e25f6e4cf2bbefc475e587587c331f"), looks := false }, kinds := [], alts := [], laidByText := true, laidKinds := [.data, .data], laidTests := true, laidLooks := .later }
def SszChecksUptoCardSaid : Prop := Claim7.holds Tryd.pinned (.plain (OpenSpec.upto sszChecksSpec)) sszChecksUptoCard

/-- THE SECOND FORM's CARD OF 'pharoslaw08.SszBack'. -/
def sszBackUptoCard : Claim7 := { stood := { row := sszBackUptoRow, standIns := [], harness := (true, "5a90fa09831c7f72f08f0a74a0aee7dfe4e25f6e4cf2bbefc475e587587c331f"), looks := false }, kinds := [], alts := [], laidByText := true, laidKinds := [.data, .data], laidTests := true, laidLooks := .later }
def SszBackUptoCardSaid : Prop := Claim7.holds Tryd.pinned (.plain (OpenSpec.upto sszBackSpec)) sszBackUptoCard

/-- THE SECOND FORM's CARD OF 'pharoslaw08.SszSound'. -/
def sszSoundUptoCard : Claim7 := { stood := { row := sszSoundUptoRow, standIns := [], harness := (true, "5a90fa09831c7f72f08f0a74a0aee7dfe4e25f6e4cf2bbefc475e587587c331f"), looks := false }, kinds := [], alts := [], laidByText := true, laidKinds := [.data, .data], laidTests := true, laidLooks := .later }
def SszSoundUptoCardSaid : Prop := Claim7.holds Tryd.pinned (.plain (OpenSpec.upto sszSoundSpec)) sszSoundUptoCard
end Rows
end Go.Proofs.YtmemfdpfbeijeaaDoor
