/-
  DERIVED. GIVEN WITH THE SEED: THE CARDS: each row of YtgefjmpnpebfoaaGreatDoorRows.lean that lists a variable, with what it lists TIED to the program's text (the seventh form; the later family's looks); each row that meets fmt, with fmt's text TOLD by the authors' own Lean function (tested against real Go, not proved from fmt's source: count such statements apart). THE CARD IS WHAT COUNTS. Prove the row's statement (the work); the ties are given (YtgefjmpnpebfoaaGreatDoorTie.lean); close each card by the builder's one call (the guide's Derived/Test/ToyasCard.lean, 'card_holds'). Laid BY PROGRAM, IN A SANDBOX (cutbox-door.mjs). By AI agents, Wed Nov 11 2026. No macro, syntax, notation, axiom, sorry.
-/
import Derived.Test.YtgefjmpnpebfoaaGreatDoorRows
import GoSem.ClaimSeven
namespace Go.Proofs.YtgefjmpnpebfoaaGreatDoor
namespace Rows

/-- THE TIED CARD OF 'pharoslaw12.SignHashes'. -/
def signHashesCard : Claim7 := { stood := { row := signHashesRow, standIns := [], harness := (true, "89474aeeb7ce1e8a73fdc6d79d28025e2075adad3b9eb1664e0421537970c860"), looks := false }, kinds := [], alts := [], laidByText := true, laidKinds := [.data, .data, .data, .data, .data, .data, .data], laidTests := true, laidLooks := .later }
def SignHashesCardSaid : Prop := Claim7.holds Tryz.pinned (.plain (OpenSpec.ofChange signHashesSpec)) signHashesCard

/-- THE TIED CARD OF 'pharoslaw12.SignKeys'. -/
def signKeysCard : Claim7 := { stood := { row := signKeysRow, standIns := [], harness := (true, "89474aeeb7ce1e8a73fdc6d79d28025e2075adad3b9eb1664e0421537970c860"), looks := false }, kinds := [], alts := [], laidByText := true, laidKinds := [.data, .data, .data, .data, .data, .data, .data], laidTests := true, laidLooks := .later }
def SignKeysCardSaid : Prop := Claim7.holds Tryz.pinned (.plain (OpenSpec.ofChange signKeysSpec)) signKeysCard

/-- THE TIED CARD OF 'pharoslaw12.SignSums'. -/
def signSumsCard : Claim7 := { stood := { row := signSumsRow, standIns := [], harness := (true, "89474aeeb7ce1e8a73fdc6d79d28025e2075adad3b9eb1664e0421537970c860"), looks := false }, kinds := [], alts := [], laidByText := true, laidKinds := [.data, .data, .data, .data, .data, .data, .data], laidTests := true, laidLooks := .later }
def SignSumsCardSaid : Prop := Claim7.holds Tryz.pinned (.plain (OpenSpec.ofChange signSumsSpec)) signSumsCard

/-- THE TIED CARD OF 'pharoslaw12.SignHolds'. -/
def signHoldsCard : Claim7 := { stood := { row := signHoldsRow, standIns := [], harness := (true, "89474aeeb7ce1e8a73fdc6d79d28025e2075adad3b9eb1664e0421537970c860"), looks := false }, kinds := [], alts := [], laidByText := true, laidKinds := [.data, .data, .data, .data, .data, .data, .data], laidTests := true, laidLooks := .later }
def SignHoldsCardSaid : Prop := Claim7.holds Tryz.pinned (.plain (OpenSpec.ofChange signHoldsSpec)) signHoldsCard

/-- THE TIED CARD OF 'pharoslaw12.SignAll'. -/
def signAllCard : Claim7 := { stood := { row := signAllRow, standIns := [], harness := (true, "89474aeeb7ce1e8a73fdc6d79d28025e2075adad3b9eb1664e0421537970c860"), looks := false }, kinds := [], alts := [], laidByText := true, laidKinds := [.data, .data, .data, .data, .data, .data, .data], laidTests := true, laidLooks := .later }
def SignAllCardSaid : Prop := Claim7.holds Tryz.pinned (.plain (OpenSpec.ofChange signAllSpec)) signAllCard

/-- THE SECOND FORM's CARD OF 'pharoslaw12.SignHashes'. -/
def signHashesUptoCard : Claim7 := { stood := { row := signHashesUptoRow, standIns := [], harness := (true, "89474aeeb7ce1e8a73fdc6d79d28025e2075adad3b9eb1664e0421537970c860"), looks := false }, kinds := [], alts := [], laidByText := true, laidKinds := [.data, .data, .data, .data, .data, .data, .data], laidTests := true, laidLooks := .later }
def SignHashesUptoCardSaid : Prop := Claim7.holds Tryz.pinned (.plain (OpenSpec.upto signHashesSpec)) signHashesUptoCard

/-- THE SECOND FORM's CARD OF 'pharoslaw12.SignKeys'. -/
def signKeysUptoCard : Claim7 := { stood := { row := signKeysUptoRow, standIns := [], harness := (true, "89474aeeb7ce1e8a73fdc6d79d28025e2075adad3b9eb1664e0421537970c860"), looks := false }, kinds := [], alts := [], laidByText := true, laidKinds := [.data, .data, .data, .data, .data, .data, .data], laidTests := true, laidLooks := .later }
def SignKeysUptoCardSaid : Prop := Claim7.holds Tryz.pinned (.plain (OpenSpec.upto signKeysSpec)) signKeysUptoCard

/-- THE SECOND FORM's CARD OF 'pharoslaw12.SignSums'. -/
def signSumsUptoCard : Claim7 := { stood := { row := signSumsUptoRow, standIns := [], harness := (true, "89474aeeb7ce1e8a73fdc6d79d28025e2075adad3b9eb1664e0421537970c860"), looks := false }, kinds := [], alts := [], laidByText := true, laidKinds := [.data, .data, .data, .data, .data, .data, .data], laidTests := true, laidLooks := .later }
def SignSumsUptoCardSaid : Prop := Claim7.holds Tryz.pinned (.plain (OpenSpec.upto signSumsSpec)) signSumsUptoCard

/-- THE SECOND FORM's CARD OF 'pharoslaw12.SignHolds'. -/
def signHoldsUptoCard : Claim7 := { stood := { row := signHoldsUptoRow, standIns := [], harness := (true, "89474aeeb7ce1e8a73fdc6d79d28025e2075adad3b9eb1664e0421537970c860"), looks := false }, kinds := [], alts := [], laidByText := true, laidKinds := [.data, .data, .data, .data, .data, .data, .data], laidTests := true, laidLooks := .later }
def SignHoldsUptoCardSaid : Prop := Claim7.holds Tryz.pinned (.plain (OpenSpec.upto signHoldsSpec)) signHoldsUptoCard

/-- THE SECOND FORM's CARD OF 'pharoslaw12.SignAll'. -/
def signAllUptoCard : Claim7 := { stood := { row := signAllUptoRow, standIns := [], harness := (true, "89474aeeb7ce1e8a73fdc6d79d28025e2075adad3b9eb1664e0421537970c860"), looks := false }, kinds := [], alts := [], laidByText := true, laidKinds := [.data, .data, .data, .data, .data, .data, .data], laidTests := true, laidLooks := .later }
def SignAllUptoCardSaid : Prop := Claim7.holds Tryz.pinned (.plain (OpenSpec.upto signAllSpec)) signAllUptoCard
end Rows
end Go.Proofs.YtgefjmpnpebfoaaGreatDoor
