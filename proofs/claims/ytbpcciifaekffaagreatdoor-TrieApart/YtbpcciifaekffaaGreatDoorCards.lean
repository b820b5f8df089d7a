/-
  DERIVED. GIVEN WITH THE SEED: THE CARDS: each row of YtbpcciifaekffaaGreatDoorRows.lean that lists a variable, with what it lists TIED to the program's text (the seventh form; the later family's looks); each row that meets fmt, with fmt's text TOLD by the authors' own Lean function (tested against real Go, not proved from fmt's source: count such statements apart). THE CARD IS WHAT COUNTS. Prove the row's statement (the work); the ties are given (YtbpcciifaekffaaGreatDoorTie.lean); close each card by the builder's one call (the guide's Derived/Test/ToyasCard.lean, 'card_holds'). Laid BY PROGRAM, IN A SANDBOX (cutbox-door.mjs). By AI agents, Wed Nov 11 2026. No macro, syntax, notation, axiom, sorry.
-/
import Derived.Test.YtbpcciifaekffaaGreatDoorRows
import GoSem.ClaimSeven
namespace Go.Proofs.YtbpcciifaekffaaGreatDoor
namespace Rows

/-- THE TIED CARD OF 'pharoslaw06.TrieRoots'. -/
def trieRootsCard : Claim7 := { stood := { row := trieRootsRow, standIns := [], harness := (true, "f413ebde4c5b969fb728682a614e44b924f2a7100e0e394c7ff213059a1037e1"), looks := false }, kinds := [], alts := [], laidByText := true, laidKinds := [.data, .data, .data], laidTests := true, laidLooks := .later }
def TrieRootsCardSaid : Prop := Claim7.holds Tryz.pinned (.plain (OpenSpec.ofChange trieRootsSpec)) trieRootsCard

/-- THE TIED CARD OF 'pharoslaw06.TrieRight'. -/
def trieRightCard : Claim7 := { stood := { row := trieRightRow, standIns := [], harness := (true, "f413ebde4c5b969fb728682a614e44b924f2a7100e0e394c7ff213059a1037e1"), looks := false }, kinds := [], alts := [], laidByText := true, laidKinds := [.data, .data, .data], laidTests := true, laidLooks := .later }
def TrieRightCardSaid : Prop := Claim7.holds Tryz.pinned (.plain (OpenSpec.ofChange trieRightSpec)) trieRightCard

/-- THE TIED CARD OF 'pharoslaw06.TrieWays'. -/
def trieWaysCard : Claim7 := { stood := { row := trieWaysRow, standIns := [], harness := (true, "f413ebde4c5b969fb728682a614e44b924f2a7100e0e394c7ff213059a1037e1"), looks := false }, kinds := [], alts := [], laidByText := true, laidKinds := [.data, .data, .data], laidTests := true, laidLooks := .later }
def TrieWaysCardSaid : Prop := Claim7.holds Tryz.pinned (.plain (OpenSpec.ofChange trieWaysSpec)) trieWaysCard

/-- THE TIED CARD OF 'pharoslaw06.TrieOrder'. -/
def trieOrderCard : Claim7 := { stood := { row := trieOrderRow, standIns := [], harness := (true, "f413ebde4c5b969fb728682a614e44b924f2a7100e0e394c7ff213059a1037e1"), looks := false }, kinds := [], alts := [], laidByText := true, laidKinds := [.data, .data, .data], laidTests := true, laidLooks := .later }
def TrieOrderCardSaid : Prop := Claim7.holds Tryz.pinned (.plain (OpenSpec.ofChange trieOrderSpec)) trieOrderCard

/-- THE TIED CARD OF 'pharoslaw06.TrieApart'. -/
def trieApartCard : Claim7 := { stood := { row := trieApartRow, standIns := [], harness := (true, "f413ebde4c5b969fb728682a614e44b924f2a7100e0e394c7ff213059a1037e1"), looks := false }, kinds := [], alts := [], laidByText := true, laidKinds := [.data, .data, .data], laidTests := true, laidLooks := .later }
def TrieApartCardSaid : Prop := Claim7.holds Tryz.pinned (.plain (OpenSpec.ofChange trieApartSpec)) trieApartCard

/-- THE TIED CARD OF 'pharoslaw06.TrieRefers'. -/
def trieRefersCard : Claim7 := { stood := { row := trieRefersRow, standIns := [], harness := (true, "f413ebde4c5b969fb728682a614e44b924f2a7100e0e394c7ff213059a1037e1"), looks := false }, kinds := [], alts := [], laidByText := true, laidKinds := [.data, .data, .data], laidTests := true, laidLooks := .later }
def TrieRefersCardSaid : Prop := Claim7.holds Tryz.pinned (.plain (OpenSpec.ofChange trieRefersSpec)) trieRefersCard

/-- THE SECOND FORM's CARD OF 'pharoslaw06.TrieRoots'. -/
def trieRootsUptoCard : Claim7 := { stood := { row := trieRootsUptoRow, standIns := [], harness := (true, "f413ebde4c5b969fb728682a614e44b924f2a7100e0e394c7ff213059a1037e1"), looks := false }, kinds := [], alts := [], laidByText := true, laidKinds := [.data, .data, .data], laidTests := true, laidLooks := .later }
def TrieRootsUptoCardSaid : Prop := Claim7.holds Tryz.pinned (.plain (OpenSpec.upto trieRootsSpec)) trieRootsUptoCard

/-- THE SECOND FORM's CARD OF 'pharoslaw06.TrieRight'. -/
def trieRightUptoCard : Claim7 := { stood := { row := trieRightUptoRow, standIns := [], harness := (true, "f413ebde4c5b969fb728682a614e44b924f2a7100e0e394c7ff213059a1037e1"), looks := false }, kinds := [], alts := [], laidByText := true, laidKinds := [.data, .data, .data], laidTests := true, laidLooks := .later }
def TrieRightUptoCardSaid : Prop := Claim7.holds Tryz.pinned (.plain (OpenSpec.upto trieRightSpec)) trieRightUptoCard

/-- THE SECOND FORM's CARD OF 'pharoslaw06.TrieWays'. -/
def trieWaysUptoCard : Claim7 := { stood := { row := trieWaysUptoRow, standIns := [], harness := (true, "f413ebde4c5b969fb728682a614e44b924f2a7100e0e394c7ff213059a1037e1"), looks := false }, kinds := [], alts := [], laidByText := true, laidKinds := [.data, .data, .data], laidTests := true, laidLooks := .later }
def TrieWaysUptoCardSaid : Prop := Claim7.holds Tryz.pinned (.plain (OpenSpec.upto trieWaysSpec)) trieWaysUptoCard

/-- THE SECOND FORM's CARD OF 'pharoslaw06.TrieOrder'. -/
def trieOrderUptoCard : Claim7 := { stood := { row := trieOrderUptoRow, standIns := [], harness := (true, "f413ebde4c5b969fb728682a614e44b924f2a7100e0e394c7ff213059a1037e1"), looks := false }, kinds := [], alts := [], laidByText := true, laidKinds := [.data, .data, .data], laidTests := true, laidLooks := .later }
def TrieOrderUptoCardSaid : Prop := Claim7.holds Tryz.pinned (.plain (OpenSpec.upto trieOrderSpec)) trieOrderUptoCard

/-- THE SECOND FORM's CARD OF 'pharoslaw06.TrieApart'. -/
def trieApartUptoCard : Claim7 := { stood := { row := trieApartUptoRow, standIns := [], harness := (true, "f413ebde4c5b969fb728682a614e44b924f2a7100e0e394c7ff213059a1037e1"), looks := false }, kinds := [], alts := [], laidByText := true, laidKinds := [.data, .data, .data], laidTests := true, laidLooks := .later }
def TrieApartUptoCardSaid : Prop := Claim7.holds Tryz.pinned (.plain (OpenSpec.upto trieApartSpec)) trieApartUptoCard

/-- THE SECOND FORM's CARD OF 'pharoslaw06.TrieRefers'. -/
def trieRefersUptoCard : Claim7 := { stood := { row := trieRefersUptoRow, standIns := [], harness := (true, "f413ebde4c5b969fb728682a614e44b924f2a7100e0e394c7ff213059a1037e1"), looks := false }, kinds := [], alts := [], laidByText := true, laidKinds := [.data, .data, .data], laidTests := true, laidLooks := .later }
def TrieRefersUptoCardSaid : Prop := Claim7.holds Tryz.pinned (.plain (OpenSpec.upto trieRefersSpec)) trieRefersUptoCard
end Rows
end Go.Proofs.YtbpcciifaekffaaGreatDoor
