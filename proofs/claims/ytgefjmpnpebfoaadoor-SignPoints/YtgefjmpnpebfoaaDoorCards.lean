/-
  DERIVED. GIVEN WITH THE SEED: THE CARDS: each row of YtgefjmpnpebfoaaDoorRows.lean that lists a variable, with what it lists TIED to the program's text (the seventh form; the later family's looks); each row that meets fmt, with fmt's text TOLD by the authors' own Lean function (tested against real Go, not proved from fmt's source: count such statements apart). THE CARD IS WHAT COUNTS. Prove the row's statement (the work); the ties are given (YtgefjmpnpebfoaaDoorTie.lean); close each card by the builder's one call (the guide's Derived/Test/ToyasCard.lean, 'card_holds'). Laid BY PROGRAM, IN A SANDBOX (cutbox-door.mjs). By AI agents, Wed Nov 11 2026. No macro, syntax, notation, axiom, sorry.
-/
import Derived.Test.YtgefjmpnpebfoaaDoorRows
import GoSem.ClaimSeven
namespace Go.Proofs.YtgefjmpnpebfoaaDoor
namespace Rows

/-- THE TIED CARD OF 'pharoslaw12.SignPoints'. -/
def signPointsCard : Claim7 := { stood := { row := signPointsRow, standIns := [], harness := (true, "98ebed770f0ea4272abe6f9fde082dac50ed12e46d16ff960f646636550411b2"), looks := false }, kinds := [], alts := [], laidByText := true, laidKinds := [.data, .data, .data, .data, .data, .data, .data], laidTests := true, laidLooks := .later }
def SignPointsCardSaid : Prop := Claim7.holds Tryd.pinned (.plain (OpenSpec.ofChange signPointsSpec)) signPointsCard

/-- THE SECOND FORM's CARD OF 'pharoslaw12.SignPoints'. -/
def signPointsUptoCard : Claim7 := { stood := { row := signPointsUptoRow, standIns := [], harness := (true, "98ebed770f0ea4272abe6f9fde082dac50ed12e46d16ff960f646636550411b2"), looks := false }, kinds := [], alts := [], laidByText := true, laidKinds := [.data, .data, .data, .data, .data, .data, .data], laidTests := true, laidLooks := .later }
def SignPointsUptoCardSaid : Prop := Claim7.holds Tryd.pinned (.plain (OpenSpec.upto signPointsSpec)) signPointsUptoCard
end Rows
end Go.Proofs.YtgefjmpnpebfoaaDoor
