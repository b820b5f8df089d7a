/-
  DERIVED. GIVEN WITH THE SEED: THE CARDS: each row of YtoddangedbefgabGreatDoorRows.lean that lists a variable, with what it lists TIED to the program's text (the seventh form; the later family's looks); each row that meets fmt, with fmt's text TOLD by the authors' own Lean function (tested against real Go, not proved from fmt's source: count such statements apart). THE CARD IS WHAT COUNTS. Prove the row's statement (the work); the ties are given (YtoddangedbefgabGreatDoorTie.lean); close each card by the builder's one call (the guide's Derived/Test/ToyasCard.lean, 'card_holds'). Laid BY PROGRAM, IN A SANDBOX (cutbox-door.mjs). By AI agents, Wed Nov 11 2026. No macro, syntax, notation, axiom, sorry.
-/
import Derived.Test.YtoddangedbefgabGreatDoorRows
import GoSem.ClaimSeven
namespace Go.Proofs.YtoddangedbefgabGreatDoor
namespace Rows

/-- THE TIED CARD OF 'pharoslaw14.LightOrder'. -/
def lightOrderCard : Claim7 := { stood := { row := lightOrderRow, standIns := [], harness := (true, "b9feb1ab484e96c1fa8d1728259f591299c95d636d853433d3200a9a26302960"), looks := false }, kinds := [], alts := [], laidByText := true, laidKinds := [.data, .data, .data, .data, .data, .data, .data], laidTests := true, laidLooks := .later }
def LightOrderCardSaid : Prop := Claim7.holds Tryz.pinned (.plain (OpenSpec.ofChange lightOrderSpec)) lightOrderCard

/-- THE TIED CARD OF 'pharoslaw14.LightSees'. -/
def lightSeesCard : Claim7 := { stood := { row := lightSeesRow, standIns := [], harness := (true, "b9feb1ab484e96c1fa8d1728259f591299c95d636d853433d3200a9a26302960"), looks := false }, kinds := [], alts := [], laidByText := true, laidKinds := [.data, .data, .data, .data, .data, .data, .data], laidTests := true, laidLooks := .later }
def LightSeesCardSaid : Prop := Claim7.holds Tryz.pinned (.plain (OpenSpec.ofChange lightSeesSpec)) lightSeesCard

/-- THE TIED CARD OF 'pharoslaw14.LightSigned'. -/
def lightSignedCard : Claim7 := { stood := { row := lightSignedRow, standIns := [], harness := (true, "b9feb1ab484e96c1fa8d1728259f591299c95d636d853433d3200a9a26302960"), looks := false }, kinds := [], alts := [], laidByText := true, laidKinds := [.data, .data, .data, .data, .data, .data, .data], laidTests := true, laidLooks := .later }
def LightSignedCardSaid : Prop := Claim7.holds Tryz.pinned (.plain (OpenSpec.ofChange lightSignedSpec)) lightSignedCard

/-- THE TIED CARD OF 'pharoslaw14.LightOnce'. -/
def lightOnceCard : Claim7 := { stood := { row := lightOnceRow, standIns := [], harness := (true, "b9feb1ab484e96c1fa8d1728259f591299c95d636d853433d3200a9a26302960"), looks := false }, kinds := [], alts := [], laidByText := true, laidKinds := [.data, .data, .data, .data, .data, .data, .data], laidTests := true, laidLooks := .later }
def LightOnceCardSaid : Prop := Claim7.holds Tryz.pinned (.plain (OpenSpec.ofChange lightOnceSpec)) lightOnceCard

/-- THE TIED CARD OF 'pharoslaw14.LightAgrees'. -/
def lightAgreesCard : Claim7 := { stood := { row := lightAgreesRow, standIns := [], harness := (true, "b9feb1ab484e96c1fa8d1728259f591299c95d636d853433d3200a9a26302960"), looks := false }, kinds := [], alts := [], laidByText := true, laidKinds := [.data, .data, .data, .data, .data, .data, .data], laidTests := true, laidLooks := .later }
def LightAgreesCardSaid : Prop := Claim7.holds Tryz.pinned (.plain (OpenSpec.ofChange lightAgreesSpec)) lightAgreesCard

/-- THE SECOND FORM's CARD OF 'pharoslaw14.LightOrder'. -/
def lightOrderUptoCard : Claim7 := { stood := { row := lightOrderUptoRow, standIns := [], harness := (true, "b9feb1ab484e96c1fa8d1728259f591299c95d636d853433d3200a9a26302960"), looks := false }, kinds := [], alts := [], laidByText := true, laidKinds := [.data, .data, .data, .data, .data, .data, .data], laidTests := true, laidLooks := .later }
def LightOrderUptoCardSaid : Prop := Claim7.holds Tryz.pinned (.plain (OpenSpec.upto lightOrderSpec)) lightOrderUptoCard

/-- THE SECOND FORM's CARD OF 'pharoslaw14.LightSees'. -/
def lightSeesUptoCard : Claim7 := { stood := { row := lightSeesUptoRow, standIns := [], harness := (true, "b9feb1ab484e96c1fa8d1728259f591299c95d636d853433d3200a9a26302960"), looks := false }, kinds := [], alts := [], laidByText := true, laidKinds := [.data, .data, .data, .data, .data, .data, .data], laidTests := true, laidLooks := .later }
def LightSeesUptoCardSaid : Prop := Claim7.holds Tryz.pinned (.plain (OpenSpec.upto lightSeesSpec)) lightSeesUptoCard

/-- THE SECOND FORM's CARD OF 'pharoslaw14.LightSigned'. -/
def lightSignedUptoCard : Claim7 := { stood := { row := lightSignedUptoRow, standIns := [], harness := (true, "b9feb1ab484e96c1fa8d1728259f591299c95d636d853433d3200a9a26302960"), looks := false }, kinds := [], alts := [], laidByText := true, laidKinds := [.data, .data, .data, .data, .data, .data, .data], laidTests := true, laidLooks := .later }
def LightSignedUptoCardSaid : Prop := Claim7.holds Tryz.pinned (.plain (OpenSpec.upto lightSignedSpec)) lightSignedUptoCard

/-- THE SECOND FORM's CARD OF 'pharoslaw14.LightOnce'. -/
def lightOnceUptoCard : Claim7 := { stood := { row := lightOnceUptoRow, standIns := [], harness := (true, "b9feb1ab484e96c1fa8d1728259f591299c95d636d853433d3200a9a26302960"), looks := false }, kinds := [], alts := [], laidByText := true, laidKinds := [.data, .data, .data, .data, .data, .data, .data], laidTests := true, laidLooks := .later }
def LightOnceUptoCardSaid : Prop := Claim7.holds Tryz.pinned (.plain (OpenSpec.upto lightOnceSpec)) lightOnceUptoCard

/-- THE SECOND FORM's CARD OF 'pharoslaw14.LightAgrees'. -/
def lightAgreesUptoCard : Claim7 := { stood := { row := lightAgreesUptoRow, standIns := [], harness := (true, "b9feb1ab484e96c1fa8d1728259f591299c95d636d853433d3200a9a26302960"), looks := false }, kinds := [], alts := [], laidByText := true, laidKinds := [.data, .data, .data, .data, .data, .data, .data], laidTests := true, laidLooks := .later }
def LightAgreesUptoCardSaid : Prop := Claim7.holds Tryz.pinned (.plain (OpenSpec.upto lightAgreesSpec)) lightAgreesUptoCard
end Rows
end Go.Proofs.YtoddangedbefgabGreatDoor
