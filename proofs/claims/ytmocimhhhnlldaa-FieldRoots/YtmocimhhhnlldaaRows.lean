/-
  No cell of these rows narrows 'for every input' (looked for: loops, veiled, ifaces, maps, wideKeys, modest, calm, conditions, laid).
  DERIVED. THE GIVEN ROWS OF THIS SEAT. 6 by the template 'for every input the law returns true; each argument reads behind the call as it read before'; 0 by the template 'total and deterministic' (their statements: YtmocimhhhnlldaaTotals.lean).
  GIVEN WITH THE SEED: the statements are not yours to turn. If you find one false, say at which input.
  Laid BY PROGRAM, IN A SANDBOX (cutbox-rows.mjs): the forced cells as the released guide's own fill.sh prints them over the translation 3f5c296d395dfdeb… (all of the seat's roots in one cut). By AI agents, Wed Nov 11 2026. No macro, syntax, notation, axiom, sorry.
-/
import Derived.Test.YtmocimhhhnlldaaChecked
import GoSem.Claim
import GoSem.ClaimJoined
import GoSem.ClaimMapViews
import Derived.JoinedTies
import Derived.KernelRfl
namespace Go.Proofs.Ytmocimhhhnlldaa
/- THE CELL 'sum', in the pinned program and in every row, IS THE sha256 OF THE DUMP (.gsa) THAT YtmocimhhhnlldaaProg.lean LOADS. Nothing in Lean hashes anything: it is a label: what it is worth is what the hold of that sum in a sandbox is worth. -/
noncomputable def Try.pinned : Pinned := { name := "ytmocimhhhnlldaa", sum := "3f5c296d395dfdeb166596f25052ded117aff63a07367836f2457cd80872e686", checked := Try.checked }
namespace Rows
def none {H : Type} : Left H := { results := [], args := [] }

/-- 'pharoslaw09.FieldReckons': WHATEVER THE INPUT: true; the input reads as it did. -/
def fieldReckonsSpec : ChangeSpec := { name := "fieldReckons", fn := fun _ => fun
  | [d1, d2] => { results := [.lit (.bool true)], args := [d1, d2] }
  | _ => none }
def fieldReckonsRow : OpenClaim := { program := "ytmocimhhhnlldaa", sum := "3f5c296d395dfdeb166596f25052ded117aff63a07367836f2457cd80872e686", func := "pharos/pharoslaw09.FieldReckons", spec := "fieldReckons", unfollowed := true, recurses := true, apart := false }
def FieldReckonsSaid : Prop := fieldReckonsRow.holds Try.pinned (OpenSpec.ofChange fieldReckonsSpec)

/-- ITS FALSE NEIGHBOUR: 'it returns false'. Refute it at one input. -/
def fieldReckonsWrong : ChangeSpec := { name := "fieldReckons", fn := fun _ => fun
  | [d1, d2] => { results := [.lit (.bool false)], args := [d1, d2] }
  | _ => none }
def FieldReckonsWrongFalsely : Prop := fieldReckonsRow.holds Try.pinned (OpenSpec.ofChange fieldReckonsWrong)

/-- 'pharoslaw09.FieldExtends': WHATEVER THE INPUT: true; the input reads as it did. -/
def fieldExtendsSpec : ChangeSpec := { name := "fieldExtends", fn := fun _ => fun
  | [d1, d2, d3] => { results := [.lit (.bool true)], args := [d1, d2, d3] }
  | _ => none }
def fieldExtendsRow : OpenClaim := { program := "ytmocimhhhnlldaa", sum := "3f5c296d395dfdeb166596f25052ded117aff63a07367836f2457cd80872e686", func := "pharos/pharoslaw09.FieldExtends", spec := "fieldExtends", unfollowed := true, recurses := true, apart := false }
def FieldExtendsSaid : Prop := fieldExtendsRow.holds Try.pinned (OpenSpec.ofChange fieldExtendsSpec)

/-- ITS FALSE NEIGHBOUR: 'it returns false'. Refute it at one input. -/
def fieldExtendsWrong : ChangeSpec := { name := "fieldExtends", fn := fun _ => fun
  | [d1, d2, d3] => { results := [.lit (.bool false)], args := [d1, d2, d3] }
  | _ => none }
def FieldExtendsWrongFalsely : Prop := fieldExtendsRow.holds Try.pinned (OpenSpec.ofChange fieldExtendsWrong)

/-- 'pharoslaw09.FieldLaws': WHATEVER THE INPUT: true; the input reads as it did. -/
def fieldLawsSpec : ChangeSpec := { name := "fieldLaws", fn := fun _ => fun
  | [d1, d2, d3] => { results := [.lit (.bool true)], args := [d1, d2, d3] }
  | _ => none }
def fieldLawsRow : OpenClaim := { program := "ytmocimhhhnlldaa", sum := "3f5c296d395dfdeb166596f25052ded117aff63a07367836f2457cd80872e686", func := "pharos/pharoslaw09.FieldLaws", spec := "fieldLaws", unfollowed := true, recurses := true, apart := false }
def FieldLawsSaid : Prop := fieldLawsRow.holds Try.pinned (OpenSpec.ofChange fieldLawsSpec)

/-- ITS FALSE NEIGHBOUR: 'it returns false'. Refute it at one input. -/
def fieldLawsWrong : ChangeSpec := { name := "fieldLaws", fn := fun _ => fun
  | [d1, d2, d3] => { results := [.lit (.bool false)], args := [d1, d2, d3] }
  | _ => none }
def FieldLawsWrongFalsely : Prop := fieldLawsRow.holds Try.pinned (OpenSpec.ofChange fieldLawsWrong)

/-- 'pharoslaw09.FieldRoots': WHATEVER THE INPUT: true; the input reads as it did. -/
def fieldRootsSpec : ChangeSpec := { name := "fieldRoots", fn := fun _ => fun
  | [d] => { results := [.lit (.bool true)], args := [d] }
  | _ => none }
def fieldRootsRow : OpenClaim := { program := "ytmocimhhhnlldaa", sum := "3f5c296d395dfdeb166596f25052ded117aff63a07367836f2457cd80872e686", func := "pharos/pharoslaw09.FieldRoots", spec := "fieldRoots", unfollowed := true, recurses := true, apart := false }
def FieldRootsSaid : Prop := fieldRootsRow.holds Try.pinned (OpenSpec.ofChange fieldRootsSpec)

/-- ITS FALSE NEIGHBOUR: 'it returns false'. Refute it at one input. -/
def fieldRootsWrong : ChangeSpec := { name := "fieldRoots", fn := fun _ => fun
  | [d] => { results := [.lit (.bool false)], args := [d] }
  | _ => none }
def FieldRootsWrongFalsely : Prop := fieldRootsRow.holds Try.pinned (OpenSpec.ofChange fieldRootsWrong)

/-- 'pharoslaw09.FieldRanges': WHATEVER THE INPUT: true; the input reads as it did. -/
def fieldRangesSpec : ChangeSpec := { name := "fieldRanges", fn := fun _ => fun
  | [d1, d2, d3, d4] => { results := [.lit (.bool true)], args := [d1, d2, d3, d4] }
  | _ => none }
def fieldRangesRow : OpenClaim := { program := "ytmocimhhhnlldaa", sum := "3f5c296d395dfdeb166596f25052ded117aff63a07367836f2457cd80872e686", func := "pharos/pharoslaw09.FieldRanges", spec := "fieldRanges", unfollowed := true, recurses := true, apart := false }
def FieldRangesSaid : Prop := fieldRangesRow.holds Try.pinned (OpenSpec.ofChange fieldRangesSpec)

/-- ITS FALSE NEIGHBOUR: 'it returns false'. Refute it at one input. -/
def fieldRangesWrong : ChangeSpec := { name := "fieldRanges", fn := fun _ => fun
  | [d1, d2, d3, d4] => { results := [.lit (.bool false)], args := [d1, d2, d3, d4] }
  | _ => none }
def FieldRangesWrongFalsely : Prop := fieldRangesRow.holds Try.pinned (OpenSpec.ofChange fieldRangesWrong)

/-- 'pharoslaw09.FieldFew': WHATEVER THE INPUT: true; the input reads as it did. -/
def fieldFewSpec : ChangeSpec := { name := "fieldFew", fn := fun _ => fun
  | [d1, d2] => { results := [.lit (.bool true)], args := [d1, d2] }
  | _ => none }
def fieldFewRow : OpenClaim := { program := "ytmocimhhhnlldaa", sum := "3f5c296d395dfdeb166596f25052ded117aff63a07367836f2457cd80872e686", func := "pharos/pharoslaw09.FieldFew", spec := "fieldFew", unfollowed := true, recurses := true, apart := false }
def FieldFewSaid : Prop := fieldFewRow.holds Try.pinned (OpenSpec.ofChange fieldFewSpec)

/-- ITS FALSE NEIGHBOUR: 'it returns false'. Refute it at one input. -/
def fieldFewWrong : ChangeSpec := { name := "fieldFew", fn := fun _ => fun
  | [d1, d2] => { results := [.lit (.bool false)], args := [d1, d2] }
  | _ => none }
def FieldFewWrongFalsely : Prop := fieldFewRow.holds Try.pinned (OpenSpec.ofChange fieldFewWrong)

/- THE SECOND FORM. 'bulk': how many values and letters a reading holds, each counted each time it is reached (what is shared counts as often as it is met; a slice's spare places count too). A statement '..UptoSaid' is the law's where the arguments, and the package variables that the reading takes, are together of bulk at most 1048576: NARROWER than '..Said'. Prove '..Said' where nothing that the law and all that it calls make is longer than what came in: it says more and counts as full. Else prove '..UptoSaid'. A law counts once. -/
mutual
def uptoBulk {H : Type} : DataW H → Nat
  | .lit (.string bytes) => bytes.length + 1
  | .lit _ => 1
  | .nil => 1
  | .ptr d => uptoBulk d + 1
  | .slice elems spare => uptoBulkAll elems + uptoBulkAll spare + 1
  | .agg parts => uptoBulkAll parts + 1
  | .iface _ d => uptoBulk d + 1
  | .map entries => uptoBulkEntries entries + 1
  | .held _ => 1
def uptoBulkAll {H : Type} : List (DataW H) → Nat
  | [] => 0
  | d :: r => uptoBulk d + uptoBulkAll r
def uptoBulkEntries {H : Type} : List (Lit × DataW H) → Nat
  | [] => 0
  | x :: r => uptoBulkEntry x + uptoBulkEntries r
def uptoBulkEntry {H : Type} : Lit × DataW H → Nat
  | (.string bytes, d) => bytes.length + uptoBulk d + 1
  | (_, d) => uptoBulk d + 1
 end
def uptoSmall : (H : Type) → List (DataW H) → Bool := fun _ ds => decide (uptoBulkAll ds ≤ 1048576)
def OpenSpec.upto (s : _root_.Go.ChangeSpec) : _root_.Go.OpenSpec := { _root_.Go.OpenSpec.ofChange s with cond := some uptoSmall }

/-- 'pharoslaw09.FieldReckons', WHERE WHAT IT READS IS OF BULK AT MOST 1048576: true; the input reads as it did. -/
def fieldReckonsUptoRow : OpenClaim := { program := "ytmocimhhhnlldaa", sum := "3f5c296d395dfdeb166596f25052ded117aff63a07367836f2457cd80872e686", func := "pharos/pharoslaw09.FieldReckons", spec := "fieldReckons", unfollowed := true, recurses := true, apart := false, narrowed := true }
def FieldReckonsUptoSaid : Prop := fieldReckonsUptoRow.holds Try.pinned (OpenSpec.upto fieldReckonsSpec)

/-- 'pharoslaw09.FieldExtends', WHERE WHAT IT READS IS OF BULK AT MOST 1048576: true; the input reads as it did. -/
def fieldExtendsUptoRow : OpenClaim := { program := "ytmocimhhhnlldaa", sum := "3f5c296d395dfdeb166596f25052ded117aff63a07367836f2457cd80872e686", func := "pharos/pharoslaw09.FieldExtends", spec := "fieldExtends", unfollowed := true, recurses := true, apart := false, narrowed := true }
def FieldExtendsUptoSaid : Prop := fieldExtendsUptoRow.holds Try.pinned (OpenSpec.upto fieldExtendsSpec)

/-- 'pharoslaw09.FieldLaws', WHERE WHAT IT READS IS OF BULK AT MOST 1048576: true; the input reads as it did. -/
def fieldLawsUptoRow : OpenClaim := { program := "ytmocimhhhnlldaa", sum := "3f5c296d395dfdeb166596f25052ded117aff63a07367836f2457cd80872e686", func := "pharos/pharoslaw09.FieldLaws", spec := "fieldLaws", unfollowed := true, recurses := true, apart := false, narrowed := true }
def FieldLawsUptoSaid : Prop := fieldLawsUptoRow.holds Try.pinned (OpenSpec.upto fieldLawsSpec)

/-- 'pharoslaw09.FieldRoots', WHERE WHAT IT READS IS OF BULK AT MOST 1048576: true; the input reads as it did. -/
def fieldRootsUptoRow : OpenClaim := { program := "ytmocimhhhnlldaa", sum := "3f5c296d395dfdeb166596f25052ded117aff63a07367836f2457cd80872e686", func := "pharos/pharoslaw09.FieldRoots", spec := "fieldRoots", unfollowed := true, recurses := true, apart := false, narrowed := true }
def FieldRootsUptoSaid : Prop := fieldRootsUptoRow.holds Try.pinned (OpenSpec.upto fieldRootsSpec)

/-- 'pharoslaw09.FieldRanges', WHERE WHAT IT READS IS OF BULK AT MOST 1048576: true; the input reads as it did. -/
def fieldRangesUptoRow : OpenClaim := { program := "ytmocimhhhnlldaa", sum := "3f5c296d395dfdeb166596f25052ded117aff63a07367836f2457cd80872e686", func := "pharos/pharoslaw09.FieldRanges", spec := "fieldRanges", unfollowed := true, recurses := true, apart := false, narrowed := true }
def FieldRangesUptoSaid : Prop := fieldRangesUptoRow.holds Try.pinned (OpenSpec.upto fieldRangesSpec)

/-- 'pharoslaw09.FieldFew', WHERE WHAT IT READS IS OF BULK AT MOST 1048576: true; the input reads as it did. -/
def fieldFewUptoRow : OpenClaim := { program := "ytmocimhhhnlldaa", sum := "3f5c296d395dfdeb166596f25052ded117aff63a07367836f2457cd80872e686", func := "pharos/pharoslaw09.FieldFew", spec := "fieldFew", unfollowed := true, recurses := true, apart := false, narrowed := true }
def FieldFewUptoSaid : Prop := fieldFewUptoRow.holds Try.pinned (OpenSpec.upto fieldFewSpec)

end Rows
end Go.Proofs.Ytmocimhhhnlldaa
