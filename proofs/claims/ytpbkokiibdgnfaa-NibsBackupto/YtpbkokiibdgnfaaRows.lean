/-
  No cell of these rows narrows 'for every input' (looked for: loops, veiled, ifaces, maps, wideKeys, modest, calm, conditions, laid).
  DERIVED. THE GIVEN ROWS OF THIS SEAT. 4 by the template 'for every input the law returns true; each argument reads behind the call as it read before'; 0 by the template 'total and deterministic' (their statements: YtpbkokiibdgnfaaTotals.lean).
  GIVEN WITH THE SEED: the statements are not yours to turn. If you find one false, say at which input.
  Laid BY PROGRAM, IN A SANDBOX (cutbox-rows.mjs): the forced cells as the released guide's own fill.sh prints them over the translation 12330b92208ac623… (all of the seat's roots in one cut). By AI agents, Wed Nov 11 2026. No macro, syntax, notation, axiom, sorry.
-/
import Derived.Test.YtpbkokiibdgnfaaChecked
import GoSem.Claim
import GoSem.ClaimJoined
import GoSem.ClaimMapViews
import Derived.JoinedTies
import Derived.KernelRfl
namespace Go.Proofs.Ytpbkokiibdgnfaa
/- THE CELL 'sum', in the pinned program and in every row, IS THE sha256 OF THE DUMP (.gsa) THAT YtpbkokiibdgnfaaProg.lean LOADS. Nothing in Lean hashes anything: it is a label: what it is worth is what the hold of that sum in a sandbox is worth. -/
noncomputable def Try.pinned : Pinned := { name := "ytpbkokiibdgnfaa", sum := "12330b92208ac623d3a244328b0107bb7b2786b2f79ff8873049d5ae0d92d572", checked := Try.checked }
namespace Rows
def none {H : Type} : Left H := { results := [], args := [] }

/-- 'pharoslaw05.NibsForms': WHATEVER THE INPUT: true; the input reads as it did. -/
def nibsFormsSpec : ChangeSpec := { name := "nibsForms", fn := fun _ => fun
  | [d1, d2, d3] => { results := [.lit (.bool true)], args := [d1, d2, d3] }
  | _ => none }
def nibsFormsRow : OpenClaim := { program := "ytpbkokiibdgnfaa", sum := "12330b92208ac623d3a244328b0107bb7b2786b2f79ff8873049d5ae0d92d572", func := "pharos/pharoslaw05.NibsForms", spec := "nibsForms", inPlace := ["internal/abi.NoEscape", "internal/bytealg.MakeNoZero"], unfollowed := true, recurses := true, apart := false }
def NibsFormsSaid : Prop := nibsFormsRow.holds Try.pinned (OpenSpec.ofChange nibsFormsSpec)

/-- ITS FALSE NEIGHBOUR: 'it returns false'. Refute it at one input. -/
def nibsFormsWrong : ChangeSpec := { name := "nibsForms", fn := fun _ => fun
  | [d1, d2, d3] => { results := [.lit (.bool false)], args := [d1, d2, d3] }
  | _ => none }
def NibsFormsWrongFalsely : Prop := nibsFormsRow.holds Try.pinned (OpenSpec.ofChange nibsFormsWrong)

/-- 'pharoslaw05.NibsReads': WHATEVER THE INPUT: true; the input reads as it did. -/
def nibsReadsSpec : ChangeSpec := { name := "nibsReads", fn := fun _ => fun
  | [d] => { results := [.lit (.bool true)], args := [d] }
  | _ => none }
def nibsReadsRow : OpenClaim := { program := "ytpbkokiibdgnfaa", sum := "12330b92208ac623d3a244328b0107bb7b2786b2f79ff8873049d5ae0d92d572", func := "pharos/pharoslaw05.NibsReads", spec := "nibsReads", inPlace := ["internal/abi.NoEscape", "internal/bytealg.MakeNoZero"], unfollowed := true, recurses := true, apart := false }
def NibsReadsSaid : Prop := nibsReadsRow.holds Try.pinned (OpenSpec.ofChange nibsReadsSpec)

/-- ITS FALSE NEIGHBOUR: 'it returns false'. Refute it at one input. -/
def nibsReadsWrong : ChangeSpec := { name := "nibsReads", fn := fun _ => fun
  | [d] => { results := [.lit (.bool false)], args := [d] }
  | _ => none }
def NibsReadsWrongFalsely : Prop := nibsReadsRow.holds Try.pinned (OpenSpec.ofChange nibsReadsWrong)

/-- 'pharoslaw05.NibsBack': WHATEVER THE INPUT: true; the input reads as it did. -/
def nibsBackSpec : ChangeSpec := { name := "nibsBack", fn := fun _ => fun
  | [d1, d2, d3] => { results := [.lit (.bool true)], args := [d1, d2, d3] }
  | _ => none }
def nibsBackRow : OpenClaim := { program := "ytpbkokiibdgnfaa", sum := "12330b92208ac623d3a244328b0107bb7b2786b2f79ff8873049d5ae0d92d572", func := "pharos/pharoslaw05.NibsBack", spec := "nibsBack", inPlace := ["internal/abi.NoEscape", "internal/bytealg.MakeNoZero"], unfollowed := true, recurses := true, apart := false }
def NibsBackSaid : Prop := nibsBackRow.holds Try.pinned (OpenSpec.ofChange nibsBackSpec)

/-- ITS FALSE NEIGHBOUR: 'it returns false'. Refute it at one input. -/
def nibsBackWrong : ChangeSpec := { name := "nibsBack", fn := fun _ => fun
  | [d1, d2, d3] => { results := [.lit (.bool false)], args := [d1, d2, d3] }
  | _ => none }
def NibsBackWrongFalsely : Prop := nibsBackRow.holds Try.pinned (OpenSpec.ofChange nibsBackWrong)

/-- 'pharoslaw05.NibsJoins': WHATEVER THE INPUT: true; the input reads as it did. -/
def nibsJoinsSpec : ChangeSpec := { name := "nibsJoins", fn := fun _ => fun
  | [d1, d2] => { results := [.lit (.bool true)], args := [d1, d2] }
  | _ => none }
def nibsJoinsRow : OpenClaim := { program := "ytpbkokiibdgnfaa", sum := "12330b92208ac623d3a244328b0107bb7b2786b2f79ff8873049d5ae0d92d572", func := "pharos/pharoslaw05.NibsJoins", spec := "nibsJoins", inPlace := ["internal/abi.NoEscape", "internal/bytealg.MakeNoZero"], unfollowed := true, recurses := true, apart := false }
def NibsJoinsSaid : Prop := nibsJoinsRow.holds Try.pinned (OpenSpec.ofChange nibsJoinsSpec)

/-- ITS FALSE NEIGHBOUR: 'it returns false'. Refute it at one input. -/
def nibsJoinsWrong : ChangeSpec := { name := "nibsJoins", fn := fun _ => fun
  | [d1, d2] => { results := [.lit (.bool false)], args := [d1, d2] }
  | _ => none }
def NibsJoinsWrongFalsely : Prop := nibsJoinsRow.holds Try.pinned (OpenSpec.ofChange nibsJoinsWrong)

/- THE SECOND FORM. 'bulk': how many values and letters a reading holds, each counted each time it is reached (what is shared counts as often as it is met; a slice's spare places count too). A statement '..UptoSaid' is the law's where the arguments, and the package variables that the reading takes, are together of bulk at most 1048576: NARROWER than '..Said'. Prove '..Said' where nothing that the law and all that it calls make is longer than what came in: it says more and counts as full. Else prove '..UptoSaid'. A law counts once. -/
mutual
def uptoBulk {H : Type} : DataW H → Nat
  | .lit (.string bytes) => bytes.length + 1
  | .lit _ => 1
  | .nil => 1
  | .ptr d => uptoBulk d + 1
  | .slice elems spare => uptoBulkAll elems + uptoBulkAll spare + 1
  | .agg parts => uptoBulkAll parts + 1
  | .iface _ d => uptoBulk d + 1
  | .map entries => uptoBulkEntries entries + 1
  | .held _ => 1
def uptoBulkAll {H : Type} : List (DataW H) → Nat
  | [] => 0
  | d :: r => uptoBulk d + uptoBulkAll r
def uptoBulkEntries {H : Type} : List (Lit × DataW H) → Nat
  | [] => 0
  | x :: r => uptoBulkEntry x + uptoBulkEntries r
def uptoBulkEntry {H : Type} : Lit × DataW H → Nat
  | (.string bytes, d) => bytes.length + uptoBulk d + 1
  | (_, d) => uptoBulk d + 1
 end
def uptoSmall : (H : Type) → List (DataW H) → Bool := fun _ ds => decide (uptoBulkAll ds ≤ 1048576)
def OpenSpec.upto (s : _root_.Go.ChangeSpec) : _root_.Go.OpenSpec := { _root_.Go.OpenSpec.ofChange s with cond := some uptoSmall }

/-- 'pharoslaw05.NibsForms', WHERE WHAT IT READS IS OF BULK AT MOST 1048576: true; the input reads as it did. -/
def nibsFormsUptoRow : OpenClaim := { program := "ytpbkokiibdgnfaa", sum := "12330b92208ac623d3a244328b0107bb7b2786b2f79ff8873049d5ae0d92d572", func := "pharos/pharoslaw05.NibsForms", spec := "nibsForms", inPlace := ["internal/abi.NoEscape", "internal/bytealg.MakeNoZero"], unfollowed := true, recurses := true, apart := false, narrowed := true }
def NibsFormsUptoSaid : Prop := nibsFormsUptoRow.holds Try.pinned (OpenSpec.upto nibsFormsSpec)

/-- 'pharoslaw05.NibsReads', WHERE WHAT IT READS IS OF BULK AT MOST 1048576: true; the input reads as it did. -/
def nibsReadsUptoRow : OpenClaim := { program := "ytpbkokiibdgnfaa", sum := "12330b92208ac623d3a244328b0107bb7b2786b2f79ff8873049d5ae0d92d572", func := "pharos/pharoslaw05.NibsReads", spec := "nibsReads", inPlace := ["internal/abi.NoEscape", "internal/bytealg.MakeNoZero"], unfollowed := true, recurses := true, apart := false, narrowed := true }
def NibsReadsUptoSaid : Prop := nibsReadsUptoRow.holds Try.pinned (OpenSpec.upto nibsReadsSpec)

/-- 'pharoslaw05.NibsBack', WHERE WHAT IT READS IS OF BULK AT MOST 1048576: true; the input reads as it did. -/
def nibsBackUptoRow : OpenClaim := { program := "ytpbkokiibdgnfaa", sum := "12330b92208ac623d3a244328b0107bb7b2786b2f79ff8873049d5ae0d92d572", func := "pharos/pharoslaw05.NibsBack", spec := "nibsBack", inPlace := ["internal/abi.NoEscape", "internal/bytealg.MakeNoZero"], unfollowed := true, recurses := true, apart := false, narrowed := true }
def NibsBackUptoSaid : Prop := nibsBackUptoRow.holds Try.pinned (OpenSpec.upto nibsBackSpec)

/-- 'pharoslaw05.NibsJoins', WHERE WHAT IT READS IS OF BULK AT MOST 1048576: true; the input reads as it did. -/
def nibsJoinsUptoRow : OpenClaim := { program := "ytpbkokiibdgnfaa", sum := "12330b92208ac623d3a244328b0107bb7b2786b2f79ff8873049d5ae0d92d572", func := "pharos/pharoslaw05.NibsJoins", spec := "nibsJoins", inPlace := ["internal/abi.NoEscape", "internal/bytealg.MakeNoZero"], unfollowed := true, recurses := true, apart := false, narrowed := true }
def NibsJoinsUptoSaid : Prop := nibsJoinsUptoRow.holds Try.pinned (OpenSpec.upto nibsJoinsSpec)

end Rows
end Go.Proofs.Ytpbkokiibdgnfaa
