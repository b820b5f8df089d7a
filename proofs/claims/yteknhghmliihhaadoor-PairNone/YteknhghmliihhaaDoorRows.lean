/-
  NARROWER THAN 'FOR EVERY INPUT', by the rows' own cells (each row's printed sentence says how): PairLines: laid · PairPairs: laid · PairSame: laid · PairNone: laid · PairInf: laid.
  DERIVED. THE GIVEN ROWS OF THIS SEAT. 5 by the template 'for every input the law returns true; each argument reads behind the call as it read before'; 0 by the template 'total and deterministic' (their statements: YteknhghmliihhaaDoorTotals.lean).
  GIVEN WITH THE SEED: the statements are not yours to turn. If you find one false, say at which input.
  Laid BY PROGRAM, IN A SANDBOX (cutbox-rows.mjs): the forced cells as the released guide's own fill.sh prints them over the translation e60eef078ba8bac7… (all of the seat's roots in one cut). By AI agents, Wed Nov 11 2026. No macro, syntax, notation, axiom, sorry.
-/
import Derived.Test.YteknhghmliihhaaDoorChecked
import GoSem.Claim
import GoSem.ClaimJoined
import GoSem.ClaimMapViews
import Derived.JoinedTies
import Derived.KernelRfl
namespace Go.Proofs.YteknhghmliihhaaDoor
/- THE CELL 'sum', in the pinned program and in every row, IS THE sha256 OF THE DUMP (.gsa) THAT YteknhghmliihhaaDoorProg.lean LOADS. Nothing in Lean hashes anything: it is a label: what it is worth is what the hold of that sum in a sandbox is worth. -/
noncomputable def Tryd.pinned : Pinned := { name := "yteknhghmliihhaadoor", sum := "e60eef078ba8bac751d925c1bdeef4ab08bb6edbed324a252a0f141b2922e9c0", checked := Tryd.checked }
namespace Rows
def none {H : Type} : Left H := { results := [], args := [] }

/- WHAT THE LISTED PACKAGE-LEVEL VARIABLES READ AS WHEN THE CALL BEGINS. Each datum BY PROGRAM (the guide's laid-datum.mjs) off the statement by which the dump's own 'gosem.cut.vars' lays the variable. In a bare row this is a premise. The card (YteknhghmliihhaaDoorCards.lean) ties it to the program's text. -/
def laid_pharos_curve_inf {H : Type} : DataW H := .agg [.lit (.int .u64 0), .lit (.int .u64 0), .lit (.bool true)]
def laid_pharos_pair_inf {H : Type} : DataW H := .agg [.lit (.int .u64 0), .lit (.int .u64 0), .lit (.bool true)]
def laid_pharos_pair_one {H : Type} : DataW H := .agg [.lit (.int .u64 1), .lit (.int .u64 0)]

/-- 'pharoslaw11.PairLines': WHATEVER THE INPUT: true; the input reads as it did. -/
def pairLinesSpec : ChangeSpec := { name := "pairLines", fn := fun _ => fun
  | [d1, d2, d3] => { results := [.lit (.bool true)], args := [d1, d2, d3] }
  | _ => none }
def pairLinesRow : OpenClaim := { program := "yteknhghmliihhaadoor", sum := "e60eef078ba8bac751d925c1bdeef4ab08bb6edbed324a252a0f141b2922e9c0", func := "pharos/pharoslaw11.PairLines", spec := "pairLines", unfollowed := true, recurses := true, named := ["pharos/pair.inf", "pharos/pair.one", "pharos/curve.inf"], apart := false, laid := [("pharos/curve.inf", laid_pharos_curve_inf), ("pharos/pair.inf", laid_pharos_pair_inf), ("pharos/pair.one", laid_pharos_pair_one)] }
def PairLinesSaid : Prop := pairLinesRow.holds Tryd.pinned (OpenSpec.ofChange pairLinesSpec)

/-- ITS FALSE NEIGHBOUR: 'it returns false'. Refute it at one input. -/
def pairLinesWrong : ChangeSpec := { name := "pairLines", fn := fun _ => fun
  | [d1, d2, d3] => { results := [.lit (.bool false)], args := [d1, d2, d3] }
  | _ => none }
def PairLinesWrongFalsely : Prop := pairLinesRow.holds Tryd.pinned (OpenSpec.ofChange pairLinesWrong)

/-- 'pharoslaw11.PairPairs': WHATEVER THE INPUT: true; the input reads as it did. -/
def pairPairsSpec : ChangeSpec := { name := "pairPairs", fn := fun _ => fun
  | [d1, d2] => { results := [.lit (.bool true)], args := [d1, d2] }
  | _ => none }
def pairPairsRow : OpenClaim := { program := "yteknhghmliihhaadoor", sum := "e60eef078ba8bac751d925c1bdeef4ab08bb6edbed324a252a0f141b2922e9c0", func := "pharos/pharoslaw11.PairPairs", spec := "pairPairs", unfollowed := true, recurses := true, named := ["pharos/pair.inf", "pharos/pair.one", "pharos/curve.inf"], apart := false, laid := [("pharos/curve.inf", laid_pharos_curve_inf), ("pharos/pair.inf", laid_pharos_pair_inf), ("pharos/pair.one", laid_pharos_pair_one)] }
def PairPairsSaid : Prop := pairPairsRow.holds Tryd.pinned (OpenSpec.ofChange pairPairsSpec)

/-- ITS FALSE NEIGHBOUR: 'it returns false'. Refute it at one input. -/
def pairPairsWrong : ChangeSpec := { name := "pairPairs", fn := fun _ => fun
  | [d1, d2] => { results := [.lit (.bool false)], args := [d1, d2] }
  | _ => none }
def PairPairsWrongFalsely : Prop := pairPairsRow.holds Tryd.pinned (OpenSpec.ofChange pairPairsWrong)

/-- 'pharoslaw11.PairSame': WHATEVER THE INPUT: true; the input reads as it did. -/
def pairSameSpec : ChangeSpec := { name := "pairSame", fn := fun _ => fun
  | [d1, d2, d3, d4] => { results := [.lit (.bool true)], args := [d1, d2, d3, d4] }
  | _ => none }
def pairSameRow : OpenClaim := { program := "yteknhghmliihhaadoor", sum := "e60eef078ba8bac751d925c1bdeef4ab08bb6edbed324a252a0f141b2922e9c0", func := "pharos/pharoslaw11.PairSame", spec := "pairSame", unfollowed := true, recurses := true, named := ["pharos/pair.inf", "pharos/pair.one", "pharos/curve.inf"], apart := false, laid := [("pharos/curve.inf", laid_pharos_curve_inf), ("pharos/pair.inf", laid_pharos_pair_inf), ("pharos/pair.one", laid_pharos_pair_one)] }
def PairSameSaid : Prop := pairSameRow.holds Tryd.pinned (OpenSpec.ofChange pairSameSpec)

/-- ITS FALSE NEIGHBOUR: 'it returns false'. Refute it at one input. -/
def pairSameWrong : ChangeSpec := { name := "pairSame", fn := fun _ => fun
  | [d1, d2, d3, d4] => { results := [.lit (.bool false)], args := [d1, d2, d3, d4] }
  | _ => none }
def PairSameWrongFalsely : Prop := pairSameRow.holds Tryd.pinned (OpenSpec.ofChange pairSameWrong)

/-- 'pharoslaw11.PairNone': WHATEVER THE INPUT: true; the input reads as it did. -/
def pairNoneSpec : ChangeSpec := { name := "pairNone", fn := fun _ => fun
  | [d] => { results := [.lit (.bool true)], args := [d] }
  | _ => none }
def pairNoneRow : OpenClaim := { program := "yteknhghmliihhaadoor", sum := "e60eef078ba8bac751d925c1bdeef4ab08bb6edbed324a252a0f141b2922e9c0", func := "pharos/pharoslaw11.PairNone", spec := "pairNone", unfollowed := true, recurses := true, named := ["pharos/pair.inf", "pharos/pair.one", "pharos/curve.inf"], apart := false, laid := [("pharos/curve.inf", laid_pharos_curve_inf), ("pharos/pair.inf", laid_pharos_pair_inf), ("pharos/pair.one", laid_pharos_pair_one)] }
def PairNoneSaid : Prop := pairNoneRow.holds Tryd.pinned (OpenSpec.ofChange pairNoneSpec)

/-- ITS FALSE NEIGHBOUR: 'it returns false'. Refute it at one input. -/
def pairNoneWrong : ChangeSpec := { name := "pairNone", fn := fun _ => fun
  | [d] => { results := [.lit (.bool false)], args := [d] }
  | _ => none }
def PairNoneWrongFalsely : Prop := pairNoneRow.holds Tryd.pinned (OpenSpec.ofChange pairNoneWrong)

/-- 'pharoslaw11.PairInf': WHATEVER THE INPUT: true; the input reads as it did. -/
def pairInfSpec : ChangeSpec := { name := "pairInf", fn := fun _ => fun
  | [d1, d2] => { results := [.lit (.bool true)], args := [d1, d2] }
  | _ => none }
def pairInfRow : OpenClaim := { program := "yteknhghmliihhaadoor", sum := "e60eef078ba8bac751d925c1bdeef4ab08bb6edbed324a252a0f141b2922e9c0", func := "pharos/pharoslaw11.PairInf", spec := "pairInf", unfollowed := true, recurses := true, named := ["pharos/pair.inf", "pharos/pair.one", "pharos/curve.inf"], apart := false, laid := [("pharos/curve.inf", laid_pharos_curve_inf), ("pharos/pair.inf", laid_pharos_pair_inf), ("pharos/pair.one", laid_pharos_pair_one)] }
def PairInfSaid : Prop := pairInfRow.holds Tryd.pinned (OpenSpec.ofChange pairInfSpec)

/-- ITS FALSE NEIGHBOUR: 'it returns false'. Refute it at one input. -/
def pairInfWrong : ChangeSpec := { name := "pairInf", fn := fun _ => fun
  | [d1, d2] => { results := [.lit (.bool false)], args := [d1, d2] }
  | _ => none }
def PairInfWrongFalsely : Prop := pairInfRow.holds Tryd.pinned (OpenSpec.ofChange pairInfWrong)

/- THE SECOND FORM. 'bulk': how many values and letters a reading holds, each counted each time it is reached (what is shared counts as often as it is met; a slice's spare places count too). A statement '..UptoSaid' is the law's where the arguments, and the package variables that the reading takes, are together of bulk at most 1048576: NARROWER than '..Said'. Prove '..Said' where nothing that the law and all that it calls make is longer than what came in: it says more and counts as full. Else prove '..UptoSaid'. A law counts once. -/
mutual
def uptoBulk {H : Type} : DataW H → Nat
  | .lit (.string bytes) => bytes.length + 1
  | .lit _ => 1
  | .nil => 1
  | .ptr d => uptoBulk d + 1
  | .slice elems spare => uptoBulkAll elems + uptoBulkAll spare + 1
  | .agg parts => uptoBulkAll parts + 1
  | .iface _ d => uptoBulk d + 1
  | .map entries => uptoBulkEntries entries + 1
  | .held _ => 1
def uptoBulkAll {H : Type} : List (DataW H) → Nat
  | [] => 0
  | d :: r => uptoBulk d + uptoBulkAll r
def uptoBulkEntries {H : Type} : List (Lit × DataW H) → Nat
  | [] => 0
  | x :: r => uptoBulkEntry x + uptoBulkEntries r
def uptoBulkEntry {H : Type} : Lit × DataW H → Nat
  | (.string bytes, d) => bytes.length + uptoBulk d + 1
  | (_, d) => uptoBulk d + 1
 end
def uptoSmall : (H : Type) → List (DataW H) → Bool := fun _ ds => decide (uptoBulkAll ds ≤ 1048576)
def OpenSpec.upto (s : _root_.Go.ChangeSpec) : _root_.Go.OpenSpec := { _root_.Go.OpenSpec.ofChange s with cond := some uptoSmall }

/-- 'pharoslaw11.PairLines', WHERE WHAT IT READS IS OF BULK AT MOST 1048576: true; the input reads as it did. -/
def pairLinesUptoRow : OpenClaim := { program := "yteknhghmliihhaadoor", sum := "e60eef078ba8bac751d925c1bdeef4ab08bb6edbed324a252a0f141b2922e9c0", func := "pharos/pharoslaw11.PairLines", spec := "pairLines", unfollowed := true, recurses := true, named := ["pharos/pair.inf", "pharos/pair.one", "pharos/curve.inf"], apart := false, laid := [("pharos/curve.inf", laid_pharos_curve_inf), ("pharos/pair.inf", laid_pharos_pair_inf), ("pharos/pair.one", laid_pharos_pair_one)], narrowed := true }
def PairLinesUptoSaid : Prop := pairLinesUptoRow.holds Tryd.pinned (OpenSpec.upto pairLinesSpec)

/-- 'pharoslaw11.PairPairs', WHERE WHAT IT READS IS OF BULK AT MOST 1048576: true; the input reads as it did. -/
def pairPairsUptoRow : OpenClaim := { program := "yteknhghmliihhaadoor", sum := "e60eef078ba8bac751d925c1bdeef4ab08bb6edbed324a252a0f141b2922e9c0", func := "pharos/pharoslaw11.PairPairs", spec := "pairPairs", unfollowed := true, recurses := true, named := ["pharos/pair.inf", "pharos/pair.one", "pharos/curve.inf"], apart := false, laid := [("pharos/curve.inf", laid_pharos_curve_inf), ("pharos/pair.inf", laid_pharos_pair_inf), ("pharos/pair.one", laid_pharos_pair_one)], narrowed := true }
def PairPairsUptoSaid : Prop := pairPairsUptoRow.holds Tryd.pinned (OpenSpec.upto pairPairsSpec)

/-- 'pharoslaw11.PairSame', WHERE WHAT IT READS IS OF BULK AT MOST 1048576: true; the input reads as it did. -/
def pairSameUptoRow : OpenClaim := { program := "yteknhghmliihhaadoor", sum := "e60eef078ba8bac751d925c1bdeef4ab08bb6edbed324a252a0f141b2922e9c0", func := "pharos/pharoslaw11.PairSame", spec := "pairSame", unfollowed := true, recurses := true, named := ["pharos/pair.inf", "pharos/pair.one", "pharos/curve.inf"], apart := false, laid := [("pharos/curve.inf", laid_pharos_curve_inf), ("pharos/pair.inf", laid_pharos_pair_inf), ("pharos/pair.one", laid_pharos_pair_one)], narrowed := true }
def PairSameUptoSaid : Prop := pairSameUptoRow.holds Tryd.pinned (OpenSpec.upto pairSameSpec)

/-- 'pharoslaw11.PairNone', WHERE WHAT IT READS IS OF BULK AT MOST 1048576: true; the input reads as it did. -/
def pairNoneUptoRow : OpenClaim := { program := "yteknhghmliihhaadoor", sum := "e60eef078ba8bac751d925c1bdeef4ab08bb6edbed324a252a0f141b2922e9c0", func := "pharos/pharoslaw11.PairNone", spec := "pairNone", unfollowed := true, recurses := true, named := ["pharos/pair.inf", "pharos/pair.one", "pharos/curve.inf"], apart := false, laid := [("pharos/curve.inf", laid_pharos_curve_inf), ("pharos/pair.inf", laid_pharos_pair_inf), ("pharos/pair.one", laid_pharos_pair_one)], narrowed := true }
def PairNoneUptoSaid : Prop := pairNoneUptoRow.holds Tryd.pinned (OpenSpec.upto pairNoneSpec)

/-- 'pharoslaw11.PairInf', WHERE WHAT IT READS IS OF BULK AT MOST 1048576: true; the input reads as it did. -/
def pairInfUptoRow : OpenClaim := { program := "yteknhghmliihhaadoor", sum := "e60eef078ba8bac751d925c1bdeef4ab08bb6edbed324a252a0f141b2922e9c0", func := "pharos/pharoslaw11.PairInf", spec := "pairInf", unfollowed := true, recurses := true, named := ["pharos/pair.inf", "pharos/pair.one", "pharos/curve.inf"], apart := false, laid := [("pharos/curve.inf", laid_pharos_curve_inf), ("pharos/pair.inf", laid_pharos_pair_inf), ("pharos/pair.one", laid_pharos_pair_one)], narrowed := true }
def PairInfUptoSaid : Prop := pairInfUptoRow.holds Tryd.pinned (OpenSpec.upto pairInfSpec)

end Rows
end Go.Proofs.YteknhghmliihhaaDoor
