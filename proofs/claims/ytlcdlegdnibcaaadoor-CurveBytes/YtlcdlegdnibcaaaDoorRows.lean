/-
  NARROWER THAN 'FOR EVERY INPUT', by the rows' own cells (each row's printed sentence says how): CurveAdds: laid · CurveTimes: laid · CurveBytes: laid · CurveLaws: laid · CurveBack: laid · CurveFew: laid.
  DERIVED. THE GIVEN ROWS OF THIS SEAT. 6 by the template 'for every input the law returns true; each argument reads behind the call as it read before'; 0 by the template 'total and deterministic' (their statements: YtlcdlegdnibcaaaDoorTotals.lean).
  GIVEN WITH THE SEED: the statements are not yours to turn. If you find one false, say at which input.
  Laid BY PROGRAM, IN A SANDBOX (cutbox-rows.mjs): the forced cells as the released guide's own fill.sh prints them over the translation bb079b0faba0f585… (all of the seat's roots in one cut). By AI agents, Wed Nov 11 2026. No macro, syntax, notation, axiom, sorry.
-/
import Derived.Test.YtlcdlegdnibcaaaDoorChecked
import GoSem.Claim
import GoSem.ClaimJoined
import GoSem.ClaimMapViews
import Derived.JoinedTies
import Derived.KernelRfl
namespace Go.Proofs.YtlcdlegdnibcaaaDoor
/- THE CELL 'sum', in the pinned program and in every row, IS THE sha256 OF THE DUMP (.gsa) THAT YtlcdlegdnibcaaaDoorProg.lean LOADS. Nothing in Lean hashes anything: it is a label: what it is worth is what the hold of that sum in a sandbox is worth. -/
noncomputable def Tryd.pinned : Pinned := { name := "ytlcdlegdnibcaaadoor", sum := "bb079b0faba0f585aa12a987c8e42b924fd29d6fe82a4c7e3a798ac7294f3bd0", checked := Tryd.checked }
namespace Rows
def none {H : Type} : Left H := { results := [], args := [] }

/- WHAT THE LISTED PACKAGE-LEVEL VARIABLES READ AS WHEN THE CALL BEGINS. Each datum BY PROGRAM (the guide's laid-datum.mjs) off the statement by which the dump's own 'gosem.cut.vars' lays the variable. In a bare row this is a premise. The card (YtlcdlegdnibcaaaDoorCards.lean) ties it to the program's text. -/
def laid_pharos_curve_inf {H : Type} : DataW H := .agg [.lit (.int .u64 0), .lit (.int .u64 0), .lit (.bool true)]

/-- 'pharoslaw10.CurveAdds': WHATEVER THE INPUT: true; the input reads as it did. -/
def curveAddsSpec : ChangeSpec := { name := "curveAdds", fn := fun _ => fun
  | [d1, d2] => { results := [.lit (.bool true)], args := [d1, d2] }
  | _ => none }
def curveAddsRow : OpenClaim := { program := "ytlcdlegdnibcaaadoor", sum := "bb079b0faba0f585aa12a987c8e42b924fd29d6fe82a4c7e3a798ac7294f3bd0", func := "pharos/pharoslaw10.CurveAdds", spec := "curveAdds", unfollowed := true, recurses := true, named := ["pharos/curve.inf"], apart := false, laid := [("pharos/curve.inf", laid_pharos_curve_inf)] }
def CurveAddsSaid : Prop := curveAddsRow.holds Tryd.pinned (OpenSpec.ofChange curveAddsSpec)

/-- ITS FALSE NEIGHBOUR: 'it returns false'. Refute it at one input. -/
def curveAddsWrong : ChangeSpec := { name := "curveAdds", fn := fun _ => fun
  | [d1, d2] => { results := [.lit (.bool false)], args := [d1, d2] }
  | _ => none }
def CurveAddsWrongFalsely : Prop := curveAddsRow.holds Tryd.pinned (OpenSpec.ofChange curveAddsWrong)

/-- 'pharoslaw10.CurveTimes': WHATEVER THE INPUT: true; the input reads as it did. -/
def curveTimesSpec : ChangeSpec := { name := "curveTimes", fn := fun _ => fun
  | [d1, d2] => { results := [.lit (.bool true)], args := [d1, d2] }
  | _ => none }
def curveTimesRow : OpenClaim := { program := "ytlcdlegdnibcaaadoor", sum := "bb079b0faba0f585aa12a987c8e42b924fd29d6fe82a4c7e3a798ac7294f3bd0", func := "pharos/pharoslaw10.CurveTimes", spec := "curveTimes", unfollowed := true, recurses := true, named := ["pharos/curve.inf"], apart := false, laid := [("pharos/curve.inf", laid_pharos_curve_inf)] }
def CurveTimesSaid : Prop := curveTimesRow.holds Tryd.pinned (OpenSpec.ofChange curveTimesSpec)

/-- ITS FALSE NEIGHBOUR: 'it returns false'. Refute it at one input. -/
def curveTimesWrong : ChangeSpec := { name := "curveTimes", fn := fun _ => fun
  | [d1, d2] => { results := [.lit (.bool false)], args := [d1, d2] }
  | _ => none }
def CurveTimesWrongFalsely : Prop := curveTimesRow.holds Tryd.pinned (OpenSpec.ofChange curveTimesWrong)

/-- 'pharoslaw10.CurveBytes': WHATEVER THE INPUT: true; the input reads as it did. -/
def curveBytesSpec : ChangeSpec := { name := "curveBytes", fn := fun _ => fun
  | [d1, d2] => { results := [.lit (.bool true)], args := [d1, d2] }
  | _ => none }
def curveBytesRow : OpenClaim := { program := "ytlcdlegdnibcaaadoor", sum := "bb079b0faba0f585aa12a987c8e42b924fd29d6fe82a4c7e3a798ac7294f3bd0", func := "pharos/pharoslaw10.CurveBytes", spec := "curveBytes", unfollowed := true, recurses := true, named := ["pharos/curve.inf"], apart := false, laid := [("pharos/curve.inf", laid_pharos_curve_inf)] }
def CurveBytesSaid : Prop := curveBytesRow.holds Tryd.pinned (OpenSpec.ofChange curveBytesSpec)

/-- ITS FALSE NEIGHBOUR: 'it returns false'. Refute it at one input. -/
def curveBytesWrong : ChangeSpec := { name := "curveBytes", fn := fun _ => fun
  | [d1, d2] => { results := [.lit (.bool false)], args := [d1, d2] }
  | _ => none }
def CurveBytesWrongFalsely : Prop := curveBytesRow.holds Tryd.pinned (OpenSpec.ofChange curveBytesWrong)

/-- 'pharoslaw10.CurveLaws': WHATEVER THE INPUT: true; the input reads as it did. -/
def curveLawsSpec : ChangeSpec := { name := "curveLaws", fn := fun _ => fun
  | [d] => { results := [.lit (.bool true)], args := [d] }
  | _ => none }
def curveLawsRow : OpenClaim := { program := "ytlcdlegdnibcaaadoor", sum := "bb079b0faba0f585aa12a987c8e42b924fd29d6fe82a4c7e3a798ac7294f3bd0", func := "pharos/pharoslaw10.CurveLaws", spec := "curveLaws", unfollowed := true, recurses := true, named := ["pharos/curve.inf"], apart := false, laid := [("pharos/curve.inf", laid_pharos_curve_inf)] }
def CurveLawsSaid : Prop := curveLawsRow.holds Tryd.pinned (OpenSpec.ofChange curveLawsSpec)

/-- ITS FALSE NEIGHBOUR: 'it returns false'. Refute it at one input. -/
def curveLawsWrong : ChangeSpec := { name := "curveLaws", fn := fun _ => fun
  | [d] => { results := [.lit (.bool false)], args := [d] }
  | _ => none }
def CurveLawsWrongFalsely : Prop := curveLawsRow.holds Tryd.pinned (OpenSpec.ofChange curveLawsWrong)

/-- 'pharoslaw10.CurveBack': WHATEVER THE INPUT: true; the input reads as it did. -/
def curveBackSpec : ChangeSpec := { name := "curveBack", fn := fun _ => fun
  | [d1, d2] => { results := [.lit (.bool true)], args := [d1, d2] }
  | _ => none }
def curveBackRow : OpenClaim := { program := "ytlcdlegdnibcaaadoor", sum := "bb079b0faba0f585aa12a987c8e42b924fd29d6fe82a4c7e3a798ac7294f3bd0", func := "pharos/pharoslaw10.CurveBack", spec := "curveBack", unfollowed := true, recurses := true, named := ["pharos/curve.inf"], apart := false, laid := [("pharos/curve.inf", laid_pharos_curve_inf)] }
def CurveBackSaid : Prop := curveBackRow.holds Tryd.pinned (OpenSpec.ofChange curveBackSpec)

/-- ITS FALSE NEIGHBOUR: 'it returns false'. Refute it at one input. -/
def curveBackWrong : ChangeSpec := { name := "curveBack", fn := fun _ => fun
  | [d1, d2] => { results := [.lit (.bool false)], args := [d1, d2] }
  | _ => none }
def CurveBackWrongFalsely : Prop := curveBackRow.holds Tryd.pinned (OpenSpec.ofChange curveBackWrong)

/-- 'pharoslaw10.CurveFew': WHATEVER THE INPUT: true; the input reads as it did. -/
def curveFewSpec : ChangeSpec := { name := "curveFew", fn := fun _ => fun
  | [d] => { results := [.lit (.bool true)], args := [d] }
  | _ => none }
def curveFewRow : OpenClaim := { program := "ytlcdlegdnibcaaadoor", sum := "bb079b0faba0f585aa12a987c8e42b924fd29d6fe82a4c7e3a798ac7294f3bd0", func := "pharos/pharoslaw10.CurveFew", spec := "curveFew", unfollowed := true, recurses := true, named := ["pharos/curve.inf"], apart := false, laid := [("pharos/curve.inf", laid_pharos_curve_inf)] }
def CurveFewSaid : Prop := curveFewRow.holds Tryd.pinned (OpenSpec.ofChange curveFewSpec)

/-- ITS FALSE NEIGHBOUR: 'it returns false'. Refute it at one input. -/
def curveFewWrong : ChangeSpec := { name := "curveFew", fn := fun _ => fun
  | [d] => { results := [.lit (.bool false)], args := [d] }
  | _ => none }
def CurveFewWrongFalsely : Prop := curveFewRow.holds Tryd.pinned (OpenSpec.ofChange curveFewWrong)

/- THE SECOND FORM. 'bulk': how many values and letters a reading holds, each counted each time it is reached (what is shared counts as often as it is met; a slice's spare places count too). A statement '..UptoSaid' is the law's where the arguments, and the package variables that the reading takes, are together of bulk at most 1048576: NARROWER than '..Said'. Prove '..Said' where nothing that the law and all that it calls make is longer than what came in: it says more and counts as full. Else prove '..UptoSaid'. A law counts once. -/
mutual
def uptoBulk {H : Type} : DataW H → Nat
  | .lit (.string bytes) => bytes.length + 1
  | .lit _ => 1
  | .nil => 1
  | .ptr d => uptoBulk d + 1
  | .slice elems spare => uptoBulkAll elems + uptoBulkAll spare + 1
  | .agg parts => uptoBulkAll parts + 1
  | .iface _ d => uptoBulk d + 1
  | .map entries => uptoBulkEntries entries + 1
  | .held _ => 1
def uptoBulkAll {H : Type} : List (DataW H) → Nat
  | [] => 0
  | d :: r => uptoBulk d + uptoBulkAll r
def uptoBulkEntries {H : Type} : List (Lit × DataW H) → Nat
  | [] => 0
  | x :: r => uptoBulkEntry x + uptoBulkEntries r
def uptoBulkEntry {H : Type} : Lit × DataW H → Nat
  | (.string bytes, d) => bytes.length + uptoBulk d + 1
  | (_, d) => uptoBulk d + 1
 end
def uptoSmall : (H : Type) → List (DataW H) → Bool := fun _ ds => decide (uptoBulkAll ds ≤ 1048576)
def OpenSpec.upto (s : _root_.Go.ChangeSpec) : _root_.Go.OpenSpec := { _root_.Go.OpenSpec.ofChange s with cond := some uptoSmall }

/-- 'pharoslaw10.CurveAdds', WHERE WHAT IT READS IS OF BULK AT MOST 1048576: true; the input reads as it did. -/
def curveAddsUptoRow : OpenClaim := { program := "ytlcdlegdnibcaaadoor", sum := "bb079b0faba0f585aa12a987c8e42b924fd29d6fe82a4c7e3a798ac7294f3bd0", func := "pharos/pharoslaw10.CurveAdds", spec := "curveAdds", unfollowed := true, recurses := true, named := ["pharos/curve.inf"], apart := false, laid := [("pharos/curve.inf", laid_pharos_curve_inf)], narrowed := true }
def CurveAddsUptoSaid : Prop := curveAddsUptoRow.holds Tryd.pinned (OpenSpec.upto curveAddsSpec)

/-- 'pharoslaw10.CurveTimes', WHERE WHAT IT READS IS OF BULK AT MOST 1048576: true; the input reads as it did. -/
def curveTimesUptoRow : OpenClaim := { program := "ytlcdlegdnibcaaadoor", sum := "bb079b0faba0f585aa12a987c8e42b924fd29d6fe82a4c7e3a798ac7294f3bd0", func := "pharos/pharoslaw10.CurveTimes", spec := "curveTimes", unfollowed := true, recurses := true, named := ["pharos/curve.inf"], apart := false, laid := [("pharos/curve.inf", laid_pharos_curve_inf)], narrowed := true }
def CurveTimesUptoSaid : Prop := curveTimesUptoRow.holds Tryd.pinned (OpenSpec.upto curveTimesSpec)

/-- 'pharoslaw10.CurveBytes', WHERE WHAT IT READS IS OF BULK AT MOST 1048576: true; the input reads as it did. -/
def curveBytesUptoRow : OpenClaim := { program := "ytlcdlegdnibcaaadoor", sum := "bb079b0faba0f585aa12a987c8e42b924fd29d6fe82a4c7e3a798ac7294f3bd0", func := "pharos/pharoslaw10.CurveBytes", spec := "curveBytes", unfollowed := true, recurses := true, named := ["pharos/curve.inf"], apart := false, laid := [("pharos/curve.inf", laid_pharos_curve_inf)], narrowed := true }
def CurveBytesUptoSaid : Prop := curveBytesUptoRow.holds Tryd.pinned (OpenSpec.upto curveBytesSpec)

/-- 'pharoslaw10.CurveLaws', WHERE WHAT IT READS IS OF BULK AT MOST 1048576: true; the input reads as it did. -/
def curveLawsUptoRow : OpenClaim := { program := "ytlcdlegdnibcaaadoor", sum := "bb079b0faba0f585aa12a987c8e42b924fd29d6fe82a4c7e3a798ac7294f3bd0", func := "pharos/pharoslaw10.CurveLaws", spec := "curveLaws", unfollowed := true, recurses := true, named := ["pharos/curve.inf"], apart := false, laid := [("pharos/curve.inf", laid_pharos_curve_inf)], narrowed := true }
def CurveLawsUptoSaid : Prop := curveLawsUptoRow.holds Tryd.pinned (OpenSpec.upto curveLawsSpec)

/-- 'pharoslaw10.CurveBack', WHERE WHAT IT READS IS OF BULK AT MOST 1048576: true; the input reads as it did. -/
def curveBackUptoRow : OpenClaim := { program := "ytlcdlegdnibcaaadoor", sum := "bb079b0faba0f585aa12a987c8e42b924fd29d6fe82a4c7e3a798ac7294f3bd0", func := "pharos/pharoslaw10.CurveBack", spec := "curveBack", unfollowed := true, recurses := true, named := ["pharos/curve.inf"], apart := false, laid := [("pharos/curve.inf", laid_pharos_curve_inf)], narrowed := true }
def CurveBackUptoSaid : Prop := curveBackUptoRow.holds Tryd.pinned (OpenSpec.upto curveBackSpec)

/-- 'pharoslaw10.CurveFew', WHERE WHAT IT READS IS OF BULK AT MOST 1048576: true; the input reads as it did. -/
def curveFewUptoRow : OpenClaim := { program := "ytlcdlegdnibcaaadoor", sum := "bb079b0faba0f585aa12a987c8e42b924fd29d6fe82a4c7e3a798ac7294f3bd0", func := "pharos/pharoslaw10.CurveFew", spec := "curveFew", unfollowed := true, recurses := true, named := ["pharos/curve.inf"], apart := false, laid := [("pharos/curve.inf", laid_pharos_curve_inf)], narrowed := true }
def CurveFewUptoSaid : Prop := curveFewUptoRow.holds Tryd.pinned (OpenSpec.upto curveFewSpec)

end Rows
end Go.Proofs.YtlcdlegdnibcaaaDoor
