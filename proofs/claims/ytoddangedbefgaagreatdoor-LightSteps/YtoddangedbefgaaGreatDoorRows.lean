/-
  NARROWER THAN 'FOR EVERY INPUT', by the rows' own cells (each row's printed sentence says how): LightBegins: laid · LightChecks: laid · LightBetter: laid · LightApplies: laid · LightForces: laid · LightSteps: laid.
  DERIVED. THE GIVEN ROWS OF THIS SEAT. 6 by the template 'for every input the law returns true; each argument reads behind the call as it read before'; 0 by the template 'total and deterministic' (their statements: YtoddangedbefgaaGreatDoorTotals.lean).
  GIVEN WITH THE SEED: the statements are not yours to turn. If you find one false, say at which input.
  Laid BY PROGRAM, IN A SANDBOX (cutbox-rows.mjs): the forced cells as the released guide's own fill.sh prints them over the translation b9ff5ed6775be137… (all of the seat's roots in one cut). By AI agents, Wed Nov 11 2026. No macro, syntax, notation, axiom, sorry.
-/
import Derived.Test.YtoddangedbefgaaGreatDoorChecked
import GoSem.Claim
import GoSem.ClaimJoined
import GoSem.ClaimMapViews
import Derived.JoinedTies
import Derived.KernelRfl
namespace Go.Proofs.YtoddangedbefgaaGreatDoor
/- THE CELL 'sum', in the pinned program and in every row, IS THE sha256 OF THE DUMP (.gsa) THAT YtoddangedbefgaaGreatDoorProg.lean LOADS. Nothing in Lean hashes anything: it is a label: what it is worth is what the hold of that sum in a sandbox is worth. -/
noncomputable def Tryz.pinned : Pinned := { name := "ytoddangedbefgaagreatdoor", sum := "b9ff5ed6775be1372ac26f5adb05133405316fef13a0485197414b0b56bf7995", checked := Tryz.checked }
namespace Rows
def none {H : Type} : Left H := { results := [], args := [] }

/- WHAT THE LISTED PACKAGE-LEVEL VARIABLES READ AS WHEN THE CALL BEGINS. Each datum BY PROGRAM (the guide's laid-datum.mjs) off the statement by which the dump's own 'gosem.cut.vars' lays the variable. In a bare row this is a premise. The card (YtoddangedbefgaaGreatDoorCards.lean) ties it to the program's text. -/
def laid_pharos_curve_inf {H : Type} : DataW H := .agg [.lit (.int .u64 0), .lit (.int .u64 0), .lit (.bool true)]
def laid_pharos_pair_inf {H : Type} : DataW H := .agg [.lit (.int .u64 0), .lit (.int .u64 0), .lit (.bool true)]
def laid_pharos_pair_one {H : Type} : DataW H := .agg [.lit (.int .u64 1), .lit (.int .u64 0)]
def laid_pharos_sha_cubeRoots {H : Type} : DataW H := .agg [.lit (.int .u32 1116352408), .lit (.int .u32 1899447441), .lit (.int .u32 3049323471), .lit (.int .u32 3921009573), .lit (.int .u32 961987163), .lit (.int .u32 1508970993), .lit (.int .u32 2453635748), .lit (.int .u32 2870763221), .lit (.int .u32 3624381080), .lit (.int .u32 310598401), .lit (.int .u32 607225278), .lit (.int .u32 1426881987), .lit (.int .u32 1925078388), .lit (.int .u32 2162078206), .lit (.int .u32 2614888103), .lit (.int .u32 3248222580), .lit (.int .u32 3835390401), .lit (.int .u32 4022224774), .lit (.int .u32 264347078), .lit (.int .u32 604807628), .lit (.int .u32 770255983), .lit (.int .u32 1249150122), .lit (.int .u32 1555081692), .lit (.int .u32 1996064986), .lit (.int .u32 2554220882), .lit (.int .u32 2821834349), .lit (.int .u32 2952996808), .lit (.int .u32 3210313671), .lit (.int .u32 3336571891), .lit (.int .u32 3584528711), .lit (.int .u32 113926993), .lit (.int .u32 338241895), .lit (.int .u32 666307205), .lit (.int .u32 773529912), .lit (.int .u32 1294757372), .lit (.int .u32 1396182291), .lit (.int .u32 1695183700), .lit (.int .u32 1986661051), .lit (.int .u32 2177026350), .lit (.int .u32 2456956037), .lit (.int .u32 2730485921), .lit (.int .u32 2820302411), .lit (.int .u32 3259730800), .lit (.int .u32 3345764771), .lit (.int .u32 3516065817), .lit (.int .u32 3600352804), .lit (.int .u32 4094571909), .lit (.int .u32 275423344), .lit (.int .u32 430227734), .lit (.int .u32 506948616), .lit (.int .u32 659060556), .lit (.int .u32 883997877), .lit (.int .u32 958139571), .lit (.int .u32 1322822218), .lit (.int .u32 1537002063), .lit (.int .u32 1747873779), .lit (.int .u32 1955562222), .lit (.int .u32 2024104815), .lit (.int .u32 2227730452), .lit (.int .u32 2361852424), .lit (.int .u32 2428436474), .lit (.int .u32 2756734187), .lit (.int .u32 3204031479), .lit (.int .u32 3329325298)]
def laid_pharos_sha_squareRoots {H : Type} : DataW H := .agg [.lit (.int .u32 1779033703), .lit (.int .u32 3144134277), .lit (.int .u32 1013904242), .lit (.int .u32 2773480762), .lit (.int .u32 1359893119), .lit (.int .u32 2600822924), .lit (.int .u32 528734635), .lit (.int .u32 1541459225)]
def laid_pharos_sign_generator {H : Type} : DataW H := .agg [.lit (.int .u64 1846166884), .lit (.int .u64 1411018613), .lit (.bool false)]
def laid_pharos_sign_inf {H : Type} : DataW H := .agg [.lit (.int .u64 0), .lit (.int .u64 0), .lit (.bool true)]

/-- 'pharoslaw14.LightBegins': WHATEVER THE INPUT: true; the input reads as it did. -/
def lightBeginsSpec : ChangeSpec := { name := "lightBegins", fn := fun _ => fun
  | [d1, d2] => { results := [.lit (.bool true)], args := [d1, d2] }
  | _ => none }
def lightBeginsRow : OpenClaim := { program := "ytoddangedbefgaagreatdoor", sum := "b9ff5ed6775be1372ac26f5adb05133405316fef13a0485197414b0b56bf7995", func := "pharos/pharoslaw14.LightBegins", spec := "lightBegins", inPlace := ["internal/abi.NoEscape", "internal/bytealg.MakeNoZero"], unfollowed := true, recurses := true, named := ["pharos/sha.squareRoots", "pharos/sha.cubeRoots", "pharos/sign.inf", "pharos/curve.inf", "pharos/sign.generator", "pharos/pair.inf", "pharos/pair.one"], apart := false, laid := [("pharos/curve.inf", laid_pharos_curve_inf), ("pharos/pair.inf", laid_pharos_pair_inf), ("pharos/pair.one", laid_pharos_pair_one), ("pharos/sha.cubeRoots", laid_pharos_sha_cubeRoots), ("pharos/sha.squareRoots", laid_pharos_sha_squareRoots), ("pharos/sign.generator", laid_pharos_sign_generator), ("pharos/sign.inf", laid_pharos_sign_inf)] }
def LightBeginsSaid : Prop := lightBeginsRow.holds Tryz.pinned (OpenSpec.ofChange lightBeginsSpec)

/-- ITS FALSE NEIGHBOUR: 'it returns false'. Refute it at one input. -/
def lightBeginsWrong : ChangeSpec := { name := "lightBegins", fn := fun _ => fun
  | [d1, d2] => { results := [.lit (.bool false)], args := [d1, d2] }
  | _ => none }
def LightBeginsWrongFalsely : Prop := lightBeginsRow.holds Tryz.pinned (OpenSpec.ofChange lightBeginsWrong)

/-- 'pharoslaw14.LightChecks': WHATEVER THE INPUT: true; the input reads as it did. -/
def lightChecksSpec : ChangeSpec := { name := "lightChecks", fn := fun _ => fun
  | [d1, d2, d3] => { results := [.lit (.bool true)], args := [d1, d2, d3] }
  | _ => none }
def lightChecksRow : OpenClaim := { program := "ytoddangedbefgaagreatdoor", sum := "b9ff5ed6775be1372ac26f5adb05133405316fef13a0485197414b0b56bf7995", func := "pharos/pharoslaw14.LightChecks", spec := "lightChecks", inPlace := ["internal/abi.NoEscape", "internal/bytealg.MakeNoZero"], unfollowed := true, recurses := true, named := ["pharos/sha.squareRoots", "pharos/sha.cubeRoots", "pharos/sign.inf", "pharos/curve.inf", "pharos/sign.generator", "pharos/pair.inf", "pharos/pair.one"], apart := false, laid := [("pharos/curve.inf", laid_pharos_curve_inf), ("pharos/pair.inf", laid_pharos_pair_inf), ("pharos/pair.one", laid_pharos_pair_one), ("pharos/sha.cubeRoots", laid_pharos_sha_cubeRoots), ("pharos/sha.squareRoots", laid_pharos_sha_squareRoots), ("pharos/sign.generator", laid_pharos_sign_generator), ("pharos/sign.inf", laid_pharos_sign_inf)] }
def LightChecksSaid : Prop := lightChecksRow.holds Tryz.pinned (OpenSpec.ofChange lightChecksSpec)

/-- ITS FALSE NEIGHBOUR: 'it returns false'. Refute it at one input. -/
def lightChecksWrong : ChangeSpec := { name := "lightChecks", fn := fun _ => fun
  | [d1, d2, d3] => { results := [.lit (.bool false)], args := [d1, d2, d3] }
  | _ => none }
def LightChecksWrongFalsely : Prop := lightChecksRow.holds Tryz.pinned (OpenSpec.ofChange lightChecksWrong)

/-- 'pharoslaw14.LightBetter': WHATEVER THE INPUT: true; the input reads as it did. -/
def lightBetterSpec : ChangeSpec := { name := "lightBetter", fn := fun _ => fun
  | [d1, d2] => { results := [.lit (.bool true)], args := [d1, d2] }
  | _ => none }
def lightBetterRow : OpenClaim := { program := "ytoddangedbefgaagreatdoor", sum := "b9ff5ed6775be1372ac26f5adb05133405316fef13a0485197414b0b56bf7995", func := "pharos/pharoslaw14.LightBetter", spec := "lightBetter", inPlace := ["internal/abi.NoEscape", "internal/bytealg.MakeNoZero"], unfollowed := true, recurses := true, named := ["pharos/sha.squareRoots", "pharos/sha.cubeRoots", "pharos/sign.inf", "pharos/curve.inf", "pharos/sign.generator", "pharos/pair.inf", "pharos/pair.one"], apart := false, laid := [("pharos/curve.inf", laid_pharos_curve_inf), ("pharos/pair.inf", laid_pharos_pair_inf), ("pharos/pair.one", laid_pharos_pair_one), ("pharos/sha.cubeRoots", laid_pharos_sha_cubeRoots), ("pharos/sha.squareRoots", laid_pharos_sha_squareRoots), ("pharos/sign.generator", laid_pharos_sign_generator), ("pharos/sign.inf", laid_pharos_sign_inf)] }
def LightBetterSaid : Prop := lightBetterRow.holds Tryz.pinned (OpenSpec.ofChange lightBetterSpec)

/-- ITS FALSE NEIGHBOUR: 'it returns false'. Refute it at one input. -/
def lightBetterWrong : ChangeSpec := { name := "lightBetter", fn := fun _ => fun
  | [d1, d2] => { results := [.lit (.bool false)], args := [d1, d2] }
  | _ => none }
def LightBetterWrongFalsely : Prop := lightBetterRow.holds Tryz.pinned (OpenSpec.ofChange lightBetterWrong)

/-- 'pharoslaw14.LightApplies': WHATEVER THE INPUT: true; the input reads as it did. -/
def lightAppliesSpec : ChangeSpec := { name := "lightApplies", fn := fun _ => fun
  | [d1, d2, d3] => { results := [.lit (.bool true)], args := [d1, d2, d3] }
  | _ => none }
def lightAppliesRow : OpenClaim := { program := "ytoddangedbefgaagreatdoor", sum := "b9ff5ed6775be1372ac26f5adb05133405316fef13a0485197414b0b56bf7995", func := "pharos/pharoslaw14.LightApplies", spec := "lightApplies", inPlace := ["internal/abi.NoEscape", "internal/bytealg.MakeNoZero"], unfollowed := true, recurses := true, named := ["pharos/sha.squareRoots", "pharos/sha.cubeRoots", "pharos/sign.inf", "pharos/curve.inf", "pharos/sign.generator", "pharos/pair.inf", "pharos/pair.one"], apart := false, laid := [("pharos/curve.inf", laid_pharos_curve_inf), ("pharos/pair.inf", laid_pharos_pair_inf), ("pharos/pair.one", laid_pharos_pair_one), ("pharos/sha.cubeRoots", laid_pharos_sha_cubeRoots), ("pharos/sha.squareRoots", laid_pharos_sha_squareRoots), ("pharos/sign.generator", laid_pharos_sign_generator), ("pharos/sign.inf", laid_pharos_sign_inf)] }
def LightAppliesSaid : Prop := lightAppliesRow.holds Tryz.pinned (OpenSpec.ofChange lightAppliesSpec)

/-- ITS FALSE NEIGHBOUR: 'it returns false'. Refute it at one input. -/
def lightAppliesWrong : ChangeSpec := { name := "lightApplies", fn := fun _ => fun
  | [d1, d2, d3] => { results := [.lit (.bool false)], args := [d1, d2, d3] }
  | _ => none }
def LightAppliesWrongFalsely : Prop := lightAppliesRow.holds Tryz.pinned (OpenSpec.ofChange lightAppliesWrong)

/-- 'pharoslaw14.LightForces': WHATEVER THE INPUT: true; the input reads as it did. -/
def lightForcesSpec : ChangeSpec := { name := "lightForces", fn := fun _ => fun
  | [d1, d2] => { results := [.lit (.bool true)], args := [d1, d2] }
  | _ => none }
def lightForcesRow : OpenClaim := { program := "ytoddangedbefgaagreatdoor", sum := "b9ff5ed6775be1372ac26f5adb05133405316fef13a0485197414b0b56bf7995", func := "pharos/pharoslaw14.LightForces", spec := "lightForces", inPlace := ["internal/abi.NoEscape", "internal/bytealg.MakeNoZero"], unfollowed := true, recurses := true, named := ["pharos/sha.squareRoots", "pharos/sha.cubeRoots", "pharos/sign.inf", "pharos/curve.inf", "pharos/sign.generator", "pharos/pair.inf", "pharos/pair.one"], apart := false, laid := [("pharos/curve.inf", laid_pharos_curve_inf), ("pharos/pair.inf", laid_pharos_pair_inf), ("pharos/pair.one", laid_pharos_pair_one), ("pharos/sha.cubeRoots", laid_pharos_sha_cubeRoots), ("pharos/sha.squareRoots", laid_pharos_sha_squareRoots), ("pharos/sign.generator", laid_pharos_sign_generator), ("pharos/sign.inf", laid_pharos_sign_inf)] }
def LightForcesSaid : Prop := lightForcesRow.holds Tryz.pinned (OpenSpec.ofChange lightForcesSpec)

/-- ITS FALSE NEIGHBOUR: 'it returns false'. Refute it at one input. -/
def lightForcesWrong : ChangeSpec := { name := "lightForces", fn := fun _ => fun
  | [d1, d2] => { results := [.lit (.bool false)], args := [d1, d2] }
  | _ => none }
def LightForcesWrongFalsely : Prop := lightForcesRow.holds Tryz.pinned (OpenSpec.ofChange lightForcesWrong)

/-- 'pharoslaw14.LightSteps': WHATEVER THE INPUT: true; the input reads as it did. -/
def lightStepsSpec : ChangeSpec := { name := "lightSteps", fn := fun _ => fun
  | [d1, d2, d3] => { results := [.lit (.bool true)], args := [d1, d2, d3] }
  | _ => none }
def lightStepsRow : OpenClaim := { program := "ytoddangedbefgaagreatdoor", sum := "b9ff5ed6775be1372ac26f5adb05133405316fef13a0485197414b0b56bf7995", func := "pharos/pharoslaw14.LightSteps", spec := "lightSteps", inPlace := ["internal/abi.NoEscape", "internal/bytealg.MakeNoZero"], unfollowed := true, recurses := true, named := ["pharos/sha.squareRoots", "pharos/sha.cubeRoots", "pharos/sign.inf", "pharos/curve.inf", "pharos/sign.generator", "pharos/pair.inf", "pharos/pair.one"], apart := false, laid := [("pharos/curve.inf", laid_pharos_curve_inf), ("pharos/pair.inf", laid_pharos_pair_inf), ("pharos/pair.one", laid_pharos_pair_one), ("pharos/sha.cubeRoots", laid_pharos_sha_cubeRoots), ("pharos/sha.squareRoots", laid_pharos_sha_squareRoots), ("pharos/sign.generator", laid_pharos_sign_generator), ("pharos/sign.inf", laid_pharos_sign_inf)] }
def LightStepsSaid : Prop := lightStepsRow.holds Tryz.pinned (OpenSpec.ofChange lightStepsSpec)

/-- ITS FALSE NEIGHBOUR: 'it returns false'. Refute it at one input. -/
def lightStepsWrong : ChangeSpec := { name := "lightSteps", fn := fun _ => fun
  | [d1, d2, d3] => { results := [.lit (.bool false)], args := [d1, d2, d3] }
  | _ => none }
def LightStepsWrongFalsely : Prop := lightStepsRow.holds Tryz.pinned (OpenSpec.ofChange lightStepsWrong)

/- THE SECOND FORM. 'bulk': how many values and letters a reading holds, each counted each time it is reached (what is shared counts as often as it is met; a slice's spare places count too). A statement '..UptoSaid' is the law's where the arguments, and the package variables that the reading takes, are together of bulk at most 1048576: NARROWER than '..Said'. Prove '..Said' where nothing that the law and all that it calls make is longer than what came in: it says more and counts as full. Else prove '..UptoSaid'. A law counts once. -/
mutual
def uptoBulk {H : Type} : DataW H → Nat
  | .lit (.string bytes) => bytes.length + 1
  | .lit _ => 1
  | .nil => 1
  | .ptr d => uptoBulk d + 1
  | .slice elems spare => uptoBulkAll elems + uptoBulkAll spare + 1
  | .agg parts => uptoBulkAll parts + 1
  | .iface _ d => uptoBulk d + 1
  | .map entries => uptoBulkEntries entries + 1
  | .held _ => 1
def uptoBulkAll {H : Type} : List (DataW H) → Nat
  | [] => 0
  | d :: r => uptoBulk d + uptoBulkAll r
def uptoBulkEntries {H : Type} : List (Lit × DataW H) → Nat
  | [] => 0
  | x :: r => uptoBulkEntry x + uptoBulkEntries r
def uptoBulkEntry {H : Type} : Lit × DataW H → Nat
  | (.string bytes, d) => bytes.length + uptoBulk d + 1
  | (_, d) => uptoBulk d + 1
 end
def uptoSmall : (H : Type) → List (DataW H) → Bool := fun _ ds => decide (uptoBulkAll ds ≤ 1048576)
def OpenSpec.upto (s : _root_.Go.ChangeSpec) : _root_.Go.OpenSpec := { _root_.Go.OpenSpec.ofChange s with cond := some uptoSmall }

/-- 'pharoslaw14.LightBegins', WHERE WHAT IT READS IS OF BULK AT MOST 1048576: true; the input reads as it did. -/
def lightBeginsUptoRow : OpenClaim := { program := "ytoddangedbefgaagreatdoor", sum := "b9ff5ed6775be1372ac26f5adb05133405316fef13a0485197414b0b56bf7995", func := "pharos/pharoslaw14.LightBegins", spec := "lightBegins", inPlace := ["internal/abi.NoEscape", "internal/bytealg.MakeNoZero"], unfollowed := true, recurses := true, named := ["pharos/sha.squareRoots", "pharos/sha.cubeRoots", "pharos/sign.inf", "pharos/curve.inf", "pharos/sign.generator", "pharos/pair.inf", "pharos/pair.one"], apart := false, laid := [("pharos/curve.inf", laid_pharos_curve_inf), ("pharos/pair.inf", laid_pharos_pair_inf), ("pharos/pair.one", laid_pharos_pair_one), ("pharos/sha.cubeRoots", laid_pharos_sha_cubeRoots), ("pharos/sha.squareRoots", laid_pharos_sha_squareRoots), ("pharos/sign.generator", laid_pharos_sign_generator), ("pharos/sign.inf", laid_pharos_sign_inf)], narrowed := true }
def LightBeginsUptoSaid : Prop := lightBeginsUptoRow.holds Tryz.pinned (OpenSpec.upto lightBeginsSpec)

/-- 'pharoslaw14.LightChecks', WHERE WHAT IT READS IS OF BULK AT MOST 1048576: true; the input reads as it did. -/
def lightChecksUptoRow : OpenClaim := { program := "ytoddangedbefgaagreatdoor", sum := "b9ff5ed6775be1372ac26f5adb05133405316fef13a0485197414b0b56bf7995", func := "pharos/pharoslaw14.LightChecks", spec := "lightChecks", inPlace := ["internal/abi.NoEscape", "internal/bytealg.MakeNoZero"], unfollowed := true, recurses := true, named := ["pharos/sha.squareRoots", "pharos/sha.cubeRoots", "pharos/sign.inf", "pharos/curve.inf", "pharos/sign.generator", "pharos/pair.inf", "pharos/pair.one"], apart := false, laid := [("pharos/curve.inf", laid_pharos_curve_inf), ("pharos/pair.inf", laid_pharos_pair_inf), ("pharos/pair.one", laid_pharos_pair_one), ("pharos/sha.cubeRoots", laid_pharos_sha_cubeRoots), ("pharos/sha.squareRoots", laid_pharos_sha_squareRoots), ("pharos/sign.generator", laid_pharos_sign_generator), ("pharos/sign.inf", laid_pharos_sign_inf)], narrowed := true }
def LightChecksUptoSaid : Prop := lightChecksUptoRow.holds Tryz.pinned (OpenSpec.upto lightChecksSpec)

/-- 'pharoslaw14.LightBetter', WHERE WHAT IT READS IS OF BULK AT MOST 1048576: true; the input reads as it did. -/
def lightBetterUptoRow : OpenClaim := { program := "ytoddangedbefgaagreatdoor", sum := "b9ff5ed6775be1372ac26f5adb05133405316fef13a0485197414b0b56bf7995", func := "pharos/pharoslaw14.LightBetter", spec := "lightBetter", inPlace := ["internal/abi.NoEscape", "internal/bytealg.MakeNoZero"], unfollowed := true, recurses := true, named := ["pharos/sha.squareRoots", "pharos/sha.cubeRoots", "pharos/sign.inf", "pharos/curve.inf", "pharos/sign.generator", "pharos/pair.inf", "pharos/pair.one"], apart := false, laid := [("pharos/curve.inf", laid_pharos_curve_inf), ("pharos/pair.inf", laid_pharos_pair_inf), ("pharos/pair.one", laid_pharos_pair_one), ("pharos/sha.cubeRoots", laid_pharos_sha_cubeRoots), ("pharos/sha.squareRoots", laid_pharos_sha_squareRoots), ("pharos/sign.generator", laid_pharos_sign_generator), ("pharos/sign.inf", laid_pharos_sign_inf)], narrowed := true }
def LightBetterUptoSaid : Prop := lightBetterUptoRow.holds Tryz.pinned (OpenSpec.upto lightBetterSpec)

/-- 'pharoslaw14.LightApplies', WHERE WHAT IT READS IS OF BULK AT MOST 1048576: true; the input reads as it did. -/
def lightAppliesUptoRow : OpenClaim := { program := "ytoddangedbefgaagreatdoor", sum := "b9ff5ed6775be1372ac26f5adb05133405316fef13a0485197414b0b56bf7995", func := "pharos/pharoslaw14.LightApplies", spec := "lightApplies", inPlace := ["internal/abi.NoEscape", "internal/bytealg.MakeNoZero"], unfollowed := true, recurses := true, named := ["pharos/sha.squareRoots", "pharos/sha.cubeRoots", "pharos/sign.inf", "pharos/curve.inf", "pharos/sign.generator", "pharos/pair.inf", "pharos/pair.one"], apart := false, laid := [("pharos/curve.inf", laid_pharos_curve_inf), ("pharos/pair.inf", laid_pharos_pair_inf), ("pharos/pair.one", laid_pharos_pair_one), ("pharos/sha.cubeRoots", laid_pharos_sha_cubeRoots), ("pharos/sha.squareRoots", laid_pharos_sha_squareRoots), ("pharos/sign.generator", laid_pharos_sign_generator), ("pharos/sign.inf", laid_pharos_sign_inf)], narrowed := true }
def LightAppliesUptoSaid : Prop := lightAppliesUptoRow.holds Tryz.pinned (OpenSpec.upto lightAppliesSpec)

/-- 'pharoslaw14.LightForces', WHERE WHAT IT READS IS OF BULK AT MOST 1048576: true; the input reads as it did. -/
def lightForcesUptoRow : OpenClaim := { program := "ytoddangedbefgaagreatdoor", sum := "b9ff5ed6775be1372ac26f5adb05133405316fef13a0485197414b0b56bf7995", func := "pharos/pharoslaw14.LightForces", spec := "lightForces", inPlace := ["internal/abi.NoEscape", "internal/bytealg.MakeNoZero"], unfollowed := true, recurses := true, named := ["pharos/sha.squareRoots", "pharos/sha.cubeRoots", "pharos/sign.inf", "pharos/curve.inf", "pharos/sign.generator", "pharos/pair.inf", "pharos/pair.one"], apart := false, laid := [("pharos/curve.inf", laid_pharos_curve_inf), ("pharos/pair.inf", laid_pharos_pair_inf), ("pharos/pair.one", laid_pharos_pair_one), ("pharos/sha.cubeRoots", laid_pharos_sha_cubeRoots), ("pharos/sha.squareRoots", laid_pharos_sha_squareRoots), ("pharos/sign.generator", laid_pharos_sign_generator), ("pharos/sign.inf", laid_pharos_sign_inf)], narrowed := true }
def LightForcesUptoSaid : Prop := lightForcesUptoRow.holds Tryz.pinned (OpenSpec.upto lightForcesSpec)

/-- 'pharoslaw14.LightSteps', WHERE WHAT IT READS IS OF BULK AT MOST 1048576: true; the input reads as it did. -/
def lightStepsUptoRow : OpenClaim := { program := "ytoddangedbefgaagreatdoor", sum := "b9ff5ed6775be1372ac26f5adb05133405316fef13a0485197414b0b56bf7995", func := "pharos/pharoslaw14.LightSteps", spec := "lightSteps", inPlace := ["internal/abi.NoEscape", "internal/bytealg.MakeNoZero"], unfollowed := true, recurses := true, named := ["pharos/sha.squareRoots", "pharos/sha.cubeRoots", "pharos/sign.inf", "pharos/curve.inf", "pharos/sign.generator", "pharos/pair.inf", "pharos/pair.one"], apart := false, laid := [("pharos/curve.inf", laid_pharos_curve_inf), ("pharos/pair.inf", laid_pharos_pair_inf), ("pharos/pair.one", laid_pharos_pair_one), ("pharos/sha.cubeRoots", laid_pharos_sha_cubeRoots), ("pharos/sha.squareRoots", laid_pharos_sha_squareRoots), ("pharos/sign.generator", laid_pharos_sign_generator), ("pharos/sign.inf", laid_pharos_sign_inf)], narrowed := true }
def LightStepsUptoSaid : Prop := lightStepsUptoRow.holds Tryz.pinned (OpenSpec.upto lightStepsSpec)

end Rows
end Go.Proofs.YtoddangedbefgaaGreatDoor
