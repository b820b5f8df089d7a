/-
  DERIVED. GIVEN WITH THE SEED: THE PROGRAM's TIES (one call each: nine closed facts by the kernel) AND EACH ROW's TIE, after the 31st guide's Derived/Test/Toyas{Tie, Card}.lean. No idea stands in it: it is a product of the set-up. Laid BY PROGRAM, IN A SANDBOX (cutbox-door.mjs). By AI agents, Wed Nov 11 2026. No macro, syntax, notation, axiom, sorry.
-/
import Derived.Test.YtoddangedbefgaaGreatDoorRows
import Derived.LaidByTextLater
import Derived.SevenTiedAt
import Derived.LaidSub
import Derived.LaidOnce
namespace Go.Proofs.YtoddangedbefgaaGreatDoor
open Go
set_option maxRecDepth 100000
theorem seatTie1 : Tryz.prog.laidByTextLater [("pharos/curve.inf", Rows.laid_pharos_curve_inf), ("pharos/pair.inf", Rows.laid_pharos_pair_inf), ("pharos/pair.one", Rows.laid_pharos_pair_one), ("pharos/sha.cubeRoots", Rows.laid_pharos_sha_cubeRoots), ("pharos/sha.squareRoots", Rows.laid_pharos_sha_squareRoots), ("pharos/sign.generator", Rows.laid_pharos_sign_generator), ("pharos/sign.inf", Rows.laid_pharos_sign_inf)] [.data, .data, .data, .data, .data, .data, .data] true :=
  Program.laidByTextLater_by_one 44 8 65 (by kernel_rfl) (by kernel_rfl) (by kernel_rfl) (by kernel_rfl) (by kernel_rfl) (by kernel_rfl) (fun _ _ => by kernel_rfl)
theorem noOwnUnsafe : Tryz.pinned.checked.prog.headLifts.contains "ownunsafe" = false := by kernel_rfl
theorem tie : Tryz.prog.laidByTextLater [("pharos/curve.inf", Rows.laid_pharos_curve_inf), ("pharos/pair.inf", Rows.laid_pharos_pair_inf), ("pharos/pair.one", Rows.laid_pharos_pair_one), ("pharos/sha.cubeRoots", Rows.laid_pharos_sha_cubeRoots), ("pharos/sha.squareRoots", Rows.laid_pharos_sha_squareRoots), ("pharos/sign.generator", Rows.laid_pharos_sign_generator), ("pharos/sign.inf", Rows.laid_pharos_sign_inf)] [.data, .data, .data, .data, .data, .data, .data] true :=
  Program.laidByTextLater.sub seatTie1 ["pharos/curve.inf", "pharos/pair.inf", "pharos/pair.one", "pharos/sha.cubeRoots", "pharos/sha.squareRoots", "pharos/sign.generator", "pharos/sign.inf"] (by kernel_rfl) (by kernel_rfl)
theorem lightBegins_row_tie : Rows.lightBeginsRow.laidByTextAt .later Tryz.pinned [.data, .data, .data, .data, .data, .data, .data] true :=
  OpenClaim.laidByTextAt_later rfl rfl tie noOwnUnsafe
theorem lightChecks_row_tie : Rows.lightChecksRow.laidByTextAt .later Tryz.pinned [.data, .data, .data, .data, .data, .data, .data] true :=
  OpenClaim.laidByTextAt_later rfl rfl tie noOwnUnsafe
theorem lightBetter_row_tie : Rows.lightBetterRow.laidByTextAt .later Tryz.pinned [.data, .data, .data, .data, .data, .data, .data] true :=
  OpenClaim.laidByTextAt_later rfl rfl tie noOwnUnsafe
theorem lightApplies_row_tie : Rows.lightAppliesRow.laidByTextAt .later Tryz.pinned [.data, .data, .data, .data, .data, .data, .data] true :=
  OpenClaim.laidByTextAt_later rfl rfl tie noOwnUnsafe
theorem lightForces_row_tie : Rows.lightForcesRow.laidByTextAt .later Tryz.pinned [.data, .data, .data, .data, .data, .data, .data] true :=
  OpenClaim.laidByTextAt_later rfl rfl tie noOwnUnsafe
theorem lightSteps_row_tie : Rows.lightStepsRow.laidByTextAt .later Tryz.pinned [.data, .data, .data, .data, .data, .data, .data] true :=
  OpenClaim.laidByTextAt_later rfl rfl tie noOwnUnsafe
theorem lightBeginsUpto_row_tie : Rows.lightBeginsUptoRow.laidByTextAt .later Tryz.pinned [.data, .data, .data, .data, .data, .data, .data] true :=
  OpenClaim.laidByTextAt_later rfl rfl tie noOwnUnsafe
theorem lightChecksUpto_row_tie : Rows.lightChecksUptoRow.laidByTextAt .later Tryz.pinned [.data, .data, .data, .data, .data, .data, .data] true :=
  OpenClaim.laidByTextAt_later rfl rfl tie noOwnUnsafe
theorem lightBetterUpto_row_tie : Rows.lightBetterUptoRow.laidByTextAt .later Tryz.pinned [.data, .data, .data, .data, .data, .data, .data] true :=
  OpenClaim.laidByTextAt_later rfl rfl tie noOwnUnsafe
theorem lightAppliesUpto_row_tie : Rows.lightAppliesUptoRow.laidByTextAt .later Tryz.pinned [.data, .data, .data, .data, .data, .data, .data] true :=
  OpenClaim.laidByTextAt_later rfl rfl tie noOwnUnsafe
theorem lightForcesUpto_row_tie : Rows.lightForcesUptoRow.laidByTextAt .later Tryz.pinned [.data, .data, .data, .data, .data, .data, .data] true :=
  OpenClaim.laidByTextAt_later rfl rfl tie noOwnUnsafe
theorem lightStepsUpto_row_tie : Rows.lightStepsUptoRow.laidByTextAt .later Tryz.pinned [.data, .data, .data, .data, .data, .data, .data] true :=
  OpenClaim.laidByTextAt_later rfl rfl tie noOwnUnsafe
end Go.Proofs.YtoddangedbefgaaGreatDoor
