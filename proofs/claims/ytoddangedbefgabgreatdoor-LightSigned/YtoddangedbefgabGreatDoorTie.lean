/-
  DERIVED. GIVEN WITH THE SEED: THE PROGRAM's TIES (one call each: nine closed facts by the kernel) AND EACH ROW's TIE, after the 31st guide's Derived/Test/Toyas{Tie, Card}.lean. No idea stands in it: it is a product of the set-up. Laid BY PROGRAM, IN A SANDBOX (cutbox-door.mjs). By AI agents, Wed Nov 11 2026. No macro, syntax, notation, axiom, sorry.
-/
import Derived.Test.YtoddangedbefgabGreatDoorRows
import Derived.LaidByTextLater
import Derived.SevenTiedAt
import Derived.LaidSub
import Derived.LaidOnce
namespace Go.Proofs.YtoddangedbefgabGreatDoor
open Go
set_option maxRecDepth 100000
theorem seatTie1 : Tryz.prog.laidByTextLater [("pharos/curve.inf", Rows.laid_pharos_curve_inf), ("pharos/pair.inf", Rows.laid_pharos_pair_inf), ("pharos/pair.one", Rows.laid_pharos_pair_one), ("pharos/sha.cubeRoots", Rows.laid_pharos_sha_cubeRoots), ("pharos/sha.squareRoots", Rows.laid_pharos_sha_squareRoots), ("pharos/sign.generator", Rows.laid_pharos_sign_generator), ("pharos/sign.inf", Rows.laid_pharos_sign_inf)] [.data, .data, .data, .data, .data, .data, .data] true :=
  Program.laidByTextLater_by_one 44 8 65 (by kernel_rfl) (by kernel_rfl) (by kernel_rfl) (by kernel_rfl) (by kernel_rfl) (by kernel_rfl) (fun _ _ => by kernel_rfl)
theorem noOwnUnsafe : Tryz.pinned.checked.prog.headLifts.contains "ownunsafe" = false := by kernel_rfl
theorem tie : Tryz.prog.laidByTextLater [("pharos/curve.inf", Rows.laid_pharos_curve_inf), ("pharos/pair.inf", Rows.laid_pharos_pair_inf), ("pharos/pair.one", Rows.laid_pharos_pair_one), ("pharos/sha.cubeRoots", Rows.laid_pharos_sha_cubeRoots), ("pharos/sha.squareRoots", Rows.laid_pharos_sha_squareRoots), ("pharos/sign.generator", Rows.laid_pharos_sign_generator), ("pharos/sign.inf", Rows.laid_pharos_sign_inf)] [.data, .data, .data, .data, .data, .data, .data] true :=
  Program.laidByTextLater.sub seatTie1 ["pharos/curve.inf", "pharos/pair.inf", "pharos/pair.one", "pharos/sha.cubeRoots", "pharos/sha.squareRoots", "pharos/sign.generator", "pharos/sign.inf"] (by kernel_rfl) (by kernel_rfl)
theorem lightOrder_row_tie : Rows.lightOrderRow.laidByTextAt .later Tryz.pinned [.data, .data, .data, .data, .data, .data, .data] true :=
  OpenClaim.laidByTextAt_later rfl rfl tie noOwnUnsafe
theorem lightSees_row_tie : Rows.lightSeesRow.laidByTextAt .later Tryz.pinned [.data, .data, .data, .data, .data, .data, .data] true :=
  OpenClaim.laidByTextAt_later rfl rfl tie noOwnUnsafe
theorem lightSigned_row_tie : Rows.lightSignedRow.laidByTextAt .later Tryz.pinned [.data, .data, .data, .data, .data, .data, .data] true :=
  OpenClaim.laidByTextAt_later rfl rfl tie noOwnUnsafe
theorem lightOnce_row_tie : Rows.lightOnceRow.laidByTextAt .later Tryz.pinned [.data, .data, .data, .data, .data, .data, .data] true :=
  OpenClaim.laidByTextAt_later rfl rfl tie noOwnUnsafe
theorem lightAgrees_row_tie : Rows.lightAgreesRow.laidByTextAt .later Tryz.pinned [.data, .data, .data, .data, .data, .data, .data] true :=
  OpenClaim.laidByTextAt_later rfl rfl tie noOwnUnsafe
theorem lightOrderUpto_row_tie : Rows.lightOrderUptoRow.laidByTextAt .later Tryz.pinned [.data, .data, .data, .data, .data, .data, .data] true :=
  OpenClaim.laidByTextAt_later rfl rfl tie noOwnUnsafe
theorem lightSeesUpto_row_tie : Rows.lightSeesUptoRow.laidByTextAt .later Tryz.pinned [.data, .data, .data, .data, .data, .data, .data] true :=
  OpenClaim.laidByTextAt_later rfl rfl tie noOwnUnsafe
theorem lightSignedUpto_row_tie : Rows.lightSignedUptoRow.laidByTextAt .later Tryz.pinned [.data, .data, .data, .data, .data, .data, .data] true :=
  OpenClaim.laidByTextAt_later rfl rfl tie noOwnUnsafe
theorem lightOnceUpto_row_tie : Rows.lightOnceUptoRow.laidByTextAt .later Tryz.pinned [.data, .data, .data, .data, .data, .data, .data] true :=
  OpenClaim.laidByTextAt_later rfl rfl tie noOwnUnsafe
theorem lightAgreesUpto_row_tie : Rows.lightAgreesUptoRow.laidByTextAt .later Tryz.pinned [.data, .data, .data, .data, .data, .data, .data] true :=
  OpenClaim.laidByTextAt_later rfl rfl tie noOwnUnsafe
end Go.Proofs.YtoddangedbefgabGreatDoor
