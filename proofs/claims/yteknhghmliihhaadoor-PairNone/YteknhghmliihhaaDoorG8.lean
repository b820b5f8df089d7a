/- What the program's Inv, Root do. No condition. -/
import Derived.Test.YteknhghmliihhaaDoorG7
namespace Go.Proofs.YteknhghmliihhaaDoor
open Go.RowKit Go.Shelf Go.Sort

set_option maxHeartbeats 2000000 in
theorem inv_any (a : Nat) (ha : U64 a) (w : World) :
    Calls Tryd.prog 59 #[.int .u64 a] w fun e w' => e = .returned (.int .u64 (ivN a : Nat)) ∧ Below w.heap.size w w' := by
  go_enter Tryd.func59, Tryd.ntmps59
  go_wp2_with fail
  refine (pow_any a 2147482865 ha (by unfold U64; omega) _).mono ?_
  rintro e w1 ⟨rfl, B1⟩
  go_wp2_with fail
  go_ret
  exact ⟨rfl, B1⟩

end Go.Proofs.YteknhghmliihhaaDoor
