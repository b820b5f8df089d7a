/- What the reference's Inv, Root, Mul2, Pow2, Inv2 do. No condition. -/
import Derived.Test.YtlcdlegdnibcaaaDoorG3
import Derived.Test.YtlcdlegdnibcaaaDoorTail3
namespace Go.Proofs.YtlcdlegdnibcaaaDoor
open Go.RowKit Go.Sort

set_option maxHeartbeats 2000000 in
theorem rinv_any (a : Nat) (ha : U64 a) (w : World) :
    Calls Tryd.prog 50 #[.int .u64 a] w fun e w' => e = .returned (.int .u64 (ivN a : Nat)) ∧ Below w.heap.size w w' := by
  go_enter Tryd.func50, Tryd.ntmps50
  go_wp2_with fail
  refine (rpow_any a 2147482865 ha (by unfold U64; omega) _).mono ?_
  rintro e w1 ⟨rfl, B1⟩
  go_wp2_with fail
  go_ret
  exact ⟨rfl, B1⟩

abbrev vP (a : P2) : Value := .agg #[.int .u64 (a.A : Int), .int .u64 (a.B : Int)]
abbrev UP (a : P2) : Prop := U64 a.A ∧ U64 a.B
theorem m2_u (a b : P2) : UP (m2 a b) := ⟨pm_u _ (m2_lt a b).1, pm_u _ (m2_lt a b).2⟩
theorem q2_u (a : P2) (n : Nat) : UP (q2 a n) := ⟨pm_u _ (q2_lt a n).1, pm_u _ (q2_lt a n).2⟩

end Go.Proofs.YtlcdlegdnibcaaaDoor
