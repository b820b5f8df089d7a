/- Words of 32 bits turned: what RotateLeft32, turnRight and the four sums of turned words do at this translation. -/
import Derived.Test.YtmemfdpfbeijeabDoorSArr
namespace Go.Proofs.YtmemfdpfbeijeabDoor
open Go.RowKit Go.Sort

/-- A word turned right, as it is reckoned. -/
def ror (x : Int) (k : Nat) : Int := bits .or .u32 (x * 2 ^ (32 - k) % 4294967296) (x / 2 ^ k)
abbrev xr (x y : Int) : Int := bits .xor .u32 x y
abbrev an (x y : Int) : Int := bits .and .u32 x y

theorem and_31 (k : Nat) (h1 : 1 ≤ k) (hk : k < 32) : bits .and .u64 (18446744073709551616 - (k : Int)) 31 = ((32 - k : Nat) : Int) := by
  have e : ∀ j : Fin 32, 1 ≤ j.val → bits .and .u64 (18446744073709551616 - ((j.val : Nat) : Int)) 31 = ((32 - j.val : Nat) : Int) := by decide +kernel
  exact e ⟨k, hk⟩ h1

set_option maxRecDepth 20000 in
set_option maxHeartbeats 4000000 in
theorem rotl_any (x : Int) (k : Nat) (h1 : 1 ≤ k) (hk : k < 32) (w : World) :
    Calls Tryd.prog 54 #[.int .u32 x, .int .i64 (-(k : Int))] w fun e w' =>
      e = .returned (.int .u32 (ror x k)) ∧ Below w.heap.size w w' := by
  obtain ⟨q, hq⟩ : ∃ q : Int, 18446744073709551616 - (k : Int) = q := ⟨_, rfl⟩
  obtain ⟨m, hm⟩ : ∃ m : Nat, 32 - k = m := ⟨_, rfl⟩
  have w1 : IntKind.u64.wrap (-(k : Int)) = q := by rw [IntKind.wrap_u64]; omega
  have ha : bits .and .u64 q 31 = m := by rw [← hq, ← hm]; exact and_31 k h1 hk
  have w2 : IntKind.u64.wrap (32 - (m : Int)) = k := by rw [IntKind.wrap_u64]; omega
  have w3 : IntKind.u64.wrap (m : Int) = m := by rw [IntKind.wrap_u64]; omega
  have w4 : IntKind.u64.wrap (k : Int) = k := by rw [IntKind.wrap_u64]; omega
  have l1 : (k : Int) ≤ 64 := by omega
  have l2 : (m : Int) ≤ 64 := by omega
  have z1 : 0 ≤ (k : Int) := by omega
  have z2 : 0 ≤ (m : Int) := by omega
  have hmm : min m 32 = m := by omega
  have HM : Hid (32 - k = m) := hm
  clear hm hq
  go_enter Tryd.func54, Tryd.ntmps54
  go_wp2
  go_ret
  exact ⟨by rw [ror, HM.out]; rfl, Below.refl _ _⟩

set_option maxHeartbeats 4000000 in
theorem turn_any (x : Int) (k : Nat) (h1 : 1 ≤ k) (hk : k < 32) (w : World) :
    Calls Tryd.prog 48 #[.int .u32 x, .int .i64 k] w fun e w' =>
      e = .returned (.int .u32 (ror x k)) ∧ Below w.heap.size w w' := by
  have w1 : IntKind.i64.wrap (-(k : Int)) = -(k : Int) := by rw [IntKind.wrap_i64]; omega
  have HC : Hid (∀ w : World, _) := fun w : World => rotl_any x k h1 hk w
  clear h1 hk
  go_enter Tryd.func48, Tryd.ntmps48
  go_wp2_with fail
  refine (HC.out _).mono ?_
  rintro e w1 ⟨rfl, B1⟩
  clear HC
  go_wp2
  go_ret
  exact ⟨rfl, B1⟩
end Go.Proofs.YtmemfdpfbeijeabDoor
