/- The reference's turn and spread, at this translation. -/
import Derived.Test.YtmemfdpfbeijeabDoorS4
import Derived.Test.YtmemfdpfbeijeabDoorS6
import Derived.Test.YtmemfdpfbeijeabDoorS3
namespace Go.Proofs.YtmemfdpfbeijeabDoor
open Go.RowKit Go.Sort

theorem or_comm32 (x y : Int) : bits .or .u32 x y = bits .or .u32 y x := by
  unfold bits
  simp only [BitVec.or_comm]
theorem ofInt_nat (x : Nat) (hx : x < 4294967296) : (BitVec.ofInt 32 (x : Int)).toNat = x := by
  rw [BitVec.toNat_ofInt]
  omega
theorem or_nat (x y : Nat) (hx : x < 4294967296) (hy : y < 4294967296) : bits .or .u32 (x : Int) (y : Int) = ((x ||| y : Nat) : Int) := by
  have h : (x ||| y) < 2 ^ 32 := Nat.or_lt_two_pow hx hy
  have e : bits .or .u32 (x : Int) (y : Int) = IntKind.u32.wrap (((BitVec.ofInt 32 (x : Int)) ||| (BitVec.ofInt 32 (y : Int))).toNat : Int) := rfl
  rw [e, BitVec.toNat_or, ofInt_nat x hx, ofInt_nat y hy, IntKind.wrap_u32]
  omega
theorem or_add (x y k : Nat) (hy : y < 2 ^ k) (h : x * 2 ^ k + y < 4294967296) : bits .or .u32 ((x * 2 ^ k : Nat) : Int) (y : Int) = ((x * 2 ^ k + y : Nat) : Int) := by
  rw [or_nat _ _ (by omega) (by omega)]
  have := Nat.shiftLeft_add_eq_or_of_lt hy x
  rw [Nat.shiftLeft_eq] at this
  rw [this]

end Go.Proofs.YtmemfdpfbeijeabDoor
