/- The first part of the reference's round: the columns. -/
import Derived.Test.YteiadmhododppaaDoorKR2
namespace Go.Proofs.YteiadmhododppaaDoor
open Go.RowKit Go.Sort

/-- A lane that fits. -/
abbrev La (x : Int) : Prop := 0 ≤ x ∧ x < 18446744073709551616
theorem xr_la (x y : Int) : La (xr x y) := by
  have e : xr x y = IntKind.u64.wrap (((BitVec.ofInt 64 x) ^^^ (BitVec.ofInt 64 y)).toNat : Int) := rfl
  rw [e, IntKind.wrap_u64]
  omega
theorem ofInt_wrap (b : BitVec 64) : BitVec.ofInt 64 (IntKind.u64.wrap (b.toNat : Int)) = b := by
  have h : b.toNat < 18446744073709551616 := b.isLt
  apply BitVec.eq_of_toNat_eq
  rw [BitVec.toNat_ofInt, IntKind.wrap_u64]
  omega
theorem xr_assoc (x y z : Int) : xr (xr x y) z = xr x (xr y z) := by
  have e : ∀ a b : Int, xr a b = IntKind.u64.wrap (((BitVec.ofInt 64 a) ^^^ (BitVec.ofInt 64 b)).toNat : Int) := fun _ _ => rfl
  rw [e, e x y, e x, e y z, ofInt_wrap, ofInt_wrap, BitVec.xor_assoc]
theorem xr_zero (x : Int) (h : La x) : xr 0 x = x := by
  have e : xr 0 x = IntKind.u64.wrap (((BitVec.ofInt 64 0) ^^^ (BitVec.ofInt 64 x)).toNat : Int) := rfl
  obtain ⟨n, rfl⟩ := Int.eq_ofNat_of_zero_le h.1
  have hn : n < 18446744073709551616 := by have := h.2; omega
  rw [e, BitVec.toNat_xor, ofInt_nat64 n hn]
  have : (BitVec.ofInt 64 0).toNat = 0 := by decide
  rw [this, Nat.zero_xor, IntKind.wrap_u64]
  omega
/-- A column's lanes, joined one by one. -/
def cpart (f : Nat → Int) (x : Nat) : Nat → Int
  | 0 => 0
  | y + 1 => xr (cpart f x y) (f (x + 5 * y))
theorem cpart_is (f : Nat → Int) (x : Nat) (h : La (f x)) : cpart f x 5 = colOf f x := by
  show xr (xr (xr (xr (xr 0 (f (x + 5 * 0))) (f (x + 5 * 1))) (f (x + 5 * 2))) (f (x + 5 * 3))) (f (x + 5 * 4)) = _
  rw [show x + 5 * 0 = x by omega, xr_zero _ h]
  rfl
end Go.Proofs.YteiadmhododppaaDoor
