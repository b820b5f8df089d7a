/- Lemmas: Bytes as a number: what Value answers, the program's and the document's. No condition. -/
import Derived.Test.YtbpcciifaekffaaGreatDoorM1
import Derived.Test.YtbpcciifaekffaaGreatDoorM6
import Derived.Test.YtbpcciifaekffaaGreatDoorRows
import Derived.BigQuiet
import Derived.Laws.Closers25
namespace Go.Proofs.YtbpcciifaekffaaGreatDoor
open Go.RowKit Go.Sort

theorem ofInt_nat64 (x : Nat) (hx : x < 18446744073709551616) : (BitVec.ofInt 64 (x : Int)).toNat = x := by
  rw [BitVec.toNat_ofInt]
  omega
theorem or_nat64 (x y : Nat) (hx : x < 18446744073709551616) (hy : y < 18446744073709551616) : bits .or .u64 (x : Int) (y : Int) = ((x ||| y : Nat) : Int) := by
  have h : (x ||| y) < 2 ^ 64 := Nat.or_lt_two_pow hx hy
  have e : bits .or .u64 (x : Int) (y : Int) = IntKind.u64.wrap (((BitVec.ofInt 64 (x : Int)) ||| (BitVec.ofInt 64 (y : Int))).toNat : Int) := rfl
  rw [e, BitVec.toNat_or, ofInt_nat64 x hx, ofInt_nat64 y hy, IntKind.wrap_u64]
  omega
set_option maxRecDepth 20000 in
theorem or_byte (x y : Nat) (hy : y < 256) (h : x * 256 + y < 18446744073709551616) : bits .or .u64 ((x * 256 : Nat) : Int) (y : Int) = ((x * 256 + y : Nat) : Int) := by
  refine (or_nat64 (x * 256) y (by omega) (by omega)).trans ?_
  have := Nat.shiftLeft_add_eq_or_of_lt (show y < 2 ^ 8 from hy) x
  rw [Nat.shiftLeft_eq] at this
  rw [this]
/-- The number of the first bytes. -/
def val (s : ByteArray) : Nat → Nat
  | 0 => 0
  | k + 1 => val s k * 256 + (bt s k).toNat
theorem val_lt (s : ByteArray) : ∀ k, val s k < 256 ^ k
  | 0 => by show 0 < 1; decide
  | k + 1 => by
    have h := val_lt s k
    have hb := bt_bd s k
    rw [val, Nat.pow_succ]
    have : (bt s k).toNat < 256 := by omega
    omega
theorem val_8 (s : ByteArray) (k : Nat) (hk : k ≤ 7) : val s k < 72057594037927936 :=
  Nat.lt_of_lt_of_le (val_lt s k) (by
    have : 256 ^ k ≤ 256 ^ 7 := Nat.pow_le_pow_right (by decide) hk
    exact Nat.le_trans this (by decide))
/-- Are bytes a number's? -/
def vGood (s : ByteArray) : Bool := decide (s.size ≤ 8) && (decide (s.size = 0) || decide (bt s 0 ≠ 0))
def vN (s : ByteArray) : Nat := if vGood s then val s s.size else 0
def vE (s : ByteArray) : Int := if vGood s then 0 else 40
theorem ne_empty (s : ByteArray) (h : 0 < s.size) : s.toList.isEmpty = false := by
  rw [← decide_eq_emptyBytes s]
  exact decide_eq_false fun e => by rw [e] at h; exact absurd h (by decide)
theorem is_empty (s : ByteArray) (h : s.size = 0) : s = ⟨#[]⟩ := ext_bt _ _ h (fun j hj => absurd hj (by omega))

--[R4
--R4]
end Go.Proofs.YtbpcciifaekffaaGreatDoor
