/- Lemmas: Trees of chunks, said plainly: levels, what stands behind, branches, climbing. No condition. -/
import Derived.Test.YtoddangedbefgabGreatDoorM1
import Derived.Test.YtoddangedbefgabGreatDoorM10
import Derived.Test.YtoddangedbefgabGreatDoorM11
import Derived.Test.YtoddangedbefgabGreatDoorM12
import Derived.Test.YtoddangedbefgabGreatDoorM13
import Derived.Test.YtoddangedbefgabGreatDoorM16
import Derived.Test.YtoddangedbefgabGreatDoorM17
import Derived.Test.YtoddangedbefgabGreatDoorM3
import Derived.Test.YtoddangedbefgabGreatDoorM5
import Derived.Test.YtoddangedbefgabGreatDoorM8
import Derived.Test.YtoddangedbefgabGreatDoorM9
import Derived.Test.YtoddangedbefgabGreatDoorRows
namespace Go.Proofs.YtoddangedbefgabGreatDoor
open Go.RowKit Go.Sort

def z32 : ByteArray := ⟨#[0, 0, 0, 0, 0, 0, 0, 0, 0, 0, 0, 0, 0, 0, 0, 0, 0, 0, 0, 0, 0, 0, 0, 0, 0, 0, 0, 0, 0, 0, 0, 0]⟩
def hs (x y : ByteArray) : ByteArray := sumOf (x ++ y)
theorem hs_size (x y : ByteArray) : (hs x y).size = 32 := sum_size _
theorem join_pair (x y : ByteArray) : joinOf [x, y] = x ++ y := by
 have h : (joinOf [x, y]).data.toList = (x ++ y).data.toList := by simp [joinOf, Lib.join]
 have h2 : (joinOf [x, y]).data = (x ++ y).data := Array.toList_inj.1 h
 cases hj : joinOf [x, y]
 cases hk : x ++ y
 rw [hj, hk] at h2
 exact congrArg ByteArray.mk h2
def zr : Nat → ByteArray
 | 0 => z32
 | k + 1 => hs (zr k) (zr k)
def lf (f : Nat → ByteArray) : Nat → Nat → ByteArray
 | 0, i => f i
 | k + 1, i => hs (lf f k (2 * i)) (lf f k (2 * i + 1))
def lvs (xs : List ByteArray) (i : Nat) : ByteArray := xs.getD i z32
def ln (n : Nat) : Nat → Nat
 | 0 => n
 | k + 1 => (ln n k + 1) / 2
theorem lvs_size (xs : List ByteArray) (h : ∀ x ∈ xs, x.size = 32) (i : Nat) : (lvs xs i).size = 32 := by
 unfold lvs
 rw [List.getD_eq_getElem?_getD]
 cases hx : xs[i]? with
 | none => rfl
 | some x => exact h x (List.mem_of_getElem? hx)
theorem lf_size (f : Nat → ByteArray) (h : ∀ i, (f i).size = 32) : ∀ k i, (lf f k i).size = 32
 | 0, i => h i
 | _ + 1, _ => hs_size _ _
theorem zr_size : ∀ k, (zr k).size = 32
 | 0 => rfl
 | _ + 1 => hs_size _ _
def brF (f : Nat → ByteArray) (i : Nat) : Nat → Nat → List ByteArray
 | _, 0 => []
 | k, d + 1 => lf f k (i / 2 ^ k + 1 - 2 * (i / 2 ^ k % 2)) :: brF f i (k + 1) d
theorem brF_len (f : Nat → ByteArray) (i : Nat) : ∀ k d, (brF f i k d).length = d
 | _, 0 => rfl
 | k, d + 1 => by rw [brF, List.length_cons, brF_len f i (k + 1) d]
def clF (i : Nat) : Nat → ByteArray → List ByteArray → ByteArray
 | _, x, [] => x
 | k, x, y :: r => clF i (k + 1) (if i / 2 ^ k % 2 = 0 then hs x y else hs y x) r
theorem clF_snoc (i : Nat) (y : ByteArray) : ∀ (r : List ByteArray) (k : Nat) (x : ByteArray), clF i k x (r ++ [y]) = if i / 2 ^ (k + r.length) % 2 = 0 then hs (clF i k x r) y else hs y (clF i k x r)
 | [], k, x => rfl
 | z :: r, k, x => by
  show clF i (k + 1) _ (r ++ [y]) = _
  rw [clF_snoc i y r (k + 1), List.length_cons, show k + 1 + r.length = k + (r.length + 1) by omega]
  rfl
theorem clF_size (i : Nat) : ∀ (r : List ByteArray) (k : Nat) (x : ByteArray), x.size = 32 → (clF i k x r).size = 32
 | [], _, _, h => h
 | y :: r, k, x, _ => by
  rw [clF]
  split <;> exact clF_size i r (k + 1) _ (hs_size _ _)
def rt8 (xs : List ByteArray) (d : Int) : Bool := decide (0 ≤ d ∧ d ≤ 10 ∧ xs.length ≤ 2 ^ d.toNat ∧ xs.length ≤ 256 ∧ ∀ x ∈ xs, x.size = 32)
theorem rt8_iff (xs : List ByteArray) (d : Int) : rt8 xs d = true ↔ 0 ≤ d ∧ d ≤ 10 ∧ xs.length ≤ 2 ^ d.toNat ∧ xs.length ≤ 256 ∧ ∀ x ∈ xs, x.size = 32 := decide_eq_true_iff
theorem ln_le : ∀ (n k : Nat), ln n k ≤ n
 | _, 0 => Nat.le_refl _
 | n, k + 1 => by
  have := ln_le n k
  show (ln n k + 1) / 2 ≤ n
  omega
end Go.Proofs.YtoddangedbefgabGreatDoor
