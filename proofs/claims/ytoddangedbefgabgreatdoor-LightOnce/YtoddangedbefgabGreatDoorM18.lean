/- Lemmas: Trees of chunks, said plainly: levels, what stands behind, branches, climbing. No condition. The reference's Sum, at this translation. -/
import Derived.Test.YtoddangedbefgabGreatDoorM1
import Derived.Test.YtoddangedbefgabGreatDoorM10
import Derived.Test.YtoddangedbefgabGreatDoorM11
import Derived.Test.YtoddangedbefgabGreatDoorM12
import Derived.Test.YtoddangedbefgabGreatDoorM13
import Derived.Test.YtoddangedbefgabGreatDoorM16
import Derived.Test.YtoddangedbefgabGreatDoorM17
import Derived.Test.YtoddangedbefgabGreatDoorM3
import Derived.Test.YtoddangedbefgabGreatDoorM5
import Derived.Test.YtoddangedbefgabGreatDoorM8
import Derived.Test.YtoddangedbefgabGreatDoorM9
import Derived.Test.YtoddangedbefgabGreatDoorRows
namespace Go.Proofs.YtoddangedbefgabGreatDoor
open Go.RowKit Go.Sort

def z32 : ByteArray := ⟨#[0, 0, 0, 0, 0, 0, 0, 0, 0, 0, 0, 0, 0, 0, 0, 0, 0, 0, 0, 0, 0, 0, 0, 0, 0, 0, 0, 0, 0, 0, 0, 0]⟩
def hs (x y : ByteArray) : ByteArray := sumOf (x ++ y)
theorem hs_size (x y : ByteArray) : (hs x y).size = 32 := sum_size _
theorem join_pair (x y : ByteArray) : joinOf [x, y] = x ++ y := by
 have h : (joinOf [x, y]).data.toList = (x ++ y).data.toList := by simp [joinOf, Lib.join]
 have h2 : (joinOf [x, y]).data = (x ++ y).data := Array.toList_inj.1 h
 cases hj : joinOf [x, y]
 cases hk : x ++ y
 rw [hj, hk] at h2
 exact congrArg ByteArray.mk h2
def zr : Nat → ByteArray
 | 0 => z32
 | k + 1 => hs (zr k) (zr k)
def lf (f : Nat → ByteArray) : Nat → Nat → ByteArray
 | 0, i => f i
 | k + 1, i => hs (lf f k (2 * i)) (lf f k (2 * i + 1))
def lvs (xs : List ByteArray) (i : Nat) : ByteArray := xs.getD i z32
def ln (n : Nat) : Nat → Nat
 | 0 => n
 | k + 1 => (ln n k + 1) / 2
theorem lvs_size (xs : List ByteArray) (h : ∀ x ∈ xs, x.size = 32) (i : Nat) : (lvs xs i).size = 32 := by
 unfold lvs
 rw [List.getD_eq_getElem?_getD]
 cases hx : xs[i]? with
 | none => rfl
 | some x => exact h x (List.mem_of_getElem? hx)
theorem lf_size (f : Nat → ByteArray) (h : ∀ i, (f i).size = 32) : ∀ k i, (lf f k i).size = 32
 | 0, i => h i
 | _ + 1, _ => hs_size _ _
theorem zr_size : ∀ k, (zr k).size = 32
 | 0 => rfl
 | _ + 1 => hs_size _ _
def brF (f : Nat → ByteArray) (i : Nat) : Nat → Nat → List ByteArray
 | _, 0 => []
 | k, d + 1 => lf f k (i / 2 ^ k + 1 - 2 * (i / 2 ^ k % 2)) :: brF f i (k + 1) d
theorem brF_len (f : Nat → ByteArray) (i : Nat) : ∀ k d, (brF f i k d).length = d
 | _, 0 => rfl
 | k, d + 1 => by rw [brF, List.length_cons, brF_len f i (k + 1) d]
def clF (i : Nat) : Nat → ByteArray → List ByteArray → ByteArray
 | _, x, [] => x
 | k, x, y :: r => clF i (k + 1) (if i / 2 ^ k % 2 = 0 then hs x y else hs y x) r
theorem clF_snoc (i : Nat) (y : ByteArray) : ∀ (r : List ByteArray) (k : Nat) (x : ByteArray), clF i k x (r ++ [y]) = if i / 2 ^ (k + r.length) % 2 = 0 then hs (clF i k x r) y else hs y (clF i k x r)
 | [], k, x => rfl
 | z :: r, k, x => by
  show clF i (k + 1) _ (r ++ [y]) = _
  rw [clF_snoc i y r (k + 1), List.length_cons, show k + 1 + r.length = k + (r.length + 1) by omega]
  rfl
theorem clF_size (i : Nat) : ∀ (r : List ByteArray) (k : Nat) (x : ByteArray), x.size = 32 → (clF i k x r).size = 32
 | [], _, _, h => h
 | y :: r, k, x, _ => by
  rw [clF]
  split <;> exact clF_size i r (k + 1) _ (hs_size _ _)
def rt8 (xs : List ByteArray) (d : Int) : Bool := decide (0 ≤ d ∧ d ≤ 10 ∧ xs.length ≤ 2 ^ d.toNat ∧ xs.length ≤ 256 ∧ ∀ x ∈ xs, x.size = 32)
theorem rt8_iff (xs : List ByteArray) (d : Int) : rt8 xs d = true ↔ 0 ≤ d ∧ d ≤ 10 ∧ xs.length ≤ 2 ^ d.toNat ∧ xs.length ≤ 256 ∧ ∀ x ∈ xs, x.size = 32 := decide_eq_true_iff
theorem ln_le : ∀ (n k : Nat), ln n k ≤ n
 | _, 0 => Nat.le_refl _
 | n, k + 1 => by
  have := ln_le n k
  show (ln n k + 1) / 2 ≤ n
  omega
end Go.Proofs.YtoddangedbefgabGreatDoor
namespace Go.Proofs.YtoddangedbefgabGreatDoor
open Go.RowKit Go.Sort


structure JS (V : World) (z m : Nat) (y d0 d1 d2 d3 : Int) (u6 : Value) (S : Nat → Bool) (x28 x29 x30 x31 x32 x33 x34 x35 x36 x37 x38 x39 x40 x41 x42 x43 x44 x45 x46 x47 x48 : Value) (W : World) : Prop where
 e : Below V.heap.size V W
 f0 : S 0 = true → x28 = u6
 f1 : S 1 = true → x29 = .int .i64 (m : Int)
 f2 : S 2 = true → x30 = .pointer (some ⟨z, m, none⟩)
 f3 : S 3 = true → x31 = .int .u32 y
 f4 : S 4 = true → x32 = .int .u32 (y / 16777216)
 f5 : S 5 = true → x33 = .int .u8 d0
 f6 : S 6 = true → x34 = .int .i64 (m : Int)
 f7 : S 7 = true → x35 = .pointer (some ⟨z, m, none⟩)
 f8 : S 8 = true → x36 = .int .u32 y
 f9 : S 9 = true → x37 = .int .u32 (y / 65536)
 f10 : S 10 = true → x38 = .int .u8 d1
 f11 : S 11 = true → x39 = .int .i64 (m : Int)
 f12 : S 12 = true → x40 = .pointer (some ⟨z, m, none⟩)
 f13 : S 13 = true → x41 = .int .u32 y
 f14 : S 14 = true → x42 = .int .u32 (y / 256)
 f15 : S 15 = true → x43 = .int .u8 d2
 f16 : S 16 = true → x44 = .int .i64 (m : Int)
 f17 : S 17 = true → x45 = .pointer (some ⟨z, m, none⟩)
 f18 : S 18 = true → x46 = .int .u32 y
 f19 : S 19 = true → x47 = .int .u8 d3
 f20 : S 20 = true → ∃ q, x48 = .slice (some ⟨q, 0, none⟩) 4 4 ∧ V.heap.size ≤ q ∧ q < W.heap.size ∧ ∀ j u, [Value.int .u8 d0, .int .u8 d1, .int .u8 d2, .int .u8 d3][j]? = some u → W.cell? ((⟨q, 0, none⟩ : Addr).add j) = some u
theorem JS.grow {V : World} {z m : Nat} {y d0 d1 d2 d3 : Int} {u6 : Value} {S : Nat → Bool} {x28 x29 x30 x31 x32 x33 x34 x35 x36 x37 x38 x39 x40 x41 x42 x43 x44 x45 x46 x47 x48 : Value} {W W' : World} (h : JS V z m y d0 d1 d2 d3 u6 S x28 x29 x30 x31 x32 x33 x34 x35 x36 x37 x38 x39 x40 x41 x42 x43 x44 x45 x46 x47 x48 W) (hb : Below W.heap.size W W') : JS V z m y d0 d1 d2 d3 u6 S x28 x29 x30 x31 x32 x33 x34 x35 x36 x37 x38 x39 x40 x41 x42 x43 x44 x45 x46 x47 x48 W' :=
 ⟨belowStep h.e h.e.size hb, h.f0, h.f1, h.f2, h.f3, h.f4, h.f5, h.f6, h.f7, h.f8, h.f9, h.f10, h.f11, h.f12, h.f13, h.f14, h.f15, h.f16, h.f17, h.f18, h.f19, fun s => (h.f20 s).imp fun _ ⟨j1, j0, j2, j3⟩ => ⟨j1, j0, Nat.lt_of_lt_of_le j2 hb.size, fun j u hj => (hb.cell (p := Addr.add ⟨_, 0, none⟩ j) (by rw [Addr.add_mid]; exact j2)).trans (j3 j u hj)⟩⟩

end Go.Proofs.YtoddangedbefgabGreatDoor
