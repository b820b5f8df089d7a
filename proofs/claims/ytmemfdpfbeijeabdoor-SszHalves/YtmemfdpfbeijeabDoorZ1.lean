/- Trees of chunks, said plainly: levels, what stands behind, branches, climbing. No condition. -/
import Derived.Test.YtmemfdpfbeijeabDoorZ0
import Derived.Test.YtmemfdpfbeijeabDoorR7
namespace Go.Proofs.YtmemfdpfbeijeabDoor
open Go.RowKit Go.Sort

def z32 : ByteArray := ⟨#[0, 0, 0, 0, 0, 0, 0, 0, 0, 0, 0, 0, 0, 0, 0, 0, 0, 0, 0, 0, 0, 0, 0, 0, 0, 0, 0, 0, 0, 0, 0, 0]⟩
/-- The sum of two texts, one behind the other. -/
def hs (x y : ByteArray) : ByteArray := sumOf (x ++ y)
theorem hs_size (x y : ByteArray) : (hs x y).size = 32 := sum_size _
theorem join_pair (x y : ByteArray) : joinOf [x, y] = x ++ y := by
  have h : (joinOf [x, y]).data.toList = (x ++ y).data.toList := by simp [joinOf, Lib.join]
  have h2 : (joinOf [x, y]).data = (x ++ y).data := Array.toList_inj.1 h
  cases hj : joinOf [x, y]
  cases hk : x ++ y
  rw [hj, hk] at h2
  exact congrArg ByteArray.mk h2
/-- What stands above leaves of zeros. -/
def zr : Nat → ByteArray
  | 0 => z32
  | k + 1 => hs (zr k) (zr k)
/-- What stands at a height, at a place, above leaves. -/
def lf (f : Nat → ByteArray) : Nat → Nat → ByteArray
  | 0, i => f i
  | k + 1, i => hs (lf f k (2 * i)) (lf f k (2 * i + 1))
/-- The leaves of chunks. -/
def lvs (xs : List ByteArray) (i : Nat) : ByteArray := xs.getD i z32
/-- How many of a level are given. -/
def ln (n : Nat) : Nat → Nat
  | 0 => n
  | k + 1 => (ln n k + 1) / 2
theorem lf_out (xs : List ByteArray) : ∀ k i, ln xs.length k ≤ i → lf (lvs xs) k i = zr k
  | 0, i, h => by
    show xs.getD i z32 = z32
    rw [List.getD_eq_getElem?_getD, List.getElem?_eq_none h]
    rfl
  | k + 1, i, h => by
    have h' : (ln xs.length k + 1) / 2 ≤ i := h
    show hs _ _ = hs _ _
    rw [lf_out xs k (2 * i) (by omega), lf_out xs k (2 * i + 1) (by omega)]
theorem lf_ext (f g : Nat → ByteArray) : ∀ k i, (∀ j, i * 2 ^ k ≤ j → j < (i + 1) * 2 ^ k → f j = g j) → lf f k i = lf g k i
  | 0, i, h => h i (by omega) (by omega)
  | k + 1, i, h => by
    have e1 : 2 * i * 2 ^ k = i * 2 ^ (k + 1) := by rw [Nat.pow_succ, Nat.mul_comm 2 i, Nat.mul_assoc, Nat.mul_comm 2]
    have e2 : (2 * i + 1) * 2 ^ k = i * 2 ^ (k + 1) + 2 ^ k := by rw [Nat.add_mul, e1, Nat.one_mul]
    have e3 : (i + 1) * 2 ^ (k + 1) = i * 2 ^ (k + 1) + 2 ^ k + 2 ^ k := by rw [Nat.add_mul, Nat.one_mul, Nat.pow_succ 2 k]; omega
    have e4 : (2 * i + 1 + 1) * 2 ^ k = i * 2 ^ (k + 1) + 2 ^ k + 2 ^ k := by rw [Nat.add_mul, e2, Nat.one_mul]
    show hs _ _ = hs _ _
    rw [lf_ext f g k (2 * i) (fun j h1 h2 => h j (by omega) (by omega)), lf_ext f g k (2 * i + 1) (fun j h1 h2 => h j (by omega) (by omega))]
theorem lf_shift (f : Nat → ByteArray) : ∀ k s i, lf (fun j => f (s * 2 ^ k + j)) k i = lf f k (s + i)
  | 0, s, i => by
    show f (s * 2 ^ 0 + i) = f (s + i)
    rw [Nat.pow_zero, Nat.mul_one]
  | k + 1, s, i => by
    have e : ∀ j, s * 2 ^ (k + 1) + j = 2 * s * 2 ^ k + j := fun j => by rw [Nat.pow_succ, Nat.mul_comm 2 s, Nat.mul_assoc, Nat.mul_comm 2]
    have h : (fun j => f (s * 2 ^ (k + 1) + j)) = fun j => f (2 * s * 2 ^ k + j) := funext fun j => by rw [e]
    show hs _ _ = hs _ _
    rw [h, lf_shift f k (2 * s), lf_shift f k (2 * s), show 2 * s + 2 * i = 2 * (s + i) by omega, show 2 * s + (2 * i + 1) = 2 * (s + i) + 1 by omega]
theorem z32_size : z32.size = 32 := rfl
theorem lvs_size (xs : List ByteArray) (h : ∀ x ∈ xs, x.size = 32) (i : Nat) : (lvs xs i).size = 32 := by
  unfold lvs
  rw [List.getD_eq_getElem?_getD]
  cases hx : xs[i]? with
  | none => rfl
  | some x => exact h x (List.mem_of_getElem? hx)
theorem lf_size (f : Nat → ByteArray) (h : ∀ i, (f i).size = 32) : ∀ k i, (lf f k i).size = 32
  | 0, i => h i
  | _ + 1, _ => hs_size _ _
theorem zr_size : ∀ k, (zr k).size = 32
  | 0 => rfl
  | _ + 1 => hs_size _ _
/-- A leaf's branch, from a height on. -/
def brF (f : Nat → ByteArray) (i : Nat) : Nat → Nat → List ByteArray
  | _, 0 => []
  | k, d + 1 => lf f k (i / 2 ^ k + 1 - 2 * (i / 2 ^ k % 2)) :: brF f i (k + 1) d
theorem brF_len (f : Nat → ByteArray) (i : Nat) : ∀ k d, (brF f i k d).length = d
  | _, 0 => rfl
  | k, d + 1 => by rw [brF, List.length_cons, brF_len f i (k + 1) d]
theorem brF_snoc (f : Nat → ByteArray) (i : Nat) : ∀ k d, brF f i k (d + 1) = brF f i k d ++ [lf f (k + d) (i / 2 ^ (k + d) + 1 - 2 * (i / 2 ^ (k + d) % 2))]
  | k, 0 => rfl
  | k, d + 1 => by
    rw [brF, brF_snoc f i (k + 1) d, brF, show k + 1 + d = k + (d + 1) by omega]
    rfl
theorem brF_mem (f : Nat → ByteArray) (h : ∀ i, (f i).size = 32) (i : Nat) : ∀ k d, ∀ x ∈ brF f i k d, x.size = 32
  | _, 0, x, hx => by cases hx
  | k, d + 1, x, hx => by
    rcases List.mem_cons.1 hx with rfl | hx
    · exact lf_size f h _ _
    · exact brF_mem f h i (k + 1) d x hx
/-- What comes out, from a height on. -/
def clF (i : Nat) : Nat → ByteArray → List ByteArray → ByteArray
  | _, x, [] => x
  | k, x, y :: r => clF i (k + 1) (if i / 2 ^ k % 2 = 0 then hs x y else hs y x) r
theorem clF_snoc (i : Nat) (y : ByteArray) : ∀ (r : List ByteArray) (k : Nat) (x : ByteArray), clF i k x (r ++ [y]) = if i / 2 ^ (k + r.length) % 2 = 0 then hs (clF i k x r) y else hs y (clF i k x r)
  | [], k, x => rfl
  | z :: r, k, x => by
    show clF i (k + 1) _ (r ++ [y]) = _
    rw [clF_snoc i y r (k + 1), List.length_cons, show k + 1 + r.length = k + (r.length + 1) by omega]
    rfl
theorem clF_size (i : Nat) : ∀ (r : List ByteArray) (k : Nat) (x : ByteArray), x.size = 32 → (clF i k x r).size = 32
  | [], _, _, h => h
  | y :: r, k, x, _ => by
    rw [clF]
    split <;> exact clF_size i r (k + 1) _ (hs_size _ _)
/-- A branch leads to the top. -/
theorem clF_brF (f : Nat → ByteArray) (i : Nat) : ∀ d k, clF i k (lf f k (i / 2 ^ k)) (brF f i k d) = lf f (k + d) (i / 2 ^ (k + d))
  | 0, k => rfl
  | d + 1, k => by
    rw [brF, clF]
    have e : (if i / 2 ^ k % 2 = 0 then hs (lf f k (i / 2 ^ k)) (lf f k (i / 2 ^ k + 1 - 2 * (i / 2 ^ k % 2))) else hs (lf f k (i / 2 ^ k + 1 - 2 * (i / 2 ^ k % 2))) (lf f k (i / 2 ^ k))) = lf f (k + 1) (i / 2 ^ (k + 1)) := by
      have e2 : i / 2 ^ (k + 1) = i / 2 ^ k / 2 := by rw [Nat.pow_succ, Nat.div_div_eq_div_mul]
      rw [e2]
      show _ = hs _ _
      obtain ⟨m, hm⟩ : ∃ m, i / 2 ^ k = m := ⟨_, rfl⟩
      rw [hm]
      split
      · rw [show 2 * (m / 2) = m by omega, show m + 1 - 2 * (m % 2) = m + 1 by omega]
      · rw [show 2 * (m / 2) = m + 1 - 2 * (m % 2) by omega, show m + 1 - 2 * (m % 2) + 1 = m by omega]
    rw [e, clF_brF f i d (k + 1), show k + 1 + d = k + (d + 1) by omega]
/-- Do chunks have a tree of that depth? -/
def rt8 (xs : List ByteArray) (d : Int) : Bool := decide (0 ≤ d ∧ d ≤ 10 ∧ xs.length ≤ 2 ^ d.toNat ∧ xs.length ≤ 256 ∧ ∀ x ∈ xs, x.size = 32)
theorem rt8_iff (xs : List ByteArray) (d : Int) : rt8 xs d = true ↔ 0 ≤ d ∧ d ≤ 10 ∧ xs.length ≤ 2 ^ d.toNat ∧ xs.length ≤ 256 ∧ ∀ x ∈ xs, x.size = 32 := decide_eq_true_iff
theorem ln_le : ∀ (n k : Nat), ln n k ≤ n
  | _, 0 => Nat.le_refl _
  | n, k + 1 => by
    have := ln_le n k
    show (ln n k + 1) / 2 ≤ n
    omega
end Go.Proofs.YtmemfdpfbeijeabDoor
