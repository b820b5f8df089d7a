/- Lemmas: A text's blocks, by the reference's and by the program's way: they are the same. Trees of chunks, said plainly: levels, what stands behind, branches, climbing. No condition. -/
import Derived.Test.YtmefanagpkbjeaaDoorM1
import Derived.Test.YtmefanagpkbjeaaDoorM10
import Derived.Test.YtmefanagpkbjeaaDoorM11
import Derived.Test.YtmefanagpkbjeaaDoorM12
import Derived.Test.YtmefanagpkbjeaaDoorM13
import Derived.Test.YtmefanagpkbjeaaDoorM2
import Derived.Test.YtmefanagpkbjeaaDoorM3
import Derived.Test.YtmefanagpkbjeaaDoorM4
import Derived.Test.YtmefanagpkbjeaaDoorM6
import Derived.Test.YtmefanagpkbjeaaDoorM7
import Derived.Test.YtmefanagpkbjeaaDoorM8
import Derived.Test.YtmefanagpkbjeaaDoorM9
import Derived.Test.YtmefanagpkbjeaaDoorRows
namespace Go.Proofs.YtmefanagpkbjeaaDoor
open Go.RowKit Go.Sort

theorem bt_extract (t : ByteArray) (a b j : Nat) (hb : b ≤ t.size) (hj : a + j < b) : s_bt (t.extract a b) j = s_bt t (a + j) := by
  have e : t.data.size = t.size := rfl
  unfold s_bt
  rw [ByteArray.data_extract]
  have h1 : j < (t.data.extract a b).size := by rw [Array.size_extract]; omega
  have h2 : a + j < t.data.size := by omega
  simp only [Array.getD, h1, h2, dite_true]
  show (((t.data.extract a b)[j]'h1).toNat : Int) = ((t.data[a + j]'h2).toNat : Int)
  rw [Array.getElem_extract]
theorem bt_append (s t : ByteArray) (j : Nat) (hj : j < s.size + t.size) : s_bt (s ++ t) j = if j < s.size then s_bt s j else s_bt t (j - s.size) := by
  unfold s_bt
  rw [ByteArray.data_append]
  have e : s.data.size = s.size := rfl
  have e2 : t.data.size = t.size := rfl
  by_cases h : j < s.size
  · rw [if_pos h]
    simp [Array.getD, h, e, e2, hj]
  · rw [if_neg h]
    simp [Array.getD, h, e, e2, hj, Array.getElem_append, show j - s.size < t.size by omega]
theorem bt_zeros (m j : Nat) (hj : j < m) : s_bt ⟨(Lib.repeatL [0] m).toArray⟩ j = 0 := by
  have e : ∀ m, Lib.repeatL ([0] : List UInt8) m = List.replicate m 0 := fun m => by
    induction m with
    | zero => rfl
    | succ m ih => rw [Lib.repeatL, ih]; rfl
  unfold s_bt
  rw [e]
  simp [Array.getD, hj]
theorem bt_len (n j : Nat) (hj : j < 8) : s_bt (lenOf n) j = lbAt n j := by
  have hl : j < (s_by8 8 (lbAt n)).length := by rw [s_by8_len]; exact hj
  unfold s_bt
  have e : (s_by8 8 (lbAt n)).toArray.getD j 0 = (s_by8 8 (lbAt n))[j]'hl := by simp [Array.getD, hl]
  show (((s_by8 8 (lbAt n)).toArray.getD j 0).toNat : Int) = lbAt n j
  rw [e, s_by8_at 8 _ (lb_bd n) j hl]
theorem len_size (n : Nat) : (lenOf n).size = 8 := by
  show (s_by8 8 _).toArray.size = 8
  rw [List.size_toArray, s_by8_len]
theorem whole_mod (t : ByteArray) : t.size = 64 * wholeN t + t.size % 64 := by unfold wholeN; omega
theorem rest_eq (t : ByteArray) : (restOf t).size = t.size % 64 := by
  have := whole_mod t
  unfold restOf; rw [ByteArray.size_extract]; omega
/-- The last blocks' bytes. -/
theorem bt_last (t : ByteArray) (j : Nat) (hj : j < (lastOf t).size) : s_bt (lastOf t) j = pAt t (64 * wholeN t + j) := by
  have hw := whole_mod t
  have hr := rest_eq t
  unfold lastOf at hj ⊢
  rw [fill_size, hr] at hj
  unfold fillOf
  obtain ⟨z, hz⟩ : ∃ z, zn (t.size % 64) = z := ⟨_, rfl⟩
  have hpa : ∀ k, pAt t k = if k < t.size then s_bt t k else if k = t.size then 128 else if k < t.size + 1 + z then 0 else lbAt t.size (k - (t.size + 1 + z)) := fun k => by rw [pAt, hz]
  rw [hpa, hr, hz]
  rw [hz] at hj
  have s1 : (⟨#[128]⟩ : ByteArray).size = 1 := rfl
  rw [bt_append _ _ j (by rw [ByteArray.size_append, ByteArray.size_append, rep_size, len_size, s1, hr]; omega), ByteArray.size_append, ByteArray.size_append, rep_size, s1, hr]
  by_cases h3 : j < t.size % 64 + 1 + z
  · rw [if_pos h3, bt_append _ _ j (by rw [ByteArray.size_append, rep_size, s1, hr]; omega), ByteArray.size_append, s1, hr]
    by_cases h2 : j < t.size % 64 + 1
    · rw [if_pos h2, bt_append _ _ j (by rw [s1, hr]; omega), hr]
      by_cases h1 : j < t.size % 64
      · rw [if_pos h1, if_pos (by omega)]
        unfold restOf
        exact bt_extract t _ _ j (Nat.le_refl _) (by omega)
      · rw [if_neg h1, if_neg (by omega), if_pos (by omega), show j - t.size % 64 = 0 by omega]
        rfl
    · rw [if_neg h2, if_neg (by omega), if_neg (by omega), if_pos (by omega)]
      exact bt_zeros z _ (by omega)
  · rw [if_neg h3, if_neg (by omega), if_neg (by omega), if_neg (by omega), bt_len _ _ (by omega)]
    congr 1
    omega
theorem pN_is (t : ByteArray) : pN t = 64 * (wholeN t + (lastOf t).size / 64) := by
  have hw := whole_mod t
  have hl := (last_size t).1
  have hr := rest_eq t
  have hs : (lastOf t).size = t.size % 64 + 1 + zn (t.size % 64) + 8 := by unfold lastOf; rw [fill_size, hr]
  unfold pN
  omega

/-- The words of the i-th block of a text with what follows it. -/
def pw (t : ByteArray) (i : Nat) : Nat → Int := wordF fun j => pAt t (64 * i + j)
theorem blk_head (t : ByteArray) (i j : Nat) (hi : i < wholeN t) (hj : j < 16) : blk (headOf t) i j = pw t i j := by
  have hw := whole_mod t
  have hz : (headOf t).size = 64 * wholeN t := by rw [headOf, ByteArray.size_extract]; omega
  unfold blk pw
  rw [word_is]
  unfold wordF
  have e : ∀ k, k < 64 → s_bt ((headOf t).extract (64 * i) (64 * i + 64)) k = pAt t (64 * i + k) := fun k hk => by
    rw [bt_extract _ _ _ k (by omega) (by omega)]
    unfold headOf
    rw [bt_extract t 0 _ _ (by omega) (by omega), Nat.zero_add, pAt, if_pos (by omega)]
  rw [e _ (by omega), e _ (by omega), e _ (by omega), e _ (by omega)]
theorem blk_last (t : ByteArray) (i j : Nat) (hi : i < (lastOf t).size / 64) (hj : j < 16) : blk (lastOf t) i j = pw t (wholeN t + i) j := by
  unfold blk pw
  rw [word_is]
  unfold wordF
  have e : ∀ k, k < 64 → s_bt ((lastOf t).extract (64 * i) (64 * i + 64)) k = pAt t (64 * (wholeN t + i) + k) := fun k hk => by
    rw [bt_extract _ _ _ k (by omega) (by omega), bt_last t _ (by omega)]
    congr 1
    omega
  rw [e _ (by omega), e _ (by omega), e _ (by omega), e _ (by omega)]
/-- The words behind k of the reference's blocks. -/
def foldR (t : ByteArray) : Nat → Ei
  | 0 => first8
  | k + 1 => takeOf (foldR t k) (spreadOf (pw t k))
theorem fold_bls (t x : ByteArray) (n : Nat) : ∀ k, (∀ i, i < k → ∀ j, j < 16 → blk x i j = pw t (n + i) j) → (bls x k).foldl (fun v b => takeOf v (spreadOf b)) (foldR t n) = foldR t (n + k)
  | 0, _ => rfl
  | k + 1, h => by
    rw [bls_succ, List.foldl_append, fold_bls t x n k (fun i hi => h i (by omega))]
    show takeOf (foldR t (n + k)) (spreadOf (blk x k)) = takeOf (foldR t (n + k)) (spreadOf (pw t (n + k)))
    rw [spread_ext _ _ (h k (by omega))]
theorem fold_same (t : ByteArray) : foldB (allBk t) = foldR t (wholeN t + (lastOf t).size / 64) := by
  unfold foldB allBk
  rw [List.foldl_append]
  have h1 := fold_bls t (headOf t) 0 (wholeN t) (fun i hi j hj => by rw [Nat.zero_add]; exact blk_head t i j hi hj)
  have h2 := fold_bls t (lastOf t) (wholeN t) ((lastOf t).size / 64) (fun i hi j hj => blk_last t i j hi hj)
  rw [Nat.zero_add] at h1
  rw [show foldR t 0 = first8 from rfl] at h1
  rw [h1, h2]
end Go.Proofs.YtmefanagpkbjeaaDoor
namespace Go.Proofs.YtmefanagpkbjeaaDoor
open Go.RowKit Go.Sort

def z32 : ByteArray := ⟨#[0, 0, 0, 0, 0, 0, 0, 0, 0, 0, 0, 0, 0, 0, 0, 0, 0, 0, 0, 0, 0, 0, 0, 0, 0, 0, 0, 0, 0, 0, 0, 0]⟩
/-- The sum of two texts, one behind the other. -/
def hs (x y : ByteArray) : ByteArray := sumOf (x ++ y)
theorem hs_size (x y : ByteArray) : (hs x y).size = 32 := sum_size _
theorem join_pair (x y : ByteArray) : joinOf [x, y] = x ++ y := by
  have h : (joinOf [x, y]).data.toList = (x ++ y).data.toList := by simp [joinOf, Lib.join]
  have h2 : (joinOf [x, y]).data = (x ++ y).data := Array.toList_inj.1 h
  cases hj : joinOf [x, y]
  cases hk : x ++ y
  rw [hj, hk] at h2
  exact congrArg ByteArray.mk h2
/-- What stands above leaves of zeros. -/
def zr : Nat → ByteArray
  | 0 => z32
  | k + 1 => hs (zr k) (zr k)
/-- What stands at a height, at a place, above leaves. -/
def lf (f : Nat → ByteArray) : Nat → Nat → ByteArray
  | 0, i => f i
  | k + 1, i => hs (lf f k (2 * i)) (lf f k (2 * i + 1))
/-- The leaves of chunks. -/
def lvs (xs : List ByteArray) (i : Nat) : ByteArray := xs.getD i z32
/-- How many of a level are given. -/
def ln (n : Nat) : Nat → Nat
  | 0 => n
  | k + 1 => (ln n k + 1) / 2
theorem lf_out (xs : List ByteArray) : ∀ k i, ln xs.length k ≤ i → lf (lvs xs) k i = zr k
  | 0, i, h => by
    show xs.getD i z32 = z32
    rw [List.getD_eq_getElem?_getD, List.getElem?_eq_none h]
    rfl
  | k + 1, i, h => by
    have h' : (ln xs.length k + 1) / 2 ≤ i := h
    show hs _ _ = hs _ _
    rw [lf_out xs k (2 * i) (by omega), lf_out xs k (2 * i + 1) (by omega)]
theorem lf_ext (f g : Nat → ByteArray) : ∀ k i, (∀ j, i * 2 ^ k ≤ j → j < (i + 1) * 2 ^ k → f j = g j) → lf f k i = lf g k i
  | 0, i, h => h i (by omega) (by omega)
  | k + 1, i, h => by
    have e1 : 2 * i * 2 ^ k = i * 2 ^ (k + 1) := by rw [Nat.pow_succ, Nat.mul_comm 2 i, Nat.mul_assoc, Nat.mul_comm 2]
    have e2 : (2 * i + 1) * 2 ^ k = i * 2 ^ (k + 1) + 2 ^ k := by rw [Nat.add_mul, e1, Nat.one_mul]
    have e3 : (i + 1) * 2 ^ (k + 1) = i * 2 ^ (k + 1) + 2 ^ k + 2 ^ k := by rw [Nat.add_mul, Nat.one_mul, Nat.pow_succ 2 k]; omega
    have e4 : (2 * i + 1 + 1) * 2 ^ k = i * 2 ^ (k + 1) + 2 ^ k + 2 ^ k := by rw [Nat.add_mul, e2, Nat.one_mul]
    show hs _ _ = hs _ _
    rw [lf_ext f g k (2 * i) (fun j h1 h2 => h j (by omega) (by omega)), lf_ext f g k (2 * i + 1) (fun j h1 h2 => h j (by omega) (by omega))]
theorem lf_shift (f : Nat → ByteArray) : ∀ k s i, lf (fun j => f (s * 2 ^ k + j)) k i = lf f k (s + i)
  | 0, s, i => by
    show f (s * 2 ^ 0 + i) = f (s + i)
    rw [Nat.pow_zero, Nat.mul_one]
  | k + 1, s, i => by
    have e : ∀ j, s * 2 ^ (k + 1) + j = 2 * s * 2 ^ k + j := fun j => by rw [Nat.pow_succ, Nat.mul_comm 2 s, Nat.mul_assoc, Nat.mul_comm 2]
    have h : (fun j => f (s * 2 ^ (k + 1) + j)) = fun j => f (2 * s * 2 ^ k + j) := funext fun j => by rw [e]
    show hs _ _ = hs _ _
    rw [h, lf_shift f k (2 * s), lf_shift f k (2 * s), show 2 * s + 2 * i = 2 * (s + i) by omega, show 2 * s + (2 * i + 1) = 2 * (s + i) + 1 by omega]
theorem z32_size : z32.size = 32 := rfl
theorem lvs_size (xs : List ByteArray) (h : ∀ x ∈ xs, x.size = 32) (i : Nat) : (lvs xs i).size = 32 := by
  unfold lvs
  rw [List.getD_eq_getElem?_getD]
  cases hx : xs[i]? with
  | none => rfl
  | some x => exact h x (List.mem_of_getElem? hx)
theorem lf_size (f : Nat → ByteArray) (h : ∀ i, (f i).size = 32) : ∀ k i, (lf f k i).size = 32
  | 0, i => h i
  | _ + 1, _ => hs_size _ _
theorem zr_size : ∀ k, (zr k).size = 32
  | 0 => rfl
  | _ + 1 => hs_size _ _
/-- A leaf's branch, from a height on. -/
def brF (f : Nat → ByteArray) (i : Nat) : Nat → Nat → List ByteArray
  | _, 0 => []
  | k, d + 1 => lf f k (i / 2 ^ k + 1 - 2 * (i / 2 ^ k % 2)) :: brF f i (k + 1) d
theorem brF_len (f : Nat → ByteArray) (i : Nat) : ∀ k d, (brF f i k d).length = d
  | _, 0 => rfl
  | k, d + 1 => by rw [brF, List.length_cons, brF_len f i (k + 1) d]
theorem brF_snoc (f : Nat → ByteArray) (i : Nat) : ∀ k d, brF f i k (d + 1) = brF f i k d ++ [lf f (k + d) (i / 2 ^ (k + d) + 1 - 2 * (i / 2 ^ (k + d) % 2))]
  | k, 0 => rfl
  | k, d + 1 => by
    rw [brF, brF_snoc f i (k + 1) d, brF, show k + 1 + d = k + (d + 1) by omega]
    rfl
theorem brF_mem (f : Nat → ByteArray) (h : ∀ i, (f i).size = 32) (i : Nat) : ∀ k d, ∀ x ∈ brF f i k d, x.size = 32
  | _, 0, x, hx => by cases hx
  | k, d + 1, x, hx => by
    rcases List.mem_cons.1 hx with rfl | hx
    · exact lf_size f h _ _
    · exact brF_mem f h i (k + 1) d x hx
/-- What comes out, from a height on. -/
def clF (i : Nat) : Nat → ByteArray → List ByteArray → ByteArray
  | _, x, [] => x
  | k, x, y :: r => clF i (k + 1) (if i / 2 ^ k % 2 = 0 then hs x y else hs y x) r
theorem clF_snoc (i : Nat) (y : ByteArray) : ∀ (r : List ByteArray) (k : Nat) (x : ByteArray), clF i k x (r ++ [y]) = if i / 2 ^ (k + r.length) % 2 = 0 then hs (clF i k x r) y else hs y (clF i k x r)
  | [], k, x => rfl
  | z :: r, k, x => by
    show clF i (k + 1) _ (r ++ [y]) = _
    rw [clF_snoc i y r (k + 1), List.length_cons, show k + 1 + r.length = k + (r.length + 1) by omega]
    rfl
theorem clF_size (i : Nat) : ∀ (r : List ByteArray) (k : Nat) (x : ByteArray), x.size = 32 → (clF i k x r).size = 32
  | [], _, _, h => h
  | y :: r, k, x, _ => by
    rw [clF]
    split <;> exact clF_size i r (k + 1) _ (hs_size _ _)
/-- A branch leads to the top. -/
theorem clF_brF (f : Nat → ByteArray) (i : Nat) : ∀ d k, clF i k (lf f k (i / 2 ^ k)) (brF f i k d) = lf f (k + d) (i / 2 ^ (k + d))
  | 0, k => rfl
  | d + 1, k => by
    rw [brF, clF]
    have e : (if i / 2 ^ k % 2 = 0 then hs (lf f k (i / 2 ^ k)) (lf f k (i / 2 ^ k + 1 - 2 * (i / 2 ^ k % 2))) else hs (lf f k (i / 2 ^ k + 1 - 2 * (i / 2 ^ k % 2))) (lf f k (i / 2 ^ k))) = lf f (k + 1) (i / 2 ^ (k + 1)) := by
      have e2 : i / 2 ^ (k + 1) = i / 2 ^ k / 2 := by rw [Nat.pow_succ, Nat.div_div_eq_div_mul]
      rw [e2]
      show _ = hs _ _
      obtain ⟨m, hm⟩ : ∃ m, i / 2 ^ k = m := ⟨_, rfl⟩
      rw [hm]
      split
      · rw [show 2 * (m / 2) = m by omega, show m + 1 - 2 * (m % 2) = m + 1 by omega]
      · rw [show 2 * (m / 2) = m + 1 - 2 * (m % 2) by omega, show m + 1 - 2 * (m % 2) + 1 = m by omega]
    rw [e, clF_brF f i d (k + 1), show k + 1 + d = k + (d + 1) by omega]
/-- Do chunks have a tree of that depth? -/
def rt8 (xs : List ByteArray) (d : Int) : Bool := decide (0 ≤ d ∧ d ≤ 10 ∧ xs.length ≤ 2 ^ d.toNat ∧ xs.length ≤ 256 ∧ ∀ x ∈ xs, x.size = 32)
theorem rt8_iff (xs : List ByteArray) (d : Int) : rt8 xs d = true ↔ 0 ≤ d ∧ d ≤ 10 ∧ xs.length ≤ 2 ^ d.toNat ∧ xs.length ≤ 256 ∧ ∀ x ∈ xs, x.size = 32 := decide_eq_true_iff
theorem ln_le : ∀ (n k : Nat), ln n k ≤ n
  | _, 0 => Nat.le_refl _
  | n, k + 1 => by
    have := ln_le n k
    show (ln n k + 1) / 2 ≤ n
    omega
end Go.Proofs.YtmefanagpkbjeaaDoor
