/- A text's blocks, by the reference's and by the program's way: they are the same. -/
import Derived.Test.YtmemfdpfbeijeabDoorR3
import Derived.Test.YtmemfdpfbeijeabDoorS11
namespace Go.Proofs.YtmemfdpfbeijeabDoor
open Go.RowKit Go.Sort

theorem bt_extract (t : ByteArray) (a b j : Nat) (hb : b ≤ t.size) (hj : a + j < b) : bt (t.extract a b) j = bt t (a + j) := by
  have e : t.data.size = t.size := rfl
  unfold bt
  rw [ByteArray.data_extract]
  have h1 : j < (t.data.extract a b).size := by rw [Array.size_extract]; omega
  have h2 : a + j < t.data.size := by omega
  simp only [Array.getD, h1, h2, dite_true]
  show (((t.data.extract a b)[j]'h1).toNat : Int) = ((t.data[a + j]'h2).toNat : Int)
  rw [Array.getElem_extract]
theorem bt_append (s t : ByteArray) (j : Nat) (hj : j < s.size + t.size) : bt (s ++ t) j = if j < s.size then bt s j else bt t (j - s.size) := by
  unfold bt
  rw [ByteArray.data_append]
  have e : s.data.size = s.size := rfl
  have e2 : t.data.size = t.size := rfl
  by_cases h : j < s.size
  · rw [if_pos h]
    simp [Array.getD, h, e, e2, hj]
  · rw [if_neg h]
    simp [Array.getD, h, e, e2, hj, Array.getElem_append, show j - s.size < t.size by omega]
theorem bt_zeros (m j : Nat) (hj : j < m) : bt ⟨(Lib.repeatL [0] m).toArray⟩ j = 0 := by
  have e : ∀ m, Lib.repeatL ([0] : List UInt8) m = List.replicate m 0 := fun m => by
    induction m with
    | zero => rfl
    | succ m ih => rw [Lib.repeatL, ih]; rfl
  unfold bt
  rw [e]
  simp [Array.getD, hj]
theorem bt_len (n j : Nat) (hj : j < 8) : bt (lenOf n) j = lbAt n j := by
  have hl : j < (by8 8 (lbAt n)).length := by rw [by8_len]; exact hj
  unfold bt
  have e : (by8 8 (lbAt n)).toArray.getD j 0 = (by8 8 (lbAt n))[j]'hl := by simp [Array.getD, hl]
  show (((by8 8 (lbAt n)).toArray.getD j 0).toNat : Int) = lbAt n j
  rw [e, by8_at 8 _ (lb_bd n) j hl]
theorem len_size (n : Nat) : (lenOf n).size = 8 := by
  show (by8 8 _).toArray.size = 8
  rw [List.size_toArray, by8_len]
theorem whole_mod (t : ByteArray) : t.size = 64 * wholeN t + t.size % 64 := by unfold wholeN; omega
theorem rest_eq (t : ByteArray) : (restOf t).size = t.size % 64 := by
  have := whole_mod t
  unfold restOf; rw [ByteArray.size_extract]; omega
/-- The last blocks' bytes. -/
theorem bt_last (t : ByteArray) (j : Nat) (hj : j < (lastOf t).size) : bt (lastOf t) j = pAt t (64 * wholeN t + j) := by
  have hw := whole_mod t
  have hr := rest_eq t
  unfold lastOf at hj ⊢
  rw [fill_size, hr] at hj
  unfold fillOf
  obtain ⟨z, hz⟩ : ∃ z, zn (t.size % 64) = z := ⟨_, rfl⟩
  have hpa : ∀ k, pAt t k = if k < t.size then bt t k else if k = t.size then 128 else if k < t.size + 1 + z then 0 else lbAt t.size (k - (t.size + 1 + z)) := fun k => by rw [pAt, hz]
  rw [hpa, hr, hz]
  rw [hz] at hj
  have s1 : (⟨#[128]⟩ : ByteArray).size = 1 := rfl
  rw [bt_append _ _ j (by rw [ByteArray.size_append, ByteArray.size_append, rep_size, len_size, s1, hr]; omega), ByteArray.size_append, ByteArray.size_append, rep_size, s1, hr]
  by_cases h3 : j < t.size % 64 + 1 + z
  · rw [if_pos h3, bt_append _ _ j (by rw [ByteArray.size_append, rep_size, s1, hr]; omega), ByteArray.size_append, s1, hr]
    by_cases h2 : j < t.size % 64 + 1
    · rw [if_pos h2, bt_append _ _ j (by rw [s1, hr]; omega), hr]
      by_cases h1 : j < t.size % 64
      · rw [if_pos h1, if_pos (by omega)]
        unfold restOf
        exact bt_extract t _ _ j (Nat.le_refl _) (by omega)
      · rw [if_neg h1, if_neg (by omega), if_pos (by omega), show j - t.size % 64 = 0 by omega]
        rfl
    · rw [if_neg h2, if_neg (by omega), if_neg (by omega), if_pos (by omega)]
      exact bt_zeros z _ (by omega)
  · rw [if_neg h3, if_neg (by omega), if_neg (by omega), if_neg (by omega), bt_len _ _ (by omega)]
    congr 1
    omega
theorem pN_is (t : ByteArray) : pN t = 64 * (wholeN t + (lastOf t).size / 64) := by
  have hw := whole_mod t
  have hl := (last_size t).1
  have hr := rest_eq t
  have hs : (lastOf t).size = t.size % 64 + 1 + zn (t.size % 64) + 8 := by unfold lastOf; rw [fill_size, hr]
  unfold pN
  omega

/-- The words of the i-th block of a text with what follows it. -/
def pw (t : ByteArray) (i : Nat) : Nat → Int := wordF fun j => pAt t (64 * i + j)
theorem blk_head (t : ByteArray) (i j : Nat) (hi : i < wholeN t) (hj : j < 16) : blk (headOf t) i j = pw t i j := by
  have hw := whole_mod t
  have hz : (headOf t).size = 64 * wholeN t := by rw [headOf, ByteArray.size_extract]; omega
  unfold blk pw
  rw [word_is]
  unfold wordF
  have e : ∀ k, k < 64 → bt ((headOf t).extract (64 * i) (64 * i + 64)) k = pAt t (64 * i + k) := fun k hk => by
    rw [bt_extract _ _ _ k (by omega) (by omega)]
    unfold headOf
    rw [bt_extract t 0 _ _ (by omega) (by omega), Nat.zero_add, pAt, if_pos (by omega)]
  rw [e _ (by omega), e _ (by omega), e _ (by omega), e _ (by omega)]
theorem blk_last (t : ByteArray) (i j : Nat) (hi : i < (lastOf t).size / 64) (hj : j < 16) : blk (lastOf t) i j = pw t (wholeN t + i) j := by
  unfold blk pw
  rw [word_is]
  unfold wordF
  have e : ∀ k, k < 64 → bt ((lastOf t).extract (64 * i) (64 * i + 64)) k = pAt t (64 * (wholeN t + i) + k) := fun k hk => by
    rw [bt_extract _ _ _ k (by omega) (by omega), bt_last t _ (by omega)]
    congr 1
    omega
  rw [e _ (by omega), e _ (by omega), e _ (by omega), e _ (by omega)]
/-- The words behind k of the reference's blocks. -/
def foldR (t : ByteArray) : Nat → Ei
  | 0 => first8
  | k + 1 => takeOf (foldR t k) (spreadOf (pw t k))
theorem fold_bls (t x : ByteArray) (n : Nat) : ∀ k, (∀ i, i < k → ∀ j, j < 16 → blk x i j = pw t (n + i) j) → (bls x k).foldl (fun v b => takeOf v (spreadOf b)) (foldR t n) = foldR t (n + k)
  | 0, _ => rfl
  | k + 1, h => by
    rw [bls_succ, List.foldl_append, fold_bls t x n k (fun i hi => h i (by omega))]
    show takeOf (foldR t (n + k)) (spreadOf (blk x k)) = takeOf (foldR t (n + k)) (spreadOf (pw t (n + k)))
    rw [spread_ext _ _ (h k (by omega))]
theorem fold_same (t : ByteArray) : foldB (allBk t) = foldR t (wholeN t + (lastOf t).size / 64) := by
  unfold foldB allBk
  rw [List.foldl_append]
  have h1 := fold_bls t (headOf t) 0 (wholeN t) (fun i hi j hj => by rw [Nat.zero_add]; exact blk_head t i j hi hj)
  have h2 := fold_bls t (lastOf t) (wholeN t) ((lastOf t).size / 64) (fun i hi j hj => blk_last t i j hi hj)
  rw [Nat.zero_add] at h1
  rw [show foldR t 0 = first8 from rfl] at h1
  rw [h1, h2]
end Go.Proofs.YtmemfdpfbeijeabDoor
