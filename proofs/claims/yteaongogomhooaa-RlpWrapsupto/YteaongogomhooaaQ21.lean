/- Numbers as bytes, and back. -/
import Derived.Test.YteaongogomhooaaQ20
namespace Go.Proofs.Yteaongogomhooaa
open Go.RowKit Go.Shelf Go.Sort

theorem num_size (n : Nat) : (numOf n).size = blen n := by8_size _ _
theorem num_at (n j : Nat) (h : j < blen n) : bt (numOf n) j = nAt n (blen n) j := bt_by8 _ _ (nAt_bd n _) j h
theorem num_8 (n : Nat) (hn : n < 18446744073709551616) : blen n ≤ 8 := blen_le n 8 hn
theorem blen_zero (n : Nat) : blen n = 0 ↔ n = 0 := by
  constructor
  · intro h
    by_cases h0 : n = 0
    · exact h0
    · rw [blen_pos n h0] at h
      cases h
  · intro h
    rw [h, blen_0]
theorem num_first (n : Nat) (h : 0 < blen n) : bt (numOf n) 0 ≠ 0 := by
  rw [num_at n 0 h]
  unfold nAt
  rw [Nat.sub_zero]
  have h1 := (div_pos n (blen n - 1)).2 (by omega)
  have h2 : ¬ 0 < n / 256 ^ blen n := fun h2 => by have := (div_pos n (blen n)).1 h2; omega
  have h3 : n / 256 ^ (blen n - 1) / 256 = n / 256 ^ blen n := by
    rw [Nat.div_div_eq_div_mul, ← Nat.pow_succ, show (blen n - 1).succ = blen n by omega]
  obtain ⟨q, hq⟩ : ∃ q, n / 256 ^ (blen n - 1) = q := ⟨_, rfl⟩
  rw [hq] at h1 h3 ⊢
  omega
theorem num_good (n : Nat) (hn : n < 18446744073709551616) : vGood (numOf n) = true := by
  unfold vGood
  rw [num_size, decide_eq_true (num_8 n hn), Bool.true_and]
  by_cases h : blen n = 0
  · rw [decide_eq_true h]; rfl
  · rw [decide_eq_true (num_first n (by omega)), Bool.or_true]
theorem num_val (n : Nat) : ∀ k, k ≤ blen n → val (numOf n) k = n / 256 ^ (blen n - k)
  | 0, _ => by
    show 0 = _
    have h2 : ¬ 0 < n / 256 ^ blen n := fun h2 => by have := (div_pos n (blen n)).1 h2; omega
    rw [Nat.sub_zero]
    obtain ⟨q, hq⟩ : ∃ q, n / 256 ^ blen n = q := ⟨_, rfl⟩
    rw [hq] at h2 ⊢
    omega
  | k + 1, h => by
    show val (numOf n) k * 256 + (bt (numOf n) k).toNat = _
    rw [num_val n k (by omega), num_at n k (by omega)]
    unfold nAt
    rw [show blen n - 1 - k = blen n - (k + 1) by omega, Int.toNat_natCast]
    have h3 : n / 256 ^ (blen n - (k + 1)) / 256 = n / 256 ^ (blen n - k) := by
      rw [Nat.div_div_eq_div_mul, ← Nat.pow_succ, show (blen n - (k + 1)).succ = blen n - k by omega]
    rw [← h3]
    omega
theorem num_back (n : Nat) (hn : n < 18446744073709551616) : vN (numOf n) = n ∧ vE (numOf n) = 0 := by
  unfold vN vE
  rw [num_good n hn, if_pos rfl, if_pos rfl, num_size, num_val n _ (Nat.le_refl _), Nat.sub_self, Nat.pow_zero, Nat.div_one]
  exact ⟨rfl, rfl⟩
theorem num_inj (n m : Nat) (hn : n < 18446744073709551616) (hm : m < 18446744073709551616) (h : numOf n = numOf m) : n = m := by
  rw [← (num_back n hn).1, h, (num_back m hm).1]
theorem blen_mono (n m : Nat) (h : n ≤ m) : blen n ≤ blen m := by
  by_cases h0 : blen n = 0
  · omega
  · have h1 := (div_pos n (blen n - 1)).2 (by omega)
    have h2 : 0 < m / 256 ^ (blen n - 1) := Nat.lt_of_lt_of_le h1 (Nat.div_le_div_right h)
    have := (div_pos m (blen n - 1)).1 h2
    omega
theorem val_div (s : ByteArray) (j : Nat) : ∀ k, val s (j + k) / 256 ^ k = val s j
  | 0 => by rw [Nat.pow_zero, Nat.div_one]; rfl
  | k + 1 => by
    have h := val_div s j k
    have hb := bt_bd s (j + k)
    show (val s (j + k) * 256 + (bt s (j + k)).toNat) / 256 ^ (k + 1) = _
    rw [Nat.pow_succ, Nat.mul_comm (256 ^ k) 256, ← Nat.div_div_eq_div_mul, show (val s (j + k) * 256 + (bt s (j + k)).toNat) / 256 = val s (j + k) by omega]
    exact h
theorem val_blen (s : ByteArray) (h : s.size = 0 ∨ bt s 0 ≠ 0) : blen (val s s.size) = s.size := by
  have hlt := val_lt s s.size
  have h1 : ¬ s.size < blen (val s s.size) := fun hc => by
    have := (div_pos _ _).2 hc
    rw [Nat.div_eq_of_lt hlt] at this
    omega
  by_cases h0 : s.size = 0
  · omega
  · have h2 := val_div s 1 (s.size - 1)
    rw [show 1 + (s.size - 1) = s.size by omega] at h2
    have hb := bt_bd s 0
    have h3 : val s 1 = (bt s 0).toNat := by show 0 * 256 + (bt s 0).toNat = _; omega
    have := (div_pos (val s s.size) (s.size - 1)).1 (by rw [h2, h3]; have := h.resolve_left h0; omega)
    omega
theorem val_num (s : ByteArray) (h : vE s = 0) : numOf (vN s) = s := by
  have hg : vGood s = true := by
    unfold vE at h
    split at h
    · assumption
    · cases h
  unfold vN
  rw [hg, if_pos rfl]
  have h2 : s.size = 0 ∨ bt s 0 ≠ 0 := by
    unfold vGood at hg
    simp only [Bool.and_eq_true, Bool.or_eq_true, decide_eq_true_eq] at hg
    exact hg.2
  have hb := val_blen s h2
  refine ext_bt _ _ (by rw [num_size, hb]) fun j hj => ?_
  rw [num_size, hb] at hj
  rw [num_at _ j (by rw [hb]; exact hj), hb]
  unfold nAt
  have h3 := val_div s (j + 1) (s.size - 1 - j)
  rw [show j + 1 + (s.size - 1 - j) = s.size by omega] at h3
  rw [h3]
  have hbd := bt_bd s j
  show (((val s j * 256 + (bt s j).toNat) % 256 : Nat) : Int) = _
  omega
theorem vN_lt (s : ByteArray) : vN s < 18446744073709551616 := by
  unfold vN
  split
  · rename_i hg
    unfold vGood at hg
    simp only [Bool.and_eq_true, decide_eq_true_eq] at hg
    refine Nat.lt_of_lt_of_le (val_lt s s.size) ?_
    have : 256 ^ s.size ≤ 256 ^ 8 := Nat.pow_le_pow_right (by decide) hg.1
    exact Nat.le_trans this (by decide)
  · decide
end Go.Proofs.Yteaongogomhooaa
