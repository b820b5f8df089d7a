/- Digits and bytes, there and back. -/
import Derived.Test.YtpaiopnhipdikaaDoorH2
namespace Go.Proofs.YtpaiopnhipdikaaDoor
open Go.RowKit Go.Sort

theorem bt_by8 (n : Nat) (f : Nat → Int) (hf : ∀ j, 0 ≤ f j ∧ f j < 256) (j : Nat) (hj : j < n) : bt ⟨(by8 n f).toArray⟩ j = f j := by
  have hl : j < (by8 n f).length := by rw [by8_len]; exact hj
  unfold bt
  have e : (by8 n f).toArray.getD j 0 = (by8 n f)[j]'hl := by simp [Array.getD, hl]
  show (((by8 n f).toArray.getD j 0).toNat : Int) = f j
  rw [e, by8_at n f hf j hl]
theorem by8_ext (n : Nat) (f g : Nat → Int) (h : ∀ j, j < n → f j = g j) : by8 n f = by8 n g := by
  unfold by8
  exact List.map_congr_left fun j hj => by rw [h j (List.mem_range.1 hj)]
theorem by8_self (s : ByteArray) : (⟨(by8 s.size (bt s)).toArray⟩ : ByteArray) = s := by
  have : (by8 s.size (bt s)).toArray = s.data := by
    refine Array.ext (by simp [by8]) fun i h1 h2 => ?_
    simp only [List.getElem_toArray, by8, List.getElem_map, List.getElem_range]
    unfold bt
    have h3 : i < s.size := h2
    have e : s.data.getD i 0 = s.data[i] := by simp [Array.getD, h3]
    rw [e]
    simp
  rw [this]
theorem hex_size (s : ByteArray) : (hexOf s).size = 2 * s.size := by
  show (by8 _ _).toArray.size = _
  rw [List.size_toArray, by8_len]

theorem dig_is (n : Int) (h : 0 ≤ n ∧ n < 16) : isDig (dig n) = true ∧ dv (dig n) = n := by
  have e : ∀ j : Fin 16, isDig (dig ((j.val : Nat) : Int)) = true ∧ dv (dig ((j.val : Nat) : Int)) = ((j.val : Nat) : Int) := by decide +kernel
  have := e ⟨n.toNat, by omega⟩
  rwa [show ((n.toNat : Nat) : Int) = n by omega] at this
theorem dv_is (c : Int) (h : isDig c = true) : dig (dv c) = c := by
  have hc : (48 ≤ c ∧ c ≤ 57) ∨ (97 ≤ c ∧ c ≤ 102) := by
    unfold isDig at h
    simpa using h
  have e : ∀ j : Fin 103, (48 ≤ j.val ∧ j.val ≤ 57) ∨ (97 ≤ j.val ∧ j.val ≤ 102) → dig (dv ((j.val : Nat) : Int)) = ((j.val : Nat) : Int) := by decide +kernel
  have := e ⟨c.toNat, by omega⟩ (by dsimp only; omega)
  rwa [show ((c.toNat : Nat) : Int) = c by omega] at this

theorem bt_hex (s : ByteArray) (j : Nat) (hj : j < 2 * s.size) : bt (hexOf s) j = hexAt s j := bt_by8 _ _ (hexAt_bd s) j hj
theorem half_bd (s : ByteArray) (j : Nat) : 0 ≤ (if j % 2 = 0 then bt s (j / 2) / 16 else bt s (j / 2) % 16) ∧ (if j % 2 = 0 then bt s (j / 2) / 16 else bt s (j / 2) % 16) < 16 := by
  have := bt_bd s (j / 2)
  split <;> omega
theorem good_hex (s : ByteArray) : good (hexOf s) = true := by
  refine good_of _ (by rw [hex_size]; omega) fun i hi => ?_
  rw [hex_size] at hi
  rw [bt_hex s i hi]
  exact (dig_is _ (half_bd s i)).1
theorem unS_hex (s : ByteArray) : unS (hexOf s) = s := by
  unfold unS
  rw [good_hex, if_pos rfl, hex_size, show 2 * s.size / 2 = s.size by omega]
  rw [by8_ext s.size _ (bt s) fun j hj => ?_]
  · exact by8_self s
  · unfold unAt
    rw [bt_hex s (2 * j) (by omega), bt_hex s (2 * j + 1) (by omega)]
    unfold hexAt
    rw [(dig_is _ (half_bd s (2 * j))).2, (dig_is _ (half_bd s (2 * j + 1))).2, if_pos (by omega), if_neg (by omega), show 2 * j / 2 = j by omega, show (2 * j + 1) / 2 = j by omega]
    omega
theorem unE_hex (s : ByteArray) : unE (hexOf s) = 0 := by
  unfold unE
  rw [good_hex]
  rfl
theorem good_spec (t : ByteArray) (h : good t = true) : t.size % 2 = 0 ∧ ∀ i, i < t.size → isDig (bt t i) = true := by
  unfold good at h
  simp only [Bool.and_eq_true, List.all_eq_true, List.mem_range, decide_eq_true_eq] at h
  exact h
theorem unE_good (t : ByteArray) : unE t = if good t then 0 else 2 := rfl
theorem uns_size (t : ByteArray) (h : good t = true) : (unS t).size = t.size / 2 := by
  unfold unS
  rw [h, if_pos rfl]
  show (by8 _ _).toArray.size = _
  rw [List.size_toArray, by8_len]
theorem uns_le (t : ByteArray) : (unS t).size ≤ t.size := by
  cases h : good t with
  | true => rw [uns_size t h]; omega
  | false => unfold unS; rw [h]; exact Nat.zero_le _
theorem bt_uns (t : ByteArray) (h : good t = true) (j : Nat) (hj : j < t.size / 2) : bt (unS t) j = unAt t j := by
  unfold unS
  rw [h, if_pos rfl]
  exact bt_by8 _ _ (unAt_bd t) j hj
theorem hex_uns (t : ByteArray) (h : good t = true) : hexOf (unS t) = t := by
  obtain ⟨h1, h2⟩ := good_spec t h
  unfold hexOf
  rw [uns_size t h, show 2 * (t.size / 2) = t.size by omega]
  rw [by8_ext t.size _ (bt t) fun j hj => ?_]
  · exact by8_self t
  · unfold hexAt
    rw [bt_uns t h (j / 2) (by omega)]
    have d1 := dv_bd (bt t (2 * (j / 2)))
    have d2 := dv_bd (bt t (2 * (j / 2) + 1))
    unfold unAt
    by_cases e : j % 2 = 0
    · rw [if_pos e, show (dv (bt t (2 * (j / 2))) * 16 + dv (bt t (2 * (j / 2) + 1))) / 16 = dv (bt t (2 * (j / 2))) by omega, show 2 * (j / 2) = j by omega]
      exact dv_is _ (h2 j hj)
    · rw [if_neg e, show (dv (bt t (2 * (j / 2))) * 16 + dv (bt t (2 * (j / 2) + 1))) % 16 = dv (bt t (2 * (j / 2) + 1)) by omega, show 2 * (j / 2) + 1 = j by omega]
      exact dv_is _ (h2 j hj)
end Go.Proofs.YtpaiopnhipdikaaDoor
