/- Lemmas: Bytes of a text. No condition. -/
import Derived.Test.YtoddangedbefgabGreatDoorM1
namespace Go.Proofs.YtoddangedbefgabGreatDoor
open Go.RowKit Go.Sort
def bt (s : ByteArray) (i : Nat) : Int := ((s.data.getD i 0).toNat : Int)
theorem jbt (s : ByteArray) (d : Nat) (h : d < s.size) : ((s[d]'h).toNat : Int) = bt s d := by
 have : s.data.getD d 0 = s[d]'h := by
  simp [Array.getD, h]
  rfl
 unfold bt
 rw [this]
def by8 (n : Nat) (f : Nat → Int) : List UInt8 := (List.range n).map fun j => UInt8.ofNat (f j).toNat
theorem by8_len (n : Nat) (f : Nat → Int) : (by8 n f).length = n := by simp [by8]
theorem by8_at (n : Nat) (f : Nat → Int) (hf : ∀ j, 0 ≤ f j ∧ f j < 256) (j : Nat) (hj : j < (by8 n f).length) : ((by8 n f)[j].toNat : Int) = f j := by
 have h := hf j
 simp only [by8, List.getElem_map, List.getElem_range, UInt8.toNat_ofNat']
 omega
theorem bt_by8 (n : Nat) (f : Nat → Int) (hf : ∀ j, 0 ≤ f j ∧ f j < 256) (j : Nat) (hj : j < n) : bt ⟨(by8 n f).toArray⟩ j = f j := by
 have hl : j < (by8 n f).length := by rw [by8_len]; exact hj
 unfold bt
 have e : (by8 n f).toArray.getD j 0 = (by8 n f)[j]'hl := by simp [Array.getD, hl]
 show (((by8 n f).toArray.getD j 0).toNat : Int) = f j
 rw [e, by8_at n f hf j hl]
theorem by8_ext (n : Nat) (f g : Nat → Int) (h : ∀ j, j < n → f j = g j) : by8 n f = by8 n g := by
 unfold by8
 exact List.map_congr_left fun j hj => by rw [h j (List.mem_range.1 hj)]
theorem by8_self (s : ByteArray) : (⟨(by8 s.size (bt s)).toArray⟩ : ByteArray) = s := by
 have : (by8 s.size (bt s)).toArray = s.data := by
  refine Array.ext (by simp [by8]) fun i h1 h2 => ?_
  simp only [List.getElem_toArray, by8, List.getElem_map, List.getElem_range]
  unfold bt
  have h3 : i < s.size := h2
  have e : s.data.getD i 0 = s.data[i] := by simp [Array.getD, h3]
  rw [e]
  simp
 rw [this]
theorem by8_size (n : Nat) (f : Nat → Int) : (⟨(by8 n f).toArray⟩ : ByteArray).size = n := by
 show (by8 n f).toArray.size = n
 rw [List.size_toArray, by8_len]
theorem ext_bt (s t : ByteArray) (hz : s.size = t.size) (h : ∀ j, j < s.size → bt s j = bt t j) : s = t := by
 rw [← by8_self s, ← by8_self t, ← hz, by8_ext s.size _ _ h]
end Go.Proofs.YtoddangedbefgabGreatDoor
