/- Lemmas: Bytes of a text, their halves; how many bytes two texts have alike, by the program and by the document's answer. No condition but that a text is no longer than a machine's number. -/
import Derived.Test.YtbmapdkcccdmfaaDoorM1
import Derived.Test.YtbmapdkcccdmfaaDoorRows
import Derived.Laws.IdiomStrings
namespace Go.Proofs.YtbmapdkcccdmfaaDoor
open Go.RowKit Go.Sort

def n_bt (s : ByteArray) (i : Nat) : Int := ((s.data.getD i 0).toNat : Int)
theorem n_bt_get (s : ByteArray) (d : Nat) (h : d < s.size) : ((s[d]'h).toNat : Int) = n_bt s d := by
 have : s.data.getD d 0 = s[d]'h := by
  simp [Array.getD, h]
  rfl
 unfold n_bt
 rw [this]
theorem n_bt_bd (s : ByteArray) (d : Nat) : 0 ≤ n_bt s d ∧ n_bt s d < 256 := by
 unfold n_bt
 have := (s.data.getD d 0).toNat_lt
 omega
def n_by8 (n : Nat) (f : Nat → Int) : List UInt8 := (List.range n).map fun j => UInt8.ofNat (f j).toNat
theorem n_by8_len (n : Nat) (f : Nat → Int) : (n_by8 n f).length = n := by simp [n_by8]
theorem n_by8_at (n : Nat) (f : Nat → Int) (hf : ∀ j, 0 ≤ f j ∧ f j < 256) (j : Nat) (hj : j < (n_by8 n f).length) : ((n_by8 n f)[j].toNat : Int) = f j := by
 have h := hf j
 simp only [n_by8, List.getElem_map, List.getElem_range, UInt8.toNat_ofNat']
 omega
theorem n_bt_by8 (n : Nat) (f : Nat → Int) (hf : ∀ j, 0 ≤ f j ∧ f j < 256) (j : Nat) (hj : j < n) : n_bt ⟨(n_by8 n f).toArray⟩ j = f j := by
 have hl : j < (n_by8 n f).length := by rw [n_by8_len]; exact hj
 unfold n_bt
 have e : (n_by8 n f).toArray.getD j 0 = (n_by8 n f)[j]'hl := by simp [Array.getD, hl]
 show (((n_by8 n f).toArray.getD j 0).toNat : Int) = f j
 rw [e, n_by8_at n f hf j hl]
theorem n_by8_ext (n : Nat) (f g : Nat → Int) (h : ∀ j, j < n → f j = g j) : n_by8 n f = n_by8 n g := by
 unfold n_by8
 exact List.map_congr_left fun j hj => by rw [h j (List.mem_range.1 hj)]
theorem n_by8_self (s : ByteArray) : (⟨(n_by8 s.size (n_bt s)).toArray⟩ : ByteArray) = s := by
 have : (n_by8 s.size (n_bt s)).toArray = s.data := by
  refine Array.ext (by simp [n_by8]) fun i h1 h2 => ?_
  simp only [List.getElem_toArray, n_by8, List.getElem_map, List.getElem_range]
  unfold n_bt
  have h3 : i < s.size := h2
  have e : s.data.getD i 0 = s.data[i] := by simp [Array.getD, h3]
  rw [e]
  simp
 rw [this]
theorem n_by8_size (n : Nat) (f : Nat → Int) : (⟨(n_by8 n f).toArray⟩ : ByteArray).size = n := by
 show (n_by8 n f).toArray.size = n
 rw [List.size_toArray, n_by8_len]
theorem n_ext_bt (s t : ByteArray) (hz : s.size = t.size) (h : ∀ j, j < s.size → n_bt s j = n_bt t j) : s = t := by
 rw [← n_by8_self s, ← n_by8_self t, ← hz, n_by8_ext s.size _ _ h]

def alike (a b : ByteArray) : Nat → Nat → Nat
 | 0, k => k
 | f + 1, k => if k < a.size ∧ k < b.size ∧ n_bt a k = n_bt b k then alike a b f (k + 1) else k
def common (a b : ByteArray) : Nat := alike a b a.size 0
theorem alike_spec (a b : ByteArray) : ∀ (f k : Nat), a.size ≤ f + k → k ≤ a.size → k ≤ b.size → (∀ j, j < k → n_bt a j = n_bt b j) →
  k ≤ alike a b f k ∧ alike a b f k ≤ a.size ∧ alike a b f k ≤ b.size ∧ (∀ j, j < alike a b f k → n_bt a j = n_bt b j) ∧ ¬ (alike a b f k < a.size ∧ alike a b f k < b.size ∧ n_bt a (alike a b f k) = n_bt b (alike a b f k))
 | 0, k, h, ha, hb, he => ⟨Nat.le_refl _, ha, hb, he, fun h' => absurd h'.1 (by show ¬ k < a.size; omega)⟩
 | f + 1, k, h, ha, hb, he => by
  unfold alike
  by_cases hc : k < a.size ∧ k < b.size ∧ n_bt a k = n_bt b k
  ·rw [if_pos hc]
   have := alike_spec a b f (k + 1) (by omega) hc.1 hc.2.1 (fun j hj => by
    by_cases e : j = k
    ·rw [e]; exact hc.2.2
    ·exact he j (by omega))
   exact ⟨by omega, this.2⟩
  ·rw [if_neg hc]
   exact ⟨Nat.le_refl _, ha, hb, he, hc⟩
theorem common_spec (a b : ByteArray) : common a b ≤ a.size ∧ common a b ≤ b.size ∧ (∀ j, j < common a b → n_bt a j = n_bt b j) ∧ ¬ (common a b < a.size ∧ common a b < b.size ∧ n_bt a (common a b) = n_bt b (common a b)) :=
 (alike_spec a b a.size 0 (by omega) (by omega) (by omega) (fun j hj => absurd hj (by omega))).2
theorem common_is (a b : ByteArray) (k : Nat) (ha : k ≤ a.size) (hb : k ≤ b.size) (he : ∀ j, j < k → n_bt a j = n_bt b j) (hn : ¬ (k < a.size ∧ k < b.size ∧ n_bt a k = n_bt b k)) : k = common a b := by
 obtain ⟨h1, h2, h3, h4⟩ := common_spec a b
 rcases Nat.lt_trichotomy k (common a b) with h | h | h
 ·exact absurd ⟨by omega, by omega, h3 k h⟩ hn
 ·exact h
 ·exact absurd ⟨by omega, by omega, he _ h⟩ h4

end Go.Proofs.YtbmapdkcccdmfaaDoor
