/- What bytes from a place on begin with, told by places. -/
import Derived.Test.YteaongogomhooaaQ22
namespace Go.Proofs.Yteaongogomhooaa
open Go.RowKit Go.Shelf Go.Sort

theorem bt_ext (s : ByteArray) (p j : Nat) (h : p + j < s.size) : bt (s.extract p s.size) j = bt s (p + j) := by
  have h1 : j < (s.extract p s.size).size := by rw [ByteArray.size_extract]; omega
  rw [← bt_get _ j h1, ← bt_get _ (p + j) h]
  congr 2
  exact ByteArray.getElem_extract h1
theorem ext_ext (s : ByteArray) (p a b : Nat) (h : p + b ≤ s.size) : (s.extract p s.size).extract a b = s.extract (p + a) (p + b) := by
  rw [ByteArray.extract_extract]
  congr 1
  omega
theorem ext_end (s : ByteArray) (p a : Nat) : (s.extract p s.size).extract a (s.extract p s.size).size = s.extract (p + a) s.size := by
  rw [ByteArray.extract_extract]
  congr 1
  rw [ByteArray.size_extract]
  omega
/-- The body behind a head's first byte, by places: where it begins and ends. -/
def atP (s : ByteArray) (q k : Nat) : Option (Nat × Nat) :=
  if k < 56 then (if s.size < q + k then none else some (q, q + k))
  else if s.size < q + (k - 55) then none
  else if vE (s.extract q (q + (k - 55))) = 0 ∧ 56 ≤ vN (s.extract q (q + (k - 55))) ∧ vN (s.extract q (q + (k - 55))) ≤ s.size - (q + (k - 55)) then some (q + (k - 55), q + (k - 55) + vN (s.extract q (q + (k - 55)))) else none
theorem cutAt_at (s : ByteArray) (q k : Nat) (hq : q ≤ s.size) : cutAt k (s.extract q s.size) = (atP s q k).map fun e => (e.1 - q, e.2 - e.1) := by
  have hz : (s.extract q s.size).size = s.size - q := by rw [ByteArray.size_extract]; omega
  unfold cutAt atP
  rw [hz]
  by_cases h1 : k < 56
  · rw [if_pos h1, if_pos h1]
    by_cases h2 : s.size - q < k
    · rw [if_pos h2, if_pos (by omega)]
      rfl
    · rw [if_neg h2, if_neg (by omega)]
      show _ = some (q - q, q + k - q)
      rw [Nat.sub_self, Nat.add_sub_cancel_left]
  · rw [if_neg h1, if_neg h1]
    by_cases h2 : s.size - q < k - 55
    · rw [if_pos h2, if_pos (show s.size < q + (k - 55) by omega)]
      rfl
    · rw [if_neg h2, if_neg (show ¬ s.size < q + (k - 55) by omega), ext_ext s q 0 (k - 55) (by omega), Nat.add_zero]
      obtain ⟨v, hv⟩ : ∃ v, vN (s.extract q (q + (k - 55))) = v := ⟨_, rfl⟩
      rw [hv]
      by_cases h3 : vE (s.extract q (q + (k - 55))) = 0 ∧ 56 ≤ v ∧ v ≤ s.size - q - (k - 55)
      · rw [if_pos h3, if_pos ⟨h3.1, h3.2.1, by omega⟩]
        show _ = some (q + (k - 55) - q, q + (k - 55) + v - (q + (k - 55)))
        rw [Nat.add_sub_cancel_left, Nat.add_sub_cancel_left]
      · rw [if_neg h3, if_neg (fun h => h3 ⟨h.1, h.2.1, by omega⟩)]
        rfl
theorem atP_le {s : ByteArray} {q k f t : Nat} (h : atP s q k = some (f, t)) : q ≤ f ∧ f ≤ t ∧ t ≤ s.size := by
  unfold atP at h
  split at h
  · split at h
    · cases h
    · cases h
      omega
  · split at h
    · cases h
    · split at h
      · cases h
        omega
      · cases h
/-- The item that begins at a place, by places: where its inside begins and ends, and whether it is a list. -/
def itP (s : ByteArray) (p : Nat) : Option (Nat × Nat × Bool) :=
  if bt s p < 128 then some (p, p + 1, false)
  else if bt s p < 192 then (match atP s (p + 1) ((bt s p).toNat - 128) with | none => none | some (f, t) => if bare (s.extract f t) then none else some (f, t, false))
  else (match atP s (p + 1) ((bt s p).toNat - 192) with | none => none | some (f, t) => some (f, t, true))
def itK (s : ByteArray) : Option (Nat × Nat × Bool) → Nat × ByteArray × ByteArray
  | none => (0, ⟨#[]⟩, ⟨#[]⟩)
  | some (f, t, l) => (if l then 2 else 1, s.extract f t, s.extract t s.size)
theorem cutK_at (s : ByteArray) (p : Nat) (hp : p < s.size) : cutK (s.extract p s.size) = itK s (itP s p) := by
  have h0 := bt_ext s p 0 (by omega)
  have h1 := ext_end s p 1
  rw [Nat.add_zero] at h0
  unfold cutK itP
  rw [h0, h1]
  by_cases c1 : bt s p < 128
  · rw [if_pos c1, if_pos c1, ext_ext s p 0 1 (by omega)]
    rfl
  · rw [if_neg c1, if_neg c1]
    by_cases c2 : bt s p < 192
    · rw [if_pos c2, if_pos c2, cutAt_at s (p + 1) _ (by omega)]
      cases ha : atP s (p + 1) ((bt s p).toNat - 128) with
      | none => rfl
      | some e =>
        obtain ⟨f, t⟩ := e
        obtain ⟨k1, k2, k3⟩ := atP_le ha
        simp only [Option.map_some]
        rw [show f - (p + 1) + (t - f) = t - (p + 1) by omega, ext_ext s (p + 1) _ _ (by omega), ext_end s (p + 1) _, show p + 1 + (f - (p + 1)) = f by omega, show p + 1 + (t - (p + 1)) = t by omega]
        by_cases hb : bare (s.extract f t) = true
        · rw [if_pos hb, if_pos hb]; rfl
        · rw [if_neg hb, if_neg hb]; rfl
    · rw [if_neg c2, if_neg c2, cutAt_at s (p + 1) _ (by omega)]
      cases ha : atP s (p + 1) ((bt s p).toNat - 192) with
      | none => rfl
      | some e =>
        obtain ⟨f, t⟩ := e
        obtain ⟨k1, k2, k3⟩ := atP_le ha
        simp only [Option.map_some]
        rw [show f - (p + 1) + (t - f) = t - (p + 1) by omega, ext_ext s (p + 1) _ _ (by omega), ext_end s (p + 1) _, show p + 1 + (f - (p + 1)) = f by omega, show p + 1 + (t - (p + 1)) = t by omega]
        rfl
end Go.Proofs.Yteaongogomhooaa
