/- Lemmas: Bytes of a text. No condition. -/
import Derived.Test.YtoddangedbefgaaGreatDoorM1
import Derived.Test.YtoddangedbefgaaGreatDoorRows
import Derived.Laws.IdiomStrings
namespace Go.Proofs.YtoddangedbefgaaGreatDoor
open Go.RowKit Go.Sort

def bt (s : ByteArray) (i : Nat) : Int := ((s.data.getD i 0).toNat : Int)
theorem bt_get (s : ByteArray) (d : Nat) (h : d < s.size) : ((s[d]'h).toNat : Int) = bt s d := by
 have : s.data.getD d 0 = s[d]'h := by
  simp [Array.getD, h]
  rfl
 unfold bt
 rw [this]
def by8 (n : Nat) (f : Nat → Int) : List UInt8 := (List.range n).map fun j => UInt8.ofNat (f j).toNat
theorem by8_len (n : Nat) (f : Nat → Int) : (by8 n f).length = n := by simp [by8]
theorem by8_at (n : Nat) (f : Nat → Int) (hf : ∀ j, 0 ≤ f j ∧ f j < 256) (j : Nat) (hj : j < (by8 n f).length) : ((by8 n f)[j].toNat : Int) = f j := by
 have h := hf j
 simp only [by8, List.getElem_map, List.getElem_range, UInt8.toNat_ofNat']
 omega

end Go.Proofs.YtoddangedbefgaaGreatDoor
