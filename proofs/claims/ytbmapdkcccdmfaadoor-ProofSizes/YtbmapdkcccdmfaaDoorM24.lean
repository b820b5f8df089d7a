/- Lemmas: The halves of a form, gone through. -/
import Derived.Test.YtbmapdkcccdmfaaDoorM1
import Derived.Test.YtbmapdkcccdmfaaDoorM11
import Derived.Test.YtbmapdkcccdmfaaDoorM18
import Derived.Test.YtbmapdkcccdmfaaDoorM19
import Derived.Test.YtbmapdkcccdmfaaDoorM20
import Derived.Test.YtbmapdkcccdmfaaDoorM21
import Derived.Test.YtbmapdkcccdmfaaDoorM22
import Derived.Test.YtbmapdkcccdmfaaDoorM23
import Derived.Test.YtbmapdkcccdmfaaDoorM3
import Derived.Test.YtbmapdkcccdmfaaDoorRows
namespace Go.Proofs.YtbmapdkcccdmfaaDoor
open Go.RowKit Go.Shelf
attribute [local go_sem] Oper.semAt_some

def full (p : ByteArray) (leaf : Bool) : ByteArray := hdOf p.size leaf ++ p
theorem hd_size (n : Nat) (leaf : Bool) : (hdOf n leaf).size = 2 - n % 2 := by
 cases leaf <;> unfold hdOf <;> by_cases h : n % 2 = 0 <;> simp only [h, if_true, if_false] <;> first | rfl | (rw [show n % 2 = 1 by omega]; rfl)
theorem full_size (p : ByteArray) (leaf : Bool) : (full p leaf).size = (hdOf p.size leaf).size + p.size := by
 unfold full
 rw [ByteArray.size_append]
theorem n_bt_app (a b : ByteArray) (j : Nat) : n_bt (a ++ b) j = if j < a.size then n_bt a j else n_bt b (j - a.size) := by
 unfold n_bt
 have e : (a ++ b).data = a.data ++ b.data := by simp
 rw [e]
 have hz : a.data.size = a.size := rfl
 have hs : (a.data ++ b.data).size = a.size + b.size := by rw [Array.size_append]; rfl
 by_cases h : j < a.size
 ·rw [if_pos h]
  simp [Array.getD, hz, h, Nat.lt_of_lt_of_le h (Nat.le_add_right _ _)]
 ·rw [if_neg h]
  congr 2
  rw [Array.getD_eq_getD_getElem?, Array.getD_eq_getD_getElem?, Array.getElem?_append_right (by rw [hz]; omega), hz]

end Go.Proofs.YtbmapdkcccdmfaaDoor
