/- Lemmas: The halves of a form, gone through. -/
import Derived.Test.YtbmapdkcccdmfabDoorM1
import Derived.Test.YtbmapdkcccdmfabDoorM11
import Derived.Test.YtbmapdkcccdmfabDoorM18
import Derived.Test.YtbmapdkcccdmfabDoorM19
import Derived.Test.YtbmapdkcccdmfabDoorM20
import Derived.Test.YtbmapdkcccdmfabDoorM21
import Derived.Test.YtbmapdkcccdmfabDoorM22
import Derived.Test.YtbmapdkcccdmfabDoorM23
import Derived.Test.YtbmapdkcccdmfabDoorM3
import Derived.Test.YtbmapdkcccdmfabDoorRows
namespace Go.Proofs.YtbmapdkcccdmfabDoor
open Go.RowKit Go.Shelf
attribute [local go_sem] Oper.semAt_some

/-- What stands in a form: the halves ahead of the path, and the path. -/
def full (p : ByteArray) (leaf : Bool) : ByteArray := hdOf p.size leaf ++ p
theorem hd_size (n : Nat) (leaf : Bool) : (hdOf n leaf).size = 2 - n % 2 := by
  cases leaf <;> unfold hdOf <;> by_cases h : n % 2 = 0 <;> simp only [h, if_true, if_false] <;> first | rfl | (rw [show n % 2 = 1 by omega]; rfl)
theorem full_size (p : ByteArray) (leaf : Bool) : (full p leaf).size = (hdOf p.size leaf).size + p.size := by
  unfold full
  rw [ByteArray.size_append]
theorem n_bt_app (a b : ByteArray) (j : Nat) : n_bt (a ++ b) j = if j < a.size then n_bt a j else n_bt b (j - a.size) := by
  unfold n_bt
  have e : (a ++ b).data = a.data ++ b.data := by simp
  rw [e]
  have hz : a.data.size = a.size := rfl
  have hs : (a.data ++ b.data).size = a.size + b.size := by rw [Array.size_append]; rfl
  by_cases h : j < a.size
  · rw [if_pos h]
    simp [Array.getD, hz, h, Nat.lt_of_lt_of_le h (Nat.le_add_right _ _)]
  · rw [if_neg h]
    congr 2
    rw [Array.getD_eq_getD_getElem?, Array.getD_eq_getD_getElem?, Array.getElem?_append_right (by rw [hz]; omega), hz]
/-- What is handed on of a place. -/
def fEnc (p : ByteArray) (leaf : Bool) (x : Nat) : Array Value := #[.int .i64 ((x % 4294967296 : Nat) : Int), .int .u8 (n_bt (full p leaf) x)]
/-- Whether it is a leaf's, in its box. -/
def BolIn (bL : Nat) (v : Bool) (W : World) : Prop := W.heap[bL]? = some (.cells #[.bool v] 4 (0, 0))

end Go.Proofs.YtbmapdkcccdmfabDoor
