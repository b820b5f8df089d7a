/- Lemmas: The reference's padded, at this translation: for all texts of at most a hundred thousand bytes. -/
import Derived.Test.YtoddangedbefgabGreatDoorM1
import Derived.Test.YtoddangedbefgabGreatDoorM10
import Derived.Test.YtoddangedbefgabGreatDoorM11
import Derived.Test.YtoddangedbefgabGreatDoorM12
import Derived.Test.YtoddangedbefgabGreatDoorM16
import Derived.Test.YtoddangedbefgabGreatDoorM3
import Derived.Test.YtoddangedbefgabGreatDoorM8
import Derived.Test.YtoddangedbefgabGreatDoorM9
import Derived.Test.YtoddangedbefgabGreatDoorRows
namespace Go.Proofs.YtoddangedbefgabGreatDoor
open Go.RowKit Go.Sort

theorem one_new' (w : World) (x : Value) (t : TypeId) : ∀ j u, [x][j]? = some u → (w.alloc (.cells #[x] t)).cell? ((⟨w.heap.size, 0, none⟩ : Addr).add j) = some u := by
 intro j u hj
 match j, hj with
 | 0, hj => simp at hj; subst hj; simp [Addr.add]

end Go.Proofs.YtoddangedbefgabGreatDoor
