/- Lemmas: What 'shown' answers; and what paths of two keys have to do with each other. -/
import Derived.Test.YtbmapdkcccdmfaaGreatDoorM1
import Derived.Test.YtbmapdkcccdmfaaGreatDoorM11
import Derived.Test.YtbmapdkcccdmfaaGreatDoorM18
import Derived.Test.YtbmapdkcccdmfaaGreatDoorM19
import Derived.Test.YtbmapdkcccdmfaaGreatDoorM20
import Derived.Test.YtbmapdkcccdmfaaGreatDoorM21
import Derived.Test.YtbmapdkcccdmfaaGreatDoorM22
import Derived.Test.YtbmapdkcccdmfaaGreatDoorM23
import Derived.Test.YtbmapdkcccdmfaaGreatDoorM24
import Derived.Test.YtbmapdkcccdmfaaGreatDoorM25
import Derived.Test.YtbmapdkcccdmfaaGreatDoorM26
import Derived.Test.YtbmapdkcccdmfaaGreatDoorM3
import Derived.Test.YtbmapdkcccdmfaaGreatDoorRows
import Derived.BigQuiet
namespace Go.Proofs.YtbmapdkcccdmfaaGreatDoor
open Go.RowKit Go.Sort

theorem of_size (s : ByteArray) : (ofOf s).size = 2 * s.size := n_by8_size _ _
theorem bt_of (s : ByteArray) (j : Nat) (hj : j < 2 * s.size) : n_bt (ofOf s) j = half s j := n_bt_by8 _ _ (fun j => by have := half_bd s j; omega) j hj

end Go.Proofs.YtbmapdkcccdmfaaGreatDoor
