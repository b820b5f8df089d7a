/- Lemmas: What 'shown' answers; and what paths of two keys have to do with each other. -/
import Derived.Test.YtbmapdkcccdmfaaDoorM1
import Derived.Test.YtbmapdkcccdmfaaDoorM11
import Derived.Test.YtbmapdkcccdmfaaDoorM18
import Derived.Test.YtbmapdkcccdmfaaDoorM19
import Derived.Test.YtbmapdkcccdmfaaDoorM20
import Derived.Test.YtbmapdkcccdmfaaDoorM21
import Derived.Test.YtbmapdkcccdmfaaDoorM22
import Derived.Test.YtbmapdkcccdmfaaDoorM23
import Derived.Test.YtbmapdkcccdmfaaDoorM24
import Derived.Test.YtbmapdkcccdmfaaDoorM25
import Derived.Test.YtbmapdkcccdmfaaDoorM26
import Derived.Test.YtbmapdkcccdmfaaDoorM3
import Derived.Test.YtbmapdkcccdmfaaDoorRows
import Derived.BigQuiet
namespace Go.Proofs.YtbmapdkcccdmfaaDoor
open Go.RowKit Go.Sort

theorem of_size (s : ByteArray) : (ofOf s).size = 2 * s.size := n_by8_size _ _

end Go.Proofs.YtbmapdkcccdmfaaDoor
