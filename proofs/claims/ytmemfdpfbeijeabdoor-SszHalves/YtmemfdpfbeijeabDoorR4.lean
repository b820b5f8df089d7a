/- The reference's spread, walked. -/
import Derived.Test.YtmemfdpfbeijeabDoorR3
namespace Go.Proofs.YtmemfdpfbeijeabDoor
open Go.RowKit Go.Sort

end Go.Proofs.YtmemfdpfbeijeabDoor
