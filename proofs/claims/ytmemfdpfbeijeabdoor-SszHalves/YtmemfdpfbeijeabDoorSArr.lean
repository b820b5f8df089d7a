/- More on arrays that lie in memory. No condition. -/
import Derived.Test.YtmemfdpfbeijeabDoorArr
import Derived.Test.YtmemfdpfbeijeabDoorTail
namespace Go.Proofs.YtmemfdpfbeijeabDoor
open Go.RowKit Go.Sort

theorem Fw.lit {W : World} {n N : Nat} {g : Nat → Value} (cs : Array Value) (t : TypeId) (hn : W.heap.size = n) (h : cs = (fl N g).toArray) : Fw n N g (W.alloc (.cells cs t)) := by
  subst hn h
  exact Fw.new W N g t
end Go.Proofs.YtmemfdpfbeijeabDoor
