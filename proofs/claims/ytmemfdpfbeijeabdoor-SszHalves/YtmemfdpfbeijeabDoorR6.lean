/- The reference's take, at this translation. -/
import Derived.Test.YtmemfdpfbeijeabDoorR4
import Derived.Test.YtmemfdpfbeijeabDoorR5
namespace Go.Proofs.YtmemfdpfbeijeabDoor
open Go.RowKit Go.Sort

theorem size_w8 : (Tryd.prog.info? 49).map (·.size) = some 8 := by kernel_rfl
theorem g1_is (x : Int) : g1 x = bits .xor .u32 (bits .xor .u32 (ror x 6) (ror x 11)) (ror x 25) := rfl
theorem at_lit (v : Ei) : (fl 8 fun j => .int .u32 (v.at j)).toArray = v.l := rfl

/-- What take has in memory. -/
structure RT (w : World) (z g1 g2 g3 : Nat) (hv u : Ei) (g : Nat → Int) (W : World) : Prop where
  b : Below z w W
  h : Fw z 8 (fun j => .int .u32 (hv.at j)) W
  r : Fw (z + 1) 8 (fun _ => .int .u32 0) W
  w : Fw g1 64 (fun j => .int .u32 (g j)) W
  k : Fw g2 64 (fun j => .int .u32 (kc j)) W
  v : Fw g3 8 (fun j => .int .u32 (u.at j)) W
theorem RT.below {w : World} {z g1 g2 g3 : Nat} {hv u : Ei} {g : Nat → Int} {W W' : World} (h : RT w z g1 g2 g3 hv u g W) (hb : Below W.heap.size W W') : RT w z g1 g2 g3 hv u g W' :=
  ⟨belowStep h.b (Nat.le_of_lt h.h.z) hb, h.h.below hb, h.r.below hb, h.w.below hb, h.k.below hb, h.v.below hb⟩

end Go.Proofs.YtmemfdpfbeijeabDoor
