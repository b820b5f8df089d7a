/- Lemmas: The reference's padded, at this translation: for all texts of at most a hundred thousand bytes. The reference's take, at this translation. -/
import Derived.Test.YtoddangedbefgabGreatDoorM1
import Derived.Test.YtoddangedbefgabGreatDoorM10
import Derived.Test.YtoddangedbefgabGreatDoorM11
import Derived.Test.YtoddangedbefgabGreatDoorM12
import Derived.Test.YtoddangedbefgabGreatDoorM16
import Derived.Test.YtoddangedbefgabGreatDoorM3
import Derived.Test.YtoddangedbefgabGreatDoorM8
import Derived.Test.YtoddangedbefgabGreatDoorM9
import Derived.Test.YtoddangedbefgabGreatDoorRows
namespace Go.Proofs.YtoddangedbefgabGreatDoor
open Go.RowKit Go.Sort

theorem info_u8' : (Tryz.prog.info? 5).map (fun i => (i.zero, i.size, i.bytes)) = some (some (.int .u8 0), 1, 1) := by kernel_rfl
theorem one_new' (w : World) (x : Value) (t : TypeId) : ∀ j u, [x][j]? = some u → (w.alloc (.cells #[x] t)).cell? ((⟨w.heap.size, 0, none⟩ : Addr).add j) = some u := by
 intro j u hj
 match j, hj with
 | 0, hj => simp at hj; subst hj; simp [Addr.add]
theorem bs_bytes (s : ByteArray) (cap : Nat) (hc : s.size ≤ cap) (w : World) (e : TypeId) (h : Nat → Value) (hh : ∀ j, j < s.size → h j = .int .u8 (s_bt s j)) :
  Bs w.heap.size s.size cap h (w.alloc (.cells (bytesRow s cap) e ((bytesRow s cap).size, (bytesRow s cap).size + 1))) := by
 have hz : (bytesRow s cap).size = cap := by
  have : s.data.size = s.size := rfl
  simp [bytesRow, this]; omega
 refine ⟨by simp, hc, fun j hj => ?_, fun j hj => ?_, fun j hj => ?_⟩
 ·rw [World.cell?_alloc_mark, bytesRow_at s cap j hj, hh j hj]
  unfold s_bt
  have : s.data.getD j 0 = s.data[j]'hj := by
   have hj' : j < s.data.size := hj
   simp only [Array.getD, hj', dite_true]
   rfl
  rw [this]
 ·rw [World.cell?_alloc_mark, Array.getElem?_eq_getElem (by rw [hz]; exact hj)]
  rfl
 ·rw [World.frozen?_alloc_mark, hz]
  simp; omega

end Go.Proofs.YtoddangedbefgabGreatDoor
namespace Go.Proofs.YtoddangedbefgabGreatDoor
open Go.RowKit Go.Sort


structure RT (w : World) (z g1 g2 g3 : Nat) (hv u : Ei) (g : Nat → Int) (W : World) : Prop where
 b : Below z w W
 h : Fw z 8 (fun j => .int .u32 (hv.at j)) W
 r : Fw (z + 1) 8 (fun _ => .int .u32 0) W
 w : Fw g1 64 (fun j => .int .u32 (g j)) W
 k : Fw g2 64 (fun j => .int .u32 (kc j)) W
 v : Fw g3 8 (fun j => .int .u32 (u.at j)) W
theorem RT.below {w : World} {z g1 g2 g3 : Nat} {hv u : Ei} {g : Nat → Int} {W W' : World} (h : RT w z g1 g2 g3 hv u g W) (hb : Below W.heap.size W W') : RT w z g1 g2 g3 hv u g W' :=
 ⟨belowStep h.b (Nat.le_of_lt h.h.z) hb, h.h.below hb, h.r.below hb, h.w.below hb, h.k.below hb, h.v.below hb⟩

end Go.Proofs.YtoddangedbefgabGreatDoor
