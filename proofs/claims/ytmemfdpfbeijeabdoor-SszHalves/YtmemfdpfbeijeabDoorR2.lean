/- The reference's padded, at this translation: for all texts of at most a hundred thousand bytes. -/
import Derived.Test.YtmemfdpfbeijeabDoorBs
import Derived.Test.YtmemfdpfbeijeabDoorS9
namespace Go.Proofs.YtmemfdpfbeijeabDoor
open Go.RowKit Go.Sort

/-- A byte of a text with what follows it in its last blocks; how many there are. -/
def pAt (s : ByteArray) (k : Nat) : Int :=
  if k < s.size then bt s k else if k = s.size then 128 else if k < s.size + 1 + zn (s.size % 64) then 0 else lbAt s.size (k - (s.size + 1 + zn (s.size % 64)))
def pN (s : ByteArray) : Nat := s.size + 9 + zn (s.size % 64)
theorem info_u8' : (Tryd.prog.info? 5).map (fun i => (i.zero, i.size, i.bytes)) = some (some (.int .u8 0), 1, 1) := by kernel_rfl
theorem one_new' (w : World) (x : Value) (t : TypeId) : ∀ j u, [x][j]? = some u → (w.alloc (.cells #[x] t)).cell? ((⟨w.heap.size, 0, none⟩ : Addr).add j) = some u := by
  intro j u hj
  match j, hj with
  | 0, hj => simp at hj; subst hj; simp [Addr.add]
theorem bs_bytes (s : ByteArray) (cap : Nat) (hc : s.size ≤ cap) (w : World) (e : TypeId) (h : Nat → Value) (hh : ∀ j, j < s.size → h j = .int .u8 (bt s j)) :
    Bs w.heap.size s.size cap h (w.alloc (.cells (bytesRow s cap) e ((bytesRow s cap).size, (bytesRow s cap).size + 1))) := by
  have hz : (bytesRow s cap).size = cap := by
    have : s.data.size = s.size := rfl
    simp [bytesRow, this]; omega
  refine ⟨by simp, hc, fun j hj => ?_, fun j hj => ?_, fun j hj => ?_⟩
  · rw [World.cell?_alloc_mark, bytesRow_at s cap j hj, hh j hj]
    unfold bt
    have : s.data.getD j 0 = s.data[j]'hj := by
      have hj' : j < s.data.size := hj
      simp only [Array.getD, hj', dite_true]
      rfl
    rw [this]
  · rw [World.cell?_alloc_mark, Array.getElem?_eq_getElem (by rw [hz]; exact hj)]
    rfl
  · rw [World.frozen?_alloc_mark, hz]
    simp; omega

end Go.Proofs.YtmemfdpfbeijeabDoor
