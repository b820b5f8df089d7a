/- The memory of a division as its loop begins. -/
import Derived.Test.YtgapcjdgakamoaaW12a
namespace Go.Proofs.Ytgapcjdgakamoaa
open Go.RowKit Go.Shelf

theorem st_start (n0 n1 n2 n3 n4 n5 n6 n7 n8 n9 n10 n11 d0 d1 d2 d3 e0 e1 e2 e3 m0 m1 m2 m3 m4 m5 m6 m7 m8 m9 m10 m11 : Int) (w w4 w5 : World) (W0 : World) (hW0 : W0 = (((((w.alloc (.cells #[.int .u64 n0, .int .u64 n1, .int .u64 n2, .int .u64 n3, .int .u64 n4, .int .u64 n5, .int .u64 n6, .int .u64 n7, .int .u64 n8, .int .u64 n9, .int .u64 n10, .int .u64 n11] 41)).alloc (.cells #[.int .u64 d0, .int .u64 d1, .int .u64 d2, .int .u64 d3] 24)).alloc (.cells #[.int .u64 0, .int .u64 0, .int .u64 0, .int .u64 0] 24)).alloc (.cells #[.int .u64 0, .int .u64 0, .int .u64 0, .int .u64 0] 24)).alloc (.cells #[.int .u64 0, .int .u64 0, .int .u64 0, .int .u64 0] 24)).alloc (.cells #[.int .u64 0, .int .u64 0, .int .u64 0, .int .u64 0] 24)) (c4 : Below W0.heap.size W0 w4) (W4 : World) (hW4 : W4 = w4.alloc (.cells #[.int .u64 e0, .int .u64 e1, .int .u64 e2, .int .u64 e3] 24)) (hb5 : Below W4.heap.size W4 w5) (W6 : World) (hW6 : W6 = ((w5.alloc (.cells #[.int .u64 m0, .int .u64 m1, .int .u64 m2, .int .u64 m3, .int .u64 m4, .int .u64 m5, .int .u64 m6, .int .u64 m7, .int .u64 m8, .int .u64 m9, .int .u64 m10, .int .u64 m11] 41)).alloc (.cells #[.int .u64 0, .int .u64 0, .int .u64 0, .int .u64 0, .int .u64 0, .int .u64 0, .int .u64 0, .int .u64 0, .int .u64 0, .int .u64 0, .int .u64 0, .int .u64 0] 41)).alloc (.cells #[.int .u64 m0, .int .u64 m1, .int .u64 m2, .int .u64 m3, .int .u64 m4, .int .u64 m5, .int .u64 m6, .int .u64 m7, .int .u64 m8, .int .u64 m9, .int .u64 m10, .int .u64 m11] 41)) :
    Ds (w.heap.size + 1 + 1) (w.heap.size + 1 + 1 + 1) (w.heap.size + 1 + 1 + 1 + 1) (w.heap.size + 1 + 1 + 1 + 1 + 1) w4.heap.size w5.heap.size (w5.heap.size + 1) (w5.heap.size + 1 + 1) ∧ St (w.heap.size + 1 + 1) (w.heap.size + 1 + 1 + 1) (w.heap.size + 1 + 1 + 1 + 1) (w.heap.size + 1 + 1 + 1 + 1 + 1) w4.heap.size w5.heap.size (w5.heap.size + 1) (w5.heap.size + 1 + 1) (fun i => [e0, e1, e2, e3].getD i 0) (fun i => [m0, m1, m2, m3, m4, m5, m6, m7, m8, m9, m10, m11].getD i 0) (fun _ => 0) (fun i => [m0, m1, m2, m3, m4, m5, m6, m7, m8, m9, m10, m11].getD i 0) (fun _ => 0) W6 ∧ Below w.heap.size w W6 := by
  have s0 : W0.heap.size = w.heap.size + 6 := by rw [hW0]; simp
  have s4 : W4.heap.size = w4.heap.size + 1 := by rw [hW4]; simp
  have s6 : W6.heap.size = w5.heap.size + 3 := by rw [hW6]; simp
  have z1 := c4.size
  have z2 := hb5.size
  have c5 : Below W0.heap.size W0 w5 := by
    have : Below W0.heap.size W0 W4 := by rw [hW4]; exact c4.alloc z1 _
    exact this.trans (hb5.mono (by omega))
  have c6 : Below W0.heap.size W0 W6 := by
    rw [hW6]; exact ((c5.alloc (by omega) _).alloc (by simp; omega) _).alloc (by simp; omega) _
  have e6 : Below W4.heap.size W4 W6 := by
    rw [hW6]; exact ((hb5.alloc (by omega) _).alloc (by simp; omega) _).alloc (by simp; omega) _
  refine ⟨⟨by omega, by omega, by omega, by omega, by omega, by omega, by omega⟩, ?_, ?_⟩
  · refine ⟨?_, ?_, ?_, ?_, ?_, ?_, ?_, ?_, ?_, ?_, ?_, ?_, ?_, by omega⟩
    · intro i hi
      refine (c6.cell (p := ⟨_, i, none⟩) (by dsimp only; omega)).trans ?_
      rw [hW0]
      match i, hi with
      | 0, _ => simp [go_sem]
      | 1, _ => simp [go_sem]
      | 2, _ => simp [go_sem]
      | 3, _ => simp [go_sem]
    · intro i hi
      refine (c6.cell (p := ⟨_, i, none⟩) (by dsimp only; omega)).trans ?_
      rw [hW0]
      match i, hi with
      | 0, _ => simp [go_sem]
      | 1, _ => simp [go_sem]
      | 2, _ => simp [go_sem]
      | 3, _ => simp [go_sem]
    · intro i hi
      refine (c6.cell (p := ⟨_, i, none⟩) (by dsimp only; omega)).trans ?_
      rw [hW0]
      match i, hi with
      | 0, _ => simp [go_sem]
      | 1, _ => simp [go_sem]
      | 2, _ => simp [go_sem]
      | 3, _ => simp [go_sem]
    · intro i hi
      refine (c6.cell (p := ⟨_, i, none⟩) (by dsimp only; omega)).trans ?_
      rw [hW0]
      match i, hi with
      | 0, _ => simp [go_sem]
      | 1, _ => simp [go_sem]
      | 2, _ => simp [go_sem]
      | 3, _ => simp [go_sem]
    · intro i hi
      refine (e6.cell (p := ⟨_, i, none⟩) (by dsimp only; omega)).trans ?_
      rw [hW4]
      match i, hi with
      | 0, _ => simp [go_sem]
      | 1, _ => simp [go_sem]
      | 2, _ => simp [go_sem]
      | 3, _ => simp [go_sem]
    · intro i hi
      rw [hW6]
      match i, hi with
      | 0, _ => simp [go_sem]
      | 1, _ => simp [go_sem]
      | 2, _ => simp [go_sem]
      | 3, _ => simp [go_sem]
      | 4, _ => simp [go_sem]
      | 5, _ => simp [go_sem]
      | 6, _ => simp [go_sem]
      | 7, _ => simp [go_sem]
      | 8, _ => simp [go_sem]
      | 9, _ => simp [go_sem]
      | 10, _ => simp [go_sem]
      | 11, _ => simp [go_sem]
    · intro i hi
      rw [hW6]
      match i, hi with
      | 0, _ => simp [go_sem]
      | 1, _ => simp [go_sem]
      | 2, _ => simp [go_sem]
      | 3, _ => simp [go_sem]
      | 4, _ => simp [go_sem]
      | 5, _ => simp [go_sem]
      | 6, _ => simp [go_sem]
      | 7, _ => simp [go_sem]
      | 8, _ => simp [go_sem]
      | 9, _ => simp [go_sem]
      | 10, _ => simp [go_sem]
      | 11, _ => simp [go_sem]
    · intro i hi
      rw [hW6]
      match i, hi with
      | 0, _ => simp [go_sem]
      | 1, _ => simp [go_sem]
      | 2, _ => simp [go_sem]
      | 3, _ => simp [go_sem]
      | 4, _ => simp [go_sem]
      | 5, _ => simp [go_sem]
      | 6, _ => simp [go_sem]
      | 7, _ => simp [go_sem]
      | 8, _ => simp [go_sem]
      | 9, _ => simp [go_sem]
      | 10, _ => simp [go_sem]
      | 11, _ => simp [go_sem]
    · intro o
      refine (c6.frozen (p := ⟨_, o, none⟩) (by dsimp only; omega)).trans ?_
      rw [hW0]; simp [go_sem]
    · intro o
      refine (c6.frozen (p := ⟨_, o, none⟩) (by dsimp only; omega)).trans ?_
      rw [hW0]; simp [go_sem]
    · intro o
      refine (c6.frozen (p := ⟨_, o, none⟩) (by dsimp only; omega)).trans ?_
      rw [hW0]; simp [go_sem]
    · intro o
      rw [hW6]; simp [go_sem]
    · intro o
      rw [hW6]; simp [go_sem]
  · have : Below w.heap.size w W0 := by rw [hW0]; go_grown
    exact this.trans (c6.mono (by omega))
end Go.Proofs.Ytgapcjdgakamoaa
