/- Lemmas: What the package's pick does at Lights, committees, messages. No condition. -/
import Derived.Test.YtoddangedbefgabGreatDoorM35
set_option maxRecDepth 20000
set_option maxHeartbeats 4000000
namespace Go.Proofs.YtoddangedbefgabGreatDoor
open Go.RowKit Go.Shelf Go.Sort
theorem box3 (w : World) (o1 o2 o3 : Obj) : Below w.heap.size w (((w.alloc o1).alloc o2).alloc o3) ∧ (((w.alloc o1).alloc o2).alloc o3).heap[w.heap.size]? = some o1 ∧ (((w.alloc o1).alloc o2).alloc o3).heap[w.heap.size + 1]? = some o2 ∧ (((w.alloc o1).alloc o2).alloc o3).heap[w.heap.size + 2]? = some o3 ∧ (((w.alloc o1).alloc o2).alloc o3).heap.size = w.heap.size + 3 := by
 obtain ⟨h1, h2, h3, h4⟩ := box2 w o1 o2
 obtain ⟨g1, g2, g3⟩ := box1 ((w.alloc o1).alloc o2) o3
 rw [h4] at g1 g2
 exact ⟨h1.trans (g1.mono (by omega)), (g1.block _ (by omega)).trans h2, (g1.block _ (by omega)).trans h3, g2, by rw [g3, h4]⟩
theorem pickLt_any (c : Bool) (A B : Array Value) (hA : Hid (A.size = 9)) (hB : Hid (B.size = 9)) (oA : A.all (·.oneCell') = true) (oB : B.all (·.oneCell') = true) (w : World) :
  Calls Tryz.prog 27 #[.bool c, .agg A, .agg B] w fun x w' => x = .returned (.agg (if c = true then A else B)) ∧ Below w.heap.size w w' := by
 obtain ⟨BV, xA, xB, z0, hs⟩ := box3 w (.cells A 29) (.cells B 29) (.cells #[.int .u64 0, .int .u64 0, .string ⟨#[]⟩, .string ⟨#[]⟩, .string ⟨#[]⟩, .string ⟨#[]⟩, .string ⟨#[]⟩, .int .u64 0, .slice none 0 0] 29)
 obtain ⟨z, hz⟩ : ∃ z, w.heap.size = z := ⟨_, rfl⟩
 have HZ : Hid (w.heap.size = z) := hz
 rw [hz] at BV xA xB z0 hs
 go_enter Tryz.func27, Tryz.ntmps27
 cases c with
 | true =>
  have hQ : Hid _ := hA
  have hO : Hid _ := oA
  have hR := xA
  have HX : Hid (_ ∧ _ ∧ _) := ⟨BV, z0, hs⟩
  clear xA xB BV hs oA oB
  go_wp2_with (first | (refine wpList_load_row rfl 29 _ rfl z rfl _ _ _ _ hR Tryz.underlying29 rfl (by rw [hQ.out]; kernel_rfl) ?_) | (refine jao rfl rfl 29 _ _ rfl (z + 2) _ rfl rfl 29 _ z0 (by rw [hQ.out]; kernel_rfl) (by rw [hQ.out]; rfl) hO.out ?_))
  obtain ⟨BV, y0, hs⟩ := HX.out
  refine bodyPost_ret (results_cell_row rfl _ _ (z + 2) 29 _ (0, 0) _ rfl (Bq.row (show Bq (z + 2) 29 _ _ from y0) A) Tryz.underlying29 rfl (by rw [hQ.out]; kernel_rfl)) rfl ⟨rfl, ?_⟩
  exact jas BV (by omega) A
 | false =>
  have hQ : Hid _ := hB
  have hO : Hid _ := oB
  have hR := xB
  have HX : Hid (_ ∧ _ ∧ _) := ⟨BV, z0, hs⟩
  clear xA xB BV hs oA oB
  go_wp2_with (first | (refine wpList_load_row rfl 29 _ rfl (z + 1) rfl _ _ _ _ hR Tryz.underlying29 rfl (by rw [hQ.out]; kernel_rfl) ?_) | (refine jao rfl rfl 29 _ _ rfl (z + 2) _ rfl rfl 29 _ z0 (by rw [hQ.out]; kernel_rfl) (by rw [hQ.out]; rfl) hO.out ?_))
  obtain ⟨BV, y0, hs⟩ := HX.out
  refine bodyPost_ret (results_cell_row rfl _ _ (z + 2) 29 _ (0, 0) _ rfl (Bq.row (show Bq (z + 2) 29 _ _ from y0) B) Tryz.underlying29 rfl (by rw [hQ.out]; kernel_rfl)) rfl ⟨rfl, ?_⟩
  exact jas BV (by omega) B
theorem pickCm_any (c : Bool) (A B : Array Value) (hA : Hid (A.size = 2)) (hB : Hid (B.size = 2)) (oA : A.all (·.oneCell') = true) (oB : B.all (·.oneCell') = true) (w : World) :
  Calls Tryz.prog 86 #[.bool c, .agg A, .agg B] w fun x w' => x = .returned (.agg (if c = true then A else B)) ∧ Below w.heap.size w w' := by
 obtain ⟨BV, xA, xB, z0, hs⟩ := box3 w (.cells A 31) (.cells B 31) (.cells #[.slice none 0 0, .string ⟨#[]⟩] 31)
 obtain ⟨z, hz⟩ : ∃ z, w.heap.size = z := ⟨_, rfl⟩
 have HZ : Hid (w.heap.size = z) := hz
 rw [hz] at BV xA xB z0 hs
 go_enter Tryz.func86, Tryz.ntmps86
 cases c with
 | true =>
  have hQ : Hid _ := hA
  have hO : Hid _ := oA
  have hR := xA
  have HX : Hid (_ ∧ _ ∧ _) := ⟨BV, z0, hs⟩
  clear xA xB BV hs oA oB
  go_wp2_with (first | (refine wpList_load_row rfl 31 _ rfl z rfl _ _ _ _ hR Tryz.underlying31 rfl (by rw [hQ.out]; kernel_rfl) ?_) | (refine jao rfl rfl 31 _ _ rfl (z + 2) _ rfl rfl 31 _ z0 (by rw [hQ.out]; kernel_rfl) (by rw [hQ.out]; rfl) hO.out ?_))
  obtain ⟨BV, y0, hs⟩ := HX.out
  refine bodyPost_ret (results_cell_row rfl _ _ (z + 2) 31 _ (0, 0) _ rfl (Bq.row (show Bq (z + 2) 31 _ _ from y0) A) Tryz.underlying31 rfl (by rw [hQ.out]; kernel_rfl)) rfl ⟨rfl, ?_⟩
  exact jas BV (by omega) A
 | false =>
  have hQ : Hid _ := hB
  have hO : Hid _ := oB
  have hR := xB
  have HX : Hid (_ ∧ _ ∧ _) := ⟨BV, z0, hs⟩
  clear xA xB BV hs oA oB
  go_wp2_with (first | (refine wpList_load_row rfl 31 _ rfl (z + 1) rfl _ _ _ _ hR Tryz.underlying31 rfl (by rw [hQ.out]; kernel_rfl) ?_) | (refine jao rfl rfl 31 _ _ rfl (z + 2) _ rfl rfl 31 _ z0 (by rw [hQ.out]; kernel_rfl) (by rw [hQ.out]; rfl) hO.out ?_))
  obtain ⟨BV, y0, hs⟩ := HX.out
  refine bodyPost_ret (results_cell_row rfl _ _ (z + 2) 31 _ (0, 0) _ rfl (Bq.row (show Bq (z + 2) 31 _ _ from y0) B) Tryz.underlying31 rfl (by rw [hQ.out]; kernel_rfl)) rfl ⟨rfl, ?_⟩
  exact jas BV (by omega) B
theorem pickUp_any (c : Bool) (A B : Array Value) (hA : Hid (A.size = 25)) (hB : Hid (B.size = 25)) (oA : A.all (·.oneCell') = true) (oB : B.all (·.oneCell') = true) (w : World) :
  Calls Tryz.prog 26 #[.bool c, .agg A, .agg B] w fun x w' => x = .returned (.agg (if c = true then A else B)) ∧ Below w.heap.size w w' := by
 obtain ⟨BV, xA, xB, z0, hs⟩ := box3 w (.cells A 33) (.cells B 33) (.cells zUA 33)
 obtain ⟨z, hz⟩ : ∃ z, w.heap.size = z := ⟨_, rfl⟩
 have HZ : Hid (w.heap.size = z) := hz
 rw [hz] at BV xA xB z0 hs
 go_enter Tryz.func26, Tryz.ntmps26
 cases c with
 | true =>
  have hQ : Hid _ := hA
  have hO : Hid _ := oA
  have hR := xA
  have HX : Hid (_ ∧ _ ∧ _) := ⟨BV, z0, hs⟩
  clear xA xB BV hs oA oB
  go_wp2_with (first | (refine wpList_load_row rfl 33 _ rfl z rfl _ _ _ _ hR Tryz.underlying33 rfl (by rw [hQ.out]; kernel_rfl) ?_) | (refine jao rfl rfl 33 _ _ rfl (z + 2) _ rfl rfl 33 _ z0 (by rw [hQ.out]; kernel_rfl) (by rw [hQ.out]; rfl) hO.out ?_))
  obtain ⟨BV, y0, hs⟩ := HX.out
  refine bodyPost_ret (results_cell_row rfl _ _ (z + 2) 33 _ (0, 0) _ rfl (Bq.row (show Bq (z + 2) 33 _ _ from y0) A) Tryz.underlying33 rfl (by rw [hQ.out]; kernel_rfl)) rfl ⟨rfl, ?_⟩
  exact jas BV (by omega) A
 | false =>
  have hQ : Hid _ := hB
  have hO : Hid _ := oB
  have hR := xB
  have HX : Hid (_ ∧ _ ∧ _) := ⟨BV, z0, hs⟩
  clear xA xB BV hs oA oB
  go_wp2_with (first | (refine wpList_load_row rfl 33 _ rfl (z + 1) rfl _ _ _ _ hR Tryz.underlying33 rfl (by rw [hQ.out]; kernel_rfl) ?_) | (refine jao rfl rfl 33 _ _ rfl (z + 2) _ rfl rfl 33 _ z0 (by rw [hQ.out]; kernel_rfl) (by rw [hQ.out]; rfl) hO.out ?_))
  obtain ⟨BV, y0, hs⟩ := HX.out
  refine bodyPost_ret (results_cell_row rfl _ _ (z + 2) 33 _ (0, 0) _ rfl (Bq.row (show Bq (z + 2) 33 _ _ from y0) B) Tryz.underlying33 rfl (by rw [hQ.out]; kernel_rfl)) rfl ⟨rfl, ?_⟩
  exact jas BV (by omega) B
end Go.Proofs.YtoddangedbefgabGreatDoor
