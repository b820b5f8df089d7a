/- Lemmas: What is shown first: the root of a header, and of one that is none. -/
import Derived.Test.YtmefanagpkbjeaaDoorM1
import Derived.Test.YtmefanagpkbjeaaDoorM10
import Derived.Test.YtmefanagpkbjeaaDoorM11
import Derived.Test.YtmefanagpkbjeaaDoorM12
import Derived.Test.YtmefanagpkbjeaaDoorM13
import Derived.Test.YtmefanagpkbjeaaDoorM14
import Derived.Test.YtmefanagpkbjeaaDoorM15
import Derived.Test.YtmefanagpkbjeaaDoorM16
import Derived.Test.YtmefanagpkbjeaaDoorM17
import Derived.Test.YtmefanagpkbjeaaDoorM18
import Derived.Test.YtmefanagpkbjeaaDoorM19
import Derived.Test.YtmefanagpkbjeaaDoorM2
import Derived.Test.YtmefanagpkbjeaaDoorM20
import Derived.Test.YtmefanagpkbjeaaDoorM21
import Derived.Test.YtmefanagpkbjeaaDoorM22
import Derived.Test.YtmefanagpkbjeaaDoorM23
import Derived.Test.YtmefanagpkbjeaaDoorM24
import Derived.Test.YtmefanagpkbjeaaDoorM25
import Derived.Test.YtmefanagpkbjeaaDoorM26
import Derived.Test.YtmefanagpkbjeaaDoorM27
import Derived.Test.YtmefanagpkbjeaaDoorM28
import Derived.Test.YtmefanagpkbjeaaDoorM3
import Derived.Test.YtmefanagpkbjeaaDoorM4
import Derived.Test.YtmefanagpkbjeaaDoorM6
import Derived.Test.YtmefanagpkbjeaaDoorM7
import Derived.Test.YtmefanagpkbjeaaDoorM8
import Derived.Test.YtmefanagpkbjeaaDoorM9
import Derived.Test.YtmefanagpkbjeaaDoorRows
namespace Go.Proofs.YtmefanagpkbjeaaDoor
open Go.RowKit Go.Shelf Go.Sort

theorem num_zero : z_numOf 0 = zs 32 := by decide +kernel
theorem rt_shown (x z : ByteArray) (hx : x.size = 32) (hz : z.size = 32) : rt8 [x, z, z, z, z] ((3 : Nat) : Int) = true := by
  rw [rt8_iff]
  refine ⟨by decide, by decide, by show 5 ≤ 8; decide, by show 5 ≤ 256; decide, fun y hy => ?_⟩
  simp at hy
  rcases hy with h | h <;> rw [h] <;> assumption
theorem rt_none (x z y : ByteArray) (hy : y.size ≠ 32) : rt8 [x, z, z, z, y] ((3 : Nat) : Int) = false := by
  cases h : rt8 [x, z, z, z, y] ((3 : Nat) : Int) with
  | false => rfl
  | true => exact absurd (((rt8_iff _ _).1 h).2.2.2.2 y (by simp)) hy
set_option maxRecDepth 100000 in
set_option maxHeartbeats 4000000 in
theorem shown13_any (w : World) (hl : Laid w) :
    Calls Tryd.prog 9 #[] w fun e w' => e = .returned (.bool true) ∧ Below w.heap.size w w' := by
  obtain ⟨i0, hi0, hz0, hz1, hz2⟩ := info_parts info_u8'
  have hzs : (zs 32).size = 32 := zs_size 32
  have hex : ((zs 32).extract 1 32).size = 31 := by rw [ByteArray.size_extract, hzs]; rfl
  have KR1 := fun W hL => hroot_any 1 0 (zs 32) (zs 32) (zs 32) W hL
  have KR2 := fun W hL => hroot_any 1 0 (zs 32) (zs 32) ((zs 32).extract 1 32) W hL
  have KN := fun W => z_number_any 1 W
  have HN1 : (z_numOf 1).size = 32 := z_num_size 1
  unfold hdC at KR1 KR2
  rw [num_zero] at KR1 KR2
  obtain ⟨n1, hn1⟩ : ∃ x, z_numOf 1 = x := ⟨_, rfl⟩
  rw [hn1] at KR1 KR2 KN HN1
  have hy31 : ((zs 32).extract 1 32).size ≠ 32 := by omega
  have r1 := rt_shown n1 (zs 32) HN1 hzs
  have r2 := rt_none n1 (zs 32) ((zs 32).extract 1 32) hy31
  unfold rtS rtE at KR1 KR2
  rw [r1, if_pos rfl, if_pos rfl] at KR1
  rw [r2, if_neg (by decide), if_neg (by decide)] at KR2
  have KS : ∀ (g : Nat) (W : World), Laid W → W.heap[g]? = some (.cells #[.string n1, .string (zs 32), .string (zs 32), .string (zs 32), .string (zs 32)] 9 (0, 0)) → Calls Tryd.prog 30 #[.slice (some ⟨g, 0, none⟩) 5 5, .int .i64 3] W fun e w' => e = .returned (.tuple #[.string (lf (lvs [n1, zs 32, zs 32, zs 32, zs 32]) 3 0), .int .i64 0]) ∧ Below W.heap.size W w' := fun g W hL hg => by
    have := root_any [n1, zs 32, zs 32, zs 32, zs 32] ((3 : Nat) : Int) (some ⟨g, 0, none⟩) 5 (g + 1) W hL (Array.getElem?_eq_some_iff.1 hg).1 (slS_cells hg)
    rw [rootV_eq] at this
    unfold rvS rvE at this
    rw [r1, if_pos rfl, if_pos rfl] at this
    exact this
  obtain ⟨y, hy⟩ : ∃ y, lf (lvs [n1, zs 32, zs 32, zs 32, zs 32]) 3 0 = y := ⟨_, rfl⟩
  rw [hy] at KR1 KS
  obtain ⟨z, hz⟩ : ∃ z, zs 32 = z := ⟨_, rfl⟩
  have HZV : Hid (zs 32 = z) := hz
  rw [hz] at KR1 KR2 KS hzs
  obtain ⟨z1, hz1'⟩ : ∃ q, z.extract 1 32 = q := ⟨_, rfl⟩
  rw [hz1'] at KR2
  have HZ1 : Hid (z.extract 1 32 = z1) := hz1'
  have hs1 : (z.size : Int) = 32 := by omega
  clear r1 r2 hy hn1 HN1 hex hy31 hz hz1'
  go_enter Tryd.func9, Tryd.ntmps9
  go_wp2_with (at_make; refine wpList_make_full _ rfl _ _ 58 rfl w.heap.size 5 i0 _ 1 Tryd.underlying58 hi0 hz0 hz1 .i64 .i64 _ _ 32 rfl rfl rfl rfl (by rw [hz2]; omega) (by unfold maxLen; omega) (Nat.le_refl _) ?_; intro w1 hown hgr)
  have hcv := run_convert_bytes_back (P := Tryd.prog) w1 58 9 5 ⟨w.heap.size, 0, none⟩ 32 (s_by8 32 fun _ => 0) Tryd.underlying58 Tryd.underlying5 Tryd.underlying9 (fun j hj => by
    rw [s_by8_at _ _ (fun _ => ⟨by decide, by decide⟩)]
    rw [s_by8_len] at hj
    exact hown.cells (g := w.heap.size) rfl j _ (by simp [madeCells, hj, Value.cells, Nat.mod_one]))
  rw [s_by8_len, show (⟨(s_by8 32 fun _ => 0).toArray⟩ : ByteArray) = z from HZV.out] at hcv
  have B1 : Below w.heap.size w w1 := (Below.refl _ w).grown hgr (Nat.le_refl _) (fun _ e => by cases e)
  clear hown hgr
  first | rw [hcv] | skip
  go_wp2_with fail
  obtain ⟨q, hq⟩ : ∃ q, w1.heap.size = q := ⟨_, rfl⟩
  have A2 : Below w.heap.size w (w1.alloc (.cells #[.int .u64 1, .int .u64 0, .string z, .string z, .string z] 24)) := B1.alloc B1.size _
  have hb2 : (w1.alloc (.cells #[.int .u64 1, .int .u64 0, .string z, .string z, .string z] 24)).heap[q]? = some (.cells #[.int .u64 1, .int .u64 0, .string z, .string z, .string z] 24 (0, 0)) := by rw [← hq]; exact World.alloc_heap_new w1 _
  have hwq : w.heap.size ≤ q := by rw [← hq]; exact B1.size
  refine (KR1 _ (hl.below A2)).mono ?_
  rintro e w2 ⟨rfl, B2⟩
  have BX := belowStep A2 A2.size B2
  have hb := (B2.block q (Array.getElem?_eq_some_iff.1 hb2).1).trans hb2
  rw [hq]
  clear KR1 A2 B2 hb2 B1 hcv hq
  go_wp2_with fail
  refine (KN _).mono ?_
  rintro e w3 ⟨rfl, B3⟩
  have BY := belowStep BX BX.size B3
  have hb3 := (B3.block q (Array.getElem?_eq_some_iff.1 hb).1).trans hb
  clear KN B3 hb BX
  go_wp2_with fail
  have A4 : Below w3.heap.size w3 (w3.alloc (.cells #[.string n1, .string z, .string z, .string z, .string z] 9)) := (Below.refl _ w3).alloc (Nat.le_refl _) _
  refine (KS _ _ ((hl.below BY).below A4) (World.alloc_heap_new w3 _)).mono ?_
  rintro e w4 ⟨rfl, B4⟩
  have BB := belowStep A4 A4.size B4
  have BZ := belowStep BY BY.size BB
  have hb4 := (BB.block q (Array.getElem?_eq_some_iff.1 hb3).1).trans hb3
  have hqw := (Array.getElem?_eq_some_iff.1 hb4).1
  have hmin : (1 : Int) ≤ z.size := by omega
  have hex : z.extract 1 z.size = z1 := by rw [hzs]; exact HZ1.out
  clear KS A4 B4 BB hb3 BY
  have c0 : w4.cell? ⟨q, 0, none⟩ = some (.int .u64 1) := by rw [Lib.cell_of_heap hb4]; rfl
  have c1 : w4.cell? ⟨q, 1, none⟩ = some (.int .u64 0) := by rw [Lib.cell_of_heap hb4]; rfl
  have c2 : w4.cell? ⟨q, 2, none⟩ = some (.string z) := by rw [Lib.cell_of_heap hb4]; rfl
  have c3 : w4.cell? ⟨q, 3, none⟩ = some (.string z) := by rw [Lib.cell_of_heap hb4]; rfl
  have c4 : w4.cell? ⟨q, 4, none⟩ = some (.string z) := by rw [Lib.cell_of_heap hb4]; rfl
  have f4 := fun o => Lib.frozen_of_heap hb4 o
  have HX : Hid _ := BZ
  clear BZ
  go_wp2_with fail
  rw [HZ1.out]
  have BZ := HX.out.setCell (p := ⟨q, 4, none⟩) hwq (.string z1)
  refine (KR2 _ (hl.below BZ)).mono ?_
  rintro e w5 ⟨rfl, B5⟩
  have HF : Hid _ := belowStep BZ BZ.size B5
  have hyy : (y.toList == y.toList) = true := beq_self_eq_true _
  clear KR2 BZ B5 HX hex c0 c1 c2 c3 c4 f4
  go_wp2
  go_ret
  exact ⟨rfl, HF.out⟩
end Go.Proofs.YtmefanagpkbjeaaDoor
