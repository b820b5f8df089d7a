/- Lemmas: The law LightForces, walked. No condition but on sizes that no machine has. -/
import Derived.Test.YtoddangedbefgaaGreatDoorM1
import Derived.Test.YtoddangedbefgaaGreatDoorM10
import Derived.Test.YtoddangedbefgaaGreatDoorM11
import Derived.Test.YtoddangedbefgaaGreatDoorM12
import Derived.Test.YtoddangedbefgaaGreatDoorM13
import Derived.Test.YtoddangedbefgaaGreatDoorM14
import Derived.Test.YtoddangedbefgaaGreatDoorM15
import Derived.Test.YtoddangedbefgaaGreatDoorM16
import Derived.Test.YtoddangedbefgaaGreatDoorM17
import Derived.Test.YtoddangedbefgaaGreatDoorM18
import Derived.Test.YtoddangedbefgaaGreatDoorM19
import Derived.Test.YtoddangedbefgaaGreatDoorM2
import Derived.Test.YtoddangedbefgaaGreatDoorM20
import Derived.Test.YtoddangedbefgaaGreatDoorM21
import Derived.Test.YtoddangedbefgaaGreatDoorM22
import Derived.Test.YtoddangedbefgaaGreatDoorM23
import Derived.Test.YtoddangedbefgaaGreatDoorM24
import Derived.Test.YtoddangedbefgaaGreatDoorM25
import Derived.Test.YtoddangedbefgaaGreatDoorM26
import Derived.Test.YtoddangedbefgaaGreatDoorM3
import Derived.Test.YtoddangedbefgaaGreatDoorM4
import Derived.Test.YtoddangedbefgaaGreatDoorM5
import Derived.Test.YtoddangedbefgaaGreatDoorM6
import Derived.Test.YtoddangedbefgaaGreatDoorM7
import Derived.Test.YtoddangedbefgaaGreatDoorM8
import Derived.Test.YtoddangedbefgaaGreatDoorM9
import Derived.Test.YtoddangedbefgaaGreatDoorRows
namespace Go.Proofs.YtoddangedbefgaaGreatDoor
open Go.RowKit Go.Shelf Go.Sort

set_option maxRecDepth 20000 in
set_option maxHeartbeats 8000000 in
theorem lightforces_nat (s : StD) (now : Nat) (ok : s.ok) (hz : szT s) (q : StP) (w : World) (hl : Laid w) (hp : stIn w.heap.size w s q) (hnow : now < 18446744073709551616) :
  Calls Tryz.prog 7 #[.agg (stV s q).toArray, .int .u64 (now : Int)] w fun e w' => e = .returned (.bool true) ∧ Below w.heap.size w w' := by
 have KS := fun (W : World) (hB : Below w.heap.size w W) => shown14_any W (hl.below hB)
 have K1 := fun (W : World) (hB : Below w.heap.size w W) (hs : w.heap.size ≤ W.heap.size) => force_any s ok hz q now hnow w.heap.size W hs (hp.below hB)
 have K2 := fun (W : World) (hB : Below w.heap.size w W) (hs : w.heap.size ≤ W.heap.size) => rforce_any s ok q now hnow w.heap.size W hs (hp.below hB)
 have K3 := fun (W : World) (qa qb : StP) (ha : stIn W.heap.size W (frS s now) qa) (hb : stIn W.heap.size W (frS s now) qb) => sameSt_any (frS s now) (frS s now) (lgT_sz (fr_szT hz)) (lgT_sz (fr_szT hz)) qa qb W.heap.size W (Nat.le_refl _) ha hb
 rw [(eqSt_iff (frS s now) (frS s now)).2 rfl] at K3
 obtain ⟨FS, hFS⟩ : ∃ x, frS s now = x := ⟨_, rfl⟩
 obtain ⟨FE, hFE⟩ : ∃ x, frE s now = x := ⟨_, rfl⟩
 rw [hFS] at K1 K2 K3
 rw [hFE] at K1 K2
 have HL : Hid ((stV s q).length = 51) := show _ from rfl
 obtain ⟨LB, hLB⟩ : ∃ L, stV s q = L := ⟨_, rfl⟩
 rw [hLB] at K1 K2 HL ⊢
 clear hLB hFS hFE hz hp hl
 obtain ⟨B1, xA, hs⟩ := box1 w (.cells LB.toArray 38)
 obtain ⟨z, hz⟩ : ∃ z, w.heap.size = z := ⟨_, rfl⟩
 have HZ : Hid (w.heap.size = z) := hz
 rw [hz] at B1 xA hs K1 K2 KS
 go_enter Tryz.func7, Tryz.ntmps7
 go_wp2_with fail
 refine (KS _ B1).mono ?_
 rintro e V1 ⟨rfl, C⟩
 have x1 : Bq z 38 LB.toArray V1 := (C.block z (by omega)).trans xA
 have BV1 := belowStep B1 (by omega) C
 have s1 : z + 1 ≤ V1.heap.size := by have := C.size; omega
 clear C xA hs B1 KS hz
 have R1 := range_all x1
 go_wp2_with (first | (refine wpList_load_mid rfl 38 _ rfl z 0 rfl _ _ R1 Tryz.underlying38 rfl (by rw [HL.out]; kernel_rfl) ?_) | (refine load_mid_wanted (by rfl) 38 _ rfl z 0 rfl _ _ R1 Tryz.underlying38 rfl (by rw [HL.out]; kernel_rfl) ?_))
 refine (K1 _ BV1 (by omega)).mono ?_
 rintro e V2 ⟨⟨qa, rfl, ga⟩, C⟩
 have x2 : Bq z 38 LB.toArray V2 := (C.block z (by omega)).trans x1
 have BV2 := belowStep BV1 (by omega) C
 have s2 : z + 1 ≤ V2.heap.size := by have := C.size; omega
 clear C R1 K1
 have R2 := range_all x2
 have hQa : Hid ((stV FS qa).toArray.size = 51) := show _ from rfl
 have hOa : Hid ((stV FS qa).toArray.all (·.oneCell') = true) := show _ from one_arr (stV_one _ _)
 obtain ⟨FA, hFA⟩ : ∃ F, stV FS qa = F := ⟨_, rfl⟩
 have hNa : Hid (FA.length = 51) := show _ by rw [← hFA]; rfl
 rw [hFA] at hQa hOa
 rw [hFA]
 obtain ⟨BA, nA, hsA⟩ := box1 V2 (.cells #[.int .u64 0, .int .u64 0, .string ⟨#[]⟩, .string ⟨#[]⟩, .string ⟨#[]⟩, .string ⟨#[]⟩, .string ⟨#[]⟩, .int .u64 0, .slice none 0 0, .int .u64 0, .int .u64 0, .string ⟨#[]⟩, .string ⟨#[]⟩, .string ⟨#[]⟩, .string ⟨#[]⟩, .string ⟨#[]⟩, .int .u64 0, .slice none 0 0, .slice none 0 0, .string ⟨#[]⟩, .slice none 0 0, .string ⟨#[]⟩, .int .u64 0, .int .u64 0, .string ⟨#[]⟩, .string ⟨#[]⟩, .string ⟨#[]⟩, .string ⟨#[]⟩, .string ⟨#[]⟩, .int .u64 0, .slice none 0 0, .slice none 0 0, .string ⟨#[]⟩, .slice none 0 0, .int .u64 0, .int .u64 0, .string ⟨#[]⟩, .string ⟨#[]⟩, .string ⟨#[]⟩, .string ⟨#[]⟩, .string ⟨#[]⟩, .int .u64 0, .slice none 0 0, .slice none 0 0, .int .u64 0, .string ⟨#[]⟩, .int .u64 0, .bool false, .int .i64 0, .int .i64 0, .bool false] 38)
 have xA : Bq z 38 LB.toArray (V2.alloc (.cells #[.int .u64 0, .int .u64 0, .string ⟨#[]⟩, .string ⟨#[]⟩, .string ⟨#[]⟩, .string ⟨#[]⟩, .string ⟨#[]⟩, .int .u64 0, .slice none 0 0, .int .u64 0, .int .u64 0, .string ⟨#[]⟩, .string ⟨#[]⟩, .string ⟨#[]⟩, .string ⟨#[]⟩, .string ⟨#[]⟩, .int .u64 0, .slice none 0 0, .slice none 0 0, .string ⟨#[]⟩, .slice none 0 0, .string ⟨#[]⟩, .int .u64 0, .int .u64 0, .string ⟨#[]⟩, .string ⟨#[]⟩, .string ⟨#[]⟩, .string ⟨#[]⟩, .string ⟨#[]⟩, .int .u64 0, .slice none 0 0, .slice none 0 0, .string ⟨#[]⟩, .slice none 0 0, .int .u64 0, .int .u64 0, .string ⟨#[]⟩, .string ⟨#[]⟩, .string ⟨#[]⟩, .string ⟨#[]⟩, .string ⟨#[]⟩, .int .u64 0, .slice none 0 0, .slice none 0 0, .int .u64 0, .string ⟨#[]⟩, .int .u64 0, .bool false, .int .i64 0, .int .i64 0, .bool false] 38)) := (BA.block z (by omega)).trans x2
 have xB : Bq z 38 LB.toArray ((V2.alloc (.cells #[.int .u64 0, .int .u64 0, .string ⟨#[]⟩, .string ⟨#[]⟩, .string ⟨#[]⟩, .string ⟨#[]⟩, .string ⟨#[]⟩, .int .u64 0, .slice none 0 0, .int .u64 0, .int .u64 0, .string ⟨#[]⟩, .string ⟨#[]⟩, .string ⟨#[]⟩, .string ⟨#[]⟩, .string ⟨#[]⟩, .int .u64 0, .slice none 0 0, .slice none 0 0, .string ⟨#[]⟩, .slice none 0 0, .string ⟨#[]⟩, .int .u64 0, .int .u64 0, .string ⟨#[]⟩, .string ⟨#[]⟩, .string ⟨#[]⟩, .string ⟨#[]⟩, .string ⟨#[]⟩, .int .u64 0, .slice none 0 0, .slice none 0 0, .string ⟨#[]⟩, .slice none 0 0, .int .u64 0, .int .u64 0, .string ⟨#[]⟩, .string ⟨#[]⟩, .string ⟨#[]⟩, .string ⟨#[]⟩, .string ⟨#[]⟩, .int .u64 0, .slice none 0 0, .slice none 0 0, .int .u64 0, .string ⟨#[]⟩, .int .u64 0, .bool false, .int .i64 0, .int .i64 0, .bool false] 38)).setRow V2.heap.size FA.toArray) := (setRow_other _ _ _ _ (by omega)).trans xA
 have R2 := range_all xB
 have BVA := belowStep BV2 (by omega) BA
 have nB := Bq.row (show Bq V2.heap.size 38 _ _ from nA) FA.toArray
 have hsB : ((V2.alloc (.cells #[.int .u64 0, .int .u64 0, .string ⟨#[]⟩, .string ⟨#[]⟩, .string ⟨#[]⟩, .string ⟨#[]⟩, .string ⟨#[]⟩, .int .u64 0, .slice none 0 0, .int .u64 0, .int .u64 0, .string ⟨#[]⟩, .string ⟨#[]⟩, .string ⟨#[]⟩, .string ⟨#[]⟩, .string ⟨#[]⟩, .int .u64 0, .slice none 0 0, .slice none 0 0, .string ⟨#[]⟩, .slice none 0 0, .string ⟨#[]⟩, .int .u64 0, .int .u64 0, .string ⟨#[]⟩, .string ⟨#[]⟩, .string ⟨#[]⟩, .string ⟨#[]⟩, .string ⟨#[]⟩, .int .u64 0, .slice none 0 0, .slice none 0 0, .string ⟨#[]⟩, .slice none 0 0, .int .u64 0, .int .u64 0, .string ⟨#[]⟩, .string ⟨#[]⟩, .string ⟨#[]⟩, .string ⟨#[]⟩, .string ⟨#[]⟩, .int .u64 0, .slice none 0 0, .slice none 0 0, .int .u64 0, .string ⟨#[]⟩, .int .u64 0, .bool false, .int .i64 0, .int .i64 0, .bool false] 38)).setRow V2.heap.size FA.toArray).heap.size = V2.heap.size + 1 := by rw [size_setRow]; exact hsA
 have BVB := below_row BVA (show z ≤ V2.heap.size by omega) FA.toArray
 have ga2 : stIn V2.heap.size ((V2.alloc (.cells #[.int .u64 0, .int .u64 0, .string ⟨#[]⟩, .string ⟨#[]⟩, .string ⟨#[]⟩, .string ⟨#[]⟩, .string ⟨#[]⟩, .int .u64 0, .slice none 0 0, .int .u64 0, .int .u64 0, .string ⟨#[]⟩, .string ⟨#[]⟩, .string ⟨#[]⟩, .string ⟨#[]⟩, .string ⟨#[]⟩, .int .u64 0, .slice none 0 0, .slice none 0 0, .string ⟨#[]⟩, .slice none 0 0, .string ⟨#[]⟩, .int .u64 0, .int .u64 0, .string ⟨#[]⟩, .string ⟨#[]⟩, .string ⟨#[]⟩, .string ⟨#[]⟩, .string ⟨#[]⟩, .int .u64 0, .slice none 0 0, .slice none 0 0, .string ⟨#[]⟩, .slice none 0 0, .int .u64 0, .int .u64 0, .string ⟨#[]⟩, .string ⟨#[]⟩, .string ⟨#[]⟩, .string ⟨#[]⟩, .string ⟨#[]⟩, .int .u64 0, .slice none 0 0, .slice none 0 0, .int .u64 0, .string ⟨#[]⟩, .int .u64 0, .bool false, .int .i64 0, .int .i64 0, .bool false] 38)).setRow V2.heap.size FA.toArray) FS qa := ga.below (below_row BA (Nat.le_refl _) _)
 have K4 := K2 _ BVB (by omega)
 have HF : Hid (_ ∧ _ ∧ _ ∧ _ ∧ _) := ⟨hFA, ga2, hsB, nB, BVB⟩
 have HS : Hid (z + 1 ≤ V2.heap.size) := s2
 clear BA ga ga2 hFA BV2 x2 xA xB hsA hsB nB BVB BVA s2 BV1 s1 x1 K2
 go_wp2_with (first | (refine store_row0 rfl rfl 38 _ _ rfl V2.heap.size _ rfl rfl 38 _ nA (by rw [hQa.out]; kernel_rfl) (by rw [hQa.out]; rfl) hOa.out ?_) | (refine wpList_load_mid rfl 38 _ rfl z 0 rfl _ _ R2 Tryz.underlying38 rfl (by rw [HL.out]; kernel_rfl) ?_) | (refine load_mid_wanted (by rfl) 38 _ rfl z 0 rfl _ _ R2 Tryz.underlying38 rfl (by rw [HL.out]; kernel_rfl) ?_))
 refine K4.mono ?_
 rintro e V3 ⟨⟨qb, rfl, gb⟩, C⟩
 obtain ⟨hFA, ga2, hsB, nB, BVB⟩ := HF.out
 have s2 := HS.out
 have BV3 := belowStep BVB (by rw [hsB]; omega) C
 have ga3 : stIn V2.heap.size V3 FS qa := ga2.below (C.mono (by rw [hsB]; omega))
 have y3 : Bq V2.heap.size 38 FA.toArray V3 := (C.block V2.heap.size (by rw [hsB]; omega)).trans nB
 have s3 : V2.heap.size + 1 ≤ V3.heap.size := by have := C.size; rw [hsB] at this; exact this
 clear C nB BVB hsB nA R2 K4 HF HS ga2
 obtain ⟨y, hy⟩ : ∃ y, V2.heap.size = y := ⟨_, rfl⟩
 rw [hy] at ga3 y3 s3 s2 ⊢
 clear hy
 have hQb : Hid ((stV FS qb).toArray.size = 51) := show _ from rfl
 have hOb : Hid ((stV FS qb).toArray.all (·.oneCell') = true) := show _ from one_arr (stV_one _ _)
 obtain ⟨FB, hFB⟩ : ∃ F, stV FS qb = F := ⟨_, rfl⟩
 have hNb : Hid (FB.length = 51) := show _ by rw [← hFB]; rfl
 rw [hFB] at hQb hOb
 rw [hFB]
 obtain ⟨BA, nA, hsA⟩ := box1 V3 (.cells #[.int .u64 0, .int .u64 0, .string ⟨#[]⟩, .string ⟨#[]⟩, .string ⟨#[]⟩, .string ⟨#[]⟩, .string ⟨#[]⟩, .int .u64 0, .slice none 0 0, .int .u64 0, .int .u64 0, .string ⟨#[]⟩, .string ⟨#[]⟩, .string ⟨#[]⟩, .string ⟨#[]⟩, .string ⟨#[]⟩, .int .u64 0, .slice none 0 0, .slice none 0 0, .string ⟨#[]⟩, .slice none 0 0, .string ⟨#[]⟩, .int .u64 0, .int .u64 0, .string ⟨#[]⟩, .string ⟨#[]⟩, .string ⟨#[]⟩, .string ⟨#[]⟩, .string ⟨#[]⟩, .int .u64 0, .slice none 0 0, .slice none 0 0, .string ⟨#[]⟩, .slice none 0 0, .int .u64 0, .int .u64 0, .string ⟨#[]⟩, .string ⟨#[]⟩, .string ⟨#[]⟩, .string ⟨#[]⟩, .string ⟨#[]⟩, .int .u64 0, .slice none 0 0, .slice none 0 0, .int .u64 0, .string ⟨#[]⟩, .int .u64 0, .bool false, .int .i64 0, .int .i64 0, .bool false] 38)
 have xA : Bq y 38 FA.toArray (V3.alloc (.cells #[.int .u64 0, .int .u64 0, .string ⟨#[]⟩, .string ⟨#[]⟩, .string ⟨#[]⟩, .string ⟨#[]⟩, .string ⟨#[]⟩, .int .u64 0, .slice none 0 0, .int .u64 0, .int .u64 0, .string ⟨#[]⟩, .string ⟨#[]⟩, .string ⟨#[]⟩, .string ⟨#[]⟩, .string ⟨#[]⟩, .int .u64 0, .slice none 0 0, .slice none 0 0, .string ⟨#[]⟩, .slice none 0 0, .string ⟨#[]⟩, .int .u64 0, .int .u64 0, .string ⟨#[]⟩, .string ⟨#[]⟩, .string ⟨#[]⟩, .string ⟨#[]⟩, .string ⟨#[]⟩, .int .u64 0, .slice none 0 0, .slice none 0 0, .string ⟨#[]⟩, .slice none 0 0, .int .u64 0, .int .u64 0, .string ⟨#[]⟩, .string ⟨#[]⟩, .string ⟨#[]⟩, .string ⟨#[]⟩, .string ⟨#[]⟩, .int .u64 0, .slice none 0 0, .slice none 0 0, .int .u64 0, .string ⟨#[]⟩, .int .u64 0, .bool false, .int .i64 0, .int .i64 0, .bool false] 38)) := (BA.block y (by omega)).trans y3
 have xB : Bq y 38 FA.toArray ((V3.alloc (.cells #[.int .u64 0, .int .u64 0, .string ⟨#[]⟩, .string ⟨#[]⟩, .string ⟨#[]⟩, .string ⟨#[]⟩, .string ⟨#[]⟩, .int .u64 0, .slice none 0 0, .int .u64 0, .int .u64 0, .string ⟨#[]⟩, .string ⟨#[]⟩, .string ⟨#[]⟩, .string ⟨#[]⟩, .string ⟨#[]⟩, .int .u64 0, .slice none 0 0, .slice none 0 0, .string ⟨#[]⟩, .slice none 0 0, .string ⟨#[]⟩, .int .u64 0, .int .u64 0, .string ⟨#[]⟩, .string ⟨#[]⟩, .string ⟨#[]⟩, .string ⟨#[]⟩, .string ⟨#[]⟩, .int .u64 0, .slice none 0 0, .slice none 0 0, .string ⟨#[]⟩, .slice none 0 0, .int .u64 0, .int .u64 0, .string ⟨#[]⟩, .string ⟨#[]⟩, .string ⟨#[]⟩, .string ⟨#[]⟩, .string ⟨#[]⟩, .int .u64 0, .slice none 0 0, .slice none 0 0, .int .u64 0, .string ⟨#[]⟩, .int .u64 0, .bool false, .int .i64 0, .int .i64 0, .bool false] 38)).setRow V3.heap.size FB.toArray) := (setRow_other _ _ _ _ (by omega)).trans xA
 have BVA := belowStep BV3 (by omega) BA
 have nB : Bq V3.heap.size 38 FB.toArray ((V3.alloc (.cells #[.int .u64 0, .int .u64 0, .string ⟨#[]⟩, .string ⟨#[]⟩, .string ⟨#[]⟩, .string ⟨#[]⟩, .string ⟨#[]⟩, .int .u64 0, .slice none 0 0, .int .u64 0, .int .u64 0, .string ⟨#[]⟩, .string ⟨#[]⟩, .string ⟨#[]⟩, .string ⟨#[]⟩, .string ⟨#[]⟩, .int .u64 0, .slice none 0 0, .slice none 0 0, .string ⟨#[]⟩, .slice none 0 0, .string ⟨#[]⟩, .int .u64 0, .int .u64 0, .string ⟨#[]⟩, .string ⟨#[]⟩, .string ⟨#[]⟩, .string ⟨#[]⟩, .string ⟨#[]⟩, .int .u64 0, .slice none 0 0, .slice none 0 0, .string ⟨#[]⟩, .slice none 0 0, .int .u64 0, .int .u64 0, .string ⟨#[]⟩, .string ⟨#[]⟩, .string ⟨#[]⟩, .string ⟨#[]⟩, .string ⟨#[]⟩, .int .u64 0, .slice none 0 0, .slice none 0 0, .int .u64 0, .string ⟨#[]⟩, .int .u64 0, .bool false, .int .i64 0, .int .i64 0, .bool false] 38)).setRow V3.heap.size FB.toArray) := Bq.row (show Bq V3.heap.size 38 _ _ from nA) FB.toArray
 have hsB : ((V3.alloc (.cells #[.int .u64 0, .int .u64 0, .string ⟨#[]⟩, .string ⟨#[]⟩, .string ⟨#[]⟩, .string ⟨#[]⟩, .string ⟨#[]⟩, .int .u64 0, .slice none 0 0, .int .u64 0, .int .u64 0, .string ⟨#[]⟩, .string ⟨#[]⟩, .string ⟨#[]⟩, .string ⟨#[]⟩, .string ⟨#[]⟩, .int .u64 0, .slice none 0 0, .slice none 0 0, .string ⟨#[]⟩, .slice none 0 0, .string ⟨#[]⟩, .int .u64 0, .int .u64 0, .string ⟨#[]⟩, .string ⟨#[]⟩, .string ⟨#[]⟩, .string ⟨#[]⟩, .string ⟨#[]⟩, .int .u64 0, .slice none 0 0, .slice none 0 0, .string ⟨#[]⟩, .slice none 0 0, .int .u64 0, .int .u64 0, .string ⟨#[]⟩, .string ⟨#[]⟩, .string ⟨#[]⟩, .string ⟨#[]⟩, .string ⟨#[]⟩, .int .u64 0, .slice none 0 0, .slice none 0 0, .int .u64 0, .string ⟨#[]⟩, .int .u64 0, .bool false, .int .i64 0, .int .i64 0, .bool false] 38)).setRow V3.heap.size FB.toArray).heap.size = V3.heap.size + 1 := by rw [size_setRow]; exact hsA
 have BVB := below_row BVA (show z ≤ V3.heap.size by omega) FB.toArray
 have b3 : Below V3.heap.size V3 ((V3.alloc (.cells #[.int .u64 0, .int .u64 0, .string ⟨#[]⟩, .string ⟨#[]⟩, .string ⟨#[]⟩, .string ⟨#[]⟩, .string ⟨#[]⟩, .int .u64 0, .slice none 0 0, .int .u64 0, .int .u64 0, .string ⟨#[]⟩, .string ⟨#[]⟩, .string ⟨#[]⟩, .string ⟨#[]⟩, .string ⟨#[]⟩, .int .u64 0, .slice none 0 0, .slice none 0 0, .string ⟨#[]⟩, .slice none 0 0, .string ⟨#[]⟩, .int .u64 0, .int .u64 0, .string ⟨#[]⟩, .string ⟨#[]⟩, .string ⟨#[]⟩, .string ⟨#[]⟩, .string ⟨#[]⟩, .int .u64 0, .slice none 0 0, .slice none 0 0, .string ⟨#[]⟩, .slice none 0 0, .int .u64 0, .int .u64 0, .string ⟨#[]⟩, .string ⟨#[]⟩, .string ⟨#[]⟩, .string ⟨#[]⟩, .string ⟨#[]⟩, .int .u64 0, .slice none 0 0, .slice none 0 0, .int .u64 0, .string ⟨#[]⟩, .int .u64 0, .bool false, .int .i64 0, .int .i64 0, .bool false] 38)).setRow V3.heap.size FB.toArray) := below_row BA (Nat.le_refl _) _
 have ga4 : stIn y ((V3.alloc (.cells #[.int .u64 0, .int .u64 0, .string ⟨#[]⟩, .string ⟨#[]⟩, .string ⟨#[]⟩, .string ⟨#[]⟩, .string ⟨#[]⟩, .int .u64 0, .slice none 0 0, .int .u64 0, .int .u64 0, .string ⟨#[]⟩, .string ⟨#[]⟩, .string ⟨#[]⟩, .string ⟨#[]⟩, .string ⟨#[]⟩, .int .u64 0, .slice none 0 0, .slice none 0 0, .string ⟨#[]⟩, .slice none 0 0, .string ⟨#[]⟩, .int .u64 0, .int .u64 0, .string ⟨#[]⟩, .string ⟨#[]⟩, .string ⟨#[]⟩, .string ⟨#[]⟩, .string ⟨#[]⟩, .int .u64 0, .slice none 0 0, .slice none 0 0, .string ⟨#[]⟩, .slice none 0 0, .int .u64 0, .int .u64 0, .string ⟨#[]⟩, .string ⟨#[]⟩, .string ⟨#[]⟩, .string ⟨#[]⟩, .string ⟨#[]⟩, .int .u64 0, .slice none 0 0, .slice none 0 0, .int .u64 0, .string ⟨#[]⟩, .int .u64 0, .bool false, .int .i64 0, .int .i64 0, .bool false] 38)).setRow V3.heap.size FB.toArray) FS qa := ga3.below (b3.mono (by omega))
 have gb4 := gb.below b3
 have HF : Hid (_ ∧ _ ∧ _ ∧ _ ∧ _ ∧ _ ∧ _ ∧ _) := ⟨hFA, hFB, ga4, gb4, hsB, nB, BVB, xB⟩
 have HS : Hid (z + 1 ≤ y ∧ y + 1 ≤ V3.heap.size) := ⟨s2, s3⟩
 have RA := range_all xB
 have RB := range_all nB
 have hd : decide (FE = FE) = true := decide_eq_true rfl
 have K4 := K3 _ qa qb (ga4.up (by rw [hsB]; omega)) (gb4.up (by rw [hsB]; omega))
 rw [hFA, hFB] at K4
 clear BA ga3 gb ga4 gb4 hFA hFB b3 xA xB hsA hsB nB BVB BVA s2 s3 BV3 y3
 go_wp2_with (first | (refine store_row0 rfl rfl 38 _ _ rfl V3.heap.size _ rfl rfl 38 _ nA (by rw [hQb.out]; kernel_rfl) (by rw [hQb.out]; rfl) hOb.out ?_) | (refine load_mid_wanted (by kernel_rfl) 38 (.tmp 6) rfl y 0 rfl _ _ RA Tryz.underlying38 rfl (by rw [hNa.out]; kernel_rfl) ?_) | (refine load_mid_wanted (by kernel_rfl) 38 (.tmp 8) rfl V3.heap.size 0 rfl _ _ RB Tryz.underlying38 rfl (by rw [hNb.out]; kernel_rfl) ?_))
 refine K4.mono ?_
 rintro e V4 ⟨rfl, C⟩
 obtain ⟨-, -, -, -, hsB, -, BVB, -⟩ := HF.out
 have BV4 := belowStep BVB (by rw [hsB]; have := HS.out; omega) C
 have HB : Hid _ := BV4
 clear BV4 C BVB hsB RA RB nA K4 HF HS hQa hOa hQb hOb hNa hNb
 go_wp2
 go_ret
 rw [HZ.out]
 exact ⟨by simp, HB.out⟩
theorem lightforces_any (s : StD) (now : Int) (ok : s.ok) (hz : szT s) (q : StP) (w : World) (hl : Laid w) (hp : stIn w.heap.size w s q) (hnow : 0 ≤ now ∧ now < 18446744073709551616) :
  Calls Tryz.prog 7 #[.agg (stV s q).toArray, .int .u64 now] w fun e w' => e = .returned (.bool true) ∧ Below w.heap.size w w' := by
 obtain ⟨k, rfl⟩ := Int.eq_ofNat_of_zero_le hnow.1
 exact lightforces_nat s k ok hz q w hl hp (by omega)
end Go.Proofs.YtoddangedbefgaaGreatDoor
