/- Lemmas: The law LightOrder, walked. No condition. -/
import Derived.Test.YtoddangedbefgabGreatDoorM1
import Derived.Test.YtoddangedbefgabGreatDoorM10
import Derived.Test.YtoddangedbefgabGreatDoorM11
import Derived.Test.YtoddangedbefgabGreatDoorM12
import Derived.Test.YtoddangedbefgabGreatDoorM13
import Derived.Test.YtoddangedbefgabGreatDoorM14
import Derived.Test.YtoddangedbefgabGreatDoorM16
import Derived.Test.YtoddangedbefgabGreatDoorM17
import Derived.Test.YtoddangedbefgabGreatDoorM18
import Derived.Test.YtoddangedbefgabGreatDoorM19
import Derived.Test.YtoddangedbefgabGreatDoorM2
import Derived.Test.YtoddangedbefgabGreatDoorM20
import Derived.Test.YtoddangedbefgabGreatDoorM21
import Derived.Test.YtoddangedbefgabGreatDoorM22
import Derived.Test.YtoddangedbefgabGreatDoorM23
import Derived.Test.YtoddangedbefgabGreatDoorM3
import Derived.Test.YtoddangedbefgabGreatDoorM4
import Derived.Test.YtoddangedbefgabGreatDoorM5
import Derived.Test.YtoddangedbefgabGreatDoorM6
import Derived.Test.YtoddangedbefgabGreatDoorM7
import Derived.Test.YtoddangedbefgabGreatDoorM8
import Derived.Test.YtoddangedbefgabGreatDoorM9
import Derived.Test.YtoddangedbefgabGreatDoorRows
namespace Go.Proofs.YtoddangedbefgabGreatDoor
open Go.RowKit Go.Shelf Go.Sort

set_option maxRecDepth 20000 in
set_option maxHeartbeats 4000000 in
theorem lightorder_any (a b c : UpD) (ha : a.ok) (hb : b.ok) (hc : c.ok) (_za : szU a) (_zb : szU b) (_zc : szU c) (qa qb qc : UpP) (w : World) (hl : Laid w) (_hpa : upIn w.heap.size w a qa) (_hpb : upIn w.heap.size w b qb) (_hpc : upIn w.heap.size w c qc) :
  Calls Tryz.prog 3 #[.agg (upV a qa).toArray, .agg (upV b qb).toArray, .agg (upV c qc).toArray] w fun e w' => e = .returned (.bool true) ∧ Below w.heap.size w w' := by
 have KS := fun (W : World) (hB : Below w.heap.size w W) => shown14_any W (hl.below hB)
 have Kab := better_any a b ha hb qa qb
 have Kbc := better_any b c hb hc qb qc
 have Kaa := better_any a a ha ha qa qa
 have Kba := better_any b a hb ha qb qa
 have Kac := better_any a c ha hc qa qc
 rw [betR_irr] at Kaa
 have e1 := betR_asym (merN a) (merN b)
 have e2 := betR_trans (merN a) (merN b) (merN c) rfl rfl
 have HL : Hid ((upV a qa).length = 25 ∧ (upV b qb).length = 25 ∧ (upV c qc).length = 25) := show _ from ⟨rfl, rfl, rfl⟩
 obtain ⟨ab, hab⟩ : ∃ r, betR (merN a) (merN b) = r := ⟨_, rfl⟩
 obtain ⟨bc, hbc⟩ : ∃ r, betR (merN b) (merN c) = r := ⟨_, rfl⟩
 obtain ⟨ba, hba⟩ : ∃ r, betR (merN b) (merN a) = r := ⟨_, rfl⟩
 obtain ⟨ac, hac⟩ : ∃ r, betR (merN a) (merN c) = r := ⟨_, rfl⟩
 rw [hab] at Kab e1 e2
 rw [hbc] at Kbc e2
 rw [hba] at Kba e1
 rw [hac] at Kac e2
 have HE : Hid (_ ∧ _) := ⟨e1, e2⟩
 obtain ⟨LA, hLA⟩ : ∃ L, upV a qa = L := ⟨_, rfl⟩
 obtain ⟨LB, hLB⟩ : ∃ L, upV b qb = L := ⟨_, rfl⟩
 obtain ⟨LC, hLC⟩ : ∃ L, upV c qc = L := ⟨_, rfl⟩
 rw [hLA] at Kab Kaa Kba Kac HL ⊢
 rw [hLB] at Kab Kbc Kba HL ⊢
 rw [hLC] at Kbc Kac HL ⊢
 clear hLA hLB hLC hab hbc hba hac ha hb hc e1 e2 hl
 obtain ⟨B1, xA, xB, xC, hs⟩ := box3 w (.cells LA.toArray 33) (.cells LB.toArray 33) (.cells LC.toArray 33)
 obtain ⟨z, hz⟩ : ∃ z, w.heap.size = z := ⟨_, rfl⟩
 have HZ : Hid (w.heap.size = z) := hz
 rw [hz] at B1 xA xB xC hs KS
 go_enter Tryz.func3, Tryz.ntmps3
 go_wp2_with fail
 refine (KS _ B1).mono ?_
 rintro e V ⟨rfl, C⟩
 have x1 : Bq z 33 LA.toArray V := (C.block z (by omega)).trans xA
 have y1 : Bq (z + 1) 33 LB.toArray V := (C.block (z + 1) (by omega)).trans xB
 have z1 : Bq (z + 2) 33 LC.toArray V := (C.block (z + 2) (by omega)).trans xC
 have BV := belowStep B1 (by omega) C
 have s1 : z + 3 ≤ V.heap.size := by have := C.size; omega
 clear xA xB xC hs B1 C KS hz
 have RA := range_all x1
 have RB := range_all y1
 go_wp2_with (first | (refine wpList_load_mid rfl 33 _ rfl z 0 rfl _ _ RA Tryz.underlying33 rfl (by rw [HL.out.1]; kernel_rfl) ?_) | (refine load_mid_wanted (by rfl) 33 _ rfl z 0 rfl _ _ RA Tryz.underlying33 rfl (by rw [HL.out.1]; kernel_rfl) ?_) | (refine wpList_load_mid rfl 33 _ rfl (z + 1) 0 rfl _ _ RB Tryz.underlying33 rfl (by rw [HL.out.2.1]; kernel_rfl) ?_) | (refine load_mid_wanted (by rfl) 33 _ rfl (z + 1) 0 rfl _ _ RB Tryz.underlying33 rfl (by rw [HL.out.2.1]; kernel_rfl) ?_))
 refine (Kab _).mono ?_
 rintro e V2 ⟨rfl, C⟩
 have x2 := x1.below C
 have y2 := y1.below C
 have z2 := z1.below C
 have BV2 := belowStep BV (by omega) C
 have s2 : z + 3 ≤ V2.heap.size := by have := C.size; omega
 clear C x1 y1 z1 BV s1 Kab RA RB
 have RB := range_all y2
 have RC := range_all z2
 go_wp2_with (first | (refine wpList_load_mid rfl 33 _ rfl (z + 1) 0 rfl _ _ RB Tryz.underlying33 rfl (by rw [HL.out.2.1]; kernel_rfl) ?_) | (refine load_mid_wanted (by rfl) 33 _ rfl (z + 1) 0 rfl _ _ RB Tryz.underlying33 rfl (by rw [HL.out.2.1]; kernel_rfl) ?_) | (refine wpList_load_mid rfl 33 _ rfl (z + 2) 0 rfl _ _ RC Tryz.underlying33 rfl (by rw [HL.out.2.2]; kernel_rfl) ?_) | (refine load_mid_wanted (by rfl) 33 _ rfl (z + 2) 0 rfl _ _ RC Tryz.underlying33 rfl (by rw [HL.out.2.2]; kernel_rfl) ?_))
 refine (Kbc _).mono ?_
 rintro e V3 ⟨rfl, C⟩
 have x3 := x2.below C
 have y3 := y2.below C
 have z3 := z2.below C
 have BV3 := belowStep BV2 (by omega) C
 have s3 : z + 3 ≤ V3.heap.size := by have := C.size; omega
 clear C x2 y2 z2 BV2 s2 Kbc RB RC
 have RA := range_all x3
 go_wp2_with (first | (refine wpList_load_mid rfl 33 _ rfl z 0 rfl _ _ RA Tryz.underlying33 rfl (by rw [HL.out.1]; kernel_rfl) ?_) | (refine load_mid_wanted (by rfl) 33 _ rfl z 0 rfl _ _ RA Tryz.underlying33 rfl (by rw [HL.out.1]; kernel_rfl) ?_))
 refine (Kaa _).mono ?_
 rintro e V4 ⟨rfl, C⟩
 have x4 := x3.below C
 have y4 := y3.below C
 have z4 := z3.below C
 have BV4 := belowStep BV3 (by omega) C
 have s4 : z + 3 ≤ V4.heap.size := by have := C.size; omega
 clear C x3 y3 z3 BV3 s3
 clear RA Kaa
 cases ab with
 | false =>
  clear Kba Kac
  have HB : Hid _ := BV4
  clear x4 y4 z4 s4 BV4
  go_wp2
  go_ret
  rw [HZ.out]
  exact ⟨by simp, HB.out⟩
 | true =>
  obtain rfl : ba = false := HE.out.1 rfl
  have RA := range_all x4
  have RB := range_all y4
  go_wp2_with (first | (refine wpList_load_mid rfl 33 _ rfl (z + 1) 0 rfl _ _ RB Tryz.underlying33 rfl (by rw [HL.out.2.1]; kernel_rfl) ?_) | (refine load_mid_wanted (by rfl) 33 _ rfl (z + 1) 0 rfl _ _ RB Tryz.underlying33 rfl (by rw [HL.out.2.1]; kernel_rfl) ?_) | (refine wpList_load_mid rfl 33 _ rfl z 0 rfl _ _ RA Tryz.underlying33 rfl (by rw [HL.out.1]; kernel_rfl) ?_) | (refine load_mid_wanted (by rfl) 33 _ rfl z 0 rfl _ _ RA Tryz.underlying33 rfl (by rw [HL.out.1]; kernel_rfl) ?_))
  refine (Kba _).mono ?_
  rintro e V5 ⟨rfl, C⟩
  have x5 := x4.below C
  have y5 := y4.below C
  have z5 := z4.below C
  have BV5 := belowStep BV4 (by omega) C
  have s5 : z + 3 ≤ V5.heap.size := by have := C.size; omega
  clear C x4 y4 z4 BV4 s4
  clear RA RB Kba
  cases bc with
  | false =>
   clear Kac
   have HB : Hid _ := BV5
   clear x5 y5 z5 s5 BV5
   go_wp2
   go_ret
   rw [HZ.out]
   exact ⟨by simp, HB.out⟩
  | true =>
   obtain rfl : ac = true := by simpa using HE.out.2
   have RA := range_all x5
   have RC := range_all z5
   go_wp2_with (first | (refine wpList_load_mid rfl 33 _ rfl z 0 rfl _ _ RA Tryz.underlying33 rfl (by rw [HL.out.1]; kernel_rfl) ?_) | (refine load_mid_wanted (by rfl) 33 _ rfl z 0 rfl _ _ RA Tryz.underlying33 rfl (by rw [HL.out.1]; kernel_rfl) ?_) | (refine wpList_load_mid rfl 33 _ rfl (z + 2) 0 rfl _ _ RC Tryz.underlying33 rfl (by rw [HL.out.2.2]; kernel_rfl) ?_) | (refine load_mid_wanted (by rfl) 33 _ rfl (z + 2) 0 rfl _ _ RC Tryz.underlying33 rfl (by rw [HL.out.2.2]; kernel_rfl) ?_))
   refine (Kac _).mono ?_
   rintro e V6 ⟨rfl, C⟩
   have x6 := x5.below C
   have y6 := y5.below C
   have z6 := z5.below C
   have BV6 := belowStep BV5 (by omega) C
   have s6 : z + 3 ≤ V6.heap.size := by have := C.size; omega
   clear C x5 y5 z5 BV5 s5
   clear RA RC Kac
   have HB : Hid _ := BV6
   clear x6 y6 z6 s6 BV6
   go_wp2
   go_ret
   rw [HZ.out]
   exact ⟨by simp, HB.out⟩
end Go.Proofs.YtoddangedbefgabGreatDoor
