/- Lemmas: The law LightOnce, walked. No condition but on sizes that no machine has. -/
import Derived.Test.YtoddangedbefgabGreatDoorM1
import Derived.Test.YtoddangedbefgabGreatDoorM10
import Derived.Test.YtoddangedbefgabGreatDoorM11
import Derived.Test.YtoddangedbefgabGreatDoorM12
import Derived.Test.YtoddangedbefgabGreatDoorM13
import Derived.Test.YtoddangedbefgabGreatDoorM14
import Derived.Test.YtoddangedbefgabGreatDoorM15
import Derived.Test.YtoddangedbefgabGreatDoorM16
import Derived.Test.YtoddangedbefgabGreatDoorM17
import Derived.Test.YtoddangedbefgabGreatDoorM18
import Derived.Test.YtoddangedbefgabGreatDoorM19
import Derived.Test.YtoddangedbefgabGreatDoorM2
import Derived.Test.YtoddangedbefgabGreatDoorM20
import Derived.Test.YtoddangedbefgabGreatDoorM21
import Derived.Test.YtoddangedbefgabGreatDoorM22
import Derived.Test.YtoddangedbefgabGreatDoorM23
import Derived.Test.YtoddangedbefgabGreatDoorM24
import Derived.Test.YtoddangedbefgabGreatDoorM25
import Derived.Test.YtoddangedbefgabGreatDoorM26
import Derived.Test.YtoddangedbefgabGreatDoorM27
import Derived.Test.YtoddangedbefgabGreatDoorM28
import Derived.Test.YtoddangedbefgabGreatDoorM29
import Derived.Test.YtoddangedbefgabGreatDoorM3
import Derived.Test.YtoddangedbefgabGreatDoorM4
import Derived.Test.YtoddangedbefgabGreatDoorM5
import Derived.Test.YtoddangedbefgabGreatDoorM6
import Derived.Test.YtoddangedbefgabGreatDoorM7
import Derived.Test.YtoddangedbefgabGreatDoorM8
import Derived.Test.YtoddangedbefgabGreatDoorM9
import Derived.Test.YtoddangedbefgabGreatDoorRows
namespace Go.Proofs.YtoddangedbefgabGreatDoor
open Go.RowKit Go.Shelf Go.Sort

theorem load_gate {P : Program} {ops : Array Oper} {rest : List Oper} {d : Option Nat} {x : Operand} {t : TypeId} {p : String} {f : Array Edge} {g : Option (Nat × Bool)} {a : Act} {w : World} {Q : Exit → Act → World → Prop} (h : wpList P ops Q (⟨d, .load 38 x, t, p, f, g⟩ :: rest) a w) : wpList P ops Q (⟨d, .load 38 x, t, p, f, g⟩ :: rest) a w := h
theorem bg_zero {root : ByteArray} {d : BtD} (h : bgE root d = 0) : root = hrV d.l ∧ bgS root d = ⟨d.l, d.l, d.c, zCm, zUp, false, 0, 0, false⟩ := by
 unfold bgE at h
 split at h
 ·omega
 split at h
 ·omega
 split at h
 ·omega
 rename_i h1 h2 h3
 refine ⟨?_, ?_⟩
 ·simpa using h2
 ·unfold bgS
  rw [if_neg h1, if_neg h2, if_neg h3]
theorem bg_vals (root : ByteArray) (d : BtD) : bgE root d = 0 ∨ bgE root d = 130 ∨ bgE root d = 140 ∨ bgE root d = 145 := by
 unfold bgE
 split
 ·exact .inr (.inl rfl)
 split
 ·exact .inr (.inr (.inl rfl))
 split
 ·exact .inr (.inr (.inr rfl))
 exact .inl rfl
theorem bg_other {root other : ByteArray} {d : BtD} (h : bgE root d = 0) : decide (bgE other d = 0) = decide (root = other) := by
 obtain ⟨e, _⟩ := bg_zero h
 by_cases h2 : root = other
 ·subst h2
  rw [decide_eq_true h, decide_eq_true rfl]
 ·rw [decide_eq_false h2, decide_eq_false]
  intro h3
  exact h2 (e.trans (bg_zero h3).1.symm)
theorem fr_zero' {s : StD} {now : Nat} (h : frE s now = 0) : (frS s now).forced = true ∧ (frS s now).has = false ∧ frE (frS s now) now = 148 := by
 unfold frE at h
 split at h
 ·omega
 rename_i h1
 have e : frS s now = { tkS s (frU s) with forced := true } := if_neg h1
 rw [e]
 exact ⟨rfl, rfl, if_pos rfl⟩
set_option maxRecDepth 20000 in
set_option maxHeartbeats 8000000 in
theorem lightonce_nat (root other : ByteArray) (d : BtD) (s : StD) (_okd : d.ok) (ok : s.ok) (zd : szB d) (zs : szT s) (qd : BtP) (qs : StP) (now : Nat) (hnow : now < 18446744073709551616) (w : World) (hl : Laid w) (hpd : btIn w.heap.size w d qd) (hps : stIn w.heap.size w s qs) :
  Calls Tryz.prog 6 #[.string root, .string other, .agg (btV d qd).toArray, .agg (stV s qs).toArray, .int .u64 (now : Int)] w fun e w' => e = .returned (.bool true) ∧ Below w.heap.size w w' := by
 have KS := fun (W : World) (hB : Below w.heap.size w W) => shown14_any W (hl.below hB)
 have K1 := fun (W : World) (hB : Below w.heap.size w W) (hs : w.heap.size ≤ W.heap.size) => begin_any root d zd qd w.heap.size W (hl.below hB) hs ⟨slS_below hB hpd.1, slS_below hB hpd.2.1, slS_below hB hpd.2.2⟩
 have K2 := fun (W : World) (hB : Below w.heap.size w W) (hs : w.heap.size ≤ W.heap.size) => begin_any other d zd qd w.heap.size W (hl.below hB) hs ⟨slS_below hB hpd.1, slS_below hB hpd.2.1, slS_below hB hpd.2.2⟩
 have K3 := fun (W : World) (hB : Below w.heap.size w W) (hs : w.heap.size ≤ W.heap.size) => force_any s ok zs qs now hnow w.heap.size W hs (hps.below hB)
 have K4 := fun (q : StP) (n : Nat) (W : World) (hn : n ≤ W.heap.size) (h : stIn n W (frS s now) q) => force_any (frS s now) (fr_okT ok) (fr_szT zs) q now hnow n W hn h
 have P1 := @bg_zero root d
 have P0 := bg_vals root d
 have P2 := @bg_other root other d
 have P3 := @fr_zero' s now
 have HL : Hid ((btV d qd).length = 12 ∧ (stV s qs).length = 51) := show _ from ⟨rfl, rfl⟩
 obtain ⟨E1, hE1⟩ : ∃ x, bgE root d = x := ⟨_, rfl⟩
 obtain ⟨E2, hE2⟩ : ∃ x, bgE other d = x := ⟨_, rfl⟩
 obtain ⟨S1, hS1⟩ : ∃ x, bgS root d = x := ⟨_, rfl⟩
 obtain ⟨S2, hS2⟩ : ∃ x, bgS other d = x := ⟨_, rfl⟩
 obtain ⟨FS, hFS⟩ : ∃ x, frS s now = x := ⟨_, rfl⟩
 obtain ⟨FE, hFE⟩ : ∃ x, frE s now = x := ⟨_, rfl⟩
 rw [hE1, hS1] at K1 P1
 rw [hE1] at P0
 have HP0 : Hid _ := P0
 clear P0
 rw [hE1, hE2] at P2
 rw [hE2, hS2] at K2
 rw [hFS, hFE] at K3 P3
 rw [hFS] at K4
 obtain ⟨GS, hGS⟩ : ∃ x, frS FS now = x := ⟨_, rfl⟩
 obtain ⟨GE, hGE⟩ : ∃ x, frE FS now = x := ⟨_, rfl⟩
 rw [hGS, hGE] at K4
 rw [hGE] at P3
 have HP : Hid (_ ∧ _ ∧ _) := ⟨P1, P2, P3⟩
 obtain ⟨LB, hLB⟩ : ∃ L, btV d qd = L := ⟨_, rfl⟩
 obtain ⟨LS, hLS⟩ : ∃ L, stV s qs = L := ⟨_, rfl⟩
 rw [hLB] at K1 K2 HL ⊢
 rw [hLS] at K3 HL ⊢
 clear hLB hLS hE1 hE2 hS1 hS2 hFS hFE hGS hGE P1 P2 P3 zd zs hpd hps hl ok
 obtain ⟨B1, xA, yA, hs⟩ := box2 w (.cells LB.toArray 52) (.cells LS.toArray 38)
 obtain ⟨z, hz⟩ : ∃ z, w.heap.size = z := ⟨_, rfl⟩
 have HZ : Hid (w.heap.size = z) := hz
 rw [hz] at B1 xA yA hs K1 K2 K3 KS
 go_enter Tryz.func6, Tryz.ntmps6
 go_wp2_with fail
 refine (KS _ B1).mono ?_
 rintro e V1 ⟨rfl, C⟩
 have x1 : Bq z 52 LB.toArray V1 := (C.block z (by omega)).trans xA
 have y1 : Bq (z + 1) 38 LS.toArray V1 := (C.block (z + 1) (by omega)).trans yA
 have BV1 := belowStep B1 (by omega) C
 have s1 : z + 2 ≤ V1.heap.size := by have := C.size; omega
 clear C xA yA hs B1 KS hz
 have R1 := range_all x1
 go_wp2_with (first | (refine wpList_load_mid rfl 52 _ rfl z 0 rfl _ _ R1 Tryz.underlying52 rfl (by rw [HL.out.1]; kernel_rfl) ?_) | (refine load_mid_wanted (by rfl) 52 _ rfl z 0 rfl _ _ R1 Tryz.underlying52 rfl (by rw [HL.out.1]; kernel_rfl) ?_))
 refine (K1 _ BV1 (by omega)).mono ?_
 rintro e V2 ⟨⟨q1, rfl, g1⟩, C⟩
 have x2 : Bq z 52 LB.toArray V2 := x1.below C
 have y2 : Bq (z + 1) 38 LS.toArray V2 := y1.below C
 have BV2 := belowStep BV1 (by omega) C
 have s2 : z + 2 ≤ V2.heap.size := by have := C.size; omega
 clear C R1 K1 x1 y1 BV1 s1 g1
 have hQ1 : Hid ((stV S1 q1).toArray.size = 51) := show _ from rfl
 have hO1 : Hid ((stV S1 q1).toArray.all (·.oneCell') = true) := show _ from one_arr (stV_one _ _)
 have a47 : (stV S1 q1).toArray[47]? = some (.bool S1.has) := rfl
 have a50 : (stV S1 q1).toArray[50]? = some (.bool S1.forced) := rfl
 have a20 : (stV S1 q1).toArray[20]? = some (.slice q1.nxt.a S1.nxt.ks.length q1.nxt.c) := rfl
 obtain ⟨FA, hFA⟩ : ∃ F, (stV S1 q1).toArray = F := ⟨_, rfl⟩
 rw [hFA] at hQ1 hO1 a47 a50 a20
 rw [hFA]
 clear hFA
 obtain ⟨BA, nA, hsA⟩ := box1 V2 (.cells #[.int .u64 0, .int .u64 0, .string ⟨#[]⟩, .string ⟨#[]⟩, .string ⟨#[]⟩, .string ⟨#[]⟩, .string ⟨#[]⟩, .int .u64 0, .slice none 0 0, .int .u64 0, .int .u64 0, .string ⟨#[]⟩, .string ⟨#[]⟩, .string ⟨#[]⟩, .string ⟨#[]⟩, .string ⟨#[]⟩, .int .u64 0, .slice none 0 0, .slice none 0 0, .string ⟨#[]⟩, .slice none 0 0, .string ⟨#[]⟩, .int .u64 0, .int .u64 0, .string ⟨#[]⟩, .string ⟨#[]⟩, .string ⟨#[]⟩, .string ⟨#[]⟩, .string ⟨#[]⟩, .int .u64 0, .slice none 0 0, .slice none 0 0, .string ⟨#[]⟩, .slice none 0 0, .int .u64 0, .int .u64 0, .string ⟨#[]⟩, .string ⟨#[]⟩, .string ⟨#[]⟩, .string ⟨#[]⟩, .string ⟨#[]⟩, .int .u64 0, .slice none 0 0, .slice none 0 0, .int .u64 0, .string ⟨#[]⟩, .int .u64 0, .bool false, .int .i64 0, .int .i64 0, .bool false] 38)
 have xA : Bq z 52 LB.toArray (V2.alloc (.cells #[.int .u64 0, .int .u64 0, .string ⟨#[]⟩, .string ⟨#[]⟩, .string ⟨#[]⟩, .string ⟨#[]⟩, .string ⟨#[]⟩, .int .u64 0, .slice none 0 0, .int .u64 0, .int .u64 0, .string ⟨#[]⟩, .string ⟨#[]⟩, .string ⟨#[]⟩, .string ⟨#[]⟩, .string ⟨#[]⟩, .int .u64 0, .slice none 0 0, .slice none 0 0, .string ⟨#[]⟩, .slice none 0 0, .string ⟨#[]⟩, .int .u64 0, .int .u64 0, .string ⟨#[]⟩, .string ⟨#[]⟩, .string ⟨#[]⟩, .string ⟨#[]⟩, .string ⟨#[]⟩, .int .u64 0, .slice none 0 0, .slice none 0 0, .string ⟨#[]⟩, .slice none 0 0, .int .u64 0, .int .u64 0, .string ⟨#[]⟩, .string ⟨#[]⟩, .string ⟨#[]⟩, .string ⟨#[]⟩, .string ⟨#[]⟩, .int .u64 0, .slice none 0 0, .slice none 0 0, .int .u64 0, .string ⟨#[]⟩, .int .u64 0, .bool false, .int .i64 0, .int .i64 0, .bool false] 38)) := x2.below BA
 have yA : Bq (z + 1) 38 LS.toArray (V2.alloc (.cells #[.int .u64 0, .int .u64 0, .string ⟨#[]⟩, .string ⟨#[]⟩, .string ⟨#[]⟩, .string ⟨#[]⟩, .string ⟨#[]⟩, .int .u64 0, .slice none 0 0, .int .u64 0, .int .u64 0, .string ⟨#[]⟩, .string ⟨#[]⟩, .string ⟨#[]⟩, .string ⟨#[]⟩, .string ⟨#[]⟩, .int .u64 0, .slice none 0 0, .slice none 0 0, .string ⟨#[]⟩, .slice none 0 0, .string ⟨#[]⟩, .int .u64 0, .int .u64 0, .string ⟨#[]⟩, .string ⟨#[]⟩, .string ⟨#[]⟩, .string ⟨#[]⟩, .string ⟨#[]⟩, .int .u64 0, .slice none 0 0, .slice none 0 0, .string ⟨#[]⟩, .slice none 0 0, .int .u64 0, .int .u64 0, .string ⟨#[]⟩, .string ⟨#[]⟩, .string ⟨#[]⟩, .string ⟨#[]⟩, .string ⟨#[]⟩, .int .u64 0, .slice none 0 0, .slice none 0 0, .int .u64 0, .string ⟨#[]⟩, .int .u64 0, .bool false, .int .i64 0, .int .i64 0, .bool false] 38)) := y2.below BA
 have HV : Hid (_ ∧ _ ∧ _ ∧ _ ∧ _) := ⟨BA, hsA, xA, yA, s2⟩
 clear BA hsA xA yA x2 y2 s2
 go_wp2_with (first | (refine store_row0 rfl rfl 38 _ _ rfl V2.heap.size _ rfl rfl 38 _ nA (by rw [hQ1.out]; kernel_rfl) (by rw [hQ1.out]; rfl) hO1.out ?_; refine Stp.out ?_))
 refine ⟨?_⟩
 obtain ⟨BA, hsA, xA, yA, s2⟩ := HV.out
 have u3 := Bq.row (show Bq V2.heap.size 38 _ _ from nA) FA
 have x3 := xA.rowOther (show z ≠ V2.heap.size by omega) FA
 have y3 := yA.rowOther (show z + 1 ≠ V2.heap.size by omega) FA
 have BV3 := below_row (belowStep BV2 (by omega) BA) (show z ≤ V2.heap.size by omega) FA
 have s3 : V2.heap.size + 1 ≤ ((V2.alloc (.cells #[.int .u64 0, .int .u64 0, .string ⟨#[]⟩, .string ⟨#[]⟩, .string ⟨#[]⟩, .string ⟨#[]⟩, .string ⟨#[]⟩, .int .u64 0, .slice none 0 0, .int .u64 0, .int .u64 0, .string ⟨#[]⟩, .string ⟨#[]⟩, .string ⟨#[]⟩, .string ⟨#[]⟩, .string ⟨#[]⟩, .int .u64 0, .slice none 0 0, .slice none 0 0, .string ⟨#[]⟩, .slice none 0 0, .string ⟨#[]⟩, .int .u64 0, .int .u64 0, .string ⟨#[]⟩, .string ⟨#[]⟩, .string ⟨#[]⟩, .string ⟨#[]⟩, .string ⟨#[]⟩, .int .u64 0, .slice none 0 0, .slice none 0 0, .string ⟨#[]⟩, .slice none 0 0, .int .u64 0, .int .u64 0, .string ⟨#[]⟩, .string ⟨#[]⟩, .string ⟨#[]⟩, .string ⟨#[]⟩, .string ⟨#[]⟩, .int .u64 0, .slice none 0 0, .slice none 0 0, .int .u64 0, .string ⟨#[]⟩, .int .u64 0, .bool false, .int .i64 0, .int .i64 0, .bool false] 38)).setRow V2.heap.size FA).heap.size := by rw [size_setRow, hsA]; exact Nat.le_refl _
 obtain ⟨V3, hV3⟩ : ∃ V, (V2.alloc (.cells #[.int .u64 0, .int .u64 0, .string ⟨#[]⟩, .string ⟨#[]⟩, .string ⟨#[]⟩, .string ⟨#[]⟩, .string ⟨#[]⟩, .int .u64 0, .slice none 0 0, .int .u64 0, .int .u64 0, .string ⟨#[]⟩, .string ⟨#[]⟩, .string ⟨#[]⟩, .string ⟨#[]⟩, .string ⟨#[]⟩, .int .u64 0, .slice none 0 0, .slice none 0 0, .string ⟨#[]⟩, .slice none 0 0, .string ⟨#[]⟩, .int .u64 0, .int .u64 0, .string ⟨#[]⟩, .string ⟨#[]⟩, .string ⟨#[]⟩, .string ⟨#[]⟩, .string ⟨#[]⟩, .int .u64 0, .slice none 0 0, .slice none 0 0, .string ⟨#[]⟩, .slice none 0 0, .int .u64 0, .int .u64 0, .string ⟨#[]⟩, .string ⟨#[]⟩, .string ⟨#[]⟩, .string ⟨#[]⟩, .string ⟨#[]⟩, .int .u64 0, .slice none 0 0, .slice none 0 0, .int .u64 0, .string ⟨#[]⟩, .int .u64 0, .bool false, .int .i64 0, .int .i64 0, .bool false] 38)).setRow V2.heap.size FA = V := ⟨_, rfl⟩
 rw [hV3] at u3 x3 y3 BV3 s3 ⊢
 obtain ⟨y, hy⟩ : ∃ y, V2.heap.size = y := ⟨_, rfl⟩
 rw [hy] at u3 s3 s2 ⊢
 clear hV3 hy BA hsA xA yA nA HV BV2
 have R1 := range_all x3
 go_wp2_with (first | (refine wpList_load_mid rfl 52 _ rfl z 0 rfl _ _ R1 Tryz.underlying52 rfl (by rw [HL.out.1]; kernel_rfl) ?_) | (refine load_mid_wanted (by rfl) 52 _ rfl z 0 rfl _ _ R1 Tryz.underlying52 rfl (by rw [HL.out.1]; kernel_rfl) ?_))
 refine (K2 _ BV3 (by omega)).mono ?_
 rintro e V4 ⟨⟨q2, rfl, g2⟩, C⟩
 have x4 := x3.below C
 have y4 := y3.below C
 have u4 := u3.below C
 have BV4 := belowStep BV3 (by omega) C
 have s4 : y + 1 ≤ V4.heap.size := by have := C.size; omega
 clear C R1 K2 x3 y3 u3 BV3 s3 g2 x4
 have hY2 : Hid (z + 2 ≤ y) := s2
 have hQ2 : Hid ((stV S2 q2).toArray.size = 51) := show _ from rfl
 have hO2 : Hid ((stV S2 q2).toArray.all (·.oneCell') = true) := show _ from one_arr (stV_one _ _)
 obtain ⟨A2, hA2⟩ : ∃ F, (stV S2 q2).toArray = F := ⟨_, rfl⟩
 rw [hA2] at hQ2 hO2
 rw [hA2]
 clear hA2
 obtain ⟨BA, nA, hsA⟩ := box1 V4 (.cells #[.int .u64 0, .int .u64 0, .string ⟨#[]⟩, .string ⟨#[]⟩, .string ⟨#[]⟩, .string ⟨#[]⟩, .string ⟨#[]⟩, .int .u64 0, .slice none 0 0, .int .u64 0, .int .u64 0, .string ⟨#[]⟩, .string ⟨#[]⟩, .string ⟨#[]⟩, .string ⟨#[]⟩, .string ⟨#[]⟩, .int .u64 0, .slice none 0 0, .slice none 0 0, .string ⟨#[]⟩, .slice none 0 0, .string ⟨#[]⟩, .int .u64 0, .int .u64 0, .string ⟨#[]⟩, .string ⟨#[]⟩, .string ⟨#[]⟩, .string ⟨#[]⟩, .string ⟨#[]⟩, .int .u64 0, .slice none 0 0, .slice none 0 0, .string ⟨#[]⟩, .slice none 0 0, .int .u64 0, .int .u64 0, .string ⟨#[]⟩, .string ⟨#[]⟩, .string ⟨#[]⟩, .string ⟨#[]⟩, .string ⟨#[]⟩, .int .u64 0, .slice none 0 0, .slice none 0 0, .int .u64 0, .string ⟨#[]⟩, .int .u64 0, .bool false, .int .i64 0, .int .i64 0, .bool false] 38)
 have HV : Hid (_ ∧ _ ∧ _ ∧ _ ∧ _ ∧ _) := ⟨BA, hsA, y4, u4, s4, BV4⟩
 clear BA hsA y4 u4 s4 s2 BV4
 go_wp2_with (first | (refine store_row0 rfl rfl 38 _ _ rfl V4.heap.size _ rfl rfl 38 _ nA (by rw [hQ2.out]; kernel_rfl) (by rw [hQ2.out]; rfl) hO2.out ?_; refine Stp.out ?_))
 refine ⟨?_⟩
 obtain ⟨BA, hsA, y4, u4, s4, BV4⟩ := HV.out
 have hY3 := hY2.out
 have C := below_row BA (Nat.le_refl _) A2
 have y5 := y4.below C
 have u5 := u4.below C
 have BV5 := belowStep BV4 (by omega) C
 have s5 : y + 1 ≤ ((V4.alloc (.cells #[.int .u64 0, .int .u64 0, .string ⟨#[]⟩, .string ⟨#[]⟩, .string ⟨#[]⟩, .string ⟨#[]⟩, .string ⟨#[]⟩, .int .u64 0, .slice none 0 0, .int .u64 0, .int .u64 0, .string ⟨#[]⟩, .string ⟨#[]⟩, .string ⟨#[]⟩, .string ⟨#[]⟩, .string ⟨#[]⟩, .int .u64 0, .slice none 0 0, .slice none 0 0, .string ⟨#[]⟩, .slice none 0 0, .string ⟨#[]⟩, .int .u64 0, .int .u64 0, .string ⟨#[]⟩, .string ⟨#[]⟩, .string ⟨#[]⟩, .string ⟨#[]⟩, .string ⟨#[]⟩, .int .u64 0, .slice none 0 0, .slice none 0 0, .string ⟨#[]⟩, .slice none 0 0, .int .u64 0, .int .u64 0, .string ⟨#[]⟩, .string ⟨#[]⟩, .string ⟨#[]⟩, .string ⟨#[]⟩, .string ⟨#[]⟩, .int .u64 0, .slice none 0 0, .slice none 0 0, .int .u64 0, .string ⟨#[]⟩, .int .u64 0, .bool false, .int .i64 0, .int .i64 0, .bool false] 38)).setRow V4.heap.size A2).heap.size := Nat.le_trans s4 C.size
 obtain ⟨V4b, hV4b⟩ : ∃ V, (V4.alloc (.cells #[.int .u64 0, .int .u64 0, .string ⟨#[]⟩, .string ⟨#[]⟩, .string ⟨#[]⟩, .string ⟨#[]⟩, .string ⟨#[]⟩, .int .u64 0, .slice none 0 0, .int .u64 0, .int .u64 0, .string ⟨#[]⟩, .string ⟨#[]⟩, .string ⟨#[]⟩, .string ⟨#[]⟩, .string ⟨#[]⟩, .int .u64 0, .slice none 0 0, .slice none 0 0, .string ⟨#[]⟩, .slice none 0 0, .string ⟨#[]⟩, .int .u64 0, .int .u64 0, .string ⟨#[]⟩, .string ⟨#[]⟩, .string ⟨#[]⟩, .string ⟨#[]⟩, .string ⟨#[]⟩, .int .u64 0, .slice none 0 0, .slice none 0 0, .string ⟨#[]⟩, .slice none 0 0, .int .u64 0, .int .u64 0, .string ⟨#[]⟩, .string ⟨#[]⟩, .string ⟨#[]⟩, .string ⟨#[]⟩, .string ⟨#[]⟩, .int .u64 0, .slice none 0 0, .slice none 0 0, .int .u64 0, .string ⟨#[]⟩, .int .u64 0, .bool false, .int .i64 0, .int .i64 0, .bool false] 38)).setRow V4.heap.size A2 = V := ⟨_, rfl⟩
 rw [hV4b] at y5 u5 BV5 s5 ⊢
 clear hV4b BA hsA nA HV y4 u4 s4 BV4 hY3 C
 obtain ⟨V4, hV4⟩ : ∃ V, V4b = V := ⟨_, rfl⟩
 rw [hV4] at y5 u5 BV5 s5 ⊢
 clear hV4
 have y4 := y5
 have u4 := u5
 have BV4 := BV5
 have s4 := s5
 clear y5 u5 BV5 s5
 have R2 := range_all y4
 by_cases h1 : E1 = 0
 ·subst h1
  obtain ⟨-, hS⟩ := HP.out.1 rfl
  have h2 := HP.out.2.1 rfl
  have c47 : V4.cell? ⟨y, 47, none⟩ = some (.bool false) := (u4.cell 47).trans (by rw [a47, hS])
  have c50 : V4.cell? ⟨y, 50, none⟩ = some (.bool false) := (u4.cell 50).trans (by rw [a50, hS])
  have c20 : V4.cell? ⟨y, 20, none⟩ = some (.slice q1.nxt.a 0 q1.nxt.c) := (u4.cell 20).trans (by rw [a20, hS]; rfl)
  clear hS a47 a50 a20 u4
  by_cases hro : root = other
  ·have e1 : (root.toList == other.toList) = true := by rw [hro]; exact beq_self_eq_true _
   obtain rfl : E2 = 0 := by rw [decide_eq_true hro] at h2; exact of_decide_eq_true h2
   clear h2 hro
   go_wp2_with (first | (refine wpList_load_mid rfl 38 _ rfl (z + 1) 0 rfl _ _ R2 Tryz.underlying38 rfl (by rw [HL.out.2]; kernel_rfl) ?_) | (refine load_mid_wanted (by rfl) 38 _ rfl (z + 1) 0 rfl _ _ R2 Tryz.underlying38 rfl (by rw [HL.out.2]; kernel_rfl) ?_))
   refine (K3 _ BV4 (by have := hY2.out; omega)).mono ?_
   rintro e V5 ⟨⟨q5, rfl, g5⟩, C⟩
   have BV5 := belowStep BV4 (by have := hY2.out; omega) C
   have s5 : y + 1 ≤ V5.heap.size := by have := C.size; omega
   clear C R2 K3 y4 BV4 s4 c47 c50 c20 e1
   have hQ5 : Hid ((stV FS q5).toArray.size = 51) := show _ from rfl
   have hO5 : Hid ((stV FS q5).toArray.all (·.oneCell') = true) := show _ from one_arr (stV_one _ _)
   have b47 : (stV FS q5).toArray[47]? = some (.bool FS.has) := rfl
   have b50 : (stV FS q5).toArray[50]? = some (.bool FS.forced) := rfl
   obtain ⟨BA, nA, hsA⟩ := box1 V5 (.cells #[.int .u64 0, .int .u64 0, .string ⟨#[]⟩, .string ⟨#[]⟩, .string ⟨#[]⟩, .string ⟨#[]⟩, .string ⟨#[]⟩, .int .u64 0, .slice none 0 0, .int .u64 0, .int .u64 0, .string ⟨#[]⟩, .string ⟨#[]⟩, .string ⟨#[]⟩, .string ⟨#[]⟩, .string ⟨#[]⟩, .int .u64 0, .slice none 0 0, .slice none 0 0, .string ⟨#[]⟩, .slice none 0 0, .string ⟨#[]⟩, .int .u64 0, .int .u64 0, .string ⟨#[]⟩, .string ⟨#[]⟩, .string ⟨#[]⟩, .string ⟨#[]⟩, .string ⟨#[]⟩, .int .u64 0, .slice none 0 0, .slice none 0 0, .string ⟨#[]⟩, .slice none 0 0, .int .u64 0, .int .u64 0, .string ⟨#[]⟩, .string ⟨#[]⟩, .string ⟨#[]⟩, .string ⟨#[]⟩, .string ⟨#[]⟩, .int .u64 0, .slice none 0 0, .slice none 0 0, .int .u64 0, .string ⟨#[]⟩, .int .u64 0, .bool false, .int .i64 0, .int .i64 0, .bool false] 38)
   have K5 := K4 q5 V5.heap.size
   obtain ⟨GA, hGA⟩ : ∃ F, (stV FS q5).toArray = F := ⟨_, rfl⟩
   rw [hGA] at hQ5 hO5 b47 b50 K5
   rw [hGA]
   have HV : Hid (_ ∧ _ ∧ _ ∧ _ ∧ _) := ⟨BA, hsA, s5, g5, BV5⟩
   clear hGA BA hsA s5 g5 BV5 K4
   go_wp2_with (first | (refine store_row0 rfl rfl 38 _ _ rfl V5.heap.size _ rfl rfl 38 _ nA (by rw [hQ5.out]; kernel_rfl) (by rw [hQ5.out]; rfl) hO5.out ?_; refine Stp.out ?_))
   refine ⟨?_⟩
   obtain ⟨BA, hsA, s5, g5, BV5⟩ := HV.out
   have hzy : z ≤ V5.heap.size := by have := hY2.out; omega
   have u6 := Bq.row (show Bq V5.heap.size 38 _ _ from nA) GA
   have BV6 := below_row (belowStep BV5 hzy BA) hzy GA
   have s6 : V5.heap.size + 1 ≤ ((V5.alloc (.cells #[.int .u64 0, .int .u64 0, .string ⟨#[]⟩, .string ⟨#[]⟩, .string ⟨#[]⟩, .string ⟨#[]⟩, .string ⟨#[]⟩, .int .u64 0, .slice none 0 0, .int .u64 0, .int .u64 0, .string ⟨#[]⟩, .string ⟨#[]⟩, .string ⟨#[]⟩, .string ⟨#[]⟩, .string ⟨#[]⟩, .int .u64 0, .slice none 0 0, .slice none 0 0, .string ⟨#[]⟩, .slice none 0 0, .string ⟨#[]⟩, .int .u64 0, .int .u64 0, .string ⟨#[]⟩, .string ⟨#[]⟩, .string ⟨#[]⟩, .string ⟨#[]⟩, .string ⟨#[]⟩, .int .u64 0, .slice none 0 0, .slice none 0 0, .string ⟨#[]⟩, .slice none 0 0, .int .u64 0, .int .u64 0, .string ⟨#[]⟩, .string ⟨#[]⟩, .string ⟨#[]⟩, .string ⟨#[]⟩, .string ⟨#[]⟩, .int .u64 0, .slice none 0 0, .slice none 0 0, .int .u64 0, .string ⟨#[]⟩, .int .u64 0, .bool false, .int .i64 0, .int .i64 0, .bool false] 38)).setRow V5.heap.size GA).heap.size := by rw [size_setRow, hsA]; exact Nat.le_refl _
   have K6 := K5 _ (Nat.le_trans (Nat.le_add_right _ 1) s6) (g5.below (below_row BA (Nat.le_refl _) GA))
   obtain ⟨V6, hV6⟩ : ∃ V, (V5.alloc (.cells #[.int .u64 0, .int .u64 0, .string ⟨#[]⟩, .string ⟨#[]⟩, .string ⟨#[]⟩, .string ⟨#[]⟩, .string ⟨#[]⟩, .int .u64 0, .slice none 0 0, .int .u64 0, .int .u64 0, .string ⟨#[]⟩, .string ⟨#[]⟩, .string ⟨#[]⟩, .string ⟨#[]⟩, .string ⟨#[]⟩, .int .u64 0, .slice none 0 0, .slice none 0 0, .string ⟨#[]⟩, .slice none 0 0, .string ⟨#[]⟩, .int .u64 0, .int .u64 0, .string ⟨#[]⟩, .string ⟨#[]⟩, .string ⟨#[]⟩, .string ⟨#[]⟩, .string ⟨#[]⟩, .int .u64 0, .slice none 0 0, .slice none 0 0, .string ⟨#[]⟩, .slice none 0 0, .int .u64 0, .int .u64 0, .string ⟨#[]⟩, .string ⟨#[]⟩, .string ⟨#[]⟩, .string ⟨#[]⟩, .string ⟨#[]⟩, .int .u64 0, .slice none 0 0, .slice none 0 0, .int .u64 0, .string ⟨#[]⟩, .int .u64 0, .bool false, .int .i64 0, .int .i64 0, .bool false] 38)).setRow V5.heap.size GA = V := ⟨_, rfl⟩
   rw [hV6] at u6 BV6 s6 K6 ⊢
   obtain ⟨x, hx⟩ : ∃ y, V5.heap.size = y := ⟨_, rfl⟩
   rw [hx] at u6 s6 hzy ⊢
   clear hV6 hx BA hsA nA HV BV5 g5 s5 K5
   go_wp2_with (first | (refine wpList_load_row rfl 38 _ rfl x rfl _ _ _ _ u6 Tryz.underlying38 rfl (by rw [hQ5.out]; kernel_rfl) ?_))
   refine K6.mono ?_
   rintro e V7 ⟨⟨q7, rfl, g7⟩, C⟩
   have u7 := u6.below C
   have BV7 := belowStep BV6 (by omega) C
   have s7 : z ≤ V7.heap.size := by have := C.size; omega
   clear C u6 BV6 s6 K6 g7 hzy
   have hQ7 : Hid ((stV GS q7).toArray.size = 51) := show _ from rfl
   have hO7 : Hid ((stV GS q7).toArray.all (·.oneCell') = true) := show _ from one_arr (stV_one _ _)
   obtain ⟨A7, hA7⟩ : ∃ F, (stV GS q7).toArray = F := ⟨_, rfl⟩
   rw [hA7] at hQ7 hO7
   rw [hA7]
   clear hA7
   obtain ⟨BA, nA, hsA⟩ := box1 V7 (.cells #[.int .u64 0, .int .u64 0, .string ⟨#[]⟩, .string ⟨#[]⟩, .string ⟨#[]⟩, .string ⟨#[]⟩, .string ⟨#[]⟩, .int .u64 0, .slice none 0 0, .int .u64 0, .int .u64 0, .string ⟨#[]⟩, .string ⟨#[]⟩, .string ⟨#[]⟩, .string ⟨#[]⟩, .string ⟨#[]⟩, .int .u64 0, .slice none 0 0, .slice none 0 0, .string ⟨#[]⟩, .slice none 0 0, .string ⟨#[]⟩, .int .u64 0, .int .u64 0, .string ⟨#[]⟩, .string ⟨#[]⟩, .string ⟨#[]⟩, .string ⟨#[]⟩, .string ⟨#[]⟩, .int .u64 0, .slice none 0 0, .slice none 0 0, .string ⟨#[]⟩, .slice none 0 0, .int .u64 0, .int .u64 0, .string ⟨#[]⟩, .string ⟨#[]⟩, .string ⟨#[]⟩, .string ⟨#[]⟩, .string ⟨#[]⟩, .int .u64 0, .slice none 0 0, .slice none 0 0, .int .u64 0, .string ⟨#[]⟩, .int .u64 0, .bool false, .int .i64 0, .int .i64 0, .bool false] 38)
   have HV : Hid (_ ∧ _ ∧ _ ∧ _ ∧ _) := ⟨BA, hsA, u7, BV7, s7⟩
   clear BA hsA u7 BV7 s7
   go_wp2_with (first | (refine store_row0 rfl rfl 38 _ _ rfl V7.heap.size _ rfl rfl 38 _ nA (by rw [hQ7.out]; kernel_rfl) (by rw [hQ7.out]; rfl) hO7.out ?_; refine Stp.out ?_))
   refine ⟨?_⟩
   obtain ⟨BA, hsA, u7', BV7, s7⟩ := HV.out
   have C := below_row BA (Nat.le_refl _) A7
   have u7 := u7'.below C
   have HB : Hid (Below z w _) := belowStep BV7 s7 C
   obtain ⟨V8, hV8⟩ : ∃ V, (V7.alloc (.cells #[.int .u64 0, .int .u64 0, .string ⟨#[]⟩, .string ⟨#[]⟩, .string ⟨#[]⟩, .string ⟨#[]⟩, .string ⟨#[]⟩, .int .u64 0, .slice none 0 0, .int .u64 0, .int .u64 0, .string ⟨#[]⟩, .string ⟨#[]⟩, .string ⟨#[]⟩, .string ⟨#[]⟩, .string ⟨#[]⟩, .int .u64 0, .slice none 0 0, .slice none 0 0, .string ⟨#[]⟩, .slice none 0 0, .string ⟨#[]⟩, .int .u64 0, .int .u64 0, .string ⟨#[]⟩, .string ⟨#[]⟩, .string ⟨#[]⟩, .string ⟨#[]⟩, .string ⟨#[]⟩, .int .u64 0, .slice none 0 0, .slice none 0 0, .string ⟨#[]⟩, .slice none 0 0, .int .u64 0, .int .u64 0, .string ⟨#[]⟩, .string ⟨#[]⟩, .string ⟨#[]⟩, .string ⟨#[]⟩, .string ⟨#[]⟩, .int .u64 0, .slice none 0 0, .slice none 0 0, .int .u64 0, .string ⟨#[]⟩, .int .u64 0, .bool false, .int .i64 0, .int .i64 0, .bool false] 38)).setRow V7.heap.size A7 = V := ⟨_, rfl⟩
   rw [hV8] at u7 HB ⊢
   clear hV8 BA hsA nA HV u7' BV7 s7 C
   by_cases h3 : FE = 0
   ·subst h3
    obtain ⟨f1, f2, rfl⟩ := HP.out.2.2 rfl
    have d47 : V8.cell? ⟨x, 47, none⟩ = some (.bool false) := (u7.cell 47).trans (by rw [b47, f2])
    have d50 : V8.cell? ⟨x, 50, none⟩ = some (.bool true) := (u7.cell 50).trans (by rw [b50, f1])
    clear b47 b50 f1 f2 u7
    go_wp2
    go_ret
    rw [HZ.out]
    exact ⟨rfl, HB.out⟩
   ·have e3 : (FE == 0) = false := by rw [beq_eq_false_iff_ne]; exact h3
    clear b47 b50 u7
    go_wp2
    go_ret
    rw [HZ.out]
    exact ⟨rfl, HB.out⟩
  ·have e1 : (root.toList == other.toList) = false := by rw [beq_eq_false_iff_ne]; exact fun e => hro (toList_inj e)
   have e2 : (E2 == 0) = false := by rw [decide_eq_false hro] at h2; rw [beq_eq_false_iff_ne]; exact of_decide_eq_false h2
   clear h2 hro
   go_wp2_with (first | (refine wpList_load_mid rfl 38 _ rfl (z + 1) 0 rfl _ _ R2 Tryz.underlying38 rfl (by rw [HL.out.2]; kernel_rfl) ?_) | (refine load_mid_wanted (by rfl) 38 _ rfl (z + 1) 0 rfl _ _ R2 Tryz.underlying38 rfl (by rw [HL.out.2]; kernel_rfl) ?_))
   refine (K3 _ BV4 (by have := hY2.out; omega)).mono ?_
   rintro e V5 ⟨⟨q5, rfl, g5⟩, C⟩
   have BV5 := belowStep BV4 (by have := hY2.out; omega) C
   have s5 : y + 1 ≤ V5.heap.size := by have := C.size; omega
   clear C R2 K3 y4 BV4 s4 c47 c50 c20 e1 e2
   have hQ5 : Hid ((stV FS q5).toArray.size = 51) := show _ from rfl
   have hO5 : Hid ((stV FS q5).toArray.all (·.oneCell') = true) := show _ from one_arr (stV_one _ _)
   have b47 : (stV FS q5).toArray[47]? = some (.bool FS.has) := rfl
   have b50 : (stV FS q5).toArray[50]? = some (.bool FS.forced) := rfl
   obtain ⟨BA, nA, hsA⟩ := box1 V5 (.cells #[.int .u64 0, .int .u64 0, .string ⟨#[]⟩, .string ⟨#[]⟩, .string ⟨#[]⟩, .string ⟨#[]⟩, .string ⟨#[]⟩, .int .u64 0, .slice none 0 0, .int .u64 0, .int .u64 0, .string ⟨#[]⟩, .string ⟨#[]⟩, .string ⟨#[]⟩, .string ⟨#[]⟩, .string ⟨#[]⟩, .int .u64 0, .slice none 0 0, .slice none 0 0, .string ⟨#[]⟩, .slice none 0 0, .string ⟨#[]⟩, .int .u64 0, .int .u64 0, .string ⟨#[]⟩, .string ⟨#[]⟩, .string ⟨#[]⟩, .string ⟨#[]⟩, .string ⟨#[]⟩, .int .u64 0, .slice none 0 0, .slice none 0 0, .string ⟨#[]⟩, .slice none 0 0, .int .u64 0, .int .u64 0, .string ⟨#[]⟩, .string ⟨#[]⟩, .string ⟨#[]⟩, .string ⟨#[]⟩, .string ⟨#[]⟩, .int .u64 0, .slice none 0 0, .slice none 0 0, .int .u64 0, .string ⟨#[]⟩, .int .u64 0, .bool false, .int .i64 0, .int .i64 0, .bool false] 38)
   have K5 := K4 q5 V5.heap.size
   obtain ⟨GA, hGA⟩ : ∃ F, (stV FS q5).toArray = F := ⟨_, rfl⟩
   rw [hGA] at hQ5 hO5 b47 b50 K5
   rw [hGA]
   have HV : Hid (_ ∧ _ ∧ _ ∧ _ ∧ _) := ⟨BA, hsA, s5, g5, BV5⟩
   clear hGA BA hsA s5 g5 BV5 K4
   go_wp2_with (first | (refine store_row0 rfl rfl 38 _ _ rfl V5.heap.size _ rfl rfl 38 _ nA (by rw [hQ5.out]; kernel_rfl) (by rw [hQ5.out]; rfl) hO5.out ?_; refine Stp.out ?_))
   refine ⟨?_⟩
   obtain ⟨BA, hsA, s5, g5, BV5⟩ := HV.out
   have hzy : z ≤ V5.heap.size := by have := hY2.out; omega
   have u6 := Bq.row (show Bq V5.heap.size 38 _ _ from nA) GA
   have BV6 := below_row (belowStep BV5 hzy BA) hzy GA
   have s6 : V5.heap.size + 1 ≤ ((V5.alloc (.cells #[.int .u64 0, .int .u64 0, .string ⟨#[]⟩, .string ⟨#[]⟩, .string ⟨#[]⟩, .string ⟨#[]⟩, .string ⟨#[]⟩, .int .u64 0, .slice none 0 0, .int .u64 0, .int .u64 0, .string ⟨#[]⟩, .string ⟨#[]⟩, .string ⟨#[]⟩, .string ⟨#[]⟩, .string ⟨#[]⟩, .int .u64 0, .slice none 0 0, .slice none 0 0, .string ⟨#[]⟩, .slice none 0 0, .string ⟨#[]⟩, .int .u64 0, .int .u64 0, .string ⟨#[]⟩, .string ⟨#[]⟩, .string ⟨#[]⟩, .string ⟨#[]⟩, .string ⟨#[]⟩, .int .u64 0, .slice none 0 0, .slice none 0 0, .string ⟨#[]⟩, .slice none 0 0, .int .u64 0, .int .u64 0, .string ⟨#[]⟩, .string ⟨#[]⟩, .string ⟨#[]⟩, .string ⟨#[]⟩, .string ⟨#[]⟩, .int .u64 0, .slice none 0 0, .slice none 0 0, .int .u64 0, .string ⟨#[]⟩, .int .u64 0, .bool false, .int .i64 0, .int .i64 0, .bool false] 38)).setRow V5.heap.size GA).heap.size := by rw [size_setRow, hsA]; exact Nat.le_refl _
   have K6 := K5 _ (Nat.le_trans (Nat.le_add_right _ 1) s6) (g5.below (below_row BA (Nat.le_refl _) GA))
   obtain ⟨V6, hV6⟩ : ∃ V, (V5.alloc (.cells #[.int .u64 0, .int .u64 0, .string ⟨#[]⟩, .string ⟨#[]⟩, .string ⟨#[]⟩, .string ⟨#[]⟩, .string ⟨#[]⟩, .int .u64 0, .slice none 0 0, .int .u64 0, .int .u64 0, .string ⟨#[]⟩, .string ⟨#[]⟩, .string ⟨#[]⟩, .string ⟨#[]⟩, .string ⟨#[]⟩, .int .u64 0, .slice none 0 0, .slice none 0 0, .string ⟨#[]⟩, .slice none 0 0, .string ⟨#[]⟩, .int .u64 0, .int .u64 0, .string ⟨#[]⟩, .string ⟨#[]⟩, .string ⟨#[]⟩, .string ⟨#[]⟩, .string ⟨#[]⟩, .int .u64 0, .slice none 0 0, .slice none 0 0, .string ⟨#[]⟩, .slice none 0 0, .int .u64 0, .int .u64 0, .string ⟨#[]⟩, .string ⟨#[]⟩, .string ⟨#[]⟩, .string ⟨#[]⟩, .string ⟨#[]⟩, .int .u64 0, .slice none 0 0, .slice none 0 0, .int .u64 0, .string ⟨#[]⟩, .int .u64 0, .bool false, .int .i64 0, .int .i64 0, .bool false] 38)).setRow V5.heap.size GA = V := ⟨_, rfl⟩
   rw [hV6] at u6 BV6 s6 K6 ⊢
   obtain ⟨x, hx⟩ : ∃ y, V5.heap.size = y := ⟨_, rfl⟩
   rw [hx] at u6 s6 hzy ⊢
   clear hV6 hx BA hsA nA HV BV5 g5 s5 K5
   go_wp2_with (first | (refine wpList_load_row rfl 38 _ rfl x rfl _ _ _ _ u6 Tryz.underlying38 rfl (by rw [hQ5.out]; kernel_rfl) ?_))
   refine K6.mono ?_
   rintro e V7 ⟨⟨q7, rfl, g7⟩, C⟩
   have u7 := u6.below C
   have BV7 := belowStep BV6 (by omega) C
   have s7 : z ≤ V7.heap.size := by have := C.size; omega
   clear C u6 BV6 s6 K6 g7 hzy
   have hQ7 : Hid ((stV GS q7).toArray.size = 51) := show _ from rfl
   have hO7 : Hid ((stV GS q7).toArray.all (·.oneCell') = true) := show _ from one_arr (stV_one _ _)
   obtain ⟨A7, hA7⟩ : ∃ F, (stV GS q7).toArray = F := ⟨_, rfl⟩
   rw [hA7] at hQ7 hO7
   rw [hA7]
   clear hA7
   obtain ⟨BA, nA, hsA⟩ := box1 V7 (.cells #[.int .u64 0, .int .u64 0, .string ⟨#[]⟩, .string ⟨#[]⟩, .string ⟨#[]⟩, .string ⟨#[]⟩, .string ⟨#[]⟩, .int .u64 0, .slice none 0 0, .int .u64 0, .int .u64 0, .string ⟨#[]⟩, .string ⟨#[]⟩, .string ⟨#[]⟩, .string ⟨#[]⟩, .string ⟨#[]⟩, .int .u64 0, .slice none 0 0, .slice none 0 0, .string ⟨#[]⟩, .slice none 0 0, .string ⟨#[]⟩, .int .u64 0, .int .u64 0, .string ⟨#[]⟩, .string ⟨#[]⟩, .string ⟨#[]⟩, .string ⟨#[]⟩, .string ⟨#[]⟩, .int .u64 0, .slice none 0 0, .slice none 0 0, .string ⟨#[]⟩, .slice none 0 0, .int .u64 0, .int .u64 0, .string ⟨#[]⟩, .string ⟨#[]⟩, .string ⟨#[]⟩, .string ⟨#[]⟩, .string ⟨#[]⟩, .int .u64 0, .slice none 0 0, .slice none 0 0, .int .u64 0, .string ⟨#[]⟩, .int .u64 0, .bool false, .int .i64 0, .int .i64 0, .bool false] 38)
   have HV : Hid (_ ∧ _ ∧ _ ∧ _ ∧ _) := ⟨BA, hsA, u7, BV7, s7⟩
   clear BA hsA u7 BV7 s7
   go_wp2_with (first | (refine store_row0 rfl rfl 38 _ _ rfl V7.heap.size _ rfl rfl 38 _ nA (by rw [hQ7.out]; kernel_rfl) (by rw [hQ7.out]; rfl) hO7.out ?_; refine Stp.out ?_))
   refine ⟨?_⟩
   obtain ⟨BA, hsA, u7', BV7, s7⟩ := HV.out
   have C := below_row BA (Nat.le_refl _) A7
   have u7 := u7'.below C
   have HB : Hid (Below z w _) := belowStep BV7 s7 C
   obtain ⟨V8, hV8⟩ : ∃ V, (V7.alloc (.cells #[.int .u64 0, .int .u64 0, .string ⟨#[]⟩, .string ⟨#[]⟩, .string ⟨#[]⟩, .string ⟨#[]⟩, .string ⟨#[]⟩, .int .u64 0, .slice none 0 0, .int .u64 0, .int .u64 0, .string ⟨#[]⟩, .string ⟨#[]⟩, .string ⟨#[]⟩, .string ⟨#[]⟩, .string ⟨#[]⟩, .int .u64 0, .slice none 0 0, .slice none 0 0, .string ⟨#[]⟩, .slice none 0 0, .string ⟨#[]⟩, .int .u64 0, .int .u64 0, .string ⟨#[]⟩, .string ⟨#[]⟩, .string ⟨#[]⟩, .string ⟨#[]⟩, .string ⟨#[]⟩, .int .u64 0, .slice none 0 0, .slice none 0 0, .string ⟨#[]⟩, .slice none 0 0, .int .u64 0, .int .u64 0, .string ⟨#[]⟩, .string ⟨#[]⟩, .string ⟨#[]⟩, .string ⟨#[]⟩, .string ⟨#[]⟩, .int .u64 0, .slice none 0 0, .slice none 0 0, .int .u64 0, .string ⟨#[]⟩, .int .u64 0, .bool false, .int .i64 0, .int .i64 0, .bool false] 38)).setRow V7.heap.size A7 = V := ⟨_, rfl⟩
   rw [hV8] at u7 HB ⊢
   clear hV8 BA hsA nA HV u7' BV7 s7 C
   by_cases h3 : FE = 0
   ·subst h3
    obtain ⟨f1, f2, rfl⟩ := HP.out.2.2 rfl
    have d47 : V8.cell? ⟨x, 47, none⟩ = some (.bool false) := (u7.cell 47).trans (by rw [b47, f2])
    have d50 : V8.cell? ⟨x, 50, none⟩ = some (.bool true) := (u7.cell 50).trans (by rw [b50, f1])
    clear b47 b50 f1 f2 u7
    go_wp2
    go_ret
    rw [HZ.out]
    exact ⟨rfl, HB.out⟩
   ·have e3 : (FE == 0) = false := by rw [beq_eq_false_iff_ne]; exact h3
    clear b47 b50 u7
    go_wp2
    go_ret
    rw [HZ.out]
    exact ⟨rfl, HB.out⟩
 ·clear a47 a50 a20 u4
  have e1 : (E1 == 0) = false := by rw [beq_eq_false_iff_ne]; exact h1
  have e2 : (E1 != 0) = true := by rw [bne, e1]; rfl
  clear h1
  go_wp2_with ((with_reducible refine load_gate ?_); first | (refine wpList_load_row rfl 38 _ rfl (z + 1) rfl _ _ _ _ y4 Tryz.underlying38 rfl (by rw [List.size_toArray, HL.out.2]; kernel_rfl) ?_))
  refine (K3 _ BV4 (by have := hY2.out; omega)).mono ?_
  rintro e V5 ⟨⟨q5, rfl, g5⟩, C⟩
  have BV5 := belowStep BV4 (by have := hY2.out; omega) C
  have s5 : y + 1 ≤ V5.heap.size := by have := C.size; omega
  clear C R2 K3 y4 BV4 s4
  have hQ5 : Hid ((stV FS q5).toArray.size = 51) := show _ from rfl
  have hO5 : Hid ((stV FS q5).toArray.all (·.oneCell') = true) := show _ from one_arr (stV_one _ _)
  have b47 : (stV FS q5).toArray[47]? = some (.bool FS.has) := rfl
  have b50 : (stV FS q5).toArray[50]? = some (.bool FS.forced) := rfl
  obtain ⟨BA, nA, hsA⟩ := box1 V5 (.cells #[.int .u64 0, .int .u64 0, .string ⟨#[]⟩, .string ⟨#[]⟩, .string ⟨#[]⟩, .string ⟨#[]⟩, .string ⟨#[]⟩, .int .u64 0, .slice none 0 0, .int .u64 0, .int .u64 0, .string ⟨#[]⟩, .string ⟨#[]⟩, .string ⟨#[]⟩, .string ⟨#[]⟩, .string ⟨#[]⟩, .int .u64 0, .slice none 0 0, .slice none 0 0, .string ⟨#[]⟩, .slice none 0 0, .string ⟨#[]⟩, .int .u64 0, .int .u64 0, .string ⟨#[]⟩, .string ⟨#[]⟩, .string ⟨#[]⟩, .string ⟨#[]⟩, .string ⟨#[]⟩, .int .u64 0, .slice none 0 0, .slice none 0 0, .string ⟨#[]⟩, .slice none 0 0, .int .u64 0, .int .u64 0, .string ⟨#[]⟩, .string ⟨#[]⟩, .string ⟨#[]⟩, .string ⟨#[]⟩, .string ⟨#[]⟩, .int .u64 0, .slice none 0 0, .slice none 0 0, .int .u64 0, .string ⟨#[]⟩, .int .u64 0, .bool false, .int .i64 0, .int .i64 0, .bool false] 38)
  have K5 := K4 q5 V5.heap.size
  obtain ⟨GA, hGA⟩ : ∃ F, (stV FS q5).toArray = F := ⟨_, rfl⟩
  rw [hGA] at hQ5 hO5 b47 b50 K5
  rw [hGA]
  have HV : Hid (_ ∧ _ ∧ _ ∧ _ ∧ _) := ⟨BA, hsA, s5, g5, BV5⟩
  clear hGA BA hsA s5 g5 BV5 K4
  go_wp2_with (first | (refine store_row0 rfl rfl 38 _ _ rfl V5.heap.size _ rfl rfl 38 _ nA (by rw [hQ5.out]; kernel_rfl) (by rw [hQ5.out]; rfl) hO5.out ?_; refine Stp.out ?_))
  refine ⟨?_⟩
  obtain ⟨BA, hsA, s5, g5, BV5⟩ := HV.out
  have hzy : z ≤ V5.heap.size := by have := hY2.out; omega
  have u6 := Bq.row (show Bq V5.heap.size 38 _ _ from nA) GA
  have BV6 := below_row (belowStep BV5 hzy BA) hzy GA
  have s6 : V5.heap.size + 1 ≤ ((V5.alloc (.cells #[.int .u64 0, .int .u64 0, .string ⟨#[]⟩, .string ⟨#[]⟩, .string ⟨#[]⟩, .string ⟨#[]⟩, .string ⟨#[]⟩, .int .u64 0, .slice none 0 0, .int .u64 0, .int .u64 0, .string ⟨#[]⟩, .string ⟨#[]⟩, .string ⟨#[]⟩, .string ⟨#[]⟩, .string ⟨#[]⟩, .int .u64 0, .slice none 0 0, .slice none 0 0, .string ⟨#[]⟩, .slice none 0 0, .string ⟨#[]⟩, .int .u64 0, .int .u64 0, .string ⟨#[]⟩, .string ⟨#[]⟩, .string ⟨#[]⟩, .string ⟨#[]⟩, .string ⟨#[]⟩, .int .u64 0, .slice none 0 0, .slice none 0 0, .string ⟨#[]⟩, .slice none 0 0, .int .u64 0, .int .u64 0, .string ⟨#[]⟩, .string ⟨#[]⟩, .string ⟨#[]⟩, .string ⟨#[]⟩, .string ⟨#[]⟩, .int .u64 0, .slice none 0 0, .slice none 0 0, .int .u64 0, .string ⟨#[]⟩, .int .u64 0, .bool false, .int .i64 0, .int .i64 0, .bool false] 38)).setRow V5.heap.size GA).heap.size := by rw [size_setRow, hsA]; exact Nat.le_refl _
  have K6 := K5 _ (Nat.le_trans (Nat.le_add_right _ 1) s6) (g5.below (below_row BA (Nat.le_refl _) GA))
  obtain ⟨V6, hV6⟩ : ∃ V, (V5.alloc (.cells #[.int .u64 0, .int .u64 0, .string ⟨#[]⟩, .string ⟨#[]⟩, .string ⟨#[]⟩, .string ⟨#[]⟩, .string ⟨#[]⟩, .int .u64 0, .slice none 0 0, .int .u64 0, .int .u64 0, .string ⟨#[]⟩, .string ⟨#[]⟩, .string ⟨#[]⟩, .string ⟨#[]⟩, .string ⟨#[]⟩, .int .u64 0, .slice none 0 0, .slice none 0 0, .string ⟨#[]⟩, .slice none 0 0, .string ⟨#[]⟩, .int .u64 0, .int .u64 0, .string ⟨#[]⟩, .string ⟨#[]⟩, .string ⟨#[]⟩, .string ⟨#[]⟩, .string ⟨#[]⟩, .int .u64 0, .slice none 0 0, .slice none 0 0, .string ⟨#[]⟩, .slice none 0 0, .int .u64 0, .int .u64 0, .string ⟨#[]⟩, .string ⟨#[]⟩, .string ⟨#[]⟩, .string ⟨#[]⟩, .string ⟨#[]⟩, .int .u64 0, .slice none 0 0, .slice none 0 0, .int .u64 0, .string ⟨#[]⟩, .int .u64 0, .bool false, .int .i64 0, .int .i64 0, .bool false] 38)).setRow V5.heap.size GA = V := ⟨_, rfl⟩
  rw [hV6] at u6 BV6 s6 K6 ⊢
  obtain ⟨x, hx⟩ : ∃ y, V5.heap.size = y := ⟨_, rfl⟩
  rw [hx] at u6 s6 hzy ⊢
  clear hV6 hx BA hsA nA HV BV5 g5 s5 K5
  go_wp2_with (first | (refine wpList_load_row rfl 38 _ rfl x rfl _ _ _ _ u6 Tryz.underlying38 rfl (by rw [hQ5.out]; kernel_rfl) ?_))
  refine K6.mono ?_
  rintro e V7 ⟨⟨q7, rfl, g7⟩, C⟩
  have u7 := u6.below C
  have BV7 := belowStep BV6 (by omega) C
  have s7 : z ≤ V7.heap.size := by have := C.size; omega
  clear C u6 BV6 s6 K6 g7 hzy
  have hQ7 : Hid ((stV GS q7).toArray.size = 51) := show _ from rfl
  have hO7 : Hid ((stV GS q7).toArray.all (·.oneCell') = true) := show _ from one_arr (stV_one _ _)
  obtain ⟨A7, hA7⟩ : ∃ F, (stV GS q7).toArray = F := ⟨_, rfl⟩
  rw [hA7] at hQ7 hO7
  rw [hA7]
  clear hA7
  obtain ⟨BA, nA, hsA⟩ := box1 V7 (.cells #[.int .u64 0, .int .u64 0, .string ⟨#[]⟩, .string ⟨#[]⟩, .string ⟨#[]⟩, .string ⟨#[]⟩, .string ⟨#[]⟩, .int .u64 0, .slice none 0 0, .int .u64 0, .int .u64 0, .string ⟨#[]⟩, .string ⟨#[]⟩, .string ⟨#[]⟩, .string ⟨#[]⟩, .string ⟨#[]⟩, .int .u64 0, .slice none 0 0, .slice none 0 0, .string ⟨#[]⟩, .slice none 0 0, .string ⟨#[]⟩, .int .u64 0, .int .u64 0, .string ⟨#[]⟩, .string ⟨#[]⟩, .string ⟨#[]⟩, .string ⟨#[]⟩, .string ⟨#[]⟩, .int .u64 0, .slice none 0 0, .slice none 0 0, .string ⟨#[]⟩, .slice none 0 0, .int .u64 0, .int .u64 0, .string ⟨#[]⟩, .string ⟨#[]⟩, .string ⟨#[]⟩, .string ⟨#[]⟩, .string ⟨#[]⟩, .int .u64 0, .slice none 0 0, .slice none 0 0, .int .u64 0, .string ⟨#[]⟩, .int .u64 0, .bool false, .int .i64 0, .int .i64 0, .bool false] 38)
  have HV : Hid (_ ∧ _ ∧ _ ∧ _ ∧ _) := ⟨BA, hsA, u7, BV7, s7⟩
  clear BA hsA u7 BV7 s7
  go_wp2_with (first | (refine store_row0 rfl rfl 38 _ _ rfl V7.heap.size _ rfl rfl 38 _ nA (by rw [hQ7.out]; kernel_rfl) (by rw [hQ7.out]; rfl) hO7.out ?_; refine Stp.out ?_))
  refine ⟨?_⟩
  obtain ⟨BA, hsA, u7', BV7, s7⟩ := HV.out
  have C := below_row BA (Nat.le_refl _) A7
  have u7 := u7'.below C
  have HB : Hid (Below z w _) := belowStep BV7 s7 C
  obtain ⟨V8, hV8⟩ : ∃ V, (V7.alloc (.cells #[.int .u64 0, .int .u64 0, .string ⟨#[]⟩, .string ⟨#[]⟩, .string ⟨#[]⟩, .string ⟨#[]⟩, .string ⟨#[]⟩, .int .u64 0, .slice none 0 0, .int .u64 0, .int .u64 0, .string ⟨#[]⟩, .string ⟨#[]⟩, .string ⟨#[]⟩, .string ⟨#[]⟩, .string ⟨#[]⟩, .int .u64 0, .slice none 0 0, .slice none 0 0, .string ⟨#[]⟩, .slice none 0 0, .string ⟨#[]⟩, .int .u64 0, .int .u64 0, .string ⟨#[]⟩, .string ⟨#[]⟩, .string ⟨#[]⟩, .string ⟨#[]⟩, .string ⟨#[]⟩, .int .u64 0, .slice none 0 0, .slice none 0 0, .string ⟨#[]⟩, .slice none 0 0, .int .u64 0, .int .u64 0, .string ⟨#[]⟩, .string ⟨#[]⟩, .string ⟨#[]⟩, .string ⟨#[]⟩, .string ⟨#[]⟩, .int .u64 0, .slice none 0 0, .slice none 0 0, .int .u64 0, .string ⟨#[]⟩, .int .u64 0, .bool false, .int .i64 0, .int .i64 0, .bool false] 38)).setRow V7.heap.size A7 = V := ⟨_, rfl⟩
  rw [hV8] at u7 HB ⊢
  clear hV8 BA hsA nA HV u7' BV7 s7 C
  by_cases h3 : FE = 0
  ·subst h3
   obtain ⟨f1, f2, rfl⟩ := HP.out.2.2 rfl
   have d47 : V8.cell? ⟨x, 47, none⟩ = some (.bool false) := (u7.cell 47).trans (by rw [b47, f2])
   have d50 : V8.cell? ⟨x, 50, none⟩ = some (.bool true) := (u7.cell 50).trans (by rw [b50, f1])
   clear b47 b50 f1 f2 u7
   go_wp2
   go_ret
   rw [HZ.out]
   exact ⟨rfl, HB.out⟩
  ·have e3 : (FE == 0) = false := by rw [beq_eq_false_iff_ne]; exact h3
   clear b47 b50 u7
   go_wp2
   go_ret
   rw [HZ.out]
   exact ⟨rfl, HB.out⟩
theorem lightonce_any (root other : ByteArray) (d : BtD) (s : StD) (now : Int) (okd : d.ok) (ok : s.ok) (zd : szB d) (zs : szT s) (qd : BtP) (qs : StP) (w : World) (hl : Laid w) (hpd : btIn w.heap.size w d qd) (hps : stIn w.heap.size w s qs) (hnow : 0 ≤ now ∧ now < 18446744073709551616) :
  Calls Tryz.prog 6 #[.string root, .string other, .agg (btV d qd).toArray, .agg (stV s qs).toArray, .int .u64 now] w fun e w' => e = .returned (.bool true) ∧ Below w.heap.size w w' := by
 obtain ⟨k, rfl⟩ := Int.eq_ofNat_of_zero_le hnow.1
 exact lightonce_nat root other d s okd ok zd zs qd qs k (by omega) w hl hpd hps
end Go.Proofs.YtoddangedbefgabGreatDoor
