/- Lemmas: The reference's Same of messages and of stores: of any two. No condition but on lists that no machine has. The reference's words on those that sign, and its Better. No condition. The law LightBetter, walked. No condition. What the package's pick does at Lights, committees, messages. No condition. -/
import Derived.Test.YtoddangedbefgaaGreatDoorM1
import Derived.Test.YtoddangedbefgaaGreatDoorM10
import Derived.Test.YtoddangedbefgaaGreatDoorM11
import Derived.Test.YtoddangedbefgaaGreatDoorM12
import Derived.Test.YtoddangedbefgaaGreatDoorM13
import Derived.Test.YtoddangedbefgaaGreatDoorM14
import Derived.Test.YtoddangedbefgaaGreatDoorM15
import Derived.Test.YtoddangedbefgaaGreatDoorM16
import Derived.Test.YtoddangedbefgaaGreatDoorM17
import Derived.Test.YtoddangedbefgaaGreatDoorM18
import Derived.Test.YtoddangedbefgaaGreatDoorM19
import Derived.Test.YtoddangedbefgaaGreatDoorM2
import Derived.Test.YtoddangedbefgaaGreatDoorM21
import Derived.Test.YtoddangedbefgaaGreatDoorM22
import Derived.Test.YtoddangedbefgaaGreatDoorM23
import Derived.Test.YtoddangedbefgaaGreatDoorM24
import Derived.Test.YtoddangedbefgaaGreatDoorM25
import Derived.Test.YtoddangedbefgaaGreatDoorM26
import Derived.Test.YtoddangedbefgaaGreatDoorM27
import Derived.Test.YtoddangedbefgaaGreatDoorM28
import Derived.Test.YtoddangedbefgaaGreatDoorM29
import Derived.Test.YtoddangedbefgaaGreatDoorM3
import Derived.Test.YtoddangedbefgaaGreatDoorM30
import Derived.Test.YtoddangedbefgaaGreatDoorM31
import Derived.Test.YtoddangedbefgaaGreatDoorM32
import Derived.Test.YtoddangedbefgaaGreatDoorM4
import Derived.Test.YtoddangedbefgaaGreatDoorM5
import Derived.Test.YtoddangedbefgaaGreatDoorM6
import Derived.Test.YtoddangedbefgaaGreatDoorM7
import Derived.Test.YtoddangedbefgaaGreatDoorM8
import Derived.Test.YtoddangedbefgaaGreatDoorM9
import Derived.Test.YtoddangedbefgaaGreatDoorRows
namespace Go.Proofs.YtoddangedbefgaaGreatDoor
open Go.RowKit Go.Shelf Go.Sort

def LgU (d : UpD) : Prop := Lg d.l.br ∧ Lg d.c.ks ∧ Lg d.nb ∧ Lg d.f.br ∧ Lg d.fb
def LgT (d : StD) : Prop := Lg d.fin.br ∧ Lg d.new.br ∧ Lg d.now.ks ∧ Lg d.nxt.ks ∧ LgU d.best
def eqUp (a b : UpD) : Bool := eqLt a.l b.l && eqLt a.f b.f && eqCm a.c b.c && decide (a.nb = b.nb) && decide (a.fb = b.fb) && decide (a.bits = b.bits) && decide (a.sig = b.sig) && decide (a.slot = b.slot)
theorem eqUp_iff (a b : UpD) : eqUp a b = true ↔ a = b := by
 obtain ⟨l, c, nb, f, fb, bits, sig, slot⟩ := a
 obtain ⟨l', c', nb', f', fb', bits', sig', slot'⟩ := b
 unfold eqUp
 simp only [Bool.and_eq_true, decide_eq_true_eq, UpD.mk.injEq, eqLt_iff, eqCm_iff]
 constructor
 ·rintro ⟨⟨⟨⟨⟨⟨⟨h1, h2⟩, h3⟩, h4⟩, h5⟩, h6⟩, h7⟩, h8⟩
  exact ⟨h1, h3, h4, h2, h5, h6, h7, h8⟩
 ·rintro ⟨h1, h3, h4, h2, h5, h6, h7, h8⟩
  exact ⟨⟨⟨⟨⟨⟨⟨h1, h2⟩, h3⟩, h4⟩, h5⟩, h6⟩, h7⟩, h8⟩
def eqSt (a b : StD) : Bool := eqLt a.fin b.fin && eqLt a.new b.new && eqCm a.now b.now && eqCm a.nxt b.nxt && eqUp a.best b.best && decide (a.has = b.has) && decide (a.last = b.last) && decide (a.this = b.this) && decide (a.forced = b.forced)
theorem eqSt_iff (a b : StD) : eqSt a b = true ↔ a = b := by
 obtain ⟨f, n, w, x, u, h, l, t, o⟩ := a
 obtain ⟨f', n', w', x', u', h', l', t', o'⟩ := b
 unfold eqSt
 simp only [Bool.and_eq_true, decide_eq_true_eq, StD.mk.injEq, eqLt_iff, eqCm_iff, eqUp_iff]
 constructor
 ·rintro ⟨⟨⟨⟨⟨⟨⟨⟨h1, h2⟩, h3⟩, h4⟩, h5⟩, h6⟩, h7⟩, h8⟩, h9⟩
  exact ⟨h1, h2, h3, h4, h5, h6, h7, h8, h9⟩
 ·rintro ⟨h1, h2, h3, h4, h5, h6, h7, h8, h9⟩
  exact ⟨⟨⟨⟨⟨⟨⟨⟨h1, h2⟩, h3⟩, h4⟩, h5⟩, h6⟩, h7⟩, h8⟩, h9⟩
set_option maxRecDepth 100000 in
set_option maxHeartbeats 8000000 in
theorem sameUp_any (a b : UpD) (la : LgU a) (lb : LgU b) (qa qb : UpP) (n : Nat) (w : World) (hn : n ≤ w.heap.size) (hpa : upIn n w a qa) (hpb : upIn n w b qb) :
  Calls Tryz.prog 32 #[.agg (upV a qa).toArray, .agg (upV b qb).toArray] w fun x w' => x = .returned (.bool (eqUp a b)) ∧ Below w.heap.size w w' := by
 have K0 := fun (W : World) (hB : Below w.heap.size w W) => sameLt_any a.l b.l la.1 lb.1 qa.l qb.l n W (Nat.le_trans hn hB.size) (slS_below (hB.mono hn) hpa.1) (slS_below (hB.mono hn) hpb.1)
 have A0 := upV_l a qa
 have B0 := upV_l b qb
 have K1 := fun (W : World) (hB : Below w.heap.size w W) => sameLt_any a.f b.f la.2.2.2.1 lb.2.2.2.1 qa.f qb.f n W (Nat.le_trans hn hB.size) (slS_below (hB.mono hn) hpa.2.2.2.1) (slS_below (hB.mono hn) hpb.2.2.2.1)
 have A1 := upV_f a qa
 have B1 := upV_f b qb
 have K2 := fun (W : World) (hB : Below w.heap.size w W) => sameCm_any a.c b.c la.2.1 lb.2.1 qa.c qb.c n W (Nat.le_trans hn hB.size) (slS_below (hB.mono hn) hpa.2.1) (slS_below (hB.mono hn) hpb.2.1)
 have A2 := upV_c a qa
 have B2 := upV_c b qb
 have K3 := fun (W : World) (hB : Below w.heap.size w W) => same8_any a.nb b.nb la.2.2.1 lb.2.2.1 qa.nb.a qb.nb.a qa.nb.c qb.nb.c n W (Nat.le_trans hn hB.size) (slS_below (hB.mono hn) hpa.2.2.1) (slS_below (hB.mono hn) hpb.2.2.1)
 have A3 : (upV a qa)[11]? = some (.slice qa.nb.a a.nb.length qa.nb.c) := rfl
 have B3 : (upV b qb)[11]? = some (.slice qb.nb.a b.nb.length qb.nb.c) := rfl
 have K4 := fun (W : World) (hB : Below w.heap.size w W) => same8_any a.fb b.fb la.2.2.2.2 lb.2.2.2.2 qa.fb.a qb.fb.a qa.fb.c qb.fb.c n W (Nat.le_trans hn hB.size) (slS_below (hB.mono hn) hpa.2.2.2.2) (slS_below (hB.mono hn) hpb.2.2.2.2)
 have A4 : (upV a qa)[21]? = some (.slice qa.fb.a a.fb.length qa.fb.c) := rfl
 have B4 : (upV b qb)[21]? = some (.slice qb.fb.a b.fb.length qb.fb.c) := rfl
 have A5 : (upV a qa)[22]? = some (.int .u64 (a.bits : Int)) := rfl
 have B5 : (upV b qb)[22]? = some (.int .u64 (b.bits : Int)) := rfl
 have A6 : (upV a qa)[23]? = some (.string a.sig) := rfl
 have B6 : (upV b qb)[23]? = some (.string b.sig) := rfl
 have A7 : (upV a qa)[24]? = some (.int .u64 (a.slot : Int)) := rfl
 have B7 : (upV b qb)[24]? = some (.int .u64 (b.slot : Int)) := rfl
 have HLn : Hid ((upV a qa).length = 25 ∧ (upV b qb).length = 25 ∧ (ltV a.l qa.l).length = 9 ∧ (ltV b.l qb.l).length = 9 ∧ (ltV a.f qa.f).length = 9 ∧ (ltV b.f qb.f).length = 9 ∧ (cmV a.c qa.c).length = 2 ∧ (cmV b.c qb.c).length = 2) := show _ from ⟨rfl, rfl, rfl, rfl, rfl, rfl, rfl, rfl⟩
 unfold eqUp
 obtain ⟨e0, he0⟩ : ∃ e, eqLt a.l b.l = e := ⟨_, rfl⟩
 rw [he0] at K0
 rw [he0]
 obtain ⟨X0, hX0⟩ : ∃ L, ltV a.l qa.l = L := ⟨_, rfl⟩
 rw [hX0] at K0 A0 HLn
 obtain ⟨Y0, hY0⟩ : ∃ L, ltV b.l qb.l = L := ⟨_, rfl⟩
 rw [hY0] at K0 B0 HLn
 obtain ⟨e1, he1⟩ : ∃ e, eqLt a.f b.f = e := ⟨_, rfl⟩
 rw [he1] at K1
 rw [he1]
 obtain ⟨X1, hX1⟩ : ∃ L, ltV a.f qa.f = L := ⟨_, rfl⟩
 rw [hX1] at K1 A1 HLn
 obtain ⟨Y1, hY1⟩ : ∃ L, ltV b.f qb.f = L := ⟨_, rfl⟩
 rw [hY1] at K1 B1 HLn
 obtain ⟨e2, he2⟩ : ∃ e, eqCm a.c b.c = e := ⟨_, rfl⟩
 rw [he2] at K2
 rw [he2]
 obtain ⟨X2, hX2⟩ : ∃ L, cmV a.c qa.c = L := ⟨_, rfl⟩
 rw [hX2] at K2 A2 HLn
 obtain ⟨Y2, hY2⟩ : ∃ L, cmV b.c qb.c = L := ⟨_, rfl⟩
 rw [hY2] at K2 B2 HLn
 obtain ⟨e3, he3⟩ : ∃ e, decide (a.nb = b.nb) = e := ⟨_, rfl⟩
 rw [he3] at K3
 rw [he3]
 obtain ⟨M3, hM3⟩ : ∃ L, a.nb.length = L := ⟨_, rfl⟩
 rw [hM3] at K3 A3
 obtain ⟨N3, hN3⟩ : ∃ L, b.nb.length = L := ⟨_, rfl⟩
 rw [hN3] at K3 B3
 obtain ⟨e4, he4⟩ : ∃ e, decide (a.fb = b.fb) = e := ⟨_, rfl⟩
 rw [he4] at K4
 rw [he4]
 obtain ⟨M4, hM4⟩ : ∃ L, a.fb.length = L := ⟨_, rfl⟩
 rw [hM4] at K4 A4
 obtain ⟨N4, hN4⟩ : ∃ L, b.fb.length = L := ⟨_, rfl⟩
 rw [hN4] at K4 B4
 obtain ⟨e5, he5⟩ : ∃ e, decide (a.bits = b.bits) = e := ⟨_, rfl⟩
 rw [he5]
 have c5 : (((a.bits : Nat) : Int) == (b.bits : Int)) = e5 := by rw [beqN]; exact he5
 obtain ⟨e6, he6⟩ : ∃ e, decide (a.sig = b.sig) = e := ⟨_, rfl⟩
 rw [he6]
 have c6 : (a.sig.toList == b.sig.toList) = e6 := by
  rw [← he6]
  by_cases h : a.sig = b.sig
  ·rw [decide_eq_true h, h]; exact beq_self_eq_true _
  ·rw [decide_eq_false h, beq_eq_false_iff_ne]; exact fun e => h (toList_inj e)
 obtain ⟨e7, he7⟩ : ∃ e, decide (a.slot = b.slot) = e := ⟨_, rfl⟩
 rw [he7]
 have c7 : (((a.slot : Nat) : Int) == (b.slot : Int)) = e7 := by rw [beqN]; exact he7
 obtain ⟨LA, hLA⟩ : ∃ L, upV a qa = L := ⟨_, rfl⟩
 obtain ⟨LB, hLB⟩ : ∃ L, upV b qb = L := ⟨_, rfl⟩
 rw [hLA] at A0 A1 A2 A3 A4 A5 A6 A7 HLn ⊢
 rw [hLB] at B0 B1 B2 B3 B4 B5 B6 B7 HLn ⊢
 clear hLA hLB la lb hpa hpb hn he0 he1 he2 he3 he4 he5 he6 he7 hX0 hY0 hX1 hY1 hX2 hY2 hM3 hN3 hM4 hN4
 obtain ⟨BV0, hxA, hxB, hs⟩ := box2 w (.cells LA.toArray 36) (.cells LB.toArray 36)
 obtain ⟨z, hz⟩ : ∃ z, w.heap.size = z := ⟨_, rfl⟩
 have HZ : Hid (w.heap.size = z) := hz
 rw [hz] at BV0 hxA hxB hs K0 K1 K2 K3 K4
 go_enter Tryz.func32, Tryz.ntmps32
 have xA0 : Bq z 36 LA.toArray _ := hxA
 have xB0 : Bq (z + 1) 36 LB.toArray _ := hxB
 clear hxA hxB
 have RA := range_of_block xA0 0 X0 A0
 have RB := range_of_block xB0 0 Y0 B0
 go_wp2_with (first | (refine wpList_load_mid rfl 29 _ rfl z 0 rfl _ _ RA Tryz.underlying29 rfl (by rw [HLn.out.2.2.1]; kernel_rfl) ?_) | (refine wpList_load_mid rfl 29 _ rfl (z + 1) 0 rfl _ _ RB Tryz.underlying29 rfl (by rw [HLn.out.2.2.2.1]; kernel_rfl) ?_))
 refine (K0 _ BV0).mono ?_
 rintro r V1 ⟨rfl, C⟩
 have hs1 : z + 2 ≤ V1.heap.size := by have := C.size; omega
 have xA1 : Bq z 36 LA.toArray V1 := Bq.below xA0 C
 have xB1 : Bq (z + 1) 36 LB.toArray V1 := Bq.below xB0 C
 have BV1 := belowStep BV0 (by omega) C
 clear RA RB C xA0 xB0 BV0 K0 hs hz
 have RA := range_of_block xA1 12 X1 A1
 have RB := range_of_block xB1 12 Y1 B1
 go_wp2_with (first | (refine wpList_load_mid rfl 29 _ rfl z 12 rfl _ _ RA Tryz.underlying29 rfl (by rw [HLn.out.2.2.2.2.1]; kernel_rfl) ?_) | (refine wpList_load_mid rfl 29 _ rfl (z + 1) 12 rfl _ _ RB Tryz.underlying29 rfl (by rw [HLn.out.2.2.2.2.2.1]; kernel_rfl) ?_))
 refine (K1 _ BV1).mono ?_
 rintro r V2 ⟨rfl, C⟩
 have hs2 : z + 2 ≤ V2.heap.size := by have := C.size; omega
 have xA2 : Bq z 36 LA.toArray V2 := Bq.below xA1 C
 have xB2 : Bq (z + 1) 36 LB.toArray V2 := Bq.below xB1 C
 have BV2 := belowStep BV1 (by omega) C
 clear RA RB C xA1 xB1 BV1 K1 hs1
 have RA := range_of_block xA2 9 X2 A2
 have RB := range_of_block xB2 9 Y2 B2
 go_wp2_with (first | (refine wpList_load_mid rfl 31 _ rfl z 9 rfl _ _ RA Tryz.underlying31 rfl (by rw [HLn.out.2.2.2.2.2.2.1]; kernel_rfl) ?_) | (refine wpList_load_mid rfl 31 _ rfl (z + 1) 9 rfl _ _ RB Tryz.underlying31 rfl (by rw [HLn.out.2.2.2.2.2.2.2]; kernel_rfl) ?_))
 refine (K2 _ BV2).mono ?_
 rintro r V3 ⟨rfl, C⟩
 have hs3 : z + 2 ≤ V3.heap.size := by have := C.size; omega
 have xA3 : Bq z 36 LA.toArray V3 := Bq.below xA2 C
 have xB3 : Bq (z + 1) 36 LB.toArray V3 := Bq.below xB2 C
 have BV3 := belowStep BV2 (by omega) C
 clear RA RB C xA2 xB2 BV2 K2 hs2
 cases e0 with
 | false =>
  have HB : Hid _ := BV3
  clear BV3
  go_wp2
  go_ret
  rw [HZ.out]
  exact ⟨by simp, HB.out⟩
 | true =>
  cases e1 with
  | false =>
   have HB : Hid _ := BV3
   clear BV3
   go_wp2
   go_ret
   rw [HZ.out]
   exact ⟨by simp, HB.out⟩
  | true =>
   cases e2 with
   | false =>
    have HB : Hid _ := BV3
    clear BV3
    go_wp2
    go_ret
    rw [HZ.out]
    exact ⟨by simp, HB.out⟩
   | true =>
    have dA3 := cell_of_block xA3 11 _ A3
    have dA4 := cell_of_block xA3 21 _ A4
    have dA5 := cell_of_block xA3 22 _ A5
    have dA6 := cell_of_block xA3 23 _ A6
    have dA7 := cell_of_block xA3 24 _ A7
    have dB3 := cell_of_block xB3 11 _ B3
    have dB4 := cell_of_block xB3 21 _ B4
    have dB5 := cell_of_block xB3 22 _ B5
    have dB6 := cell_of_block xB3 23 _ B6
    have dB7 := cell_of_block xB3 24 _ B7
    go_wp2_with fail
    refine (K3 _ BV3).mono ?_
    rintro r V4 ⟨rfl, C⟩
    have hs4 : z + 2 ≤ V4.heap.size := by have := C.size; omega
    have xA4 : Bq z 36 LA.toArray V4 := Bq.below xA3 C
    have xB4 : Bq (z + 1) 36 LB.toArray V4 := Bq.below xB3 C
    have BV4 := belowStep BV3 (by omega) C
    clear C xA3 xB3 BV3 hs3 dA3 dB3 dA4 dB4 dA5 dB5 dA6 dB6 dA7 dB7
    cases e3 with
    | false =>
     have HB : Hid _ := BV4
     clear BV4
     go_wp2
     go_ret
     rw [HZ.out]
     exact ⟨by simp, HB.out⟩
    | true =>
     have dA3 := cell_of_block xA4 11 _ A3
     have dA4 := cell_of_block xA4 21 _ A4
     have dA5 := cell_of_block xA4 22 _ A5
     have dA6 := cell_of_block xA4 23 _ A6
     have dA7 := cell_of_block xA4 24 _ A7
     have dB3 := cell_of_block xB4 11 _ B3
     have dB4 := cell_of_block xB4 21 _ B4
     have dB5 := cell_of_block xB4 22 _ B5
     have dB6 := cell_of_block xB4 23 _ B6
     have dB7 := cell_of_block xB4 24 _ B7
     go_wp2_with fail
     refine (K4 _ BV4).mono ?_
     rintro r V5 ⟨rfl, C⟩
     have hs5 : z + 2 ≤ V5.heap.size := by have := C.size; omega
     have xA5 : Bq z 36 LA.toArray V5 := Bq.below xA4 C
     have xB5 : Bq (z + 1) 36 LB.toArray V5 := Bq.below xB4 C
     have BV5 := belowStep BV4 (by omega) C
     clear C xA4 xB4 BV4 hs4 dA3 dB3 dA4 dB4 dA5 dB5 dA6 dB6 dA7 dB7
     cases e4 with
     | false =>
      have HB : Hid _ := BV5
      clear BV5
      go_wp2
      go_ret
      rw [HZ.out]
      exact ⟨by simp, HB.out⟩
     | true =>
      have dA3 := cell_of_block xA5 11 _ A3
      have dA4 := cell_of_block xA5 21 _ A4
      have dA5 := cell_of_block xA5 22 _ A5
      have dA6 := cell_of_block xA5 23 _ A6
      have dA7 := cell_of_block xA5 24 _ A7
      have dB3 := cell_of_block xB5 11 _ B3
      have dB4 := cell_of_block xB5 21 _ B4
      have dB5 := cell_of_block xB5 22 _ B5
      have dB6 := cell_of_block xB5 23 _ B6
      have dB7 := cell_of_block xB5 24 _ B7
      cases e5 with
      | false =>
       have HB : Hid _ := BV5
       clear BV5
       go_wp2
       go_ret
       rw [HZ.out]
       exact ⟨by simp, HB.out⟩
      | true =>
       cases e6 with
       | false =>
        have HB : Hid _ := BV5
        clear BV5
        go_wp2
        go_ret
        rw [HZ.out]
        exact ⟨by simp, HB.out⟩
       | true =>
        cases e7 with
        | false =>
         have HB : Hid _ := BV5
         clear BV5
         go_wp2
         go_ret
         rw [HZ.out]
         exact ⟨by simp, HB.out⟩
        | true =>
         have HB : Hid _ := BV5
         clear BV5
         go_wp2
         go_ret
         rw [HZ.out]
         exact ⟨by simp, HB.out⟩
set_option maxRecDepth 100000 in
set_option maxHeartbeats 8000000 in
theorem sameSt_any (a b : StD) (la : LgT a) (lb : LgT b) (qa qb : StP) (n : Nat) (w : World) (hn : n ≤ w.heap.size) (hpa : stIn n w a qa) (hpb : stIn n w b qb) :
  Calls Tryz.prog 12 #[.agg (stV a qa).toArray, .agg (stV b qb).toArray] w fun x w' => x = .returned (.bool (eqSt a b)) ∧ Below w.heap.size w w' := by
 have K0 := fun (W : World) (hB : Below w.heap.size w W) => sameLt_any a.fin b.fin la.1 lb.1 qa.fin qb.fin n W (Nat.le_trans hn hB.size) (slS_below (hB.mono hn) hpa.1) (slS_below (hB.mono hn) hpb.1)
 have A0 := stV_fin a qa
 have B0 := stV_fin b qb
 have K1 := fun (W : World) (hB : Below w.heap.size w W) => sameLt_any a.new b.new la.2.1 lb.2.1 qa.new qb.new n W (Nat.le_trans hn hB.size) (slS_below (hB.mono hn) hpa.2.1) (slS_below (hB.mono hn) hpb.2.1)
 have A1 := stV_new a qa
 have B1 := stV_new b qb
 have K2 := fun (W : World) (hB : Below w.heap.size w W) => sameCm_any a.now b.now la.2.2.1 lb.2.2.1 qa.now qb.now n W (Nat.le_trans hn hB.size) (slS_below (hB.mono hn) hpa.2.2.1) (slS_below (hB.mono hn) hpb.2.2.1)
 have A2 := stV_now a qa
 have B2 := stV_now b qb
 have K3 := fun (W : World) (hB : Below w.heap.size w W) => sameCm_any a.nxt b.nxt la.2.2.2.1 lb.2.2.2.1 qa.nxt qb.nxt n W (Nat.le_trans hn hB.size) (slS_below (hB.mono hn) hpa.2.2.2.1) (slS_below (hB.mono hn) hpb.2.2.2.1)
 have A3 := stV_nxt a qa
 have B3 := stV_nxt b qb
 have K4 := fun (W : World) (hB : Below w.heap.size w W) => sameUp_any a.best b.best la.2.2.2.2 lb.2.2.2.2 qa.best qb.best n W (Nat.le_trans hn hB.size) (hpa.2.2.2.2.below (hB.mono hn)) (hpb.2.2.2.2.below (hB.mono hn))
 have A4 := stV_best a qa
 have B4 := stV_best b qb
 have A5 : (stV a qa)[47]? = some (.bool a.has) := rfl
 have B5 : (stV b qb)[47]? = some (.bool b.has) := rfl
 have A6 : (stV a qa)[48]? = some (.int .i64 a.last) := rfl
 have B6 : (stV b qb)[48]? = some (.int .i64 b.last) := rfl
 have A7 : (stV a qa)[49]? = some (.int .i64 a.this) := rfl
 have B7 : (stV b qb)[49]? = some (.int .i64 b.this) := rfl
 have A8 : (stV a qa)[50]? = some (.bool a.forced) := rfl
 have B8 : (stV b qb)[50]? = some (.bool b.forced) := rfl
 have HLn : Hid ((stV a qa).length = 51 ∧ (stV b qb).length = 51 ∧ (ltV a.fin qa.fin).length = 9 ∧ (ltV b.fin qb.fin).length = 9 ∧ (ltV a.new qa.new).length = 9 ∧ (ltV b.new qb.new).length = 9 ∧ (cmV a.now qa.now).length = 2 ∧ (cmV b.now qb.now).length = 2 ∧ (cmV a.nxt qa.nxt).length = 2 ∧ (cmV b.nxt qb.nxt).length = 2 ∧ (upV a.best qa.best).length = 25 ∧ (upV b.best qb.best).length = 25) := show _ from ⟨rfl, rfl, rfl, rfl, rfl, rfl, rfl, rfl, rfl, rfl, rfl, rfl⟩
 unfold eqSt
 obtain ⟨e0, he0⟩ : ∃ e, eqLt a.fin b.fin = e := ⟨_, rfl⟩
 rw [he0] at K0
 rw [he0]
 obtain ⟨X0, hX0⟩ : ∃ L, ltV a.fin qa.fin = L := ⟨_, rfl⟩
 rw [hX0] at K0 A0 HLn
 obtain ⟨Y0, hY0⟩ : ∃ L, ltV b.fin qb.fin = L := ⟨_, rfl⟩
 rw [hY0] at K0 B0 HLn
 obtain ⟨e1, he1⟩ : ∃ e, eqLt a.new b.new = e := ⟨_, rfl⟩
 rw [he1] at K1
 rw [he1]
 obtain ⟨X1, hX1⟩ : ∃ L, ltV a.new qa.new = L := ⟨_, rfl⟩
 rw [hX1] at K1 A1 HLn
 obtain ⟨Y1, hY1⟩ : ∃ L, ltV b.new qb.new = L := ⟨_, rfl⟩
 rw [hY1] at K1 B1 HLn
 obtain ⟨e2, he2⟩ : ∃ e, eqCm a.now b.now = e := ⟨_, rfl⟩
 rw [he2] at K2
 rw [he2]
 obtain ⟨X2, hX2⟩ : ∃ L, cmV a.now qa.now = L := ⟨_, rfl⟩
 rw [hX2] at K2 A2 HLn
 obtain ⟨Y2, hY2⟩ : ∃ L, cmV b.now qb.now = L := ⟨_, rfl⟩
 rw [hY2] at K2 B2 HLn
 obtain ⟨e3, he3⟩ : ∃ e, eqCm a.nxt b.nxt = e := ⟨_, rfl⟩
 rw [he3] at K3
 rw [he3]
 obtain ⟨X3, hX3⟩ : ∃ L, cmV a.nxt qa.nxt = L := ⟨_, rfl⟩
 rw [hX3] at K3 A3 HLn
 obtain ⟨Y3, hY3⟩ : ∃ L, cmV b.nxt qb.nxt = L := ⟨_, rfl⟩
 rw [hY3] at K3 B3 HLn
 obtain ⟨e4, he4⟩ : ∃ e, eqUp a.best b.best = e := ⟨_, rfl⟩
 rw [he4] at K4
 rw [he4]
 obtain ⟨X4, hX4⟩ : ∃ L, upV a.best qa.best = L := ⟨_, rfl⟩
 rw [hX4] at K4 A4 HLn
 obtain ⟨Y4, hY4⟩ : ∃ L, upV b.best qb.best = L := ⟨_, rfl⟩
 rw [hY4] at K4 B4 HLn
 obtain ⟨e5, he5⟩ : ∃ e, decide (a.has = b.has) = e := ⟨_, rfl⟩
 rw [he5]
 have c5 : (a.has == b.has) = e5 := by rw [← he5]; rfl
 obtain ⟨e6, he6⟩ : ∃ e, decide (a.last = b.last) = e := ⟨_, rfl⟩
 rw [he6]
 have c6 : (a.last == b.last) = e6 := by rw [← he6]; rfl
 obtain ⟨e7, he7⟩ : ∃ e, decide (a.this = b.this) = e := ⟨_, rfl⟩
 rw [he7]
 have c7 : (a.this == b.this) = e7 := by rw [← he7]; rfl
 obtain ⟨e8, he8⟩ : ∃ e, decide (a.forced = b.forced) = e := ⟨_, rfl⟩
 rw [he8]
 have c8 : (a.forced == b.forced) = e8 := by rw [← he8]; rfl
 obtain ⟨LA, hLA⟩ : ∃ L, stV a qa = L := ⟨_, rfl⟩
 obtain ⟨LB, hLB⟩ : ∃ L, stV b qb = L := ⟨_, rfl⟩
 rw [hLA] at A0 A1 A2 A3 A4 A5 A6 A7 A8 HLn ⊢
 rw [hLB] at B0 B1 B2 B3 B4 B5 B6 B7 B8 HLn ⊢
 clear hLA hLB la lb hpa hpb hn he0 he1 he2 he3 he4 he5 he6 he7 he8 hX0 hY0 hX1 hY1 hX2 hY2 hX3 hY3 hX4 hY4
 obtain ⟨BV0, hxA, hxB, hs⟩ := box2 w (.cells LA.toArray 38) (.cells LB.toArray 38)
 obtain ⟨z, hz⟩ : ∃ z, w.heap.size = z := ⟨_, rfl⟩
 have HZ : Hid (w.heap.size = z) := hz
 rw [hz] at BV0 hxA hxB hs K0 K1 K2 K3 K4
 go_enter Tryz.func12, Tryz.ntmps12
 have xA0 : Bq z 38 LA.toArray _ := hxA
 have xB0 : Bq (z + 1) 38 LB.toArray _ := hxB
 clear hxA hxB
 have RA := range_of_block xA0 0 X0 A0
 have RB := range_of_block xB0 0 Y0 B0
 go_wp2_with (first | (refine wpList_load_mid rfl 29 _ rfl z 0 rfl _ _ RA Tryz.underlying29 rfl (by rw [HLn.out.2.2.1]; kernel_rfl) ?_) | (refine wpList_load_mid rfl 29 _ rfl (z + 1) 0 rfl _ _ RB Tryz.underlying29 rfl (by rw [HLn.out.2.2.2.1]; kernel_rfl) ?_))
 refine (K0 _ BV0).mono ?_
 rintro r V1 ⟨rfl, C⟩
 have hs1 : z + 2 ≤ V1.heap.size := by have := C.size; omega
 have xA1 : Bq z 38 LA.toArray V1 := Bq.below xA0 C
 have xB1 : Bq (z + 1) 38 LB.toArray V1 := Bq.below xB0 C
 have BV1 := belowStep BV0 (by omega) C
 clear RA RB C xA0 xB0 BV0 K0 hs hz
 have RA := range_of_block xA1 9 X1 A1
 have RB := range_of_block xB1 9 Y1 B1
 go_wp2_with (first | (refine wpList_load_mid rfl 29 _ rfl z 9 rfl _ _ RA Tryz.underlying29 rfl (by rw [HLn.out.2.2.2.2.1]; kernel_rfl) ?_) | (refine wpList_load_mid rfl 29 _ rfl (z + 1) 9 rfl _ _ RB Tryz.underlying29 rfl (by rw [HLn.out.2.2.2.2.2.1]; kernel_rfl) ?_))
 refine (K1 _ BV1).mono ?_
 rintro r V2 ⟨rfl, C⟩
 have hs2 : z + 2 ≤ V2.heap.size := by have := C.size; omega
 have xA2 : Bq z 38 LA.toArray V2 := Bq.below xA1 C
 have xB2 : Bq (z + 1) 38 LB.toArray V2 := Bq.below xB1 C
 have BV2 := belowStep BV1 (by omega) C
 clear RA RB C xA1 xB1 BV1 K1 hs1
 have RA := range_of_block xA2 18 X2 A2
 have RB := range_of_block xB2 18 Y2 B2
 go_wp2_with (first | (refine wpList_load_mid rfl 31 _ rfl z 18 rfl _ _ RA Tryz.underlying31 rfl (by rw [HLn.out.2.2.2.2.2.2.1]; kernel_rfl) ?_) | (refine wpList_load_mid rfl 31 _ rfl (z + 1) 18 rfl _ _ RB Tryz.underlying31 rfl (by rw [HLn.out.2.2.2.2.2.2.2.1]; kernel_rfl) ?_))
 refine (K2 _ BV2).mono ?_
 rintro r V3 ⟨rfl, C⟩
 have hs3 : z + 2 ≤ V3.heap.size := by have := C.size; omega
 have xA3 : Bq z 38 LA.toArray V3 := Bq.below xA2 C
 have xB3 : Bq (z + 1) 38 LB.toArray V3 := Bq.below xB2 C
 have BV3 := belowStep BV2 (by omega) C
 clear RA RB C xA2 xB2 BV2 K2 hs2
 have RA := range_of_block xA3 20 X3 A3
 have RB := range_of_block xB3 20 Y3 B3
 go_wp2_with (first | (refine wpList_load_mid rfl 31 _ rfl z 20 rfl _ _ RA Tryz.underlying31 rfl (by rw [HLn.out.2.2.2.2.2.2.2.2.1]; kernel_rfl) ?_) | (refine wpList_load_mid rfl 31 _ rfl (z + 1) 20 rfl _ _ RB Tryz.underlying31 rfl (by rw [HLn.out.2.2.2.2.2.2.2.2.2.1]; kernel_rfl) ?_))
 refine (K3 _ BV3).mono ?_
 rintro r V4 ⟨rfl, C⟩
 have hs4 : z + 2 ≤ V4.heap.size := by have := C.size; omega
 have xA4 : Bq z 38 LA.toArray V4 := Bq.below xA3 C
 have xB4 : Bq (z + 1) 38 LB.toArray V4 := Bq.below xB3 C
 have BV4 := belowStep BV3 (by omega) C
 clear RA RB C xA3 xB3 BV3 K3 hs3
 have RA := range_of_block xA4 22 X4 A4
 have RB := range_of_block xB4 22 Y4 B4
 go_wp2_with (first | (refine wpList_load_mid rfl 36 _ rfl z 22 rfl _ _ RA Tryz.underlying36 rfl (by rw [HLn.out.2.2.2.2.2.2.2.2.2.2.1]; kernel_rfl) ?_) | (refine wpList_load_mid rfl 36 _ rfl (z + 1) 22 rfl _ _ RB Tryz.underlying36 rfl (by rw [HLn.out.2.2.2.2.2.2.2.2.2.2.2]; kernel_rfl) ?_))
 refine (K4 _ BV4).mono ?_
 rintro r V5 ⟨rfl, C⟩
 have hs5 : z + 2 ≤ V5.heap.size := by have := C.size; omega
 have xA5 : Bq z 38 LA.toArray V5 := Bq.below xA4 C
 have xB5 : Bq (z + 1) 38 LB.toArray V5 := Bq.below xB4 C
 have BV5 := belowStep BV4 (by omega) C
 clear RA RB C xA4 xB4 BV4 K4 hs4
 cases e0 with
 | false =>
  have HB : Hid _ := BV5
  clear BV5
  go_wp2
  go_ret
  rw [HZ.out]
  exact ⟨by simp, HB.out⟩
 | true =>
  cases e1 with
  | false =>
   have HB : Hid _ := BV5
   clear BV5
   go_wp2
   go_ret
   rw [HZ.out]
   exact ⟨by simp, HB.out⟩
  | true =>
   cases e2 with
   | false =>
    have HB : Hid _ := BV5
    clear BV5
    go_wp2
    go_ret
    rw [HZ.out]
    exact ⟨by simp, HB.out⟩
   | true =>
    cases e3 with
    | false =>
     have HB : Hid _ := BV5
     clear BV5
     go_wp2
     go_ret
     rw [HZ.out]
     exact ⟨by simp, HB.out⟩
    | true =>
     cases e4 with
     | false =>
      have HB : Hid _ := BV5
      clear BV5
      go_wp2
      go_ret
      rw [HZ.out]
      exact ⟨by simp, HB.out⟩
     | true =>
      have dA5 := cell_of_block xA5 47 _ A5
      have dA6 := cell_of_block xA5 48 _ A6
      have dA7 := cell_of_block xA5 49 _ A7
      have dA8 := cell_of_block xA5 50 _ A8
      have dB5 := cell_of_block xB5 47 _ B5
      have dB6 := cell_of_block xB5 48 _ B6
      have dB7 := cell_of_block xB5 49 _ B7
      have dB8 := cell_of_block xB5 50 _ B8
      cases e5 with
      | false =>
       have HB : Hid _ := BV5
       clear BV5
       go_wp2
       go_ret
       rw [HZ.out]
       exact ⟨by simp, HB.out⟩
      | true =>
       cases e6 with
       | false =>
        have HB : Hid _ := BV5
        clear BV5
        go_wp2
        go_ret
        rw [HZ.out]
        exact ⟨by simp, HB.out⟩
       | true =>
        cases e7 with
        | false =>
         have HB : Hid _ := BV5
         clear BV5
         go_wp2
         go_ret
         rw [HZ.out]
         exact ⟨by simp, HB.out⟩
        | true =>
         cases e8 with
         | false =>
          have HB : Hid _ := BV5
          clear BV5
          go_wp2
          go_ret
          rw [HZ.out]
          exact ⟨by simp, HB.out⟩
         | true =>
          have HB : Hid _ := BV5
          clear BV5
          go_wp2
          go_ret
          rw [HZ.out]
          exact ⟨by simp, HB.out⟩
end Go.Proofs.YtoddangedbefgaaGreatDoor
namespace Go.Proofs.YtoddangedbefgaaGreatDoor
open Go.RowKit Go.Shelf Go.Sort

theorem qs_step {P : Program} {ops : Array Oper} {C : World → Prop} {Q : Act → Prop} {rest : List Oper} {o : Oper} {a : Act}
  (h : ∀ K : Act → Prop, (∀ a, Stp (wpQuiet P ops C Q rest a) → K a) → if Region.wanted o (yielded ops a.tmps) then o.quiet P a C K else K (a.put o.dst undef)) : Stp (wpQuiet P ops C Q (o :: rest) a) := ⟨wpQuiet_step fun K hK => h K fun a ha => hK a ha.out⟩
theorem quiet_load_S {P : Program} {ops : Array Oper} {C : World → Prop} {Q : Act → Prop} {rest : List Oper} {o : Oper} {a : Act} (hw : Region.wanted o (yielded ops a.tmps) = true) (ty : TypeId) (x : Operand) (ho : o.op = .load ty x)
  (b off : Nat) (hx : a.eval x = .pointer (some ⟨b, off, none⟩)) (cs : List Value) (d : TypeDesc) (hc : ∀ W, C W → W.rangeAt b off cs) (hu : P.underlying ty = some d) (hd : d.isRow = true) (hi : (P.info? ty).map (·.size) = some cs.length)
  (h : Stp (wpQuiet P ops C Q rest (a.put o.dst (.agg cs.toArray)))) : Stp (wpQuiet P ops C Q (o :: rest) a) := ⟨quiet_load_mid hw ty x ho b off hx cs d hc hu hd hi h.out⟩
end Go.Proofs.YtoddangedbefgaaGreatDoor
namespace Go.Proofs.YtoddangedbefgaaGreatDoor
open Go.RowKit Go.Shelf Go.Sort

theorem lg_sz {xs : List ByteArray} (h : szS xs) : Lg xs := by unfold Lg; have := h.1; omega
end Go.Proofs.YtoddangedbefgaaGreatDoor
namespace Go.Proofs.YtoddangedbefgaaGreatDoor
open Go.RowKit Go.Shelf Go.Sort

theorem box3 (w : World) (o1 o2 o3 : Obj) : Below w.heap.size w (((w.alloc o1).alloc o2).alloc o3) ∧ (((w.alloc o1).alloc o2).alloc o3).heap[w.heap.size]? = some o1 ∧ (((w.alloc o1).alloc o2).alloc o3).heap[w.heap.size + 1]? = some o2 ∧ (((w.alloc o1).alloc o2).alloc o3).heap[w.heap.size + 2]? = some o3 ∧ (((w.alloc o1).alloc o2).alloc o3).heap.size = w.heap.size + 3 := by
 obtain ⟨h1, h2, h3, h4⟩ := box2 w o1 o2
 obtain ⟨g1, g2, g3⟩ := box1 ((w.alloc o1).alloc o2) o3
 rw [h4] at g1 g2
 exact ⟨h1.trans (g1.mono (by omega)), (g1.block _ (by omega)).trans h2, (g1.block _ (by omega)).trans h3, g2, by rw [g3, h4]⟩
set_option maxRecDepth 20000 in
set_option maxHeartbeats 4000000 in
theorem pickLt_any (c : Bool) (A B : Array Value) (hA : Hid (A.size = 9)) (hB : Hid (B.size = 9)) (oA : A.all (·.oneCell') = true) (oB : B.all (·.oneCell') = true) (w : World) :
  Calls Tryz.prog 54 #[.bool c, .agg A, .agg B] w fun x w' => x = .returned (.agg (if c = true then A else B)) ∧ Below w.heap.size w w' := by
 obtain ⟨BV, xA, xB, z0, hs⟩ := box3 w (.cells A 29) (.cells B 29) (.cells #[.int .u64 0, .int .u64 0, .string ⟨#[]⟩, .string ⟨#[]⟩, .string ⟨#[]⟩, .string ⟨#[]⟩, .string ⟨#[]⟩, .int .u64 0, .slice none 0 0] 29)
 obtain ⟨z, hz⟩ : ∃ z, w.heap.size = z := ⟨_, rfl⟩
 have HZ : Hid (w.heap.size = z) := hz
 rw [hz] at BV xA xB z0 hs
 go_enter Tryz.func54, Tryz.ntmps54
 cases c with
 | true =>
  have hQ : Hid _ := hA
  have hO : Hid _ := oA
  have hR := xA
  have HX : Hid (_ ∧ _ ∧ _) := ⟨BV, z0, hs⟩
  clear xA xB BV hs oA oB
  go_wp2_with (first | (refine wpList_load_row rfl 29 _ rfl z rfl _ _ _ _ hR Tryz.underlying29 rfl (by rw [hQ.out]; kernel_rfl) ?_) | (refine store_row0 rfl rfl 29 _ _ rfl (z + 2) _ rfl rfl 29 _ z0 (by rw [hQ.out]; kernel_rfl) (by rw [hQ.out]; rfl) hO.out ?_))
  obtain ⟨BV, y0, hs⟩ := HX.out
  refine bodyPost_ret (results_cell_row rfl _ _ (z + 2) 29 _ (0, 0) _ rfl (Bq.row (show Bq (z + 2) 29 _ _ from y0) A) Tryz.underlying29 rfl (by rw [hQ.out]; kernel_rfl)) rfl ⟨rfl, ?_⟩
  exact below_row BV (by omega) A
 | false =>
  have hQ : Hid _ := hB
  have hO : Hid _ := oB
  have hR := xB
  have HX : Hid (_ ∧ _ ∧ _) := ⟨BV, z0, hs⟩
  clear xA xB BV hs oA oB
  go_wp2_with (first | (refine wpList_load_row rfl 29 _ rfl (z + 1) rfl _ _ _ _ hR Tryz.underlying29 rfl (by rw [hQ.out]; kernel_rfl) ?_) | (refine store_row0 rfl rfl 29 _ _ rfl (z + 2) _ rfl rfl 29 _ z0 (by rw [hQ.out]; kernel_rfl) (by rw [hQ.out]; rfl) hO.out ?_))
  obtain ⟨BV, y0, hs⟩ := HX.out
  refine bodyPost_ret (results_cell_row rfl _ _ (z + 2) 29 _ (0, 0) _ rfl (Bq.row (show Bq (z + 2) 29 _ _ from y0) B) Tryz.underlying29 rfl (by rw [hQ.out]; kernel_rfl)) rfl ⟨rfl, ?_⟩
  exact below_row BV (by omega) B
set_option maxRecDepth 20000 in
set_option maxHeartbeats 4000000 in
theorem pickCm_any (c : Bool) (A B : Array Value) (hA : Hid (A.size = 2)) (hB : Hid (B.size = 2)) (oA : A.all (·.oneCell') = true) (oB : B.all (·.oneCell') = true) (w : World) :
  Calls Tryz.prog 86 #[.bool c, .agg A, .agg B] w fun x w' => x = .returned (.agg (if c = true then A else B)) ∧ Below w.heap.size w w' := by
 obtain ⟨BV, xA, xB, z0, hs⟩ := box3 w (.cells A 31) (.cells B 31) (.cells #[.slice none 0 0, .string ⟨#[]⟩] 31)
 obtain ⟨z, hz⟩ : ∃ z, w.heap.size = z := ⟨_, rfl⟩
 have HZ : Hid (w.heap.size = z) := hz
 rw [hz] at BV xA xB z0 hs
 go_enter Tryz.func86, Tryz.ntmps86
 cases c with
 | true =>
  have hQ : Hid _ := hA
  have hO : Hid _ := oA
  have hR := xA
  have HX : Hid (_ ∧ _ ∧ _) := ⟨BV, z0, hs⟩
  clear xA xB BV hs oA oB
  go_wp2_with (first | (refine wpList_load_row rfl 31 _ rfl z rfl _ _ _ _ hR Tryz.underlying31 rfl (by rw [hQ.out]; kernel_rfl) ?_) | (refine store_row0 rfl rfl 31 _ _ rfl (z + 2) _ rfl rfl 31 _ z0 (by rw [hQ.out]; kernel_rfl) (by rw [hQ.out]; rfl) hO.out ?_))
  obtain ⟨BV, y0, hs⟩ := HX.out
  refine bodyPost_ret (results_cell_row rfl _ _ (z + 2) 31 _ (0, 0) _ rfl (Bq.row (show Bq (z + 2) 31 _ _ from y0) A) Tryz.underlying31 rfl (by rw [hQ.out]; kernel_rfl)) rfl ⟨rfl, ?_⟩
  exact below_row BV (by omega) A
 | false =>
  have hQ : Hid _ := hB
  have hO : Hid _ := oB
  have hR := xB
  have HX : Hid (_ ∧ _ ∧ _) := ⟨BV, z0, hs⟩
  clear xA xB BV hs oA oB
  go_wp2_with (first | (refine wpList_load_row rfl 31 _ rfl (z + 1) rfl _ _ _ _ hR Tryz.underlying31 rfl (by rw [hQ.out]; kernel_rfl) ?_) | (refine store_row0 rfl rfl 31 _ _ rfl (z + 2) _ rfl rfl 31 _ z0 (by rw [hQ.out]; kernel_rfl) (by rw [hQ.out]; rfl) hO.out ?_))
  obtain ⟨BV, y0, hs⟩ := HX.out
  refine bodyPost_ret (results_cell_row rfl _ _ (z + 2) 31 _ (0, 0) _ rfl (Bq.row (show Bq (z + 2) 31 _ _ from y0) B) Tryz.underlying31 rfl (by rw [hQ.out]; kernel_rfl)) rfl ⟨rfl, ?_⟩
  exact below_row BV (by omega) B
set_option maxRecDepth 20000 in
set_option maxHeartbeats 4000000 in
theorem pickUp_any (c : Bool) (A B : Array Value) (hA : Hid (A.size = 25)) (hB : Hid (B.size = 25)) (oA : A.all (·.oneCell') = true) (oB : B.all (·.oneCell') = true) (w : World) :
  Calls Tryz.prog 53 #[.bool c, .agg A, .agg B] w fun x w' => x = .returned (.agg (if c = true then A else B)) ∧ Below w.heap.size w w' := by
 obtain ⟨BV, xA, xB, z0, hs⟩ := box3 w (.cells A 36) (.cells B 36) (.cells #[.int .u64 0, .int .u64 0, .string ⟨#[]⟩, .string ⟨#[]⟩, .string ⟨#[]⟩, .string ⟨#[]⟩, .string ⟨#[]⟩, .int .u64 0, .slice none 0 0, .slice none 0 0, .string ⟨#[]⟩, .slice none 0 0, .int .u64 0, .int .u64 0, .string ⟨#[]⟩, .string ⟨#[]⟩, .string ⟨#[]⟩, .string ⟨#[]⟩, .string ⟨#[]⟩, .int .u64 0, .slice none 0 0, .slice none 0 0, .int .u64 0, .string ⟨#[]⟩, .int .u64 0] 36)
 obtain ⟨z, hz⟩ : ∃ z, w.heap.size = z := ⟨_, rfl⟩
 have HZ : Hid (w.heap.size = z) := hz
 rw [hz] at BV xA xB z0 hs
 go_enter Tryz.func53, Tryz.ntmps53
 cases c with
 | true =>
  have hQ : Hid _ := hA
  have hO : Hid _ := oA
  have hR := xA
  have HX : Hid (_ ∧ _ ∧ _) := ⟨BV, z0, hs⟩
  clear xA xB BV hs oA oB
  go_wp2_with (first | (refine wpList_load_row rfl 36 _ rfl z rfl _ _ _ _ hR Tryz.underlying36 rfl (by rw [hQ.out]; kernel_rfl) ?_) | (refine store_row0 rfl rfl 36 _ _ rfl (z + 2) _ rfl rfl 36 _ z0 (by rw [hQ.out]; kernel_rfl) (by rw [hQ.out]; rfl) hO.out ?_))
  obtain ⟨BV, y0, hs⟩ := HX.out
  refine bodyPost_ret (results_cell_row rfl _ _ (z + 2) 36 _ (0, 0) _ rfl (Bq.row (show Bq (z + 2) 36 _ _ from y0) A) Tryz.underlying36 rfl (by rw [hQ.out]; kernel_rfl)) rfl ⟨rfl, ?_⟩
  exact below_row BV (by omega) A
 | false =>
  have hQ : Hid _ := hB
  have hO : Hid _ := oB
  have hR := xB
  have HX : Hid (_ ∧ _ ∧ _) := ⟨BV, z0, hs⟩
  clear xA xB BV hs oA oB
  go_wp2_with (first | (refine wpList_load_row rfl 36 _ rfl (z + 1) rfl _ _ _ _ hR Tryz.underlying36 rfl (by rw [hQ.out]; kernel_rfl) ?_) | (refine store_row0 rfl rfl 36 _ _ rfl (z + 2) _ rfl rfl 36 _ z0 (by rw [hQ.out]; kernel_rfl) (by rw [hQ.out]; rfl) hO.out ?_))
  obtain ⟨BV, y0, hs⟩ := HX.out
  refine bodyPost_ret (results_cell_row rfl _ _ (z + 2) 36 _ (0, 0) _ rfl (Bq.row (show Bq (z + 2) 36 _ _ from y0) B) Tryz.underlying36 rfl (by rw [hQ.out]; kernel_rfl)) rfl ⟨rfl, ?_⟩
  exact below_row BV (by omega) B
end Go.Proofs.YtoddangedbefgaaGreatDoor
