/- What Mul and AddMod do at this translation: for all words, whatever the memory. -/
import Derived.Test.YtgapcjdgakamoaaW18
namespace Go.Proofs.Ytgapcjdgakamoaa
open Go.RowKit Go.Shelf Go.Sort

set_option maxHeartbeats 1000000 in
theorem mul_any (a0 a1 a2 a3 b0 b1 b2 b3 : Int) (ha : Ws a0 a1 a2 a3) (hb : Ws b0 b1 b2 b3) (w : World) :
    Calls Try.prog 14 #[.agg #[.int .u64 a0, .int .u64 a1, .int .u64 a2, .int .u64 a3], .agg #[.int .u64 b0, .int .u64 b1, .int .u64 b2, .int .u64 b3]] w fun e w' =>
      ∃ r0 r1 r2 r3 : Int, e = .returned (.agg #[.int .u64 r0, .int .u64 r1, .int .u64 r2, .int .u64 r3]) ∧ Ws r0 r1 r2 r3 ∧ Hid (val r0 r1 r2 r3 = val a0 a1 a2 a3 * val b0 b1 b2 b3 % 115792089237316195423570985008687907853269984665640564039457584007913129639936) ∧ Below w.heap.size w w' := by
  go_enter Try.func14, Try.ntmps14
  go_wp2_with fail
  refine (product_any a0 a1 a2 a3 b0 b1 b2 b3 ha hb _).mono ?_
  rintro e w1 ⟨t0, t1, t2, t3, t4, t5, t6, t7, t8, t9, t10, t11, rfl, ht, htv, hb1⟩
  have Z1 : Rw (w.heap.size + 1 + 1) 0 0 0 0 w1 := Rw.below (by
    have := Rw.new ((w.alloc (.cells #[.int .u64 a0, .int .u64 a1, .int .u64 a2, .int .u64 a3] 24)).alloc (.cells #[.int .u64 b0, .int .u64 b1, .int .u64 b2, .int .u64 b3] 24)) 0 0 0 0 24
    simpa using this) hb1
  have E1 := belowStep (n := w.heap.size) (w := w) (by go_grown) (by (try simp) <;> omega) hb1
  clear hb1
  go_wp2_with fail
  refine (lowest_any _ _ _ _ _ _ _ _ _ _ _ _ _).mono ?_
  rintro e w2 ⟨rfl, hb2⟩
  have Z2 := Rw.below Z1 hb2
  have E2 := belowStep E1 E1.size hb2
  clear hb2 Z1 E1
  obtain ⟨⟨z, z0, z1, z2, z3⟩, zf⟩ := id Z2
  go_wp2
  refine bodyPost_ret (v := .agg #[.int .u64 t0, .int .u64 t1, .int .u64 t2, .int .u64 t3]) (by simp [results, Try.results14, go_sem, *]) rfl ⟨t0, t1, t2, t3, rfl, ⟨ht.1, ht.2.1, ht.2.2.1, ht.2.2.2.1⟩, ?_, ?_⟩
  · show _ = _
    rw [low_of_long t0 t1 t2 t3 t4 t5 t6 t7 t8 t9 t10 t11 ht, htv.out]
  · go_grown

set_option maxHeartbeats 1000000 in
theorem addmod_any (a0 a1 a2 a3 b0 b1 b2 b3 m0 m1 m2 m3 : Int) (ha : Ws a0 a1 a2 a3) (hb : Ws b0 b1 b2 b3) (hm : Ws m0 m1 m2 m3) (w : World) :
    Calls Try.prog 26 #[.agg #[.int .u64 a0, .int .u64 a1, .int .u64 a2, .int .u64 a3], .agg #[.int .u64 b0, .int .u64 b1, .int .u64 b2, .int .u64 b3], .agg #[.int .u64 m0, .int .u64 m1, .int .u64 m2, .int .u64 m3]] w fun e w' =>
      ∃ r0 r1 r2 r3 : Int, e = .returned (.agg #[.int .u64 r0, .int .u64 r1, .int .u64 r2, .int .u64 r3]) ∧ Ws r0 r1 r2 r3 ∧ Hid (val r0 r1 r2 r3 = rm (val a0 a1 a2 a3 + val b0 b1 b2 b3) (val m0 m1 m2 m3)) ∧ Below w.heap.size w w' := by
  have ho : Pt 0 := ⟨by decide, by decide⟩
  have bA := val_bd _ _ _ _ ha
  have bB := val_bd _ _ _ _ hb
  go_enter Try.func26, Try.ntmps26
  go_wp2_with fail
  refine (plus_any a0 a1 a2 a3 b0 b1 b2 b3 ha hb _).mono ?_
  rintro e w1 ⟨s0, s1, s2, s3, c, rfl, hs, hsc, hb1⟩
  have M1 : Cw (w.heap.size + 1 + 1) m0 m1 m2 m3 w1 := Cw.below (by
    have := (Cw.new ((w.alloc (.cells #[.int .u64 a0, .int .u64 a1, .int .u64 a2, .int .u64 a3] 24)).alloc (.cells #[.int .u64 b0, .int .u64 b1, .int .u64 b2, .int .u64 b3] 24)) m0 m1 m2 m3 24).alloc (.cells #[.int .u64 0, .int .u64 0, .int .u64 0, .int .u64 0] 24)
    simpa using this) hb1
  have Z1 : Rw (w.heap.size + 1 + 1 + 1) 0 0 0 0 w1 := Rw.below (by
    have := Rw.new (((w.alloc (.cells #[.int .u64 a0, .int .u64 a1, .int .u64 a2, .int .u64 a3] 24)).alloc (.cells #[.int .u64 b0, .int .u64 b1, .int .u64 b2, .int .u64 b3] 24)).alloc (.cells #[.int .u64 m0, .int .u64 m1, .int .u64 m2, .int .u64 m3] 24)) 0 0 0 0 24
    simpa using this) hb1
  have E1 := belowStep (n := w.heap.size) (w := w) (by go_grown) (by (try simp) <;> omega) hb1
  clear hb1
  go_wp2_with fail
  refine (lengthen_any s0 s1 s2 s3 _).mono ?_
  rintro e w2 ⟨rfl, hb2⟩
  have M2 := Cw.below (M1.alloc _) hb2
  have Z2 := Rw.below (Z1.below ((Below.refl _ _).alloc (Nat.le_refl _) _)) hb2
  have E2 := belowStep (E1.alloc E1.size _) (by have := E1.size; simp; omega) hb2
  clear hb2 M1 Z1 E1
  have hc : Pt c := ⟨hsc.out.1, by have := hsc.out.2.1; omega⟩
  have hl : Wl s0 s1 s2 s3 c 0 0 0 0 0 0 0 := ⟨hs.1, hs.2.1, hs.2.2.1, hs.2.2.2, hc, ho, ho, ho, ho, ho, ho, ho⟩
  have vl : vlong s0 s1 s2 s3 c 0 0 0 0 0 0 0 = val a0 a1 a2 a3 + val b0 b1 b2 b3 := by
    rw [← hsc.out.2.2]; unfold vlong val; omega
  have VL : Hid (_ = _) := vl
  have h8 : vlong s0 s1 s2 s3 c 0 0 0 0 0 0 0 < 13407807929942597099574024998205846127479365820592393377723561443721764030073546976801874298166903427690031858186486050853753882811946569946433649006084096 := by rw [vl]; omega
  clear vl bA bB
  obtain ⟨mz, mc0, mc1, mc2, mc3⟩ := id M2
  go_wp2_with fail
  refine (divide_any s0 s1 s2 s3 c 0 0 0 0 0 0 0 m0 m1 m2 m3 hl h8 hm _).mono ?_
  rintro e w3 ⟨q0, q1, q2, q3, r0, r1, r2, r3, rfl, hq, hr, hv, hb3⟩
  have Z3 := Rw.below (Z2.below ((Below.refl _ _).alloc (Nat.le_refl _) _)) hb3
  have E3 := belowStep (E2.alloc E2.size _) (by have := E2.size; simp; omega) hb3
  clear hb3 Z2 E2 M2 mz mc0 mc1 mc2 mc3
  obtain ⟨⟨z, z0, z1, z2, z3⟩, zf⟩ := id Z3
  have z' : w.heap.size + 1 + 1 + 1 < w3.heap.size + 1 := by omega
  go_wp2
  refine bodyPost_ret (v := .agg #[.int .u64 r0, .int .u64 r1, .int .u64 r2, .int .u64 r3]) (by simp [results, Try.results26, go_sem, *]) rfl ⟨r0, r1, r2, r3, rfl, hr, ?_, ?_⟩
  · show _ = _
    rw [hv.out.2, VL.out]
  · go_grown
end Go.Proofs.Ytgapcjdgakamoaa
