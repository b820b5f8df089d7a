/- WordMods' own statements, walked: for any three words the law returns true. No condition. -/
import Derived.Test.YtgapcjdgakamoaaV16
import Derived.Test.YtgapcjdgakamoaaW19
import Derived.Test.YtgapcjdgakamoaaW22
namespace Go.Proofs.Ytgapcjdgakamoaa
open Go.RowKit Go.Shelf Go.Sort

set_option maxHeartbeats 4000000 in
theorem mods_any (a0 a1 a2 a3 b0 b1 b2 b3 m0 m1 m2 m3 : Int) (ha : Ws a0 a1 a2 a3) (hb : Ws b0 b1 b2 b3) (hm : Ws m0 m1 m2 m3) (w : World) :
    Calls Try.prog 5 #[.agg #[.int .u64 a0, .int .u64 a1, .int .u64 a2, .int .u64 a3], .agg #[.int .u64 b0, .int .u64 b1, .int .u64 b2, .int .u64 b3], .agg #[.int .u64 m0, .int .u64 m1, .int .u64 m2, .int .u64 m3]] w fun e w' => e = .returned (.bool true) ∧ Below w.heap.size w w' := by
  have bM := val_bd _ _ _ _ hm
  obtain ⟨p0, p1, p2, p3, hP, vP, cP⟩ := exact4 (rm_bd _ _ bM) (addmod_any a0 a1 a2 a3 b0 b1 b2 b3 m0 m1 m2 m3 ha hb hm)
  obtain ⟨q0, q1, q2, q3, hQ, vQ, cQ⟩ := exact4 (rm_bd _ _ bM) (raddmod_any a0 a1 a2 a3 b0 b1 b2 b3 m0 m1 m2 m3 ha hb hm)
  obtain ⟨r0, r1, r2, r3, hR, vR, cR⟩ := exact4 (rm_bd _ _ bM) (mulmod_any a0 a1 a2 a3 b0 b1 b2 b3 m0 m1 m2 m3 ha hb hm)
  obtain ⟨s0, s1, s2, s3, hS, vS, cS⟩ := exact4 (rm_bd _ _ bM) (rmulmod_any a0 a1 a2 a3 b0 b1 b2 b3 m0 m1 m2 m3 ha hb hm)
  have e0_ := eq_word_yes p0 p1 p2 p3 q0 q1 q2 q3 hP hQ (by rw [vP.out, vQ.out])
  have e1_ := eq_word_yes r0 r1 r2 r3 s0 s1 s2 s3 hR hS (by rw [vR.out, vS.out])
  have KP : Hid (∀ w : World, _) := cP
  have KQ : Hid (∀ w : World, _) := cQ
  have KR : Hid (∀ w : World, _) := cR
  have KS : Hid (∀ w : World, _) := cS
  clear cP vP hP cQ vQ hQ cR vR hR cS vS hS bM
  go_enter Try.func5, Try.ntmps5
  go_wp2_with fail
  refine (shown_any _).mono ?_
  rintro e w1 ⟨rfl, hb1⟩
  have C0 : Cw (w.heap.size) a0 a1 a2 a3 w1 := Cw.below (by repeat' (first | exact Cw.new _ _ _ _ _ _ | apply Cw.alloc | apply Cw.drew)) hb1
  have C1 : Cw (w.heap.size + 1) b0 b1 b2 b3 w1 := Cw.below (by repeat' (first | (simpa using Cw.new ((w).alloc (.cells #[.int .u64 a0, .int .u64 a1, .int .u64 a2, .int .u64 a3] 24)) b0 b1 b2 b3 _) | apply Cw.alloc | apply Cw.drew)) hb1
  have C2 : Cw (w.heap.size + 1 + 1) m0 m1 m2 m3 w1 := Cw.below (by repeat' (first | (simpa using Cw.new (((w).alloc (.cells #[.int .u64 a0, .int .u64 a1, .int .u64 a2, .int .u64 a3] 24)).alloc (.cells #[.int .u64 b0, .int .u64 b1, .int .u64 b2, .int .u64 b3] 24)) m0 m1 m2 m3 _) | apply Cw.alloc | apply Cw.drew)) hb1
  have E1 := belowStep (n := w.heap.size) (w := w) (by go_grown) (by (try simp) <;> omega) hb1
  clear hb1
  go_wp2
  have k0_0 := cell_regrown C0.c0
  have k0_1 := cell_regrown C0.c1
  have k0_2 := cell_regrown C0.c2
  have k0_3 := cell_regrown C0.c3
  have k1_0 := cell_regrown C1.c0
  have k1_1 := cell_regrown C1.c1
  have k1_2 := cell_regrown C1.c2
  have k1_3 := cell_regrown C1.c3
  have k2_0 := cell_regrown C2.c0
  have k2_1 := cell_regrown C2.c1
  have k2_2 := cell_regrown C2.c2
  have k2_3 := cell_regrown C2.c3
  have cP := inClass (w := w1) KP.out
  have cQ := inClass (w := w1) KQ.out
  have cR := inClass (w := w1) KR.out
  have cS := inClass (w := w1) KS.out
  refine wp_region_quiet_below (by kernel_rfl) (by kernel_rfl) ?_
  iterate 5 (quiet_step (fail))
  quiet_step (exact cP _ _)
  iterate 3 (quiet_step (fail))
  quiet_step (exact cQ _ _)
  iterate 6 (quiet_step (fail))
  quiet_step (exact cR _ _)
  iterate 3 (quiet_step (fail))
  quiet_step (exact cS _ _)
  iterate 3 (quiet_step (fail))
  refine wpQuiet_nil ?_
  intro _ hw'
  obtain ⟨⟨dq, osq⟩, hw''⟩ := hw'
  subst hw''
  go_wp2
  go_ret
  exact ⟨rfl, belowStep E1 E1.size (below_regrown w1 dq osq)⟩
end Go.Proofs.Ytgapcjdgakamoaa
