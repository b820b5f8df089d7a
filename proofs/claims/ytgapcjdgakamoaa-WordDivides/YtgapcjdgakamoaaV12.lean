/- WordDivides' own statements, walked: for any two words the law returns true. No condition. -/
import Derived.Test.YtgapcjdgakamoaaV11
import Derived.Test.YtgapcjdgakamoaaW16
import Derived.Test.YtgapcjdgakamoaaW21
namespace Go.Proofs.Ytgapcjdgakamoaa
open Go.RowKit Go.Shelf Go.Sort

set_option maxHeartbeats 4000000 in
theorem divides_any (a0 a1 a2 a3 b0 b1 b2 b3 : Int) (ha : Ws a0 a1 a2 a3) (hb : Ws b0 b1 b2 b3) (w : World) :
    Calls Try.prog 4 #[.agg #[.int .u64 a0, .int .u64 a1, .int .u64 a2, .int .u64 a3], .agg #[.int .u64 b0, .int .u64 b1, .int .u64 b2, .int .u64 b3]] w fun e w' => e = .returned (.bool true) ∧ Below w.heap.size w w' := by
  have bA := val_bd _ _ _ _ ha
  have bB := val_bd _ _ _ _ hb
  obtain ⟨p0, p1, p2, p3, hP, vP, cP⟩ := exact4 (qt_in _ _ bA bB.1) (div_any a0 a1 a2 a3 b0 b1 b2 b3 ha hb)
  obtain ⟨q0, q1, q2, q3, hQ, vQ, cQ⟩ := exact4 (qt_in _ _ bA bB.1) (rdiv_any a0 a1 a2 a3 b0 b1 b2 b3 ha hb)
  obtain ⟨r0, r1, r2, r3, hR, vR, cR⟩ := exact4 (rm_bd _ _ bB) (mod_any a0 a1 a2 a3 b0 b1 b2 b3 ha hb)
  obtain ⟨s0, s1, s2, s3, hS, vS, cS⟩ := exact4 (rm_bd _ _ bB) (rmod_any a0 a1 a2 a3 b0 b1 b2 b3 ha hb)
  obtain ⟨t0, t1, t2, t3, hT, vT, cT⟩ := exact4 (sgn_in _ _ (qt_in _ _ (sgn_in _ _ bA) (sgn_in _ _ bB).1)) (sdiv_any a0 a1 a2 a3 b0 b1 b2 b3 ha hb)
  obtain ⟨u0, u1, u2, u3, hU, vU, cU⟩ := exact4 (sgn_in _ _ (qt_in _ _ (sgn_in _ _ bA) (sgn_in _ _ bB).1)) (rsdiv_any a0 a1 a2 a3 b0 b1 b2 b3 ha hb)
  obtain ⟨x0, x1, x2, x3, hX, vX, cX⟩ := exact4 (sgn_in _ _ (rm_bd _ _ (sgn_in _ _ bB))) (smod_any a0 a1 a2 a3 b0 b1 b2 b3 ha hb)
  obtain ⟨y0, y1, y2, y3, hY, vY, cY⟩ := exact4 (sgn_in _ _ (rm_bd _ _ (sgn_in _ _ bB))) (rsmod_any a0 a1 a2 a3 b0 b1 b2 b3 ha hb)
  have e0_ := eq_word_yes p0 p1 p2 p3 q0 q1 q2 q3 hP hQ (by rw [vP.out, vQ.out])
  have e1_ := eq_word_yes r0 r1 r2 r3 s0 s1 s2 s3 hR hS (by rw [vR.out, vS.out])
  have e2_ := eq_word_yes t0 t1 t2 t3 u0 u1 u2 u3 hT hU (by rw [vT.out, vU.out])
  have e3_ := eq_word_yes x0 x1 x2 x3 y0 y1 y2 y3 hX hY (by rw [vX.out, vY.out])
  have KP : Hid (∀ w : World, _) := cP
  have KQ : Hid (∀ w : World, _) := cQ
  have KR : Hid (∀ w : World, _) := cR
  have KS : Hid (∀ w : World, _) := cS
  have KT : Hid (∀ w : World, _) := cT
  have KU : Hid (∀ w : World, _) := cU
  have KX : Hid (∀ w : World, _) := cX
  have KY : Hid (∀ w : World, _) := cY
  clear cP vP hP cQ vQ hQ cR vR hR cS vS hS cT vT hT cU vU hU cX vX hX cY vY hY bA bB
  go_enter Try.func4, Try.ntmps4
  go_wp2_with fail
  refine (shown_any _).mono ?_
  rintro e w1 ⟨rfl, hb1⟩
  have C0 : Cw (w.heap.size) a0 a1 a2 a3 w1 := Cw.below (by repeat' (first | exact Cw.new _ _ _ _ _ _ | apply Cw.alloc | apply Cw.drew)) hb1
  have C1 : Cw (w.heap.size + 1) b0 b1 b2 b3 w1 := Cw.below (by repeat' (first | (simpa using Cw.new ((w).alloc (.cells #[.int .u64 a0, .int .u64 a1, .int .u64 a2, .int .u64 a3] 24)) b0 b1 b2 b3 _) | apply Cw.alloc | apply Cw.drew)) hb1
  have E1 := belowStep (n := w.heap.size) (w := w) (by go_grown) (by (try simp) <;> omega) hb1
  clear hb1
  go_wp2
  have k0_0 := cell_regrown C0.c0
  have k0_1 := cell_regrown C0.c1
  have k0_2 := cell_regrown C0.c2
  have k0_3 := cell_regrown C0.c3
  have k1_0 := cell_regrown C1.c0
  have k1_1 := cell_regrown C1.c1
  have k1_2 := cell_regrown C1.c2
  have k1_3 := cell_regrown C1.c3
  have cP := inClass (w := w1) KP.out
  have cQ := inClass (w := w1) KQ.out
  have cR := inClass (w := w1) KR.out
  have cS := inClass (w := w1) KS.out
  have cT := inClass (w := w1) KT.out
  have cU := inClass (w := w1) KU.out
  have cX := inClass (w := w1) KX.out
  have cY := inClass (w := w1) KY.out
  refine wp_region_quiet_below (by kernel_rfl) (by kernel_rfl) ?_
  iterate 4 (quiet_step (fail))
  quiet_step (exact cP _ _)
  iterate 2 (quiet_step (fail))
  quiet_step (exact cQ _ _)
  iterate 5 (quiet_step (fail))
  quiet_step (exact cR _ _)
  iterate 2 (quiet_step (fail))
  quiet_step (exact cS _ _)
  iterate 5 (quiet_step (fail))
  quiet_step (exact cT _ _)
  iterate 2 (quiet_step (fail))
  quiet_step (exact cU _ _)
  iterate 5 (quiet_step (fail))
  quiet_step (exact cX _ _)
  iterate 2 (quiet_step (fail))
  quiet_step (exact cY _ _)
  iterate 3 (quiet_step (fail))
  refine wpQuiet_nil ?_
  intro _ hw'
  obtain ⟨⟨dq, osq⟩, hw''⟩ := hw'
  subst hw''
  go_wp2
  go_ret
  exact ⟨rfl, belowStep E1 E1.size (below_regrown w1 dq osq)⟩
end Go.Proofs.Ytgapcjdgakamoaa
