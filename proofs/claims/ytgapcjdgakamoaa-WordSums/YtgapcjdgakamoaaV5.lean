/- WordSums' own statements, walked: for any two words the law returns true. No condition. -/
import Derived.Test.YtgapcjdgakamoaaV4
import Derived.Test.YtgapcjdgakamoaaW19
namespace Go.Proofs.Ytgapcjdgakamoaa
open Go.RowKit Go.Shelf Go.Sort

set_option maxHeartbeats 4000000 in
theorem sums_any (a0 a1 a2 a3 b0 b1 b2 b3 : Int) (ha : Ws a0 a1 a2 a3) (hb : Ws b0 b1 b2 b3) (w : World) :
    Calls Try.prog 3 #[.agg #[.int .u64 a0, .int .u64 a1, .int .u64 a2, .int .u64 a3], .agg #[.int .u64 b0, .int .u64 b1, .int .u64 b2, .int .u64 b3]] w fun e w' => e = .returned (.bool true) ∧ Below w.heap.size w w' := by
  have ho : Pt 0 := ⟨by decide, by decide⟩
  obtain ⟨p0, p1, p2, p3, hP, vP, cP⟩ := exact4 (emod_bd _) (add_any a0 a1 a2 a3 b0 b1 b2 b3 ha hb)
  obtain ⟨q0, q1, q2, q3, hQ, vQ, cQ⟩ := exact4 (emod_bd _) (radd_any a0 a1 a2 a3 b0 b1 b2 b3 ha hb)
  obtain ⟨r0, r1, r2, r3, hR, vR, cR⟩ := exact4 (emod_bd _) (sub_any a0 a1 a2 a3 b0 b1 b2 b3 ha hb)
  obtain ⟨s0, s1, s2, s3, hS, vS, cS⟩ := exact4 (emod_bd _) (rsub_any a0 a1 a2 a3 b0 b1 b2 b3 ha hb)
  obtain ⟨t0, t1, t2, t3, hT, vT, cT⟩ := exact4 (emod_bd _) (mul_any a0 a1 a2 a3 b0 b1 b2 b3 ha hb)
  obtain ⟨u0, u1, u2, u3, hU, vU, cU⟩ := exact4 (emod_bd _) (rmul_any a0 a1 a2 a3 b0 b1 b2 b3 ha hb)
  have e1 := eq_word_yes p0 p1 p2 p3 q0 q1 q2 q3 hP hQ (by rw [vP.out, vQ.out])
  have e2 := eq_word_yes r0 r1 r2 r3 s0 s1 s2 s3 hR hS (by rw [vR.out, vS.out])
  have e3 := eq_word_yes t0 t1 t2 t3 u0 u1 u2 u3 hT hU (by rw [vT.out, vU.out])
  have e4 := eq_word_yes a0 0 0 0 a0 0 0 0 ⟨ha.1, ho, ho, ho⟩ ⟨ha.1, ho, ho, ho⟩ rfl
  have KP : Hid (∀ w : World, _) := cP
  have KQ : Hid (∀ w : World, _) := cQ
  have KR : Hid (∀ w : World, _) := cR
  have KS : Hid (∀ w : World, _) := cS
  have KT : Hid (∀ w : World, _) := cT
  have KU : Hid (∀ w : World, _) := cU
  clear cP cQ cR cS cT cU vP vQ vR vS vT vU hP hQ hR hS hT hU
  go_enter Try.func3, Try.ntmps3
  go_wp2_with fail
  refine (shown_any _).mono ?_
  rintro e w1 ⟨rfl, hb1⟩
  have A1 : Cw w.heap.size a0 a1 a2 a3 w1 := Cw.below (by repeat' (first | exact Cw.new _ _ _ _ _ _ | apply Cw.alloc | apply Cw.drew)) hb1
  have B1 : Cw (w.heap.size + 1) b0 b1 b2 b3 w1 := Cw.below (by repeat' (first | (simpa using Cw.new (w.alloc _) b0 b1 b2 b3 _) | apply Cw.alloc | apply Cw.drew)) hb1
  have E1 := belowStep (n := w.heap.size) (w := w) (by go_grown) (by (try simp) <;> omega) hb1
  clear hb1
  go_wp2
  have k0 := cell_regrown A1.c0
  have k1 := cell_regrown A1.c1
  have k2 := cell_regrown A1.c2
  have k3 := cell_regrown A1.c3
  have l0 := cell_regrown B1.c0
  have l1 := cell_regrown B1.c1
  have l2 := cell_regrown B1.c2
  have l3 := cell_regrown B1.c3
  have cP := inClass (w := w1) KP.out
  have cQ := inClass (w := w1) KQ.out
  have cR := inClass (w := w1) KR.out
  have cS := inClass (w := w1) KS.out
  have cT := inClass (w := w1) KT.out
  have cU := inClass (w := w1) KU.out
  have cV := inClass (w := w1) (of_any a0)
  have cW := inClass (w := w1) (rof_any a0)
  refine wp_region_quiet_below (by kernel_rfl) (by kernel_rfl) ?_
  iterate 4 (quiet_step (fail))
  quiet_step (exact cP _ _)
  iterate 2 (quiet_step (fail))
  quiet_step (exact cQ _ _)
  iterate 5 (quiet_step (fail))
  quiet_step (exact cR _ _)
  iterate 2 (quiet_step (fail))
  quiet_step (exact cS _ _)
  iterate 5 (quiet_step (fail))
  quiet_step (exact cT _ _)
  iterate 2 (quiet_step (fail))
  quiet_step (exact cU _ _)
  iterate 5 (quiet_step (fail))
  quiet_step (exact cV _ _)
  iterate 2 (quiet_step (fail))
  quiet_step (exact cW _ _)
  iterate 3 (quiet_step (fail))
  refine wpQuiet_nil ?_
  intro _ hw'
  obtain ⟨⟨dq, osq⟩, hw''⟩ := hw'
  subst hw''
  go_wp2
  go_ret
  exact ⟨rfl, belowStep E1 E1.size (below_regrown w1 dq osq)⟩
end Go.Proofs.Ytgapcjdgakamoaa
