/- WordShifts' own statements, walked: for any two words the law returns true. No condition. -/
import Derived.Test.YtgapcjdgakamoaaV25
namespace Go.Proofs.Ytgapcjdgakamoaa
open Go.RowKit Go.Shelf Go.Sort

set_option maxHeartbeats 4000000 in
theorem shifts_any (n0 n1 n2 n3 a0 a1 a2 a3 : Int) (hn : Ws n0 n1 n2 n3) (ha : Ws a0 a1 a2 a3) (w : World) :
    Calls Try.prog 7 #[.agg #[.int .u64 n0, .int .u64 n1, .int .u64 n2, .int .u64 n3], .agg #[.int .u64 a0, .int .u64 a1, .int .u64 a2, .int .u64 a3]] w fun e w' => e = .returned (.bool true) ∧ Below w.heap.size w w' := by
  have bA := val_bd _ _ _ _ ha
  obtain ⟨p0, p1, p2, p3, hP, vP, cP⟩ := exact4 (up_bd _ _) (shl_any n0 n1 n2 n3 a0 a1 a2 a3 hn ha)
  obtain ⟨q0, q1, q2, q3, hQ, vQ, cQ⟩ := exact4 (up_bd _ _) (rshl_any n0 n1 n2 n3 a0 a1 a2 a3 hn ha)
  obtain ⟨r0, r1, r2, r3, hR, vR, cR⟩ := exact4 (dn_bd _ _ bA) (shr_any n0 n1 n2 n3 a0 a1 a2 a3 hn ha)
  obtain ⟨s0, s1, s2, s3, hS, vS, cS⟩ := exact4 (dn_bd _ _ bA) (rshr_any n0 n1 n2 n3 a0 a1 a2 a3 hn ha)
  obtain ⟨t0, t1, t2, t3, hT, vT, cT⟩ := exact4 (sar_bd _ _ _ bA) (sar_any n0 n1 n2 n3 a0 a1 a2 a3 hn ha)
  obtain ⟨u0, u1, u2, u3, hU, vU, cU⟩ := exact4 (sar_bd _ _ _ bA) (rsar_any n0 n1 n2 n3 a0 a1 a2 a3 hn ha)
  obtain ⟨x0, x1, x2, x3, hX, vX, cX⟩ := exact4 (ext_bd _ _ bA) (extend_any n0 n1 n2 n3 a0 a1 a2 a3 hn ha)
  obtain ⟨y0, y1, y2, y3, hY, vY, cY⟩ := exact4 (ext_bd _ _ bA) (rextend_any n0 n1 n2 n3 a0 a1 a2 a3 hn ha)
  obtain ⟨d0, d1, d2, d3, hD, vD, cD⟩ := exact4 (byt_bd _ _) (byte_any n0 n1 n2 n3 a0 a1 a2 a3 hn ha)
  obtain ⟨f0, f1, f2, f3, hF, vF, cF⟩ := exact4 (byt_bd _ _) (rbyte_any n0 n1 n2 n3 a0 a1 a2 a3 hn ha)
  have e0_ := eq_word_yes p0 p1 p2 p3 q0 q1 q2 q3 hP hQ (by rw [vP.out, vQ.out])
  have e1_ := eq_word_yes r0 r1 r2 r3 s0 s1 s2 s3 hR hS (by rw [vR.out, vS.out])
  have e2_ := eq_word_yes t0 t1 t2 t3 u0 u1 u2 u3 hT hU (by rw [vT.out, vU.out])
  have e3_ := eq_word_yes x0 x1 x2 x3 y0 y1 y2 y3 hX hY (by rw [vX.out, vY.out])
  have e4_ := eq_word_yes d0 d1 d2 d3 f0 f1 f2 f3 hD hF (by rw [vD.out, vF.out])
  obtain ⟨bl1, hbl⟩ : ∃ b, blw (val n0 n1 n2 n3) (val a0 a1 a2 a3) = b := ⟨_, rfl⟩
  obtain ⟨bs1, hbs⟩ : ∃ b, sbl n3 a3 (val n0 n1 n2 n3) (val a0 a1 a2 a3) = b := ⟨_, rfl⟩
  have cL := less_any n0 n1 n2 n3 a0 a1 a2 a3 hn ha
  have cM := rless_any n0 n1 n2 n3 a0 a1 a2 a3 hn ha
  have cV := sless_any n0 n1 n2 n3 a0 a1 a2 a3 hn ha
  have cW := rsless_any n0 n1 n2 n3 a0 a1 a2 a3 hn ha
  rw [hbl] at cL cM
  rw [hbs] at cV cW
  have KL : Hid (∀ w : World, _) := cL
  have KM : Hid (∀ w : World, _) := cM
  have KV : Hid (∀ w : World, _) := cV
  have KW : Hid (∀ w : World, _) := cW
  clear cL cM cV cW hbl hbs
  have KP : Hid (∀ w : World, _) := cP
  have KQ : Hid (∀ w : World, _) := cQ
  have KR : Hid (∀ w : World, _) := cR
  have KS : Hid (∀ w : World, _) := cS
  have KT : Hid (∀ w : World, _) := cT
  have KU : Hid (∀ w : World, _) := cU
  have KX : Hid (∀ w : World, _) := cX
  have KY : Hid (∀ w : World, _) := cY
  have KD : Hid (∀ w : World, _) := cD
  have KF : Hid (∀ w : World, _) := cF
  clear cP vP hP cQ vQ hQ cR vR hR cS vS hS cT vT hT cU vU hU cX vX hX cY vY hY cD vD hD cF vF hF bA
  go_enter Try.func7, Try.ntmps7
  go_wp2_with fail
  refine (shown_any _).mono ?_
  rintro e w1 ⟨rfl, hb1⟩
  have C0 : Cw (w.heap.size) n0 n1 n2 n3 w1 := Cw.below (by repeat' (first | exact Cw.new _ _ _ _ _ _ | apply Cw.alloc | apply Cw.drew)) hb1
  have C1 : Cw (w.heap.size + 1) a0 a1 a2 a3 w1 := Cw.below (by repeat' (first | (simpa using Cw.new ((w).alloc (.cells #[.int .u64 n0, .int .u64 n1, .int .u64 n2, .int .u64 n3] 24)) a0 a1 a2 a3 _) | apply Cw.alloc | apply Cw.drew)) hb1
  have E1 := belowStep (n := w.heap.size) (w := w) (by go_grown) (by (try simp) <;> omega) hb1
  clear hb1
  go_wp2
  have k0_0 := cell_regrown C0.c0
  have k0_1 := cell_regrown C0.c1
  have k0_2 := cell_regrown C0.c2
  have k0_3 := cell_regrown C0.c3
  have k1_0 := cell_regrown C1.c0
  have k1_1 := cell_regrown C1.c1
  have k1_2 := cell_regrown C1.c2
  have k1_3 := cell_regrown C1.c3
  have cP := inClass (w := w1) KP.out
  have cQ := inClass (w := w1) KQ.out
  have cR := inClass (w := w1) KR.out
  have cS := inClass (w := w1) KS.out
  have cT := inClass (w := w1) KT.out
  have cU := inClass (w := w1) KU.out
  have cX := inClass (w := w1) KX.out
  have cY := inClass (w := w1) KY.out
  have cD := inClass (w := w1) KD.out
  have cF := inClass (w := w1) KF.out
  have cL := inClass (w := w1) KL.out
  have cM := inClass (w := w1) KM.out
  have cV := inClass (w := w1) KV.out
  have cW := inClass (w := w1) KW.out
  refine wp_region_quiet_below (by kernel_rfl) (by kernel_rfl) ?_
  iterate 4 (quiet_step (fail))
  quiet_step (exact cP _ _)
  iterate 2 (quiet_step (fail))
  quiet_step (exact cQ _ _)
  iterate 5 (quiet_step (fail))
  quiet_step (exact cR _ _)
  iterate 2 (quiet_step (fail))
  quiet_step (exact cS _ _)
  iterate 5 (quiet_step (fail))
  quiet_step (exact cT _ _)
  iterate 2 (quiet_step (fail))
  quiet_step (exact cU _ _)
  iterate 5 (quiet_step (fail))
  quiet_step (exact cX _ _)
  iterate 2 (quiet_step (fail))
  quiet_step (exact cY _ _)
  iterate 5 (quiet_step (fail))
  quiet_step (exact cD _ _)
  iterate 2 (quiet_step (fail))
  quiet_step (exact cF _ _)
  iterate 5 (quiet_step (fail))
  quiet_step (exact cL _ _)
  iterate 2 (quiet_step (fail))
  quiet_step (exact cM _ _)
  iterate 5 (quiet_step (fail))
  quiet_step (exact cV _ _)
  iterate 2 (quiet_step (fail))
  quiet_step (exact cW _ _)
  iterate 3 (quiet_step (fail))
  refine wpQuiet_nil ?_
  intro _ hw'
  obtain ⟨⟨dq, osq⟩, hw''⟩ := hw'
  subst hw''
  go_wp2
  go_ret
  exact ⟨rfl, belowStep E1 E1.size (below_regrown w1 dq osq)⟩
end Go.Proofs.Ytgapcjdgakamoaa
