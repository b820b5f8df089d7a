/- WordSwaps' own statements, walked: for any three words the law returns true. No condition. -/
import Derived.Test.YtnmloambdpkbaaaW19
import Derived.Test.YtnmloambdpkbaaaW22
namespace Go.Proofs.Ytnmloambdpkbaaa
open Go.RowKit Go.Shelf Go.Sort

theorem rm_bd (x y : Int) (hy : 0 ≤ y ∧ y < 115792089237316195423570985008687907853269984665640564039457584007913129639936) : 0 ≤ rm x y ∧ rm x y < 115792089237316195423570985008687907853269984665640564039457584007913129639936 := by
  unfold rm
  by_cases h : y = 0
  · rw [if_pos h]; decide
  · rw [if_neg h]
    have h1 := Int.emod_nonneg x h
    have h2 := Int.emod_lt_of_pos x (show 0 < y by omega)
    omega

theorem mul_over (a b m : Int) : a * ((b + m) % 115792089237316195423570985008687907853269984665640564039457584007913129639936) % 115792089237316195423570985008687907853269984665640564039457584007913129639936 = (a * b % 115792089237316195423570985008687907853269984665640564039457584007913129639936 + a * m % 115792089237316195423570985008687907853269984665640564039457584007913129639936) % 115792089237316195423570985008687907853269984665640564039457584007913129639936 := by
  rw [Int.mul_emod, Int.emod_emod_of_dvd _ (Int.dvd_refl _), ← Int.mul_emod, Int.mul_add, Int.add_emod]

set_option maxHeartbeats 4000000 in
theorem swaps_any (a0 a1 a2 a3 b0 b1 b2 b3 m0 m1 m2 m3 : Int) (ha : Ws a0 a1 a2 a3) (hb : Ws b0 b1 b2 b3) (hm : Ws m0 m1 m2 m3) (w : World) :
    Calls Try.prog 4 #[.agg #[.int .u64 a0, .int .u64 a1, .int .u64 a2, .int .u64 a3], .agg #[.int .u64 b0, .int .u64 b1, .int .u64 b2, .int .u64 b3], .agg #[.int .u64 m0, .int .u64 m1, .int .u64 m2, .int .u64 m3]] w fun e w' => e = .returned (.bool true) ∧ Below w.heap.size w w' := by
  have bA := val_bd _ _ _ _ ha
  have bB := val_bd _ _ _ _ hb
  have bM := val_bd _ _ _ _ hm
  obtain ⟨s0, s1, s2, s3, hS, vS, cS⟩ := exact4 (emod_bd _) (add_any a0 a1 a2 a3 b0 b1 b2 b3 ha hb)
  obtain ⟨t0, t1, t2, t3, hT, vT, cT⟩ := exact4 (emod_bd _) (add_any b0 b1 b2 b3 a0 a1 a2 a3 hb ha)
  obtain ⟨p0, p1, p2, p3, hP, vP, cP⟩ := exact4 (emod_bd _) (mul_any a0 a1 a2 a3 b0 b1 b2 b3 ha hb)
  obtain ⟨q0, q1, q2, q3, hQ, vQ, cQ⟩ := exact4 (emod_bd _) (mul_any b0 b1 b2 b3 a0 a1 a2 a3 hb ha)
  obtain ⟨u0, u1, u2, u3, hU, vU, cU⟩ := exact4 (rm_bd _ _ bM) (addmod_any a0 a1 a2 a3 b0 b1 b2 b3 m0 m1 m2 m3 ha hb hm)
  obtain ⟨v0, v1, v2, v3, hV, vV, cV⟩ := exact4 (rm_bd _ _ bM) (addmod_any b0 b1 b2 b3 a0 a1 a2 a3 m0 m1 m2 m3 hb ha hm)
  obtain ⟨x0, x1, x2, x3, hX, vX, cX⟩ := exact4 (rm_bd _ _ bM) (mulmod_any a0 a1 a2 a3 b0 b1 b2 b3 m0 m1 m2 m3 ha hb hm)
  obtain ⟨y0, y1, y2, y3, hY, vY, cY⟩ := exact4 (rm_bd _ _ bM) (mulmod_any b0 b1 b2 b3 a0 a1 a2 a3 m0 m1 m2 m3 hb ha hm)
  obtain ⟨d0, d1, d2, d3, hD, vD, cD⟩ := exact4 (emod_bd _) (sub_any a0 a1 a2 a3 b0 b1 b2 b3 ha hb)
  obtain ⟨e0, e1, e2, e3, hE, vE, cE⟩ := exact4 (emod_bd _) (add_any d0 d1 d2 d3 b0 b1 b2 b3 hD hb)
  obtain ⟨f0, f1, f2, f3, hF, vF, cF⟩ := exact4 (emod_bd _) (add_any b0 b1 b2 b3 m0 m1 m2 m3 hb hm)
  obtain ⟨g0, g1, g2, g3, hG, vG, cG⟩ := exact4 (emod_bd _) (mul_any a0 a1 a2 a3 f0 f1 f2 f3 ha hF)
  obtain ⟨i0, i1, i2, i3, hI, vI, cI⟩ := exact4 (emod_bd _) (mul_any a0 a1 a2 a3 m0 m1 m2 m3 ha hm)
  obtain ⟨j0, j1, j2, j3, hJ, vJ, cJ⟩ := exact4 (emod_bd _) (add_any p0 p1 p2 p3 i0 i1 i2 i3 hP hI)
  have r1 := eq_word_yes s0 s1 s2 s3 t0 t1 t2 t3 hS hT (by rw [vS.out, vT.out, Int.add_comm])
  have r2 := eq_word_yes p0 p1 p2 p3 q0 q1 q2 q3 hP hQ (by rw [vP.out, vQ.out, Int.mul_comm])
  have r3 := eq_word_yes u0 u1 u2 u3 v0 v1 v2 v3 hU hV (by rw [vU.out, vV.out, Int.add_comm])
  have r4 := eq_word_yes x0 x1 x2 x3 y0 y1 y2 y3 hX hY (by rw [vX.out, vY.out, Int.mul_comm])
  have r5 := eq_word_yes e0 e1 e2 e3 a0 a1 a2 a3 hE ha (by rw [vE.out, vD.out]; omega)
  have r6 := eq_word_yes g0 g1 g2 g3 j0 j1 j2 j3 hG hJ (by rw [vG.out, vJ.out, vF.out, vP.out, vI.out]; exact mul_over _ _ _)
  have KS : Hid (∀ w : World, _) := cS
  have KT : Hid (∀ w : World, _) := cT
  have KP : Hid (∀ w : World, _) := cP
  have KQ : Hid (∀ w : World, _) := cQ
  have KU : Hid (∀ w : World, _) := cU
  have KV : Hid (∀ w : World, _) := cV
  have KX : Hid (∀ w : World, _) := cX
  have KY : Hid (∀ w : World, _) := cY
  have KD : Hid (∀ w : World, _) := cD
  have KE : Hid (∀ w : World, _) := cE
  have KF : Hid (∀ w : World, _) := cF
  have KG : Hid (∀ w : World, _) := cG
  have KI : Hid (∀ w : World, _) := cI
  have KJ : Hid (∀ w : World, _) := cJ
  clear cS cT cP cQ cU cV cX cY cD cE cF cG cI cJ vS vT vP vQ vU vV vX vY vD vE vF vG vI vJ bA bB bM hS hT hP hQ hU hV hX hY hD hE hF hG hI hJ
  go_enter Try.func4, Try.ntmps4
  go_wp2_with fail
  refine (shown_any _).mono ?_
  rintro e w1 ⟨rfl, hb1⟩
  have A1 : Cw w.heap.size a0 a1 a2 a3 w1 := Cw.below (by repeat' (first | exact Cw.new _ _ _ _ _ _ | apply Cw.alloc | apply Cw.drew)) hb1
  have B1 : Cw (w.heap.size + 1) b0 b1 b2 b3 w1 := Cw.below (by repeat' (first | (simpa using Cw.new (w.alloc _) b0 b1 b2 b3 _) | apply Cw.alloc | apply Cw.drew)) hb1
  have M1 : Cw (w.heap.size + 1 + 1) m0 m1 m2 m3 w1 := Cw.below (by simpa using Cw.new ((w.alloc (.cells #[.int .u64 a0, .int .u64 a1, .int .u64 a2, .int .u64 a3] 24)).alloc (.cells #[.int .u64 b0, .int .u64 b1, .int .u64 b2, .int .u64 b3] 24)) m0 m1 m2 m3 24) hb1
  have E1 := belowStep (n := w.heap.size) (w := w) (by go_grown) (by (try simp) <;> omega) hb1
  clear hb1
  go_wp2
  have k0 := cell_regrown A1.c0
  have k1 := cell_regrown A1.c1
  have k2 := cell_regrown A1.c2
  have k3 := cell_regrown A1.c3
  have l0 := cell_regrown B1.c0
  have l1 := cell_regrown B1.c1
  have l2 := cell_regrown B1.c2
  have l3 := cell_regrown B1.c3
  have n0 := cell_regrown M1.c0
  have n1 := cell_regrown M1.c1
  have n2 := cell_regrown M1.c2
  have n3 := cell_regrown M1.c3
  have cS := inClass (w := w1) KS.out
  have cT := inClass (w := w1) KT.out
  have cP := inClass (w := w1) KP.out
  have cQ := inClass (w := w1) KQ.out
  have cU := inClass (w := w1) KU.out
  have cV := inClass (w := w1) KV.out
  have cX := inClass (w := w1) KX.out
  have cY := inClass (w := w1) KY.out
  have cD := inClass (w := w1) KD.out
  have cE := inClass (w := w1) KE.out
  have cF := inClass (w := w1) KF.out
  have cG := inClass (w := w1) KG.out
  have cI := inClass (w := w1) KI.out
  have cJ := inClass (w := w1) KJ.out
  refine wp_region_quiet_below (by kernel_rfl) (by kernel_rfl) ?_
  iterate 4 (quiet_step (fail))
  quiet_step (exact cS _ _)
  iterate 2 (quiet_step (fail))
  quiet_step (exact cT _ _)
  iterate 5 (quiet_step (fail))
  quiet_step (exact cP _ _)
  iterate 2 (quiet_step (fail))
  quiet_step (exact cQ _ _)
  iterate 6 (quiet_step (fail))
  quiet_step (exact cU _ _)
  iterate 3 (quiet_step (fail))
  quiet_step (exact cV _ _)
  iterate 6 (quiet_step (fail))
  quiet_step (exact cX _ _)
  iterate 3 (quiet_step (fail))
  quiet_step (exact cY _ _)
  iterate 5 (quiet_step (fail))
  quiet_step (exact cD _ _)
  iterate 1 (quiet_step (fail))
  quiet_step (exact cE _ _)
  iterate 7 (quiet_step (fail))
  quiet_step (exact cF _ _)
  quiet_step (exact cG _ _)
  iterate 2 (quiet_step (fail))
  quiet_step (exact cP _ _)
  iterate 2 (quiet_step (fail))
  quiet_step (exact cI _ _)
  quiet_step (exact cJ _ _)
  iterate 3 (quiet_step (fail))
  refine wpQuiet_nil ?_
  intro _ hw'
  obtain ⟨⟨dq, osq⟩, hw''⟩ := hw'
  subst hw''
  go_wp2
  go_ret
  exact ⟨rfl, belowStep E1 E1.size (below_regrown w1 dq osq)⟩
end Go.Proofs.Ytnmloambdpkbaaa
