/- WordParts' own statements, walked: for any two words the law returns true. No condition. -/
import Derived.Test.YtnmloambdpkbaaaW24
import Derived.Test.YtnmloambdpkbaaaW21
namespace Go.Proofs.Ytnmloambdpkbaaa
open Go.RowKit Go.Shelf Go.Sort

theorem qt_in (x y : Int) (hx : 0 ≤ x ∧ x < 115792089237316195423570985008687907853269984665640564039457584007913129639936) (hy : 0 ≤ y) : 0 ≤ qt x y ∧ qt x y < 115792089237316195423570985008687907853269984665640564039457584007913129639936 := by
  have := qt_bd x y hx.1 hx.2 hy
  omega
theorem sgn_in (b : Bool) (x : Int) (hx : 0 ≤ x ∧ x < 115792089237316195423570985008687907853269984665640564039457584007913129639936) : 0 ≤ sgn b x ∧ sgn b x < 115792089237316195423570985008687907853269984665640564039457584007913129639936 := by
  unfold sgn
  cases b <;> simp <;> omega
/-- What a sign makes of a number, but for whole turns. -/
theorem sgn_form (b : Bool) (x : Int) : ∃ k : Int, sgn b x = (if b then -x else x) + k * 115792089237316195423570985008687907853269984665640564039457584007913129639936 := by
  cases b
  · exact ⟨0, by unfold sgn; simp⟩
  · refine ⟨-((0 - x) / 115792089237316195423570985008687907853269984665640564039457584007913129639936), ?_⟩
    unfold sgn
    simp only [if_true]
    omega
theorem sgn_back (b : Bool) (x : Int) : ∃ k : Int, x = (if b then -(sgn b x) else sgn b x) + k * 115792089237316195423570985008687907853269984665640564039457584007913129639936 := by
  cases b
  · exact ⟨0, by unfold sgn; simp⟩
  · refine ⟨-((0 - x) / 115792089237316195423570985008687907853269984665640564039457584007913129639936), ?_⟩
    unfold sgn
    simp only [if_true]
    omega

theorem turn_back (A X k : Int) (hA : 0 ≤ A ∧ A < 115792089237316195423570985008687907853269984665640564039457584007913129639936) (h : X - A = 115792089237316195423570985008687907853269984665640564039457584007913129639936 * k) : X % 115792089237316195423570985008687907853269984665640564039457584007913129639936 = A := by
  omega

theorem parts_plain (A B : Int) (hA : 0 ≤ A ∧ A < 115792089237316195423570985008687907853269984665640564039457584007913129639936) (h : B ≠ 0) : (qt A B * B % 115792089237316195423570985008687907853269984665640564039457584007913129639936 + rm A B) % 115792089237316195423570985008687907853269984665640564039457584007913129639936 = A := by
  unfold qt rm
  rw [if_neg h, if_neg h]
  have e := Int.mul_ediv_add_emod A B
  rw [Int.mul_comm] at e
  generalize A / B * B = X at *
  generalize A % B = Y at *
  omega

theorem parts_signed (x y : Bool) (A B : Int) (hA : 0 ≤ A ∧ A < 115792089237316195423570985008687907853269984665640564039457584007913129639936) (hB : 0 ≤ B ∧ B < 115792089237316195423570985008687907853269984665640564039457584007913129639936) (h : B ≠ 0) :
    (sgn (x != y) (qt (sgn x A) (sgn y B)) * B % 115792089237316195423570985008687907853269984665640564039457584007913129639936 + sgn x (rm (sgn x A) (sgn y B))) % 115792089237316195423570985008687907853269984665640564039457584007913129639936 = A := by
  have hY : sgn y B ≠ 0 := by
    unfold sgn
    cases y
    · simpa using h
    · simp only [if_true]; omega
  obtain ⟨k4, hA4⟩ := sgn_back x A
  obtain ⟨k3, hB3⟩ := sgn_back y B
  generalize sgn x A = X at *
  generalize sgn y B = Y at *
  unfold qt rm
  rw [if_neg hY, if_neg hY]
  have e := Int.mul_ediv_add_emod X Y
  generalize X / Y = Q at *
  generalize X % Y = R at *
  obtain ⟨k1, h1⟩ := sgn_form (x != y) Q
  obtain ⟨k2, h2⟩ := sgn_form x R
  generalize sgn (x != y) Q = s at *
  generalize sgn x R = t at *
  have key : ∃ k : Int, s * B + t - A = 115792089237316195423570985008687907853269984665640564039457584007913129639936 * k := by
    cases x <;> cases y <;> simp at h1 h2 hA4 hB3
    · exact ⟨k1 * Y + k1 * k3 * 115792089237316195423570985008687907853269984665640564039457584007913129639936 + Q * k3 + k2 - k4, by rw [h1, h2]; grind⟩
    · exact ⟨- k1 * Y + k1 * k3 * 115792089237316195423570985008687907853269984665640564039457584007913129639936 - Q * k3 + k2 - k4, by rw [h1, h2]; grind⟩
    · exact ⟨k1 * Y + k1 * k3 * 115792089237316195423570985008687907853269984665640564039457584007913129639936 - Q * k3 + k2 - k4, by rw [h1, h2]; grind⟩
    · exact ⟨- k1 * Y + k1 * k3 * 115792089237316195423570985008687907853269984665640564039457584007913129639936 + Q * k3 + k2 - k4, by rw [h1, h2]; grind⟩
  obtain ⟨k, hk⟩ := key
  generalize s * B = Z at *
  exact turn_back A _ (k - Z / 115792089237316195423570985008687907853269984665640564039457584007913129639936) hA (by omega)

theorem rm_less (A B : Int) (hB : 0 ≤ B) (h : B ≠ 0) : blw (rm A B) B = true := by
  unfold blw rm
  rw [if_neg h]
  have := Int.emod_lt_of_pos A (show 0 < B by omega)
  simpa using this
set_option maxHeartbeats 4000000 in
theorem parts_zero (a0 a1 a2 a3 : Int) (ha : Ws a0 a1 a2 a3) (w : World) :
    Calls Try.prog 3 #[.agg #[.int .u64 a0, .int .u64 a1, .int .u64 a2, .int .u64 a3], .agg #[.int .u64 0, .int .u64 0, .int .u64 0, .int .u64 0]] w fun e w' => e = .returned (.bool true) ∧ Below w.heap.size w w' := by
  have ho : Pt 0 := ⟨by decide, by decide⟩
  have h0 : Ws 0 0 0 0 := ⟨ho, ho, ho, ho⟩
  have bA := val_bd _ _ _ _ ha
  have v0 : val 0 0 0 0 = 0 := by decide
  obtain ⟨q0, q1, q2, q3, hQ, vQ, cQ⟩ := exact4 (qt_in _ _ bA (by rw [v0]; decide)) (div_any a0 a1 a2 a3 0 0 0 0 ha h0)
  obtain ⟨r0, r1, r2, r3, hR, vR, cR⟩ := exact4 (rm_bd _ _ (by rw [v0]; decide)) (mod_any a0 a1 a2 a3 0 0 0 0 ha h0)
  have e0 := eq_word_yes 0 0 0 0 0 0 0 0 h0 h0 rfl
  have e1 := eq_word_yes q0 q1 q2 q3 0 0 0 0 hQ h0 (by rw [vQ.out, v0]; unfold qt; rw [if_pos rfl])
  have e2 := eq_word_yes r0 r1 r2 r3 0 0 0 0 hR h0 (by rw [vR.out, v0]; unfold rm; rw [if_pos rfl])
  have KQ : Hid (∀ w : World, _) := cQ
  have KR : Hid (∀ w : World, _) := cR
  clear cQ cR vQ vR v0 bA hQ hR
  go_enter Try.func3, Try.ntmps3
  go_wp2_with fail
  refine (shown_any _).mono ?_
  rintro e w1 ⟨rfl, hb1⟩
  have A1 : Cw w.heap.size a0 a1 a2 a3 w1 := Cw.below (by repeat' (first | exact Cw.new _ _ _ _ _ _ | apply Cw.alloc | apply Cw.drew)) hb1
  have B1 : Cw (w.heap.size + 1) 0 0 0 0 w1 := Cw.below (by repeat' (first | (simpa using Cw.new (w.alloc _) 0 0 0 0 _) | apply Cw.alloc | apply Cw.drew)) hb1
  have E1 := belowStep (n := w.heap.size) (w := w) (by go_grown) (by (try simp) <;> omega) hb1
  clear hb1
  obtain ⟨zb, cb0, cb1, cb2, cb3⟩ := id B1
  go_wp2
  have k0 := cell_regrown A1.c0
  have k1 := cell_regrown A1.c1
  have k2 := cell_regrown A1.c2
  have k3 := cell_regrown A1.c3
  have l0 := cell_regrown B1.c0
  have l1 := cell_regrown B1.c1
  have l2 := cell_regrown B1.c2
  have l3 := cell_regrown B1.c3
  have cQ := inClass (w := w1) KQ.out
  have cR := inClass (w := w1) KR.out
  refine wp_region_quiet_below (by kernel_rfl) (by kernel_rfl) ?_
  iterate 4 (quiet_step (fail))
  quiet_step (exact cQ _ _)
  iterate 6 (quiet_step (fail))
  quiet_step (exact cR _ _)
  iterate 4 (quiet_step (fail))
  refine wpQuiet_nil ?_
  intro _ hw'
  obtain ⟨⟨dq, osq⟩, hw''⟩ := hw'
  subst hw''
  go_wp2
  go_ret
  exact ⟨rfl, belowStep E1 E1.size (below_regrown w1 dq osq)⟩

set_option maxHeartbeats 4000000 in
theorem parts_nz (a0 a1 a2 a3 b0 b1 b2 b3 : Int) (ha : Ws a0 a1 a2 a3) (hb : Ws b0 b1 b2 b3) (hne : val b0 b1 b2 b3 ≠ 0) (w : World) :
    Calls Try.prog 3 #[.agg #[.int .u64 a0, .int .u64 a1, .int .u64 a2, .int .u64 a3], .agg #[.int .u64 b0, .int .u64 b1, .int .u64 b2, .int .u64 b3]] w fun e w' => e = .returned (.bool true) ∧ Below w.heap.size w w' := by
  have ho : Pt 0 := ⟨by decide, by decide⟩
  have h0 : Ws 0 0 0 0 := ⟨ho, ho, ho, ho⟩
  have bA := val_bd _ _ _ _ ha
  have bB := val_bd _ _ _ _ hb
  have v0 : val 0 0 0 0 = 0 := by decide
  obtain ⟨q0, q1, q2, q3, hQ, vQ, cQ⟩ := exact4 (qt_in _ _ bA bB.1) (div_any a0 a1 a2 a3 b0 b1 b2 b3 ha hb)
  obtain ⟨r0, r1, r2, r3, hR, vR, cR⟩ := exact4 (rm_bd _ _ bB) (mod_any a0 a1 a2 a3 b0 b1 b2 b3 ha hb)
  obtain ⟨s0, s1, s2, s3, hS, vS, cS⟩ := exact4 (sgn_in _ _ (qt_in _ _ (sgn_in _ _ bA) (sgn_in _ _ bB).1)) (sdiv_any a0 a1 a2 a3 b0 b1 b2 b3 ha hb)
  obtain ⟨t0, t1, t2, t3, hT, vT, cT⟩ := exact4 (sgn_in _ _ (rm_bd _ _ (sgn_in _ _ bB))) (smod_any a0 a1 a2 a3 b0 b1 b2 b3 ha hb)
  obtain ⟨p0, p1, p2, p3, hP, vP, cP⟩ := exact4 (emod_bd _) (mul_any q0 q1 q2 q3 b0 b1 b2 b3 hQ hb)
  obtain ⟨u0, u1, u2, u3, hU, vU, cU⟩ := exact4 (emod_bd _) (add_any p0 p1 p2 p3 r0 r1 r2 r3 hP hR)
  obtain ⟨x0, x1, x2, x3, hX, vX, cX⟩ := exact4 (emod_bd _) (mul_any s0 s1 s2 s3 b0 b1 b2 b3 hS hb)
  obtain ⟨y0, y1, y2, y3, hY, vY, cY⟩ := exact4 (emod_bd _) (add_any x0 x1 x2 x3 t0 t1 t2 t3 hX hT)
  obtain ⟨z0, z1, z2, z3, hZ, vZ, cZ⟩ := exact4 (rm_bd _ _ (by rw [v0]; decide)) (mulmod_any q0 q1 q2 q3 b0 b1 b2 b3 0 0 0 0 hQ hb h0)
  have cL := less_any r0 r1 r2 r3 b0 b1 b2 b3 hR hb
  rw [vR.out, rm_less _ _ bB.1 hne] at cL
  have e0 := eq_word_no b0 b1 b2 b3 0 0 0 0 hb h0 (by rw [v0]; exact hne)
  have e1 := eq_word_yes u0 u1 u2 u3 a0 a1 a2 a3 hU ha (by rw [vU.out, vP.out, vQ.out, vR.out]; exact parts_plain _ _ bA hne)
  have e2 := eq_word_yes y0 y1 y2 y3 a0 a1 a2 a3 hY ha (by rw [vY.out, vX.out, vS.out, vT.out]; exact parts_signed _ _ _ _ bA bB hne)
  have e3 := eq_word_yes z0 z1 z2 z3 0 0 0 0 hZ h0 (by rw [vZ.out, v0]; unfold rm; rw [if_pos rfl])
  have KQ : Hid (∀ w : World, _) := cQ
  have KR : Hid (∀ w : World, _) := cR
  have KS : Hid (∀ w : World, _) := cS
  have KT : Hid (∀ w : World, _) := cT
  have KP : Hid (∀ w : World, _) := cP
  have KU : Hid (∀ w : World, _) := cU
  have KX : Hid (∀ w : World, _) := cX
  have KY : Hid (∀ w : World, _) := cY
  have KZ : Hid (∀ w : World, _) := cZ
  have KL : Hid (∀ w : World, _) := cL
  clear cQ cR cS cT cP cU cX cY cZ cL vQ vR vS vT vP vU vX vY vZ v0 bA bB hQ hR hS hT hP hU hX hY hZ hne
  go_enter Try.func3, Try.ntmps3
  go_wp2_with fail
  refine (shown_any _).mono ?_
  rintro e w1 ⟨rfl, hb1⟩
  have A1 : Cw w.heap.size a0 a1 a2 a3 w1 := Cw.below (by repeat' (first | exact Cw.new _ _ _ _ _ _ | apply Cw.alloc | apply Cw.drew)) hb1
  have B1 : Cw (w.heap.size + 1) b0 b1 b2 b3 w1 := Cw.below (by repeat' (first | (simpa using Cw.new (w.alloc _) b0 b1 b2 b3 _) | apply Cw.alloc | apply Cw.drew)) hb1
  have E1 := belowStep (n := w.heap.size) (w := w) (by go_grown) (by (try simp) <;> omega) hb1
  clear hb1
  obtain ⟨za, ca0, ca1, ca2, ca3⟩ := id A1
  obtain ⟨zb, cb0, cb1, cb2, cb3⟩ := id B1
  go_wp2_with fail
  refine (KQ.out _).mono ?_
  rintro e w2 ⟨rfl, hb2⟩
  have A2 := Cw.below A1 hb2
  have B2 := Cw.below B1 hb2
  have E2 := belowStep E1 E1.size hb2
  clear hb2 za ca0 ca1 ca2 ca3 zb cb0 cb1 cb2 cb3 A1 B1 E1
  obtain ⟨za, ca0, ca1, ca2, ca3⟩ := id A2
  obtain ⟨zb, cb0, cb1, cb2, cb3⟩ := id B2
  go_wp2_with fail
  refine (KR.out _).mono ?_
  rintro e w3 ⟨rfl, hb3⟩
  have A3 := Cw.below (A2.alloc _) hb3
  have B3 := Cw.below (B2.alloc _) hb3
  have Q3 := Cw.below (Cw.new w2 q0 q1 q2 q3 24) hb3
  have E3 := belowStep (E2.alloc E2.size _) (by have := E2.size; simp; omega) hb3
  clear hb3 za ca0 ca1 ca2 ca3 zb cb0 cb1 cb2 cb3 A2 B2 E2
  obtain ⟨za, ca0, ca1, ca2, ca3⟩ := id A3
  obtain ⟨zb, cb0, cb1, cb2, cb3⟩ := id B3
  go_wp2_with fail
  refine (KS.out _).mono ?_
  rintro e w4 ⟨rfl, hb4⟩
  have A4 := Cw.below (A3.alloc _) hb4
  have B4 := Cw.below (B3.alloc _) hb4
  have Q4 := Cw.below (Q3.alloc _) hb4
  have R4 := Cw.below (Cw.new w3 r0 r1 r2 r3 24) hb4
  have E4 := belowStep (E3.alloc E3.size _) (by have := E3.size; simp; omega) hb4
  clear hb4 za ca0 ca1 ca2 ca3 zb cb0 cb1 cb2 cb3 A3 B3 Q3 E3
  obtain ⟨za, ca0, ca1, ca2, ca3⟩ := id A4
  obtain ⟨zb, cb0, cb1, cb2, cb3⟩ := id B4
  go_wp2_with fail
  refine (KT.out _).mono ?_
  rintro e w5 ⟨rfl, hb5⟩
  have A5 := Cw.below (A4.alloc _) hb5
  have B5 := Cw.below (B4.alloc _) hb5
  have Q5 := Cw.below (Q4.alloc _) hb5
  have R5 := Cw.below (R4.alloc _) hb5
  have S5 := Cw.below (Cw.new w4 s0 s1 s2 s3 24) hb5
  have E5 := belowStep (E4.alloc E4.size _) (by have := E4.size; simp; omega) hb5
  clear hb5 za ca0 ca1 ca2 ca3 zb cb0 cb1 cb2 cb3 A4 B4 Q4 R4 E4
  go_wp2
  refine wpOf (fun W => Below w.heap.size w W ∧ Cw w.heap.size a0 a1 a2 a3 W ∧ Cw (w.heap.size + 1) b0 b1 b2 b3 W ∧ Cw w2.heap.size q0 q1 q2 q3 W ∧ Cw w3.heap.size r0 r1 r2 r3 W ∧ Cw w4.heap.size s0 s1 s2 s3 W ∧ Cw w5.heap.size t0 t1 t2 t3 W) ⟨E5.alloc E5.size _, A5.alloc _, B5.alloc _, Q5.alloc _, R5.alloc _, S5.alloc _, Cw.new _ _ _ _ _ _⟩ ?_
  rintro V ⟨E6, A6, B6, Q6, R6, S6, T6⟩
  clear E5 A5 B5 Q5 R5 S5
  have ka0 := cell_regrown A6.c0
  have ka1 := cell_regrown A6.c1
  have ka2 := cell_regrown A6.c2
  have ka3 := cell_regrown A6.c3
  have kb0 := cell_regrown B6.c0
  have kb1 := cell_regrown B6.c1
  have kb2 := cell_regrown B6.c2
  have kb3 := cell_regrown B6.c3
  have kq0 := cell_regrown Q6.c0
  have kq1 := cell_regrown Q6.c1
  have kq2 := cell_regrown Q6.c2
  have kq3 := cell_regrown Q6.c3
  have kr0 := cell_regrown R6.c0
  have kr1 := cell_regrown R6.c1
  have kr2 := cell_regrown R6.c2
  have kr3 := cell_regrown R6.c3
  have ks0 := cell_regrown S6.c0
  have ks1 := cell_regrown S6.c1
  have ks2 := cell_regrown S6.c2
  have ks3 := cell_regrown S6.c3
  have kt0 := cell_regrown T6.c0
  have kt1 := cell_regrown T6.c1
  have kt2 := cell_regrown T6.c2
  have kt3 := cell_regrown T6.c3
  have cP := inClass (w := V) KP.out
  have cU := inClass (w := V) KU.out
  have cX := inClass (w := V) KX.out
  have cY := inClass (w := V) KY.out
  have cZ := inClass (w := V) KZ.out
  have cL := inClass (w := V) KL.out
  have cO := inClass (w := V) (of_any 0)
  refine wp_region_quiet_below (by kernel_rfl) (by kernel_rfl) ?_
  iterate 4 (quiet_step (fail))
  quiet_step (exact cL _ _)
  iterate 4 (quiet_step (fail))
  quiet_step (exact cP _ _)
  iterate 1 (quiet_step (fail))
  quiet_step (exact cU _ _)
  iterate 6 (quiet_step (fail))
  quiet_step (exact cX _ _)
  iterate 1 (quiet_step (fail))
  quiet_step (exact cY _ _)
  iterate 6 (quiet_step (fail))
  quiet_step (exact cO _ _)
  quiet_step (exact cZ _ _)
  quiet_step (exact cO _ _)
  iterate 3 (quiet_step (fail))
  refine wpQuiet_nil ?_
  intro _ hw'
  obtain ⟨⟨dq, osq⟩, hw''⟩ := hw'
  subst hw''
  go_wp2
  go_ret
  exact ⟨rfl, belowStep E6 E6.size (below_regrown V dq osq)⟩

theorem parts_any (a0 a1 a2 a3 b0 b1 b2 b3 : Int) (ha : Ws a0 a1 a2 a3) (hb : Ws b0 b1 b2 b3) (w : World) :
    Calls Try.prog 3 #[.agg #[.int .u64 a0, .int .u64 a1, .int .u64 a2, .int .u64 a3], .agg #[.int .u64 b0, .int .u64 b1, .int .u64 b2, .int .u64 b3]] w fun e w' => e = .returned (.bool true) ∧ Below w.heap.size w w' := by
  by_cases h : val b0 b1 b2 b3 = 0
  · have ho : Pt 0 := ⟨by decide, by decide⟩
    obtain ⟨rfl, rfl, rfl, rfl⟩ := val_inj b0 b1 b2 b3 0 0 0 0 hb ⟨ho, ho, ho, ho⟩ (by rw [h]; rfl)
    exact parts_zero a0 a1 a2 a3 ha w
  · exact parts_nz a0 a1 a2 a3 b0 b1 b2 b3 ha hb h w
end Go.Proofs.Ytnmloambdpkbaaa
