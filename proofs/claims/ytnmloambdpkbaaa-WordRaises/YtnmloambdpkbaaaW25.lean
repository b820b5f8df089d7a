/- WordRaises' own statements, walked: for any word and number the law returns true. No condition. -/
import Derived.Test.YtnmloambdpkbaaaW23
namespace Go.Proofs.Ytnmloambdpkbaaa
open Go.RowKit Go.Shelf Go.Sort

theorem val_small (n : Int) : val n 0 0 0 = n := by unfold val; omega

theorem pow_next (A x : Int) (k : Nat) (hx : x.toNat = k) : A ^ k * A % 115792089237316195423570985008687907853269984665640564039457584007913129639936 = (A ^ x.toNat % 115792089237316195423570985008687907853269984665640564039457584007913129639936) * A % 115792089237316195423570985008687907853269984665640564039457584007913129639936 := by
  rw [hx]
  symm
  rw [Int.mul_emod, Int.emod_emod_of_dvd _ (Int.dvd_refl _), ← Int.mul_emod]

set_option maxHeartbeats 4000000 in
theorem raises_core (a0 a1 a2 a3 n x y : Int) (ha : Ws a0 a1 a2 a3) (hx : 0 ≤ x ∧ x < 1000) (hnx : n.tmod 1000 = x) (hy : IntKind.u64.wrap (x + 1) = y) (hy' : y = x + 1) (w : World) :
    Calls Try.prog 7 #[.agg #[.int .u64 a0, .int .u64 a1, .int .u64 a2, .int .u64 a3], .int .u64 n] w fun e w' => e = .returned (.bool true) ∧ Below w.heap.size w w' := by
  have ho : Pt 0 := ⟨by decide, by decide⟩
  have h1 : Ws 1 0 0 0 := ⟨⟨by decide, by decide⟩, ho, ho, ho⟩
  have h0 : Ws 0 0 0 0 := ⟨ho, ho, ho, ho⟩
  have hX : Ws x 0 0 0 := ⟨⟨hx.1, by omega⟩, ho, ho, ho⟩
  have hY : Ws y 0 0 0 := ⟨⟨by omega, by omega⟩, ho, ho, ho⟩
  obtain ⟨p0, p1, p2, p3, hP, vP, cP⟩ := exact4 (emod_bd _) (exp_any a0 a1 a2 a3 y 0 0 0 ha hY)
  obtain ⟨q0, q1, q2, q3, hQ, vQ, cQ⟩ := exact4 (emod_bd _) (exp_any a0 a1 a2 a3 x 0 0 0 ha hX)
  obtain ⟨r0, r1, r2, r3, hR, vR, cR⟩ := exact4 (emod_bd _) (mul_any q0 q1 q2 q3 a0 a1 a2 a3 hQ ha)
  obtain ⟨s0, s1, s2, s3, hS, vS, cS⟩ := exact4 (emod_bd _) (exp_any a0 a1 a2 a3 0 0 0 0 ha h0)
  have e1 := eq_word_yes p0 p1 p2 p3 r0 r1 r2 r3 hP hR (by
    rw [vP.out, vR.out, vQ.out, val_small, val_small, show y.toNat = x.toNat + 1 by omega, Int.pow_succ]
    exact pow_next _ _ _ rfl)
  have e2 := eq_word_yes s0 s1 s2 s3 1 0 0 0 hS h1 (by rw [vS.out, val_small, val_small]; simp)
  have KP : Hid (∀ w : World, _) := cP
  have KQ : Hid (∀ w : World, _) := cQ
  have KR : Hid (∀ w : World, _) := cR
  have KS : Hid (∀ w : World, _) := cS
  clear cP cQ cR cS vP vQ vR vS hP hQ hR hS h0 h1 hX hY ho hy'
  go_enter Try.func7, Try.ntmps7
  go_wp2_with fail
  refine (shown_any _).mono ?_
  rintro e w1 ⟨rfl, hb1⟩
  have A1 : Cw w.heap.size a0 a1 a2 a3 w1 := Cw.below (by repeat' (first | exact Cw.new _ _ _ _ _ _ | apply Cw.alloc | apply Cw.drew)) hb1
  have E1 := belowStep (n := w.heap.size) (w := w) (by go_grown) (by (try simp) <;> omega) hb1
  clear hb1
  go_wp2
  have k0 := cell_regrown A1.c0
  have k1 := cell_regrown A1.c1
  have k2 := cell_regrown A1.c2
  have k3 := cell_regrown A1.c3
  have cP := inClass (w := w1) KP.out
  have cQ := inClass (w := w1) KQ.out
  have cR := inClass (w := w1) KR.out
  have cS := inClass (w := w1) KS.out
  have cOy := inClass (w := w1) (of_any y)
  have cOx := inClass (w := w1) (of_any x)
  have cO0 := inClass (w := w1) (of_any 0)
  have cO1 := inClass (w := w1) (of_any 1)
  refine wp_region_quiet_below (by kernel_rfl) (by kernel_rfl) ?_
  iterate 5 (quiet_step (fail))
  quiet_step (exact cOy _ _)
  quiet_step (exact cP _ _)
  iterate 2 (quiet_step (fail))
  quiet_step (exact cOx _ _)
  quiet_step (exact cQ _ _)
  iterate 1 (quiet_step (fail))
  quiet_step (exact cR _ _)
  iterate 4 (quiet_step (fail))
  quiet_step (exact cO0 _ _)
  quiet_step (exact cS _ _)
  quiet_step (exact cO1 _ _)
  iterate 3 (quiet_step (fail))
  refine wpQuiet_nil ?_
  intro _ hw'
  obtain ⟨⟨dq, osq⟩, hw''⟩ := hw'
  subst hw''
  go_wp2
  go_ret
  exact ⟨rfl, belowStep E1 E1.size (below_regrown w1 dq osq)⟩

theorem raises_any (a0 a1 a2 a3 n : Int) (ha : Ws a0 a1 a2 a3) (hn : Pt n) (w : World) :
    Calls Try.prog 7 #[.agg #[.int .u64 a0, .int .u64 a1, .int .u64 a2, .int .u64 a3], .int .u64 n] w fun e w' => e = .returned (.bool true) ∧ Below w.heap.size w w' := by
  have e1 : n.tmod 1000 = n % 1000 := Int.tmod_eq_emod_of_nonneg hn.1
  refine raises_core a0 a1 a2 a3 n (n % 1000) (n % 1000 + 1) ha (by omega) e1 ?_ rfl w
  unfold IntKind.wrap
  simp [IntKind.bits, IntKind.signed]
  omega
end Go.Proofs.Ytnmloambdpkbaaa
