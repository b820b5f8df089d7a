/- What Div64 does at this translation where the divisor's highest bit is set: the whole quotient. -/
import Derived.Test.YtgapcjdgakamoaaW6
import Derived.Test.YtgapcjdgakamoaaW7
namespace Go.Proofs.Ytgapcjdgakamoaa
open Go.RowKit

/-- The facts of one digit of 32 bits: U by y, u1 the next one. -/
structure Dg (U y h l u1 : Int) : Prop where
  y_eq : y = 4294967296 * h + l
  h0 : 2147483648 ≤ h
  h1 : h < 4294967296
  l0 : 0 ≤ l
  l1 : l < 4294967296
  u0 : 0 ≤ u1
  u2 : u1 < 4294967296
  U0 : 0 ≤ U
  U1 : U < y

theorem Dg.q_lt {U y h l u1 : Int} (d : Dg U y h l u1) : 0 ≤ (U * 4294967296 + u1) / y ∧ (U * 4294967296 + u1) / y < 4294967296 := by
  obtain ⟨_, _, _, _, _, _, _, _, _⟩ := d
  refine ⟨Int.ediv_nonneg (by omega) (by omega), ?_⟩
  apply Int.ediv_lt_of_lt_mul (by omega)
  omega

theorem Dg.start {U y h l u1 : Int} (d : Dg U y h l u1) : (U * 4294967296 + u1) / y ≤ U / h ∧ U / h ≤ 4294967297 ∧ 0 ≤ U / h ∧ U / h * h + U % h = U ∧ 0 ≤ U % h ∧ U % h < h := by
  obtain ⟨e, _, _, _, _, _, _, _, _⟩ := d
  have e1 := Int.mul_ediv_add_emod U h
  have e2 := Int.emod_nonneg U (show h ≠ 0 by omega)
  have e3 := Int.emod_lt_of_pos U (show 0 < h by omega)
  have e4 : 0 ≤ U / h := Int.ediv_nonneg (by omega) (by omega)
  rw [Int.mul_comm] at e1
  refine ⟨?_, ?_, e4, e1, e2, e3⟩
  · apply Int.le_ediv_of_mul_le (by omega)
    have q1 := Int.ediv_mul_le (U * 4294967296 + u1) (show y ≠ 0 by omega)
    have q0 : 0 ≤ (U * 4294967296 + u1) / y := Int.ediv_nonneg (by omega) (by omega)
    generalize (U * 4294967296 + u1) / y = Q at *
    rw [e, Int.mul_add, Int.mul_left_comm] at q1
    have := Int.mul_nonneg q0 (show 0 ≤ l by omega)
    omega
  · have : U / h < 4294967298 := Int.ediv_lt_of_lt_mul (by omega) (by omega)
    omega

theorem Dg.step {U y h l u1 : Int} (d : Dg U y h l u1) {q r : Int} (e : q * h + r = U) (t : 4294967296 ≤ q ∨ 4294967296 * r + u1 < q * l) : (U * 4294967296 + u1) / y ≤ q - 1 := by
  rcases t with t | t
  · have := d.q_lt; omega
  · obtain ⟨f, _, _, _, _, _, _, _, _⟩ := d
    have : (U * 4294967296 + u1) / y < q := by
      apply Int.ediv_lt_of_lt_mul (by omega)
      rw [f, Int.mul_add, Int.mul_left_comm]
      omega
    omega

theorem Dg.stop {U y h l u1 : Int} (d : Dg U y h l u1) {q r : Int} (e : q * h + r = U) (t : q * l ≤ 4294967296 * r + u1) (hq : (U * 4294967296 + u1) / y ≤ q) : q = (U * 4294967296 + u1) / y := by
  obtain ⟨f, _, _, _, _, _, _, _, _⟩ := d
  have : q ≤ (U * 4294967296 + u1) / y := by
    apply Int.le_ediv_of_mul_le (by omega)
    rw [f, Int.mul_add, Int.mul_left_comm]
    omega
  omega

theorem Dg.leave {U y h l u1 : Int} (d : Dg U y h l u1) {q r : Int} (e : q * h + r = U) (hb : q ≤ 4294967296) (hr : 4294967296 ≤ r) (hq : (U * 4294967296 + u1) / y ≤ q) : q = (U * 4294967296 + u1) / y := by
  have hl : q * l ≤ 4294967296 * 4294967295 := Int.mul_le_mul hb (by have := d.l1; omega) d.l0 (by decide)
  exact d.stop e (by have := d.u0; omega) hq

theorem phase2 {U y h l v1 : Int} (d : Dg U y h l v1) (v0 q : Int) (hv0 : 0 ≤ v0) (hv1 : v0 < 4294967296) (hy1 : y < 18446744073709551616) (hq : q = (U * 4294967296 + v1) / y) :
    ∃ A A2 C u q2 r2 : Int, IntKind.u64.wrap (U * 4294967296) = A ∧ IntKind.u64.wrap (A + v1) = A2 ∧ IntKind.u64.wrap (q * y) = C ∧ IntKind.u64.wrap (A2 - C) = u ∧ Dg u y h l v0 ∧
      IntKind.u64.wrap (u.tdiv h) = q2 ∧ IntKind.u64.wrap (u / h) = q2 ∧ IntKind.u64.wrap (u - IntKind.u64.wrap (q2 * h)) = r2 ∧ 0 ≤ q2 ∧ q2 ≤ 4294967297 ∧ 0 ≤ r2 ∧ r2 < 4294967296 ∧ 0 ≤ q ∧ q < 4294967296 ∧
      Hid (q2 * h + r2 = u ∧ (u * 4294967296 + v0) / y ≤ q2 ∧ u = U * 4294967296 + v1 - q * y) := by
  have hy0 : 0 < y := by have := d.U0; have := d.U1; omega
  have e1 := Int.mul_ediv_add_emod (U * 4294967296 + v1) y
  have e2 := Int.emod_nonneg (U * 4294967296 + v1) (show y ≠ 0 by omega)
  have e3 := Int.emod_lt_of_pos (U * 4294967296 + v1) hy0
  have ⟨e4, e5⟩ := d.q_lt
  rw [← hq] at e1 e4 e5
  rw [Int.mul_comm] at e1
  obtain ⟨u, eu⟩ : ∃ x, (U * 4294967296 + v1) % y = x := ⟨_, rfl⟩
  rw [eu] at e1 e2 e3
  have d2 : Dg u y h l v0 := ⟨d.y_eq, d.h0, d.h1, d.l0, d.l1, hv0, hv1, e2, e3⟩
  obtain ⟨s1, s2, s3, s4, s5, s6⟩ := d2.start
  have hh := d.h1
  refine ⟨_, _, _, u, u / h, u % h, rfl, rfl, rfl, ?_, d2, ?_, ?_, ?_, s3, s2, s5, by omega, e4, e5, s4, s1, by omega⟩
  · simp only [IntKind.wrap_u64]; omega
  · rw [Int.tdiv_eq_ediv_of_nonneg (by omega), IntKind.wrap_u64]; omega
  · rw [IntKind.wrap_u64]; omega
  · simp only [IntKind.wrap_u64]; omega

theorem quot_of {U y h l v1 v0 q u p v : Int} (d : Dg U y h l v1) (d2 : Dg u y h l v0) (hv : v = 4294967296 * v1 + v0) (hu : u = U * 4294967296 + v1 - q * y) (hp : p = (u * 4294967296 + v0) / y) : q * 4294967296 + p = (U * 18446744073709551616 + v) / y := by
  have hy0 : 0 < y := by have := d.U0; have := d.U1; omega
  have := d2.u0
  have e : U * 18446744073709551616 + v = (u * 4294967296 + v0) + y * (q * 4294967296) := by
    rw [hu, hv, ← Int.mul_assoc, Int.mul_comm y q]; omega
  rw [e, Int.add_mul_ediv_left _ _ (by omega), ← hp]
  omega

set_option maxHeartbeats 1000000 in
theorem div64_big (U v y : Int) (hU : 0 < U) (hUy : U < y) (hv : Pt v) (hy : 9223372036854775808 ≤ y) (hy1 : y < 18446744073709551616) (w : World) :
    Calls Try.prog 83 #[.int .u64 U, .int .u64 v, .int .u64 y] w fun e w' => ∃ q : Int, (∃ r : Int, e = .returned (.tuple #[.int .u64 q, .int .u64 r])) ∧ Hid (q = (U * 18446744073709551616 + v) / y) ∧ Below w.heap.size w w' := by
  obtain ⟨hv0, hv1⟩ := hv
  have z0 : (y == 0) = false := by simp; omega
  have z1 : (U == 0) = false := by simp; omega
  have z2 : ¬ y ≤ U := by omega
  have hlz : (64 - (Lib.bitLen y.toNat : Int)) = 0 := by
    obtain ⟨n, hn, H⟩ := lead_fact y ⟨by omega, hy1⟩ (by omega)
    have hh := H.out
    rw [hn]
    apply Decidable.byContradiction
    intro hc
    have : (2 : Int) ≤ 2 ^ n.toNat := by
      rw [show n.toNat = 1 + (n.toNat - 1) from by omega, Int.pow_add]
      have := pw_pos (n.toNat - 1)
      omega
    have := Int.mul_le_mul_of_nonneg_left (c := y) this (by omega)
    omega
  have hor : bits .or .u64 U (v / 18446744073709551616) = U := by
    rw [show v / 18446744073709551616 = 0 from by omega, u64_or U 0 (by omega) (by omega) (by decide) (by decide)]
    simp; omega
  have k0 := mask32 y (by omega) hy1
  have k1 := mask32 v hv0 hv1
  obtain ⟨l, el⟩ : ∃ x, y % 4294967296 = x := ⟨_, rfl⟩
  obtain ⟨h, eh⟩ : ∃ x, y / 4294967296 = x := ⟨_, rfl⟩
  obtain ⟨v0, ev0⟩ : ∃ x, v % 4294967296 = x := ⟨_, rfl⟩
  obtain ⟨v1, ev1⟩ : ∃ x, v / 4294967296 = x := ⟨_, rfl⟩
  rw [el] at k0; rw [ev0] at k1
  have d : Dg U y h l v1 := ⟨by omega, by omega, by omega, by omega, by omega, by omega, by omega, by omega, by omega⟩
  have hh0 : 2147483648 ≤ h := d.h0
  have hh1 : h < 4294967296 := d.h1
  obtain ⟨s1, s2, s3, s4, s5, s6⟩ := d.start
  obtain ⟨q0, eq0⟩ : ∃ x, U / h = x := ⟨_, rfl⟩
  obtain ⟨r0, er0⟩ : ∃ x, U % h = x := ⟨_, rfl⟩
  have m1 : IntKind.u64.wrap (U.tdiv h) = q0 := by rw [Int.tdiv_eq_ediv_of_nonneg (by omega), eq0, IntKind.wrap_u64]; omega
  have m2 : IntKind.u64.wrap (U / h) = q0 := by rw [eq0, IntKind.wrap_u64]; omega
  have m3 : IntKind.u64.wrap (U - IntKind.u64.wrap (q0 * h)) = r0 := by
    rw [eq0, er0] at s4
    rw [IntKind.wrap_u64, IntKind.wrap_u64]; omega
  rw [eq0, er0] at s4
  rw [eq0] at s1 s2 s3
  rw [er0] at s5 s6
  have S1 : Hid ((U * 4294967296 + v1) / y ≤ q0) := s1
  have S4 : Hid (q0 * h + r0 = U) := s4
  have E : Hid (y = 4294967296 * h + l) := d.y_eq
  have V : Hid (v = 4294967296 * v1 + v0) := by show _ = _; omega
  have hb0 : 0 ≤ v0 := by omega
  have hb1 : v0 < 4294967296 := by omega
  clear s1 s4 eq0 er0 el ev0
  have hl0 : 0 ≤ l := d.l0
  have hl1 : l < 4294967296 := d.l1
  have hv10 : 0 ≤ v1 := d.u0
  have hv11 : v1 < 4294967296 := d.u2
  go_enter Try.func83, Try.ntmps83
  go_wp2_with fail
  refine (lz64_any y ⟨by omega, hy1⟩ _).mono ?_
  rintro e w1 ⟨rfl, rfl⟩
  rw [hlz]
  clear hlz
  go_wp2
  clear m1 m2 m3 k0 hor
  go_loop [15, 16] (fun a b => ∃ q r : Int, a = .int .u64 q ∧ b = .int .u64 r ∧ 0 ≤ q ∧ q ≤ 4294967297 ∧ 0 ≤ r ∧ r < 4294967296 ∧ Hid (q * h + r = U ∧ (U * 4294967296 + v1) / y ≤ q)) (fun a _ => (intOf a).toNat)
  case atStart => exact ⟨q0, r0, rfl, rfl, s3, s2, s5, by omega, S4.out, S1.out⟩
  case round =>
    obtain ⟨q, r, rfl, rfl, g1, g2, g3, g4, G⟩ := hrel
    by_cases c1 : 4294967296 ≤ q
    · have G2 : Hid ((U * 4294967296 + v1) / y ≤ q - 1) := d.step G.out.1 (.inl c1)
      by_cases c2 : 4294967296 ≤ r + h
      · have G3 : Hid (q - 1 = (U * 4294967296 + v1) / y) := d.leave (by have := G.out.1; rw [Int.sub_mul]; omega) (by omega) c2 G2.out
        obtain ⟨A, A2, C, u, q2, r2, x1, x2, x3, x4, d2, x5, x6, x7, y1, y2, y3, y4, y5, y6, Z⟩ := phase2 d v0 (q - 1) hb0 hb1 hy1 G3.out
        go_wp2
        clear x1 x2 x3 x4 x5 x6 x7
        go_loop [18, 16] (fun a b => ∃ p r : Int, a = .int .u64 p ∧ b = .int .u64 r ∧ 0 ≤ p ∧ p ≤ 4294967297 ∧ 0 ≤ r ∧ r < 4294967296 ∧ Hid (p * h + r = u ∧ (u * 4294967296 + v0) / y ≤ p)) (fun a _ => (intOf a).toNat)
        case atStart => exact ⟨q2, r2, rfl, rfl, y1, y2, y3, y4, Z.out.1, Z.out.2.1⟩
        case round =>
          obtain ⟨p, r, rfl, rfl, j1, j2, j3, j4, J⟩ := hrel
          by_cases c1 : 4294967296 ≤ p
          · have J2 : Hid ((u * 4294967296 + v0) / y ≤ p - 1) := d2.step J.out.1 (.inl c1)
            by_cases c2 : 4294967296 ≤ r + h
            · have J3 : Hid (p - 1 = (u * 4294967296 + v0) / y) := d2.leave (by have := J.out.1; rw [Int.sub_mul]; omega) (by omega) c2 J2.out
              have j5 : p - 1 < 4294967296 := by have := d2.q_lt; have := J3.out; omega
              go_wp2
              go_ret2
              exact ⟨_, ⟨_, rfl⟩, quot_of d d2 V.out Z.out.2.2 J3.out, Below.refl _ _⟩
            · go_wp2
              exact ⟨⟨p - 1, r + h, rfl, rfl, by omega, by omega, by omega, by omega, by have := J.out.1; rw [Int.sub_mul]; omega, J2.out⟩, by simp [intOf]; omega⟩
          · obtain ⟨m2, hm2, EM2⟩ : ∃ m2, IntKind.u64.wrap (p * l) = m2 ∧ Hid (p * l = m2) := by
              refine ⟨p * l, ?_, rfl⟩
              have : p * l ≤ 4294967295 * 4294967295 := Int.mul_le_mul (by omega) (by omega) hl0 (by decide)
              have := Int.mul_nonneg j1 hl0
              rw [IntKind.wrap_u64]; omega
            by_cases c3 : 4294967296 * r + v0 < m2
            · have J2 : Hid ((u * 4294967296 + v0) / y ≤ p - 1) := d2.step J.out.1 (.inr (by rw [EM2.out]; exact c3))
              have j6 : 1 ≤ p := by have := d2.q_lt; have := J2.out; omega
              by_cases c2 : 4294967296 ≤ r + h
              · have J3 : Hid (p - 1 = (u * 4294967296 + v0) / y) := d2.leave (by have := J.out.1; rw [Int.sub_mul]; omega) (by omega) c2 J2.out
                go_wp2
                go_ret2
                exact ⟨_, ⟨_, rfl⟩, quot_of d d2 V.out Z.out.2.2 J3.out, Below.refl _ _⟩
              · go_wp2
                exact ⟨⟨p - 1, r + h, rfl, rfl, by omega, by omega, by omega, by omega, by have := J.out.1; rw [Int.sub_mul]; omega, J2.out⟩, by simp [intOf]; omega⟩
            · have J3 : Hid (p = (u * 4294967296 + v0) / y) := d2.stop J.out.1 (by rw [EM2.out]; omega) J.out.2
              go_wp2
              go_ret2
              exact ⟨_, ⟨_, rfl⟩, quot_of d d2 V.out Z.out.2.2 J3.out, Below.refl _ _⟩
      · go_wp2
        exact ⟨⟨q - 1, r + h, rfl, rfl, by omega, by omega, by omega, by omega, by have := G.out.1; rw [Int.sub_mul]; omega, G2.out⟩, by simp [intOf]; omega⟩
    · obtain ⟨m, hm, EM⟩ : ∃ m, IntKind.u64.wrap (q * l) = m ∧ Hid (q * l = m) := by
        refine ⟨q * l, ?_, rfl⟩
        have : q * l ≤ 4294967295 * 4294967295 := Int.mul_le_mul (by omega) (by omega) hl0 (by decide)
        have := Int.mul_nonneg g1 hl0
        rw [IntKind.wrap_u64]; omega
      by_cases c3 : 4294967296 * r + v1 < m
      · have G2 : Hid ((U * 4294967296 + v1) / y ≤ q - 1) := d.step G.out.1 (.inr (by rw [EM.out]; exact c3))
        have g5 : 1 ≤ q := by have := d.q_lt; have := G2.out; omega
        by_cases c2 : 4294967296 ≤ r + h
        · have G3 : Hid (q - 1 = (U * 4294967296 + v1) / y) := d.leave (by have := G.out.1; rw [Int.sub_mul]; omega) (by omega) c2 G2.out
          obtain ⟨A, A2, C, u, q2, r2, x1, x2, x3, x4, d2, x5, x6, x7, y1, y2, y3, y4, y5, y6, Z⟩ := phase2 d v0 (q - 1) hb0 hb1 hy1 G3.out
          go_wp2
          clear x1 x2 x3 x4 x5 x6 x7
          go_loop [18, 16] (fun a b => ∃ p r : Int, a = .int .u64 p ∧ b = .int .u64 r ∧ 0 ≤ p ∧ p ≤ 4294967297 ∧ 0 ≤ r ∧ r < 4294967296 ∧ Hid (p * h + r = u ∧ (u * 4294967296 + v0) / y ≤ p)) (fun a _ => (intOf a).toNat)
          case atStart => exact ⟨q2, r2, rfl, rfl, y1, y2, y3, y4, Z.out.1, Z.out.2.1⟩
          case round =>
            obtain ⟨p, r, rfl, rfl, j1, j2, j3, j4, J⟩ := hrel
            by_cases c1 : 4294967296 ≤ p
            · have J2 : Hid ((u * 4294967296 + v0) / y ≤ p - 1) := d2.step J.out.1 (.inl c1)
              by_cases c2 : 4294967296 ≤ r + h
              · have J3 : Hid (p - 1 = (u * 4294967296 + v0) / y) := d2.leave (by have := J.out.1; rw [Int.sub_mul]; omega) (by omega) c2 J2.out
                have j5 : p - 1 < 4294967296 := by have := d2.q_lt; have := J3.out; omega
                go_wp2
                go_ret2
                exact ⟨_, ⟨_, rfl⟩, quot_of d d2 V.out Z.out.2.2 J3.out, Below.refl _ _⟩
              · go_wp2
                exact ⟨⟨p - 1, r + h, rfl, rfl, by omega, by omega, by omega, by omega, by have := J.out.1; rw [Int.sub_mul]; omega, J2.out⟩, by simp [intOf]; omega⟩
            · obtain ⟨m2, hm2, EM2⟩ : ∃ m2, IntKind.u64.wrap (p * l) = m2 ∧ Hid (p * l = m2) := by
                refine ⟨p * l, ?_, rfl⟩
                have : p * l ≤ 4294967295 * 4294967295 := Int.mul_le_mul (by omega) (by omega) hl0 (by decide)
                have := Int.mul_nonneg j1 hl0
                rw [IntKind.wrap_u64]; omega
              by_cases c3 : 4294967296 * r + v0 < m2
              · have J2 : Hid ((u * 4294967296 + v0) / y ≤ p - 1) := d2.step J.out.1 (.inr (by rw [EM2.out]; exact c3))
                have j6 : 1 ≤ p := by have := d2.q_lt; have := J2.out; omega
                by_cases c2 : 4294967296 ≤ r + h
                · have J3 : Hid (p - 1 = (u * 4294967296 + v0) / y) := d2.leave (by have := J.out.1; rw [Int.sub_mul]; omega) (by omega) c2 J2.out
                  go_wp2
                  go_ret2
                  exact ⟨_, ⟨_, rfl⟩, quot_of d d2 V.out Z.out.2.2 J3.out, Below.refl _ _⟩
                · go_wp2
                  exact ⟨⟨p - 1, r + h, rfl, rfl, by omega, by omega, by omega, by omega, by have := J.out.1; rw [Int.sub_mul]; omega, J2.out⟩, by simp [intOf]; omega⟩
              · have J3 : Hid (p = (u * 4294967296 + v0) / y) := d2.stop J.out.1 (by rw [EM2.out]; omega) J.out.2
                go_wp2
                go_ret2
                exact ⟨_, ⟨_, rfl⟩, quot_of d d2 V.out Z.out.2.2 J3.out, Below.refl _ _⟩
        · go_wp2
          exact ⟨⟨q - 1, r + h, rfl, rfl, by omega, by omega, by omega, by omega, by have := G.out.1; rw [Int.sub_mul]; omega, G2.out⟩, by simp [intOf]; omega⟩
      · have G3 : Hid (q = (U * 4294967296 + v1) / y) := d.stop G.out.1 (by rw [EM.out]; omega) G.out.2
        obtain ⟨A, A2, C, u, q2, r2, x1, x2, x3, x4, d2, x5, x6, x7, y1, y2, y3, y4, y5, y6, Z⟩ := phase2 d v0 q hb0 hb1 hy1 G3.out
        go_wp2
        clear x1 x2 x3 x4 x5 x6 x7
        go_loop [18, 16] (fun a b => ∃ p r : Int, a = .int .u64 p ∧ b = .int .u64 r ∧ 0 ≤ p ∧ p ≤ 4294967297 ∧ 0 ≤ r ∧ r < 4294967296 ∧ Hid (p * h + r = u ∧ (u * 4294967296 + v0) / y ≤ p)) (fun a _ => (intOf a).toNat)
        case atStart => exact ⟨q2, r2, rfl, rfl, y1, y2, y3, y4, Z.out.1, Z.out.2.1⟩
        case round =>
          obtain ⟨p, r, rfl, rfl, j1, j2, j3, j4, J⟩ := hrel
          by_cases c1 : 4294967296 ≤ p
          · have J2 : Hid ((u * 4294967296 + v0) / y ≤ p - 1) := d2.step J.out.1 (.inl c1)
            by_cases c2 : 4294967296 ≤ r + h
            · have J3 : Hid (p - 1 = (u * 4294967296 + v0) / y) := d2.leave (by have := J.out.1; rw [Int.sub_mul]; omega) (by omega) c2 J2.out
              have j5 : p - 1 < 4294967296 := by have := d2.q_lt; have := J3.out; omega
              go_wp2
              go_ret2
              exact ⟨_, ⟨_, rfl⟩, quot_of d d2 V.out Z.out.2.2 J3.out, Below.refl _ _⟩
            · go_wp2
              exact ⟨⟨p - 1, r + h, rfl, rfl, by omega, by omega, by omega, by omega, by have := J.out.1; rw [Int.sub_mul]; omega, J2.out⟩, by simp [intOf]; omega⟩
          · obtain ⟨m2, hm2, EM2⟩ : ∃ m2, IntKind.u64.wrap (p * l) = m2 ∧ Hid (p * l = m2) := by
              refine ⟨p * l, ?_, rfl⟩
              have : p * l ≤ 4294967295 * 4294967295 := Int.mul_le_mul (by omega) (by omega) hl0 (by decide)
              have := Int.mul_nonneg j1 hl0
              rw [IntKind.wrap_u64]; omega
            by_cases c3 : 4294967296 * r + v0 < m2
            · have J2 : Hid ((u * 4294967296 + v0) / y ≤ p - 1) := d2.step J.out.1 (.inr (by rw [EM2.out]; exact c3))
              have j6 : 1 ≤ p := by have := d2.q_lt; have := J2.out; omega
              by_cases c2 : 4294967296 ≤ r + h
              · have J3 : Hid (p - 1 = (u * 4294967296 + v0) / y) := d2.leave (by have := J.out.1; rw [Int.sub_mul]; omega) (by omega) c2 J2.out
                go_wp2
                go_ret2
                exact ⟨_, ⟨_, rfl⟩, quot_of d d2 V.out Z.out.2.2 J3.out, Below.refl _ _⟩
              · go_wp2
                exact ⟨⟨p - 1, r + h, rfl, rfl, by omega, by omega, by omega, by omega, by have := J.out.1; rw [Int.sub_mul]; omega, J2.out⟩, by simp [intOf]; omega⟩
            · have J3 : Hid (p = (u * 4294967296 + v0) / y) := d2.stop J.out.1 (by rw [EM2.out]; omega) J.out.2
              go_wp2
              go_ret2
              exact ⟨_, ⟨_, rfl⟩, quot_of d d2 V.out Z.out.2.2 J3.out, Below.refl _ _⟩

set_option maxHeartbeats 1000000 in
theorem div64_zero (v y : Int) (hv : Pt v) (hy : 9223372036854775808 ≤ y) (hy1 : y < 18446744073709551616) (w : World) :
    Calls Try.prog 83 #[.int .u64 0, .int .u64 v, .int .u64 y] w fun e w' => ∃ q : Int, (∃ r : Int, e = .returned (.tuple #[.int .u64 q, .int .u64 r])) ∧ Hid (q = v / y) ∧ Below w.heap.size w w' := by
  obtain ⟨hv0, hv1⟩ := hv
  have z0 : (y == 0) = false := by simp; omega
  have z2 : ¬ y ≤ 0 := by omega
  have z3 : ¬ y = 0 := by omega
  have b1 : 0 ≤ v / y := Int.ediv_nonneg hv0 (by omega)
  have b2 : v / y ≤ v := Int.ediv_le_self _ hv0
  have b3 := Int.emod_nonneg v z3
  have b4 := Int.emod_lt_of_pos v (show 0 < y by omega)
  obtain ⟨q, eq⟩ : ∃ x, v / y = x := ⟨_, rfl⟩
  rw [eq] at b1 b2
  have m1 : IntKind.u64.wrap (v.tdiv y) = q := by rw [Int.tdiv_eq_ediv_of_nonneg hv0, eq, IntKind.wrap_u64]; omega
  have m2 : IntKind.u64.wrap (v / y) = q := by rw [eq, IntKind.wrap_u64]; omega
  have E : Hid (q = v / y) := eq.symm
  clear eq
  go_enter Try.func83, Try.ntmps83
  go_wp2
  go_region
  go_wp2
  go_ret2
  exact ⟨q, ⟨_, rfl⟩, E, by go_grown⟩

theorem div64_any (U v y : Int) (hU : 0 ≤ U) (hUy : U < y) (hv : Pt v) (hy : 9223372036854775808 ≤ y) (hy1 : y < 18446744073709551616) (w : World) :
    Calls Try.prog 83 #[.int .u64 U, .int .u64 v, .int .u64 y] w fun e w' => ∃ q : Int, (∃ r : Int, e = .returned (.tuple #[.int .u64 q, .int .u64 r])) ∧ Hid (q = (U * 18446744073709551616 + v) / y) ∧ Below w.heap.size w w' := by
  by_cases h : U = 0
  · subst h
    refine (div64_zero v y hv hy hy1 w).mono ?_
    rintro e w1 ⟨q, hr, hq, hb⟩
    exact ⟨q, hr, by have := hq.out; rw [this]; simp [Hid], hb⟩
  · exact div64_big U v y (by omega) hUy hv hy hy1 w
end Go.Proofs.Ytgapcjdgakamoaa
