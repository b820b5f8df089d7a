/- What Mul64 and times do at this translation: whole products of parts, whatever the memory. -/
import Derived.Test.YtgapcjdgakamoaaW2
import Derived.Test.YtgapcjdgakamoaaPlain
namespace Go.Proofs.Ytgapcjdgakamoaa
open Go.RowKit

theorem mask32 (x : Int) (h0 : 0 ≤ x) (h1 : x < 18446744073709551616) : bits .and .u64 x 4294967295 = x % 4294967296 := by
  rw [u64_and x 4294967295 h0 h1 (by decide) (by decide)]
  have e : x.toNat &&& (4294967295 : Int).toNat = x.toNat % 4294967296 := Nat.and_two_pow_sub_one_eq_mod x.toNat 32
  rw [e]
  omega

theorem half_mul (a b : Int) (ha0 : 0 ≤ a) (ha : a ≤ 4294967295) (hb0 : 0 ≤ b) (hb : b ≤ 4294967295) : ∃ p : Int, IntKind.u64.wrap (a * b) = p ∧ 0 ≤ p ∧ p ≤ 18446744065119617025 ∧ Hid (p = a * b) := by
  have h1 : a * b ≤ 4294967295 * 4294967295 := Int.mul_le_mul ha hb hb0 (by decide)
  have h2 : 0 ≤ a * b := Int.mul_nonneg ha0 hb0
  refine ⟨a * b, ?_, h2, by omega, rfl⟩
  rw [IntKind.wrap_u64]; omega

theorem mul_parts (x1 x0 y1 y0 : Int) : (4294967296 * x1 + x0) * (4294967296 * y1 + y0) = 18446744073709551616 * (x1 * y1) + 4294967296 * (x1 * y0 + x0 * y1) + x0 * y0 := by
  rw [Int.add_mul, Int.mul_add, Int.mul_add, Int.mul_assoc, Int.mul_left_comm x1, ← Int.mul_assoc, Int.mul_assoc 4294967296 x1, Int.mul_left_comm x0]
  omega

set_option maxHeartbeats 1000000 in
theorem mul64_any (x y : Int) (hx : Pt x) (hy : Pt y) (w : World) :
    Calls Try.prog 80 #[.int .u64 x, .int .u64 y] w fun e w' => ∃ h l : Int, e = .returned (.tuple #[.int .u64 h, .int .u64 l]) ∧ Hid (Pt h ∧ Pt l ∧ l + 18446744073709551616 * h = x * y) ∧ w' = w := by
  obtain ⟨hx0, hx1⟩ := hx
  obtain ⟨hy0, hy1⟩ := hy
  have k0 := mask32 x hx0 hx1
  have k1 := mask32 y hy0 hy1
  obtain ⟨xl, exl⟩ : ∃ v, x % 4294967296 = v := ⟨_, rfl⟩
  obtain ⟨xh, exh⟩ : ∃ v, x / 4294967296 = v := ⟨_, rfl⟩
  obtain ⟨yl, eyl⟩ : ∃ v, y % 4294967296 = v := ⟨_, rfl⟩
  obtain ⟨yh, eyh⟩ : ∃ v, y / 4294967296 = v := ⟨_, rfl⟩
  rw [exl] at k0; rw [eyl] at k1
  have b1 : 0 ≤ xl := by omega
  have b2 : xl ≤ 4294967295 := by omega
  have b3 : 0 ≤ xh := by omega
  have b4 : xh ≤ 4294967295 := by omega
  have b5 : 0 ≤ yl := by omega
  have b6 : yl ≤ 4294967295 := by omega
  have b7 : 0 ≤ yh := by omega
  have b8 : yh ≤ 4294967295 := by omega
  obtain ⟨p0, q0, c0, d0, f0⟩ := half_mul xl yl b1 b2 b5 b6
  obtain ⟨p1, q1, c1, d1, f1⟩ := half_mul xh yl b3 b4 b5 b6
  obtain ⟨p2, q2, c2, d2, f2⟩ := half_mul xl yh b1 b2 b7 b8
  obtain ⟨p3, q3, c3, d3, f3⟩ := half_mul xh yh b3 b4 b7 b8
  have k2 := mask32 (p1 + p0 / 4294967296) (by omega) (by omega)
  have X : Hid (x = 4294967296 * xh + xl) := by show _ = _; omega
  have Y : Hid (y = 4294967296 * yh + yl) := by show _ = _; omega
  have hl := IntKind.wrap_u64 (x * y)
  clear exl eyl
  go_enter Try.func80, Try.ntmps80
  go_wp2
  go_ret2
  refine ⟨_, _, rfl, ?_, rfl⟩
  have e : x * y = 18446744073709551616 * p3 + 4294967296 * (p1 + p2) + p0 := by
    have := mul_parts xh xl yh yl
    rw [← X.out, ← Y.out, ← f0.out, ← f1.out, ← f2.out, ← f3.out] at this
    exact this
  exact ⟨⟨by omega, by omega⟩, ⟨by omega, by omega⟩, by omega⟩

/-- One part of a product: what Add64 and the sum above it are. -/
theorem mul_step (x n u h l : Int) (hx : Pt x) (hn : Pt n) (hu : Pt u) (H : Pt h ∧ Pt l ∧ l + 18446744073709551616 * h = x * n) : ∃ s c v : Int,
    (∀ w : World, (callFunc 73 #[.int .u64 l, .int .u64 u, .int .u64 0]).run Try.prog w = .ok (.value (.tuple #[.int .u64 s, .int .u64 c])) w) ∧ IntKind.u64.wrap (h + c) = v ∧ Hid (Pt s ∧ Pt v ∧ s + 18446744073709551616 * v = x * n + u) := by
  obtain ⟨hh, hl, e⟩ := H
  obtain ⟨s, c, q, f⟩ := add64v l u 0 hl hu (by decide) (by decide)
  obtain ⟨f1, f2, f3, f4⟩ := f.out
  obtain ⟨hx0, hx1⟩ := hx
  obtain ⟨hn0, hn1⟩ := hn
  obtain ⟨hu0, hu1⟩ := hu
  obtain ⟨hh0, hh1⟩ := hh
  obtain ⟨hl0, hl1⟩ := hl
  have g : x * n ≤ 18446744073709551615 * 18446744073709551615 := Int.mul_le_mul (by omega) (by omega) hn0 (by decide)
  refine ⟨s, c, h + c, q, ?_, f1, ⟨by omega, by omega⟩, by omega⟩
  rw [IntKind.wrap_u64]; omega

theorem index4 (a0 a1 a2 a3 : Int) (w : World) :
    (Instr.index 24 (.agg #[.int .u64 a0, .int .u64 a1, .int .u64 a2, .int .u64 a3]) (.int .i64 0)).run Try.prog w = .ok (.int .u64 a0) w ∧ (Instr.index 24 (.agg #[.int .u64 a0, .int .u64 a1, .int .u64 a2, .int .u64 a3]) (.int .i64 1)).run Try.prog w = .ok (.int .u64 a1) w ∧
    (Instr.index 24 (.agg #[.int .u64 a0, .int .u64 a1, .int .u64 a2, .int .u64 a3]) (.int .i64 2)).run Try.prog w = .ok (.int .u64 a2) w ∧ (Instr.index 24 (.agg #[.int .u64 a0, .int .u64 a1, .int .u64 a2, .int .u64 a3]) (.int .i64 3)).run Try.prog w = .ok (.int .u64 a3) w := by
  refine ⟨?_, ?_, ?_, ?_⟩ <;> simp [Instr.index, asIntOf, run_underlying Try.underlying24, go_sem]

set_option maxHeartbeats 1000000 in
theorem times_any (a0 a1 a2 a3 n : Int) (ha : Ws a0 a1 a2 a3) (hn : Pt n) (w : World) :
    Calls Try.prog 75 #[.agg #[.int .u64 a0, .int .u64 a1, .int .u64 a2, .int .u64 a3], .int .u64 n] w fun e w' =>
      ∃ r0 r1 r2 r3 u : Int, e = .returned (.tuple #[.agg #[.int .u64 r0, .int .u64 r1, .int .u64 r2, .int .u64 r3], .int .u64 u]) ∧ Ws r0 r1 r2 r3 ∧ Hid (Pt u ∧ val r0 r1 r2 r3 + 115792089237316195423570985008687907853269984665640564039457584007913129639936 * u = val a0 a1 a2 a3 * n) ∧ Below w.heap.size w w' := by
  obtain ⟨ha0, ha1, ha2, ha3⟩ := ha
  have ho : Pt 0 := ⟨by decide, by decide⟩
  have i0 := fun w => (index4 a0 a1 a2 a3 w).1
  have i1 := fun w => (index4 a0 a1 a2 a3 w).2.1
  have i2 := fun w => (index4 a0 a1 a2 a3 w).2.2.1
  have i3 := fun w => (index4 a0 a1 a2 a3 w).2.2.2
  go_enter Try.func75, Try.ntmps75
  go_wp2
  refine wp_loop_rounds 5 ?_
  rw [rounds_succ]; go_wp2_with fail
  refine (mul64_any a0 n ha0 hn _).mono ?_
  rintro e w1 ⟨h0, l0, rfl, H0, rfl⟩
  obtain ⟨s0, c0, u0, q0, p0, G0⟩ := mul_step a0 n 0 h0 l0 ha0 hn ho H0.out
  go_wp2
  rw [rounds_succ]; go_wp2_with fail
  refine (mul64_any a1 n ha1 hn _).mono ?_
  rintro e w2 ⟨h1, l1, rfl, H1, rfl⟩
  obtain ⟨s1, c1, u1, q1, p1, G1⟩ := mul_step a1 n u0 h1 l1 ha1 hn G0.out.2.1 H1.out
  go_wp2
  rw [rounds_succ]; go_wp2_with fail
  refine (mul64_any a2 n ha2 hn _).mono ?_
  rintro e w3 ⟨h2, l2, rfl, H2, rfl⟩
  obtain ⟨s2, c2, u2, q2, p2, G2⟩ := mul_step a2 n u1 h2 l2 ha2 hn G1.out.2.1 H2.out
  go_wp2
  rw [rounds_succ]; go_wp2_with fail
  refine (mul64_any a3 n ha3 hn _).mono ?_
  rintro e w4 ⟨h3, l3, rfl, H3, rfl⟩
  obtain ⟨s3, c3, u3, q3, p3, G3⟩ := mul_step a3 n u2 h3 l3 ha3 hn G2.out.2.1 H3.out
  go_wp2
  rw [rounds_succ]; go_wp2
  refine bodyPost_ret (v := .tuple #[.agg #[.int .u64 s0, .int .u64 s1, .int .u64 s2, .int .u64 s3], .int .u64 u3]) (by simp [results, Try.results75, go_sem]) rfl ⟨s0, s1, s2, s3, u3, rfl, ⟨G0.out.1, G1.out.1, G2.out.1, G3.out.1⟩, ?_, ?_⟩
  · refine ⟨G3.out.2.1, ?_⟩
    have := G0.out.2.2; have := G1.out.2.2; have := G2.out.2.2; have := G3.out.2.2
    unfold val
    simp only [Int.add_mul, Int.mul_assoc]
    omega
  · go_grown
end Go.Proofs.Ytgapcjdgakamoaa
