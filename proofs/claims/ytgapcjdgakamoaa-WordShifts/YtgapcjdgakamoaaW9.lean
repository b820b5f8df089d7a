/- What digit does at this translation: one part of a quotient, and what is left, where the divisor's highest bit is set. -/
import Derived.Test.YtgapcjdgakamoaaW8
namespace Go.Proofs.Ytgapcjdgakamoaa
open Go.RowKit

/-- How a guess stands: what is left of N behind g times D is a word r and, above it, a number that is 0, -1 or -2, of which A is the part. -/
def Stands (N D g r A : Int) : Prop := ∃ s : Int, r + 115792089237316195423570985008687907853269984665640564039457584007913129639936 * s = N - D * g ∧ A = s % 18446744073709551616 ∧ -2 ≤ s ∧ s ≤ 0

theorem Stands.zero {N D g r A : Int} (h : Stands N D g r A) (hr0 : 0 ≤ r) (hr : r < 115792089237316195423570985008687907853269984665640564039457584007913129639936) (hx : 0 ≤ N - D * g) : (A != 0) = false ∧ r = N - D * g := by
  obtain ⟨s, h1, h2, h3, h4⟩ := h
  have : s = 0 := by omega
  subst this
  exact ⟨by simp [h2], by omega⟩

theorem Stands.more {N D g r A : Int} (h : Stands N D g r A) (hr0 : 0 ≤ r) (hx : N - D * g < 0) : (A != 0) = true := by
  obtain ⟨s, h1, h2, h3, h4⟩ := h
  have : s = -1 ∨ s = -2 := by omega
  rcases this with rfl | rfl <;> (rw [h2]; decide)

theorem Stands.next {N D g r A : Int} (h : Stands N D g r A) (r' c : Int) (hr0 : 0 ≤ r) (hr0' : 0 ≤ r') (hr' : r' < 115792089237316195423570985008687907853269984665640564039457584007913129639936) (hx : N - D * g < 0) (hD : D ≤ 115792089237316195423570985008687907853269984665640564039457584007913129639936) (hc0 : 0 ≤ c) (hc1 : c ≤ 1) (e : r' + 115792089237316195423570985008687907853269984665640564039457584007913129639936 * c = r + D) :
    ∃ A' : Int, IntKind.u64.wrap (A + c) = A' ∧ Hid (Stands N D (g - 1) r' A') := by
  obtain ⟨s, h1, h2, h3, h4⟩ := h
  refine ⟨_, rfl, s + c, ?_, ?_, by omega, ?_⟩
  · rw [Int.mul_sub]; omega
  · rw [IntKind.wrap_u64, h2]; omega
  · omega

theorem Stands.first (N D g a n t ta bo r : Int) (hN : N = a * 115792089237316195423570985008687907853269984665640564039457584007913129639936 + n) (hD : D ≤ 115792089237316195423570985008687907853269984665640564039457584007913129639936) (hx1 : N - D * g < D) (hx2 : - (2 * D) ≤ N - D * g) (hr0 : 0 ≤ r) (hr : r < 115792089237316195423570985008687907853269984665640564039457584007913129639936) (e1 : t + 115792089237316195423570985008687907853269984665640564039457584007913129639936 * ta = D * g) (e2 : r - 115792089237316195423570985008687907853269984665640564039457584007913129639936 * bo = n - t) :
    ∃ b A : Int, IntKind.u64.wrap (ta + bo) = b ∧ IntKind.u64.wrap (a - b) = A ∧ Hid (Stands N D g r A) := by
  refine ⟨_, _, rfl, rfl, a - ta - bo, by omega, ?_, by omega, by omega⟩
  simp only [IntKind.wrap_u64]; omega

/-- The guess out of the two highest parts is at most 2 too great. -/
theorem guess_fits (a n0 n1 n2 n3 d0 d1 d2 d3 g : Int) (hn : Ws n0 n1 n2 n3) (hd : Ws d0 d1 d2 d3) (h3 : 9223372036854775808 ≤ d3) (ha : 0 ≤ a) (hN : a * 115792089237316195423570985008687907853269984665640564039457584007913129639936 + val n0 n1 n2 n3 < val d0 d1 d2 d3 * 18446744073709551616)
    (hg : (a < d3 ∧ g = (a * 18446744073709551616 + n3) / d3) ∨ (d3 ≤ a ∧ g = 18446744073709551615)) :
    0 ≤ g ∧ g < 18446744073709551616 ∧ a * 115792089237316195423570985008687907853269984665640564039457584007913129639936 + val n0 n1 n2 n3 - val d0 d1 d2 d3 * g < val d0 d1 d2 d3 ∧ - (2 * val d0 d1 d2 d3) ≤ a * 115792089237316195423570985008687907853269984665640564039457584007913129639936 + val n0 n1 n2 n3 - val d0 d1 d2 d3 * g := by
  obtain ⟨⟨_, _⟩, ⟨_, _⟩, ⟨_, _⟩, ⟨_, _⟩⟩ := hn
  obtain ⟨⟨_, _⟩, ⟨_, _⟩, ⟨_, _⟩, ⟨_, _⟩⟩ := hd
  obtain ⟨L, eL⟩ : ∃ L, d0 + 18446744073709551616 * d1 + 340282366920938463463374607431768211456 * d2 = L := ⟨_, rfl⟩
  have hL0 : 0 ≤ L := by omega
  have hL1 : L < 6277101735386680763835789423207666416102355444464034512896 := by omega
  have hD : val d0 d1 d2 d3 = L + 6277101735386680763835789423207666416102355444464034512896 * d3 := by unfold val; omega
  obtain ⟨M, eM⟩ : ∃ L, n0 + 18446744073709551616 * n1 + 340282366920938463463374607431768211456 * n2 = L := ⟨_, rfl⟩
  have hM0 : 0 ≤ M := by omega
  have hM1 : M < 6277101735386680763835789423207666416102355444464034512896 := by omega
  have hn : val n0 n1 n2 n3 = M + 6277101735386680763835789423207666416102355444464034512896 * n3 := by unfold val; omega
  rw [hD] at hN ⊢
  rw [hn] at hN ⊢
  rcases hg with ⟨hlt, hg⟩ | ⟨hge, hg⟩
  · have e1 := Int.mul_ediv_add_emod (a * 18446744073709551616 + n3) d3
    have e2 := Int.emod_nonneg (a * 18446744073709551616 + n3) (show d3 ≠ 0 by omega)
    have e3 := Int.emod_lt_of_pos (a * 18446744073709551616 + n3) (show 0 < d3 by omega)
    have g0 : 0 ≤ (a * 18446744073709551616 + n3) / d3 := Int.ediv_nonneg (by omega) (by omega)
    have g1 : (a * 18446744073709551616 + n3) / d3 < 18446744073709551616 := Int.ediv_lt_of_lt_mul (by omega) (by omega)
    rw [← hg] at e1 g0 g1
    have p0 : 0 ≤ L * g := Int.mul_nonneg hL0 g0
    have p1 : L * g ≤ 6277101735386680763835789423207666416102355444464034512896 * 18446744073709551616 := Int.mul_le_mul (by omega) (by omega) g0 (by decide)
    rw [Int.add_mul, Int.mul_assoc]
    refine ⟨g0, g1, by omega, by omega⟩
  · subst hg
    rw [Int.add_mul, Int.mul_assoc] at *
    refine ⟨by decide, by decide, by omega, by omega⟩

theorem qr_of (N D g r : Int) (hD : 0 < D) (h0 : 0 ≤ N - D * g) (h1 : N - D * g < D) (e : r = N - D * g) : g = N / D ∧ r = N % D := by
  have := (Int.ediv_emod_unique (a := N) (b := D) (r := r) (q := g) hD).2 ⟨by omega, by omega, by omega⟩
  exact ⟨this.1.symm, this.2.symm⟩

set_option maxHeartbeats 2000000 in
theorem digit_lo (a n0 n1 n2 n3 d0 d1 d2 d3 : Int) (ha : Pt a) (hn : Ws n0 n1 n2 n3) (hd : Ws d0 d1 d2 d3) (h3 : 9223372036854775808 ≤ d3) (hN : a * 115792089237316195423570985008687907853269984665640564039457584007913129639936 + val n0 n1 n2 n3 < val d0 d1 d2 d3 * 18446744073709551616) (hlt : a < d3) (w : World) :
    Calls Try.prog 78 #[.int .u64 a, .agg #[.int .u64 n0, .int .u64 n1, .int .u64 n2, .int .u64 n3], .agg #[.int .u64 d0, .int .u64 d1, .int .u64 d2, .int .u64 d3]] w fun e w' =>
      ∃ q r0 r1 r2 r3 : Int, e = .returned (.tuple #[.int .u64 q, .agg #[.int .u64 r0, .int .u64 r1, .int .u64 r2, .int .u64 r3]]) ∧ Ws r0 r1 r2 r3 ∧ Hid (Pt q ∧ q = (a * 115792089237316195423570985008687907853269984665640564039457584007913129639936 + val n0 n1 n2 n3) / val d0 d1 d2 d3 ∧ val r0 r1 r2 r3 = (a * 115792089237316195423570985008687907853269984665640564039457584007913129639936 + val n0 n1 n2 n3) % val d0 d1 d2 d3) ∧ Below w.heap.size w w' := by
  have hd3 : Pt d3 := hd.2.2.2
  have hn3 : Pt n3 := hn.2.2.2
  have ha0 : 0 ≤ a := ha.1
  go_enter Try.func78, Try.ntmps78
  go_wp2_with fail
  refine (div64_any a n3 d3 ha.1 hlt hn3 h3 hd3.2 _).mono ?_
  rintro e w1 ⟨g, ⟨gr, rfl⟩, hg, hb1⟩
  obtain ⟨hc1, hf1⟩ := oldKept hb1
  have hs1 : w.heap.size + 2 < w1.heap.size := by have := hb1.size; simp at this; omega
  have ht1 : w.heap.size + 1 < w1.heap.size := by omega
  have hu1 : w.heap.size < w1.heap.size := by omega
  obtain ⟨g0, g1, x1, x2⟩ := guess_fits a n0 n1 n2 n3 d0 d1 d2 d3 g hn hd h3 ha.1 hN (.inl ⟨hlt, hg.out⟩)
  have X1 : Hid (_ < _) := x1
  have X2 : Hid (_ ≤ _) := x2
  clear x1 x2
  go_wp2_with fail
  refine (times_any d0 d1 d2 d3 g hd ⟨g0, g1⟩ _).mono ?_
  rintro e w2 ⟨t0, t1, t2, t3, ta, rfl, ht, hT, hb2⟩
  obtain ⟨hc2, hf2⟩ := oldKept hb2
  have hs2 : w.heap.size + 2 < w2.heap.size := by have := hb2.size; omega
  have ht2 : w.heap.size + 1 < w2.heap.size := by omega
  have hu2 : w.heap.size < w2.heap.size := by omega
  have hv2 : w.heap.size < w2.heap.size + 1 := by omega
  go_wp2_with fail
  refine (minus_any n0 n1 n2 n3 t0 t1 t2 t3 hn ht _).mono ?_
  rintro e w3 ⟨r0, r1, r2, r3, bo, rfl, hr, hR, hb3⟩
  obtain ⟨hc3, hf3⟩ := oldKept hb3
  have hs3 : w2.heap.size < w3.heap.size := by have := hb3.size; simp at this; omega
  have ht3 : w.heap.size + 2 < w3.heap.size := by omega
  have hu3 : w.heap.size + 1 < w3.heap.size := by omega
  have hv3 : w.heap.size < w3.heap.size := by omega
  obtain ⟨b1, A, p1, p2, ST⟩ := Stands.first (a * 115792089237316195423570985008687907853269984665640564039457584007913129639936 + val n0 n1 n2 n3) (val d0 d1 d2 d3) g a (val n0 n1 n2 n3) (val t0 t1 t2 t3) ta bo (val r0 r1 r2 r3) rfl (by have := val_bd _ _ _ _ hd; omega) X1.out X2.out (val_bd _ _ _ _ hr).1 (val_bd _ _ _ _ hr).2 hT.out.2 hR.out.2.2
  have hDp : 0 < val d0 d1 d2 d3 := by have := hd; obtain ⟨⟨_, _⟩, ⟨_, _⟩, ⟨_, _⟩, ⟨_, _⟩⟩ := this; unfold val; omega
  have hDm : val d0 d1 d2 d3 ≤ 115792089237316195423570985008687907853269984665640564039457584007913129639936 := by have := val_bd _ _ _ _ hd; omega
  go_wp2
  refine wp_loop_rounds 3 ?_
  by_cases k : 0 ≤ (a * 115792089237316195423570985008687907853269984665640564039457584007913129639936 + val n0 n1 n2 n3) - val d0 d1 d2 d3 * g
  · obtain ⟨z, er⟩ := ST.out.zero (val_bd _ _ _ _ hr).1 (val_bd _ _ _ _ hr).2 k
    obtain ⟨f1, f2⟩ := qr_of _ _ _ _ hDp k X1.out er
    have F1 : Hid (_ = _) := f1
    have F2 : Hid (_ = _) := f2
    clear f1 f2 er
    rw [rounds_succ]
    go_wp2
    go_region
    go_wp2
    refine bodyPost_ret (v := .tuple #[.int .u64 g, .agg #[.int .u64 r0, .int .u64 r1, .int .u64 r2, .int .u64 r3]]) (by simp [results, Try.results78, go_sem, *]) rfl ⟨g, r0, r1, r2, r3, rfl, hr, ⟨⟨g0, g1⟩, F1.out, F2.out⟩, ?_⟩
    have B1 := belowStep (n := w.heap.size) (w := w) (by go_grown) (by simp <;> omega) hb1
    have B2 := belowStep B1 (by omega) hb2
    have B3 := belowStep (B2.alloc (by omega) _) (by simp <;> omega) hb3
    go_grown
  · have z := ST.out.more (val_bd _ _ _ _ hr).1 (by omega)
    have g2 : 1 ≤ g := by
      apply Decidable.byContradiction
      intro hc
      have := Int.mul_nonneg (a := val d0 d1 d2 d3) (b := - (g)) (by omega) (by omega)
      rw [Int.mul_neg] at this
      have := (val_bd _ _ _ _ hn).1
      omega
    rw [rounds_succ]
    go_wp2_with fail
    refine (plus_any r0 r1 r2 r3 d0 d1 d2 d3 hr hd _).mono ?_
    rintro e w4 ⟨m0, m1, m2, m3, c4, rfl, hm, hP4, hb4⟩
    obtain ⟨hc4, hf4⟩ := oldKept hb4
    obtain ⟨A4, p4, S4⟩ := ST.out.next (val m0 m1 m2 m3) c4 (val_bd _ _ _ _ hr).1 (val_bd _ _ _ _ hm).1 (val_bd _ _ _ _ hm).2 (by omega) hDm hP4.out.1 hP4.out.2.1 hP4.out.2.2
    have hs4 : w3.heap.size < w4.heap.size := by have := hb4.size; simp at this; omega
    have ht4 : w.heap.size + 2 < w4.heap.size := by omega
    have hu4 : w.heap.size + 1 < w4.heap.size := by omega
    have hv4 : w.heap.size < w4.heap.size := by omega
    go_wp2
    clear z
    have k' : (a * 115792089237316195423570985008687907853269984665640564039457584007913129639936 + val n0 n1 n2 n3) - val d0 d1 d2 d3 * (g - 1) < val d0 d1 d2 d3 := by rw [Int.mul_sub]; omega
    clear k
    by_cases k : 0 ≤ (a * 115792089237316195423570985008687907853269984665640564039457584007913129639936 + val n0 n1 n2 n3) - val d0 d1 d2 d3 * (g - 1)
    · obtain ⟨z, er⟩ := S4.out.zero (val_bd _ _ _ _ hm).1 (val_bd _ _ _ _ hm).2 k
      obtain ⟨f1, f2⟩ := qr_of _ _ _ _ hDp k k' er
      have F1 : Hid (_ = _) := f1
      have F2 : Hid (_ = _) := f2
      clear f1 f2 er
      rw [rounds_succ]
      go_wp2
      go_region
      go_wp2
      refine bodyPost_ret (v := .tuple #[.int .u64 (g - 1), .agg #[.int .u64 m0, .int .u64 m1, .int .u64 m2, .int .u64 m3]]) (by simp [results, Try.results78, go_sem, *]) rfl ⟨(g - 1), m0, m1, m2, m3, rfl, hm, ⟨⟨by omega, by omega⟩, F1.out, F2.out⟩, ?_⟩
      have B1 := belowStep (n := w.heap.size) (w := w) (by go_grown) (by simp <;> omega) hb1
      have B2 := belowStep B1 (by omega) hb2
      have B3 := belowStep (B2.alloc (by omega) _) (by simp <;> omega) hb3
      have B4 := belowStep (B3.alloc (by omega) _) (by simp <;> omega) hb4
      go_grown
    · have z := S4.out.more (val_bd _ _ _ _ hm).1 (by omega)
      have g2 : 1 ≤ (g - 1) := by
        apply Decidable.byContradiction
        intro hc
        have := Int.mul_nonneg (a := val d0 d1 d2 d3) (b := - ((g - 1))) (by omega) (by omega)
        rw [Int.mul_neg] at this
        have := (val_bd _ _ _ _ hn).1
        omega
      rw [rounds_succ]
      go_wp2_with fail
      refine (plus_any m0 m1 m2 m3 d0 d1 d2 d3 hm hd _).mono ?_
      rintro e w5 ⟨k0, k1, k2, k3, c5, rfl, hk, hP5, hb5⟩
      obtain ⟨hc5, hf5⟩ := oldKept hb5
      obtain ⟨A5, p5, S5⟩ := S4.out.next (val k0 k1 k2 k3) c5 (val_bd _ _ _ _ hm).1 (val_bd _ _ _ _ hk).1 (val_bd _ _ _ _ hk).2 (by omega) hDm hP5.out.1 hP5.out.2.1 hP5.out.2.2
      have hs5 : w3.heap.size < w5.heap.size := by have := hb5.size; simp at this; omega
      have ht5 : w.heap.size + 2 < w5.heap.size := by omega
      have hu5 : w.heap.size + 1 < w5.heap.size := by omega
      have hv5 : w.heap.size < w5.heap.size := by omega
      have o0 : w5.cell? ⟨w3.heap.size, 0, none⟩ = some (.int .u64 m0) := (hc5 _ 0 (by simp <;> omega)).trans (by simp [go_sem, hc4])
      have o1 : w5.cell? ⟨w3.heap.size, 1, none⟩ = some (.int .u64 m1) := (hc5 _ 1 (by simp <;> omega)).trans (by simp [go_sem, hc4])
      have o2 : w5.cell? ⟨w3.heap.size, 2, none⟩ = some (.int .u64 m2) := (hc5 _ 2 (by simp <;> omega)).trans (by simp [go_sem, hc4])
      have o3 : w5.cell? ⟨w3.heap.size, 3, none⟩ = some (.int .u64 m3) := (hc5 _ 3 (by simp <;> omega)).trans (by simp [go_sem, hc4])
      have v0 : w5.cell? ⟨w.heap.size + 1 + 1, 0, none⟩ = some (.int .u64 0) := (hc5 _ 0 (by simp <;> omega)).trans (by simp [go_sem, *])
      have v1 : w5.cell? ⟨w.heap.size + 1 + 1, 1, none⟩ = some (.int .u64 0) := (hc5 _ 1 (by simp <;> omega)).trans (by simp [go_sem, *])
      have v2 : w5.cell? ⟨w.heap.size + 1 + 1, 2, none⟩ = some (.int .u64 0) := (hc5 _ 2 (by simp <;> omega)).trans (by simp [go_sem, *])
      have v3 : w5.cell? ⟨w.heap.size + 1 + 1, 3, none⟩ = some (.int .u64 0) := (hc5 _ 3 (by simp <;> omega)).trans (by simp [go_sem, *])
      have fo : ∀ o, w5.frozen? ⟨w3.heap.size, o, none⟩ = false := fun o => (hf5 _ o (by simp <;> omega)).trans (by simp [go_sem, hf4])
      have ft : ∀ o, w5.frozen? ⟨w.heap.size + 1 + 1, o, none⟩ = false := fun o => (hf5 _ o (by simp <;> omega)).trans (by simp [go_sem, *])
      clear hc5 hf5 hc4 hf4 hc3 hf3 hc2 hf2 hc1 hf1
      go_wp2
      clear z
      have e1 : val d0 d1 d2 d3 * (g - 1) = val d0 d1 d2 d3 * g - val d0 d1 d2 d3 := by rw [Int.mul_sub]; omega
      have e2 : val d0 d1 d2 d3 * (g - 1 - 1) = val d0 d1 d2 d3 * (g - 1) - val d0 d1 d2 d3 := by rw [Int.mul_sub _ (g - 1)]; omega
      have k'' : (a * 115792089237316195423570985008687907853269984665640564039457584007913129639936 + val n0 n1 n2 n3) - val d0 d1 d2 d3 * (g - 1 - 1) < val d0 d1 d2 d3 := by omega
      have kk3 : 0 ≤ (a * 115792089237316195423570985008687907853269984665640564039457584007913129639936 + val n0 n1 n2 n3) - val d0 d1 d2 d3 * (g - 1 - 1) := by have := X2.out; omega
      clear e1 e2
      clear k
      have k := kk3
      obtain ⟨z, er⟩ := S5.out.zero (val_bd _ _ _ _ hk).1 (val_bd _ _ _ _ hk).2 k
      obtain ⟨f1, f2⟩ := qr_of _ _ _ _ hDp k k'' er
      have F1 : Hid (_ = _) := f1
      have F2 : Hid (_ = _) := f2
      clear f1 f2 er
      rw [rounds_succ]
      go_wp2
      go_region
      go_wp2
      refine bodyPost_ret (v := .tuple #[.int .u64 (g - 1 - 1), .agg #[.int .u64 k0, .int .u64 k1, .int .u64 k2, .int .u64 k3]]) (by simp [results, Try.results78, go_sem, *]) rfl ⟨(g - 1 - 1), k0, k1, k2, k3, rfl, hk, ⟨⟨by omega, by omega⟩, F1.out, F2.out⟩, ?_⟩
      have B1 := belowStep (n := w.heap.size) (w := w) (by go_grown) (by simp <;> omega) hb1
      have B2 := belowStep B1 (by omega) hb2
      have B3 := belowStep (B2.alloc (by omega) _) (by simp <;> omega) hb3
      have B4 := belowStep (B3.alloc (by omega) _) (by simp <;> omega) hb4
      have B5 := belowStep (n := w.heap.size) (w := w) (by go_grown) (by simp <;> omega) hb5
      go_grown
end Go.Proofs.Ytgapcjdgakamoaa
