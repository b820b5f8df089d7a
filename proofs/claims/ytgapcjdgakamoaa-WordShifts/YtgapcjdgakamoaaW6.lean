/- What leading does at this translation: how far a word that is not 0 can be raised, whatever the memory. -/
import Derived.Test.YtgapcjdgakamoaaW5
namespace Go.Proofs.Ytgapcjdgakamoaa
open Go.RowKit

/-- How far a word's highest bit stands below the 256th. -/
theorem lead_fact (x : Int) (hx : Pt x) (h : 0 < x) : ∃ n : Int, (64 - (Lib.bitLen x.toNat : Int)) = n ∧ Hid (0 ≤ n ∧ n < 64 ∧ 9223372036854775808 ≤ x * 2 ^ n.toNat ∧ x * 2 ^ n.toNat < 18446744073709551616) := by
  obtain ⟨h0, h1⟩ := hx
  obtain ⟨X, rfl⟩ := Int.eq_ofNat_of_zero_le h0
  have l : Lib.bitLen X ≤ 64 := Lib.bitLen_le X 64 (by omega) (by omega)
  obtain ⟨s1, s2⟩ := bitLen_spec X (by omega) (by omega)
  refine ⟨_, rfl, ?_⟩
  rw [show ((X : Int)).toNat = X from rfl]
  generalize Lib.bitLen X = n at *
  have hn : 0 < n := by
    cases n with
    | zero => simp at s2; omega
    | succ n => omega
  rw [show (64 - (n : Int)).toNat = 64 - n from by omega]
  have p1 : 2 ^ n * 2 ^ (64 - n) = 18446744073709551616 := by rw [← Nat.pow_add, show n + (64 - n) = 64 from by omega]
  have m1 : 2 ^ n * 2 ^ (64 - n) ≤ 2 * X * 2 ^ (64 - n) := Nat.mul_le_mul_right _ s1
  have m2 : X * 2 ^ (64 - n) < 2 ^ n * 2 ^ (64 - n) := Nat.mul_lt_mul_of_pos_right s2 (Nat.two_pow_pos _)
  rw [Nat.mul_assoc] at m1
  rw [pw_cast, ← Int.natCast_mul]
  refine ⟨by omega, by omega, by omega, by omega⟩

theorem lead_k (a1 : Int) (n : Nat) (h2 : 9223372036854775808 ≤ a1 * 2 ^ n) (h3 : a1 * 2 ^ n < 18446744073709551616) : a1 * 2 ^ n + 2 ^ n ≤ 18446744073709551616 := by
  have hU := pw_pos n
  have u1 : (2 : Int) ^ n < 18446744073709551616 ∨ 18446744073709551616 ≤ (2 : Int) ^ n := by omega
  have hd : (a1 * 2 ^ n) % 2 ^ n = 0 := Int.mul_emod_left _ _
  have hU64 : n ≤ 64 := by
    apply Decidable.byContradiction
    intro hc
    have : (2 : Int) ^ 64 ≤ 2 ^ n := by
      rw [show n = 64 + (n - 64) from by omega, Int.pow_add]
      have := pw_pos (n - 64)
      have e : (2 : Int) ^ 64 = 18446744073709551616 := by decide
      rw [e]
      omega
    have p : 0 < a1 := by
      apply Decidable.byContradiction
      intro hc2
      have := Int.mul_nonneg (a := - a1) (b := (2 : Int) ^ n) (by omega) (by omega)
      rw [Int.neg_mul] at this
      omega
    have q : (2 : Int) ^ n ≤ a1 * 2 ^ n := by
      have := Int.mul_le_mul_of_nonneg_right (a := 1) (b := a1) (c := (2 : Int) ^ n) (by omega) (by omega)
      omega
    rw [show (2 : Int) ^ 64 = 18446744073709551616 from by decide] at this
    omega
  have hUV : (2 : Int) ^ n * 2 ^ (64 - n) = 18446744073709551616 := by
    rw [← Int.pow_add, show n + (64 - n) = 64 from by omega]; decide
  -- a1 * U is a multiple of U below B, so at most B - U; a0 * U is below B * U
  show a1 * 2 ^ n + 2 ^ n ≤ 18446744073709551616
  have : (a1 + 1) * 2 ^ n ≤ 2 ^ (64 - n) * 2 ^ n := by
    apply Int.mul_le_mul_of_nonneg_right _ (by omega)
    apply Decidable.byContradiction
    intro hc
    have := Int.mul_le_mul_of_nonneg_right (a := 2 ^ (64 - n)) (b := a1) (c := (2 : Int) ^ n) (by omega) (by omega)
    rw [Int.mul_comm (2 ^ (64 - n))] at this
    omega
  rw [Int.add_mul, Int.mul_comm (2 ^ (64 - n)), hUV] at this
  omega

/-- With the highest part's highest bit at the 64th place, what stands below stays below. -/
theorem lead_up (a0 a1 : Int) (n : Nat) (h0 : Pt a0) (h2 : 9223372036854775808 ≤ a1 * 2 ^ n) (h3 : a1 * 2 ^ n < 18446744073709551616) :
    170141183460469231731687303715884105728 ≤ (a0 + 18446744073709551616 * a1) * 2 ^ n ∧ (a0 + 18446744073709551616 * a1) * 2 ^ n < 340282366920938463463374607431768211456 := by
  obtain ⟨h0, h1⟩ := h0
  have hU := pw_pos n
  have k1 := lead_k a1 n h2 h3
  have k2 : a0 * 2 ^ n ≤ (18446744073709551616 - 1) * 2 ^ n := Int.mul_le_mul_of_nonneg_right (by omega) (by omega)
  have k3 : 0 ≤ a0 * 2 ^ n := Int.mul_nonneg h0 (by omega)
  rw [Int.sub_mul] at k2
  rw [Int.add_mul, Int.mul_assoc]
  omega

theorem lead_up2 (a0 a1 a2 : Int) (n : Nat) (h0 : Pt a0) (h1 : Pt a1) (h2 : 9223372036854775808 ≤ a2 * 2 ^ n) (h3 : a2 * 2 ^ n < 18446744073709551616) :
    3138550867693340381917894711603833208051177722232017256448 ≤ (a0 + 18446744073709551616 * a1 + 340282366920938463463374607431768211456 * a2) * 2 ^ n ∧ (a0 + 18446744073709551616 * a1 + 340282366920938463463374607431768211456 * a2) * 2 ^ n < 6277101735386680763835789423207666416102355444464034512896 := by
  have kk := lead_k a2 n h2 h3
  obtain ⟨h0, h0'⟩ := h0
  obtain ⟨h1, h1'⟩ := h1
  have hU := pw_pos n
  have k0 : a0 * 2 ^ n ≤ (18446744073709551616 - 1) * 2 ^ n := Int.mul_le_mul_of_nonneg_right (by omega) (by omega)
  have k1 : a1 * 2 ^ n ≤ (18446744073709551616 - 1) * 2 ^ n := Int.mul_le_mul_of_nonneg_right (by omega) (by omega)
  have k2 : 0 ≤ a0 * 2 ^ n := Int.mul_nonneg h0 (by omega)
  have k3 : 0 ≤ a1 * 2 ^ n := Int.mul_nonneg h1 (by omega)
  simp only [Int.add_mul, Int.mul_assoc] at *
  rw [Int.sub_mul] at *
  omega

theorem lead_up3 (a0 a1 a2 a3 : Int) (n : Nat) (h0 : Pt a0) (h1 : Pt a1) (hb : Pt a2) (h2 : 9223372036854775808 ≤ a3 * 2 ^ n) (h3 : a3 * 2 ^ n < 18446744073709551616) :
    57896044618658097711785492504343953926634992332820282019728792003956564819968 ≤ (a0 + 18446744073709551616 * a1 + 340282366920938463463374607431768211456 * a2 + 6277101735386680763835789423207666416102355444464034512896 * a3) * 2 ^ n ∧ (a0 + 18446744073709551616 * a1 + 340282366920938463463374607431768211456 * a2 + 6277101735386680763835789423207666416102355444464034512896 * a3) * 2 ^ n < 115792089237316195423570985008687907853269984665640564039457584007913129639936 := by
  have kk := lead_k a3 n h2 h3
  obtain ⟨h0, h0'⟩ := h0
  obtain ⟨h1, h1'⟩ := h1
  obtain ⟨hb, hb'⟩ := hb
  have hU := pw_pos n
  have k0 : a0 * 2 ^ n ≤ (18446744073709551616 - 1) * 2 ^ n := Int.mul_le_mul_of_nonneg_right (by omega) (by omega)
  have k1 : a1 * 2 ^ n ≤ (18446744073709551616 - 1) * 2 ^ n := Int.mul_le_mul_of_nonneg_right (by omega) (by omega)
  have k5 : a2 * 2 ^ n ≤ (18446744073709551616 - 1) * 2 ^ n := Int.mul_le_mul_of_nonneg_right (by omega) (by omega)
  have k2 : 0 ≤ a0 * 2 ^ n := Int.mul_nonneg h0 (by omega)
  have k3 : 0 ≤ a1 * 2 ^ n := Int.mul_nonneg h1 (by omega)
  have k4 : 0 ≤ a2 * 2 ^ n := Int.mul_nonneg hb (by omega)
  simp only [Int.add_mul, Int.mul_assoc] at *
  rw [Int.sub_mul] at *
  omega

set_option maxHeartbeats 1000000 in
theorem leading_3 (a0 a1 a2 a3 : Int) (ha : Pt a3) (hp : 0 < a3) (w : World) :
    Calls Try.prog 76 #[.agg #[.int .u64 a0, .int .u64 a1, .int .u64 a2, .int .u64 a3]] w fun e w' =>
      ∃ n : Int, e = .returned (.int .u64 (n + 0)) ∧ Hid (0 ≤ n ∧ n < 64 ∧ 9223372036854775808 ≤ a3 * 2 ^ n.toNat ∧ a3 * 2 ^ n.toNat < 18446744073709551616) ∧ Below w.heap.size w w' := by
  obtain ⟨n, hn, H⟩ := lead_fact a3 ha hp
  have hn0 : 0 ≤ n := H.out.1
  have hn1 : n < 64 := H.out.2.1
  have ho : Pt 0 := ⟨by decide, by decide⟩
  have hz : (64 - (Lib.bitLen (0 : Int).toNat : Int)) = 64 := by decide
  have hne : (a3 != 0) = true := by simp; omega
  go_enter Try.func76, Try.ntmps76
  go_wp2
  refine wp_loop_rounds 5 ?_
  rw [rounds_succ]; go_wp2_with fail
  refine (lz64_any a3 ha _).mono ?_
  rintro e w1 ⟨rfl, rfl⟩
  rw [hn]
  go_wp2
  go_ret
  refine ⟨n, ?_, H, ?_⟩
  · refine ret_u64 ?_
    omega
  · go_grown

set_option maxHeartbeats 1000000 in
theorem leading_2 (a0 a1 a2 : Int) (ha : Pt a2) (hp : 0 < a2) (w : World) :
    Calls Try.prog 76 #[.agg #[.int .u64 a0, .int .u64 a1, .int .u64 a2, .int .u64 0]] w fun e w' =>
      ∃ n : Int, e = .returned (.int .u64 (n + 64)) ∧ Hid (0 ≤ n ∧ n < 64 ∧ 9223372036854775808 ≤ a2 * 2 ^ n.toNat ∧ a2 * 2 ^ n.toNat < 18446744073709551616) ∧ Below w.heap.size w w' := by
  obtain ⟨n, hn, H⟩ := lead_fact a2 ha hp
  have hn0 : 0 ≤ n := H.out.1
  have hn1 : n < 64 := H.out.2.1
  have ho : Pt 0 := ⟨by decide, by decide⟩
  have hz : (64 - (Lib.bitLen (0 : Int).toNat : Int)) = 64 := by decide
  have hne : (a2 != 0) = true := by simp; omega
  go_enter Try.func76, Try.ntmps76
  go_wp2
  refine wp_loop_rounds 5 ?_
  rw [rounds_succ]; go_wp2_with fail
  refine (lz64_any 0 ho _).mono ?_
  rintro e w1 ⟨rfl, rfl⟩
  rw [hz]
  go_wp2
  rw [rounds_succ]; go_wp2_with fail
  refine (lz64_any a2 ha _).mono ?_
  rintro e w1 ⟨rfl, rfl⟩
  rw [hn]
  go_wp2
  go_ret
  refine ⟨n, ?_, H, ?_⟩
  · refine ret_u64 ?_
    omega
  · go_grown

set_option maxHeartbeats 1000000 in
theorem leading_1 (a0 a1 : Int) (ha : Pt a1) (hp : 0 < a1) (w : World) :
    Calls Try.prog 76 #[.agg #[.int .u64 a0, .int .u64 a1, .int .u64 0, .int .u64 0]] w fun e w' =>
      ∃ n : Int, e = .returned (.int .u64 (n + 128)) ∧ Hid (0 ≤ n ∧ n < 64 ∧ 9223372036854775808 ≤ a1 * 2 ^ n.toNat ∧ a1 * 2 ^ n.toNat < 18446744073709551616) ∧ Below w.heap.size w w' := by
  obtain ⟨n, hn, H⟩ := lead_fact a1 ha hp
  have hn0 : 0 ≤ n := H.out.1
  have hn1 : n < 64 := H.out.2.1
  have ho : Pt 0 := ⟨by decide, by decide⟩
  have hz : (64 - (Lib.bitLen (0 : Int).toNat : Int)) = 64 := by decide
  have hne : (a1 != 0) = true := by simp; omega
  go_enter Try.func76, Try.ntmps76
  go_wp2
  refine wp_loop_rounds 5 ?_
  rw [rounds_succ]; go_wp2_with fail
  refine (lz64_any 0 ho _).mono ?_
  rintro e w1 ⟨rfl, rfl⟩
  rw [hz]
  go_wp2
  rw [rounds_succ]; go_wp2_with fail
  refine (lz64_any 0 ho _).mono ?_
  rintro e w1 ⟨rfl, rfl⟩
  rw [hz]
  go_wp2
  rw [rounds_succ]; go_wp2_with fail
  refine (lz64_any a1 ha _).mono ?_
  rintro e w1 ⟨rfl, rfl⟩
  rw [hn]
  go_wp2
  go_ret
  refine ⟨n, ?_, H, ?_⟩
  · refine ret_u64 ?_
    omega
  · go_grown

set_option maxHeartbeats 1000000 in
theorem leading_0 (a0 : Int) (ha : Pt a0) (hp : 0 < a0) (w : World) :
    Calls Try.prog 76 #[.agg #[.int .u64 a0, .int .u64 0, .int .u64 0, .int .u64 0]] w fun e w' =>
      ∃ n : Int, e = .returned (.int .u64 (n + 192)) ∧ Hid (0 ≤ n ∧ n < 64 ∧ 9223372036854775808 ≤ a0 * 2 ^ n.toNat ∧ a0 * 2 ^ n.toNat < 18446744073709551616) ∧ Below w.heap.size w w' := by
  obtain ⟨n, hn, H⟩ := lead_fact a0 ha hp
  have hn0 : 0 ≤ n := H.out.1
  have hn1 : n < 64 := H.out.2.1
  have ho : Pt 0 := ⟨by decide, by decide⟩
  have hz : (64 - (Lib.bitLen (0 : Int).toNat : Int)) = 64 := by decide
  have hne : (a0 != 0) = true := by simp; omega
  go_enter Try.func76, Try.ntmps76
  go_wp2
  refine wp_loop_rounds 5 ?_
  rw [rounds_succ]; go_wp2_with fail
  refine (lz64_any 0 ho _).mono ?_
  rintro e w1 ⟨rfl, rfl⟩
  rw [hz]
  go_wp2
  rw [rounds_succ]; go_wp2_with fail
  refine (lz64_any 0 ho _).mono ?_
  rintro e w1 ⟨rfl, rfl⟩
  rw [hz]
  go_wp2
  rw [rounds_succ]; go_wp2_with fail
  refine (lz64_any 0 ho _).mono ?_
  rintro e w1 ⟨rfl, rfl⟩
  rw [hz]
  go_wp2
  rw [rounds_succ]; go_wp2_with fail
  refine (lz64_any a0 ha _).mono ?_
  rintro e w1 ⟨rfl, rfl⟩
  rw [hn]
  go_wp2
  go_ret
  refine ⟨n, ?_, H, ?_⟩
  · refine ret_u64 ?_
    omega
  · go_grown

/-- leading: how far a word that is not 0 can be raised. -/
theorem leading_any (a0 a1 a2 a3 : Int) (ha : Ws a0 a1 a2 a3) (h : val a0 a1 a2 a3 ≠ 0) (w : World) :
    Calls Try.prog 76 #[.agg #[.int .u64 a0, .int .u64 a1, .int .u64 a2, .int .u64 a3]] w fun e w' =>
      ∃ z : Int, e = .returned (.int .u64 z) ∧ 0 ≤ z ∧ z < 256 ∧
        Hid (57896044618658097711785492504343953926634992332820282019728792003956564819968 ≤ val a0 a1 a2 a3 * 2 ^ z.toNat ∧ val a0 a1 a2 a3 * 2 ^ z.toNat < 115792089237316195423570985008687907853269984665640564039457584007913129639936) ∧ Below w.heap.size w w' := by
  obtain ⟨ha0, ha1, ha2, ha3⟩ := ha
  by_cases c3 : a3 = 0
  · subst c3
    by_cases c2 : a2 = 0
    · subst c2
      by_cases c1 : a1 = 0
      · subst c1
        by_cases c0 : a0 = 0
        · subst c0; exact absurd (by decide) h
        · refine (leading_0 a0 ha0 (by obtain ⟨_, _⟩ := ha0; omega) w).mono ?_
          rintro e w1 ⟨n, rfl, H, hb⟩
          obtain ⟨n0, n1, n2, n3⟩ := H.out
          refine ⟨_, rfl, by omega, by omega, ?_, hb⟩
          rw [show (n + 192).toNat = n.toNat + 192 from by omega, Int.pow_add, ← Int.mul_assoc]
          have e : val a0 0 0 0 * 2 ^ n.toNat = a0 * 2 ^ n.toNat := by unfold val; simp
          rw [e, show ((2 : Int) ^ 192) = 6277101735386680763835789423207666416102355444464034512896 from by decide]
          exact ⟨by omega, by omega⟩
      · refine (leading_1 a0 a1 ha1 (by obtain ⟨_, _⟩ := ha1; omega) w).mono ?_
        rintro e w1 ⟨n, rfl, H, hb⟩
        obtain ⟨n0, n1, n2, n3⟩ := H.out
        refine ⟨_, rfl, by omega, by omega, ?_, hb⟩
        have := lead_up a0 a1 n.toNat ha0 n2 n3
        rw [show (n + 128).toNat = n.toNat + 128 from by omega, Int.pow_add, ← Int.mul_assoc, show ((2 : Int) ^ 128) = 340282366920938463463374607431768211456 from by decide]
        have e : val a0 a1 0 0 * 2 ^ n.toNat = (a0 + 18446744073709551616 * a1) * 2 ^ n.toNat := by unfold val; simp
        rw [e]
        exact ⟨by omega, by omega⟩
    · refine (leading_2 a0 a1 a2 ha2 (by obtain ⟨_, _⟩ := ha2; omega) w).mono ?_
      rintro e w1 ⟨n, rfl, H, hb⟩
      obtain ⟨n0, n1, n2, n3⟩ := H.out
      refine ⟨_, rfl, by omega, by omega, ?_, hb⟩
      have := lead_up2 a0 a1 a2 n.toNat ha0 ha1 n2 n3
      rw [show (n + 64).toNat = n.toNat + 64 from by omega, Int.pow_add, ← Int.mul_assoc, show ((2 : Int) ^ 64) = 18446744073709551616 from by decide]
      have e : val a0 a1 a2 0 * 2 ^ n.toNat = (a0 + 18446744073709551616 * a1 + 340282366920938463463374607431768211456 * a2) * 2 ^ n.toNat := by unfold val; simp
      rw [e]
      exact ⟨by omega, by omega⟩
  · refine (leading_3 a0 a1 a2 a3 ha3 (by obtain ⟨_, _⟩ := ha3; omega) w).mono ?_
    rintro e w1 ⟨n, rfl, H, hb⟩
    obtain ⟨n0, n1, n2, n3⟩ := H.out
    refine ⟨_, rfl, by omega, by omega, ?_, hb⟩
    have := lead_up3 a0 a1 a2 a3 n.toNat ha0 ha1 ha2 n2 n3
    rw [show (n + 0).toNat = n.toNat from by simp]
    unfold val
    exact ⟨by omega, by omega⟩
end Go.Proofs.Ytgapcjdgakamoaa
