/- The reference's left and at, at this translation. -/
import Derived.Test.YteiadmhododppaaDoorK11
namespace Go.Proofs.YteiadmhododppaaDoor
open Go.RowKit Go.Sort

theorem ofInt_nat64 (x : Nat) (hx : x < 18446744073709551616) : (BitVec.ofInt 64 (x : Int)).toNat = x := by
  rw [BitVec.toNat_ofInt]
  omega
theorem or_nat64 (x y : Nat) (hx : x < 18446744073709551616) (hy : y < 18446744073709551616) : bits .or .u64 (x : Int) (y : Int) = ((x ||| y : Nat) : Int) := by
  have h : (x ||| y) < 2 ^ 64 := Nat.or_lt_two_pow hx hy
  have e : bits .or .u64 (x : Int) (y : Int) = IntKind.u64.wrap (((BitVec.ofInt 64 (x : Int)) ||| (BitVec.ofInt 64 (y : Int))).toNat : Int) := rfl
  rw [e, BitVec.toNat_or, ofInt_nat64 x hx, ofInt_nat64 y hy, IntKind.wrap_u64]
  omega
theorem rot_zero (x : Int) (h : 0 ≤ x ∧ x < 18446744073709551616) : rot x 0 = x := by
  obtain ⟨n, rfl⟩ := Int.eq_ofNat_of_zero_le h.1
  unfold rot
  have e1 : IntKind.u64.wrap ((n : Int) * 2 ^ 0) = ((n : Nat) : Int) := by rw [IntKind.wrap_u64]; omega
  have e2 : (n : Int) / 2 ^ (64 - 0) = ((0 : Nat) : Int) := by
    show (n : Int) / 18446744073709551616 = 0
    omega
  rw [e1, e2, or_nat64 n 0 (by omega) (by decide), Nat.or_zero]

set_option maxRecDepth 20000 in
set_option maxHeartbeats 2000000 in
theorem rleft_any (x : Int) (hx : 0 ≤ x ∧ x < 18446744073709551616) (k : Nat) (hk : k < 64) (w : World) :
    Calls Tryd.prog 20 #[.int .u64 x, .int .i64 k] w fun e w' => e = .returned (.int .u64 (rot x k)) ∧ Below w.heap.size w w' := by
  by_cases h0 : k = 0
  · subst h0
    have HR : Hid (rot x 0 = x) := rot_zero x hx
    go_enter Tryd.func20, Tryd.ntmps20
    go_wp2
    go_ret
    exact ⟨by rw [HR.out]; rfl, Below.refl _ _⟩
  · obtain ⟨m, hm⟩ : ∃ m : Nat, 64 - k = m := ⟨_, rfl⟩
    have hk0 : ¬ (k : Int) = 0 := by omega
    have w2 : IntKind.i64.wrap (64 - (k : Int)) = m := by rw [IntKind.wrap_i64]; omega
    have w3 : IntKind.i64.wrap (m : Int) = m := by rw [IntKind.wrap_i64]; omega
    have w4 : IntKind.i64.wrap (k : Int) = k := by rw [IntKind.wrap_i64]; omega
    have l1 : (k : Int) ≤ 64 := by omega
    have l2 : (m : Int) ≤ 64 := by omega
    have z1 : 0 ≤ (k : Int) := by omega
    have z2 : 0 ≤ (m : Int) := by omega
    have hmm : min m 64 = m := by omega
    have hkk : min k 64 = k := by omega
    have n1 : ¬ (k : Int) < 0 := by omega
    have n2 : ¬ (m : Int) < 0 := by omega
    have HM : Hid (64 - k = m) := hm
    clear hm
    go_enter Tryd.func20, Tryd.ntmps20
    go_wp2
    refine wp_region_quiet_below (by kernel_rfl) (by kernel_rfl) ?_
    iterate 9 (quiet_step (fail))
    refine wpQuiet_nil ?_
    intro w8 hw8
    have hb8 : Below w.heap.size w w8 := by
      obtain ⟨p, rfl⟩ := hw8
      exact below_regrown _ _ _
    go_wp2
    go_ret
    refine ⟨?_, hb8⟩
    rw [rot, HM.out]
    simp [IntKind.wrap_u64]

set_option maxRecDepth 20000 in
set_option maxHeartbeats 2000000 in
theorem rat_any (x y : Nat) (hx : x < 1000) (hy : y < 1000) (w : World) :
    Calls Tryd.prog 19 #[.int .i64 x, .int .i64 y] w fun e w' => e = .returned (.int .i64 ((x % 5 + 5 * (y % 5) : Nat) : Int)) ∧ Below w.heap.size w w' := by
  have a1 : ((x : Int) + 10).tmod 5 = ((x % 5 : Nat) : Int) := by rw [Int.tmod_eq_emod_of_nonneg (by omega)]; omega
  have a2 : ((y : Int) + 10).tmod 5 = ((y % 5 : Nat) : Int) := by rw [Int.tmod_eq_emod_of_nonneg (by omega)]; omega
  obtain ⟨p, hp⟩ : ∃ p, x % 5 = p := ⟨_, rfl⟩
  obtain ⟨q, hq⟩ : ∃ q, y % 5 = q := ⟨_, rfl⟩
  have e1 : ((x : Int) + 10) % 5 = p := by omega
  have e2 : ((y : Int) + 10) % 5 = q := by omega
  rw [hp] at a1
  rw [hq] at a2
  have hp5 : p < 5 := by omega
  have hq5 : q < 5 := by omega
  have HE : Hid (((x % 5 + 5 * (y % 5) : Nat) : Int) = (p : Int) + 5 * (q : Int)) := by show _ = _; rw [hp, hq]; omega
  clear hp hq
  go_enter Tryd.func19, Tryd.ntmps19
  go_wp2
  go_ret
  exact ⟨by rw [HE.out]; rfl, Below.refl _ _⟩
end Go.Proofs.YteiadmhododppaaDoor
