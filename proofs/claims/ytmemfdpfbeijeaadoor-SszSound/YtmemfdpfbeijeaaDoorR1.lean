/- The reference's turn and spread, at this translation. -/
import Derived.Test.YtmemfdpfbeijeaaDoorS4
import Derived.Test.YtmemfdpfbeijeaaDoorS6
import Derived.Test.YtmemfdpfbeijeaaDoorS3
namespace Go.Proofs.YtmemfdpfbeijeaaDoor
open Go.RowKit Go.Sort

theorem or_comm32 (x y : Int) : bits .or .u32 x y = bits .or .u32 y x := by
  unfold bits
  simp only [BitVec.or_comm]
theorem ofInt_nat (x : Nat) (hx : x < 4294967296) : (BitVec.ofInt 32 (x : Int)).toNat = x := by
  rw [BitVec.toNat_ofInt]
  omega
theorem or_nat (x y : Nat) (hx : x < 4294967296) (hy : y < 4294967296) : bits .or .u32 (x : Int) (y : Int) = ((x ||| y : Nat) : Int) := by
  have h : (x ||| y) < 2 ^ 32 := Nat.or_lt_two_pow hx hy
  have e : bits .or .u32 (x : Int) (y : Int) = IntKind.u32.wrap (((BitVec.ofInt 32 (x : Int)) ||| (BitVec.ofInt 32 (y : Int))).toNat : Int) := rfl
  rw [e, BitVec.toNat_or, ofInt_nat x hx, ofInt_nat y hy, IntKind.wrap_u32]
  omega
theorem or_add (x y k : Nat) (hy : y < 2 ^ k) (h : x * 2 ^ k + y < 4294967296) : bits .or .u32 ((x * 2 ^ k : Nat) : Int) (y : Int) = ((x * 2 ^ k + y : Nat) : Int) := by
  rw [or_nat _ _ (by omega) (by omega)]
  have := Nat.shiftLeft_add_eq_or_of_lt hy x
  rw [Nat.shiftLeft_eq] at this
  rw [this]

set_option maxRecDepth 20000 in
set_option maxHeartbeats 4000000 in
theorem rturn_any (x : Int) (k : Nat) (h1 : 1 ≤ k) (hk : k < 32) (w : World) :
    Calls Tryd.prog 63 #[.int .u32 x, .int .i64 k] w fun e w' => e = .returned (.int .u32 (ror x k)) ∧ Below w.heap.size w w' := by
  obtain ⟨m, hm⟩ : ∃ m : Nat, 32 - k = m := ⟨_, rfl⟩
  have w2 : IntKind.i64.wrap (32 - (k : Int)) = m := by rw [IntKind.wrap_i64]; omega
  have w3 : IntKind.i64.wrap (m : Int) = m := by rw [IntKind.wrap_i64]; omega
  have w4 : IntKind.i64.wrap (k : Int) = k := by rw [IntKind.wrap_i64]; omega
  have l1 : (k : Int) ≤ 64 := by omega
  have l2 : (m : Int) ≤ 64 := by omega
  have z1 : 0 ≤ (k : Int) := by omega
  have z2 : 0 ≤ (m : Int) := by omega
  have hmm : min m 32 = m := by omega
  have hkk : min k 32 = k := by omega
  have n1 : ¬ (k : Int) < 0 := by omega
  have n2 : ¬ (m : Int) < 0 := by omega
  have HM : Hid (32 - k = m) := hm
  clear hm
  go_enter Tryd.func63, Tryd.ntmps63
  go_wp2
  refine wp_region_quiet_below (by kernel_rfl) (by kernel_rfl) ?_
  iterate 9 (quiet_step (fail))
  refine wpQuiet_nil ?_
  intro w8 hw8
  have hb8 : Below w.heap.size w w8 := by
    obtain ⟨p, rfl⟩ := hw8
    exact below_regrown _ _ _
  go_wp2
  go_ret
  refine ⟨?_, hb8⟩
  rw [ror, HM.out, or_comm32]
  rfl
end Go.Proofs.YtmemfdpfbeijeaaDoor
