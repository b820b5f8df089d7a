/- What Add, Sub, Mul do, the program's and the reference's: any two numbers, whatever the memory. No condition. -/
import Derived.Test.YteknhghmliihhaaDoorG0
import Derived.Test.YteknhghmliihhaaDoorG1
namespace Go.Proofs.YteknhghmliihhaaDoor
open Go.RowKit Go.Sort
abbrev U64 (a : Nat) : Prop := a < 18446744073709551616
theorem pm_u (a : Nat) (h : a < PM) : U64 a := by unfold PM at h; unfold U64; omega

set_option maxHeartbeats 1000000 in
theorem add_any (a b : Nat) (ha : U64 a) (hb : U64 b) (w : World) :
    Calls Tryd.prog 34 #[.int .u64 a, .int .u64 b] w fun e w' => e = .returned (.int .u64 (adN a b : Nat)) ∧ Below w.heap.size w w' := by
  obtain ⟨x, hx⟩ : ∃ x, a % PM = x := ⟨_, rfl⟩
  obtain ⟨y, hy⟩ : ∃ y, b % PM = y := ⟨_, rfl⟩
  obtain ⟨z, hz⟩ : ∃ z, adN a b = z := ⟨_, rfl⟩
  have hx1 : x < PM := by rw [← hx]; exact Nat.mod_lt _ (by decide)
  have hy1 : y < PM := by rw [← hy]; exact Nat.mod_lt _ (by decide)
  have hz1 : z < PM := by rw [← hz]; exact ad_lt a b
  rw [hz]
  unfold adN at hz
  rw [hx, hy] at hz
  unfold PM at *
  have e1 : (a : Int) % 2147482867 = x := by omega
  have e2 : (b : Int) % 2147482867 = y := by omega
  obtain ⟨s, hs⟩ : ∃ s, x + y = s := ⟨_, rfl⟩
  have e3 : IntKind.u64.wrap ((x : Int) + y) = s := by rw [IntKind.wrap_u64]; omega
  have e4 : (s : Int) % 2147482867 = z := by rw [hs] at hz; omega
  clear hs
  clear hx hy hz
  go_enter Tryd.func34, Tryd.ntmps34
  go_wp2
  go_ret
  exact ⟨congrArg (fun q => Ending.returned (Value.int .u64 q)) e4, Below.refl _ _⟩

set_option maxHeartbeats 1000000 in
theorem sub_any (a b : Nat) (ha : U64 a) (hb : U64 b) (w : World) :
    Calls Tryd.prog 32 #[.int .u64 a, .int .u64 b] w fun e w' => e = .returned (.int .u64 (sbN a b : Nat)) ∧ Below w.heap.size w w' := by
  obtain ⟨x, hx⟩ : ∃ x, a % PM = x := ⟨_, rfl⟩
  obtain ⟨y, hy⟩ : ∃ y, b % PM = y := ⟨_, rfl⟩
  obtain ⟨z, hz⟩ : ∃ z, sbN a b = z := ⟨_, rfl⟩
  have hx1 : x < PM := by rw [← hx]; exact Nat.mod_lt _ (by decide)
  have hy1 : y < PM := by rw [← hy]; exact Nat.mod_lt _ (by decide)
  have hz1 : z < PM := by rw [← hz]; exact sb_lt a b
  rw [hz]
  unfold sbN at hz
  rw [hx, hy] at hz
  unfold PM at *
  have e1 : (a : Int) % 2147482867 = x := by omega
  have e2 : (b : Int) % 2147482867 = y := by omega
  obtain ⟨s, hs⟩ : ∃ s, x + 2147482867 = s := ⟨_, rfl⟩
  obtain ⟨d, hd⟩ : ∃ d, s - y = d := ⟨_, rfl⟩
  have e3 : IntKind.u64.wrap ((x : Int) + 2147482867) = s := by rw [IntKind.wrap_u64]; omega
  have e5 : IntKind.u64.wrap ((s : Int) - y) = d := by rw [IntKind.wrap_u64]; omega
  have e4 : (d : Int) % 2147482867 = z := by rw [hs, hd] at hz; omega
  clear hs hd
  clear hx hy hz
  go_enter Tryd.func32, Tryd.ntmps32
  go_wp2
  go_ret
  exact ⟨congrArg (fun q => Ending.returned (Value.int .u64 q)) e4, Below.refl _ _⟩

set_option maxHeartbeats 1000000 in
theorem mul_any (a b : Nat) (ha : U64 a) (hb : U64 b) (w : World) :
    Calls Tryd.prog 27 #[.int .u64 a, .int .u64 b] w fun e w' => e = .returned (.int .u64 (muN a b : Nat)) ∧ Below w.heap.size w w' := by
  obtain ⟨x, hx⟩ : ∃ x, a % PM = x := ⟨_, rfl⟩
  obtain ⟨y, hy⟩ : ∃ y, b % PM = y := ⟨_, rfl⟩
  obtain ⟨z, hz⟩ : ∃ z, muN a b = z := ⟨_, rfl⟩
  have hx1 : x < PM := by rw [← hx]; exact Nat.mod_lt _ (by decide)
  have hy1 : y < PM := by rw [← hy]; exact Nat.mod_lt _ (by decide)
  have hz1 : z < PM := by rw [← hz]; exact mu_lt a b
  rw [hz]
  unfold muN at hz
  rw [hx, hy] at hz
  unfold PM at *
  have e1 : (a : Int) % 2147482867 = x := by omega
  have e2 : (b : Int) % 2147482867 = y := by omega
  obtain ⟨s, hs⟩ : ∃ s, x * y = s := ⟨_, rfl⟩
  have hs1 : s < 18446744073709551616 := by
    rw [← hs]
    exact Nat.lt_of_le_of_lt (Nat.mul_le_mul (Nat.le_of_lt hx1) (Nat.le_of_lt hy1)) (by decide)
  have hs2 : (x : Int) * y = s := by rw [← hs, Int.natCast_mul]
  have e3 : IntKind.u64.wrap ((x : Int) * y) = s := by rw [hs2, IntKind.wrap_u64]; omega
  have e4 : (s : Int) % 2147482867 = z := by rw [hs] at hz; omega
  clear hs hs2
  clear hx hy hz
  go_enter Tryd.func27, Tryd.ntmps27
  go_wp2
  go_ret
  exact ⟨congrArg (fun q => Ending.returned (Value.int .u64 q)) e4, Below.refl _ _⟩

set_option maxHeartbeats 1000000 in
theorem radd_any (a b : Nat) (ha : U64 a) (hb : U64 b) (w : World) :
    Calls Tryd.prog 41 #[.int .u64 a, .int .u64 b] w fun e w' => e = .returned (.int .u64 (adN a b : Nat)) ∧ Below w.heap.size w w' := by
  obtain ⟨x, hx⟩ : ∃ x, a % PM = x := ⟨_, rfl⟩
  obtain ⟨y, hy⟩ : ∃ y, b % PM = y := ⟨_, rfl⟩
  obtain ⟨z, hz⟩ : ∃ z, adN a b = z := ⟨_, rfl⟩
  have hx1 : x < PM := by rw [← hx]; exact Nat.mod_lt _ (by decide)
  have hy1 : y < PM := by rw [← hy]; exact Nat.mod_lt _ (by decide)
  have hz1 : z < PM := by rw [← hz]; exact ad_lt a b
  rw [hz]
  unfold adN at hz
  rw [hx, hy] at hz
  unfold PM at *
  have e1 : (a : Int) % 2147482867 = x := by omega
  have e2 : (b : Int) % 2147482867 = y := by omega
  obtain ⟨s, hs⟩ : ∃ s, x + y = s := ⟨_, rfl⟩
  have e3 : IntKind.u64.wrap ((x : Int) + y) = s := by rw [IntKind.wrap_u64]; omega
  have e4 : (s : Int) % 2147482867 = z := by rw [hs] at hz; omega
  clear hs
  clear hx hy hz
  go_enter Tryd.func41, Tryd.ntmps41
  go_wp2
  go_ret
  exact ⟨congrArg (fun q => Ending.returned (Value.int .u64 q)) e4, Below.refl _ _⟩

set_option maxHeartbeats 1000000 in
theorem rsub_any (a b : Nat) (ha : U64 a) (hb : U64 b) (w : World) :
    Calls Tryd.prog 40 #[.int .u64 a, .int .u64 b] w fun e w' => e = .returned (.int .u64 (sbN a b : Nat)) ∧ Below w.heap.size w w' := by
  obtain ⟨x, hx⟩ : ∃ x, a % PM = x := ⟨_, rfl⟩
  obtain ⟨y, hy⟩ : ∃ y, b % PM = y := ⟨_, rfl⟩
  obtain ⟨z, hz⟩ : ∃ z, sbN a b = z := ⟨_, rfl⟩
  have hx1 : x < PM := by rw [← hx]; exact Nat.mod_lt _ (by decide)
  have hy1 : y < PM := by rw [← hy]; exact Nat.mod_lt _ (by decide)
  have hz1 : z < PM := by rw [← hz]; exact sb_lt a b
  rw [hz]
  unfold sbN at hz
  rw [hx, hy] at hz
  unfold PM at *
  have e1 : (a : Int) % 2147482867 = x := by omega
  have e2 : (b : Int) % 2147482867 = y := by omega
  obtain ⟨s, hs⟩ : ∃ s, x + 2147482867 = s := ⟨_, rfl⟩
  obtain ⟨d, hd⟩ : ∃ d, s - y = d := ⟨_, rfl⟩
  have e3 : IntKind.u64.wrap ((x : Int) + 2147482867) = s := by rw [IntKind.wrap_u64]; omega
  have e5 : IntKind.u64.wrap ((s : Int) - y) = d := by rw [IntKind.wrap_u64]; omega
  have e4 : (d : Int) % 2147482867 = z := by rw [hs, hd] at hz; omega
  clear hs hd
  clear hx hy hz
  go_enter Tryd.func40, Tryd.ntmps40
  go_wp2
  go_ret
  exact ⟨congrArg (fun q => Ending.returned (Value.int .u64 q)) e4, Below.refl _ _⟩

set_option maxHeartbeats 1000000 in
theorem rmul_any (a b : Nat) (ha : U64 a) (hb : U64 b) (w : World) :
    Calls Tryd.prog 35 #[.int .u64 a, .int .u64 b] w fun e w' => e = .returned (.int .u64 (muN a b : Nat)) ∧ Below w.heap.size w w' := by
  obtain ⟨x, hx⟩ : ∃ x, a % PM = x := ⟨_, rfl⟩
  obtain ⟨y, hy⟩ : ∃ y, b % PM = y := ⟨_, rfl⟩
  obtain ⟨z, hz⟩ : ∃ z, muN a b = z := ⟨_, rfl⟩
  have hx1 : x < PM := by rw [← hx]; exact Nat.mod_lt _ (by decide)
  have hy1 : y < PM := by rw [← hy]; exact Nat.mod_lt _ (by decide)
  have hz1 : z < PM := by rw [← hz]; exact mu_lt a b
  rw [hz]
  unfold muN at hz
  rw [hx, hy] at hz
  unfold PM at *
  have e1 : (a : Int) % 2147482867 = x := by omega
  have e2 : (b : Int) % 2147482867 = y := by omega
  obtain ⟨s, hs⟩ : ∃ s, x * y = s := ⟨_, rfl⟩
  have hs1 : s < 18446744073709551616 := by
    rw [← hs]
    exact Nat.lt_of_le_of_lt (Nat.mul_le_mul (Nat.le_of_lt hx1) (Nat.le_of_lt hy1)) (by decide)
  have hs2 : (x : Int) * y = s := by rw [← hs, Int.natCast_mul]
  have e3 : IntKind.u64.wrap ((x : Int) * y) = s := by rw [hs2, IntKind.wrap_u64]; omega
  have e4 : (s : Int) % 2147482867 = z := by rw [hs] at hz; omega
  clear hs hs2
  clear hx hy hz
  go_enter Tryd.func35, Tryd.ntmps35
  go_wp2
  go_ret
  exact ⟨congrArg (fun q => Ending.returned (Value.int .u64 q)) e4, Below.refl _ _⟩
end Go.Proofs.YteknhghmliihhaaDoor
