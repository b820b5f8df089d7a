/- Lemmas: How many bits a number takes: what math/bits.Len64 answers. No condition. What Add, Sub, Mul do, the program's and the reference's: any two numbers, whatever the memory. No condition. What the reference's Pow does. No condition. Points of a curve, pure: which there are, negatives, sums, multiples. No condition. Multiples of the generator, in the kernel. No condition. The prime is one; powers modulo a prime (Fermat); of a square there is one even root. Pure. No condition. The sum of two points is one: pure, by whole numbers modulo the prime. No condition. -/
import Derived.Test.YtoddangedbefgabGreatDoorM2
import Derived.Deep.MidRow
set_option maxRecDepth 100000
set_option maxHeartbeats 2000000
namespace Go.Proofs.YtoddangedbefgabGreatDoor
open Go.RowKit Go.Sort
abbrev jda : ByteArray := ⟨#[0, 1, 2, 2, 3, 3, 3, 3, 4, 4, 4, 4, 4, 4, 4, 4, 5, 5, 5, 5, 5, 5, 5, 5, 5, 5, 5, 5, 5, 5, 5, 5, 6, 6, 6, 6, 6, 6, 6, 6, 6, 6, 6, 6, 6, 6, 6, 6, 6, 6, 6, 6, 6, 6, 6, 6, 6, 6, 6, 6, 6, 6, 6, 6, 7, 7, 7, 7, 7, 7, 7, 7, 7, 7, 7, 7, 7, 7, 7, 7, 7, 7, 7, 7, 7, 7, 7, 7, 7, 7, 7, 7, 7, 7, 7, 7, 7, 7, 7, 7, 7, 7, 7, 7, 7, 7, 7, 7, 7, 7, 7, 7, 7, 7, 7, 7, 7, 7, 7, 7, 7, 7, 7, 7, 7, 7, 7, 7, 8, 8, 8, 8, 8, 8, 8, 8, 8, 8, 8, 8, 8, 8, 8, 8, 8, 8, 8, 8, 8, 8, 8, 8, 8, 8, 8, 8, 8, 8, 8, 8, 8, 8, 8, 8, 8, 8, 8, 8, 8, 8, 8, 8, 8, 8, 8, 8, 8, 8, 8, 8, 8, 8, 8, 8, 8, 8, 8, 8, 8, 8, 8, 8, 8, 8, 8, 8, 8, 8, 8, 8, 8, 8, 8, 8, 8, 8, 8, 8, 8, 8, 8, 8, 8, 8, 8, 8, 8, 8, 8, 8, 8, 8, 8, 8, 8, 8, 8, 8, 8, 8, 8, 8, 8, 8, 8, 8, 8, 8, 8, 8, 8, 8, 8, 8, 8, 8, 8, 8, 8, 8, 8, 8, 8, 8, 8, 8]⟩
def l8 (x : Nat) : Int := bt jda x
theorem l8_bd (x : Nat) (h : x < 256) : 0 ≤ l8 x ∧ l8 x ≤ 8 ∧ x < 2 ^ (l8 x).toNat := by
 have e : ∀ j : Fin 256, 0 ≤ l8 j.val ∧ l8 j.val ≤ 8 ∧ j.val < 2 ^ (l8 j.val).toNat := by decide +kernel
 exact e ⟨x, h⟩
theorem jhe (k n x : Nat) (v : Int) (hv : 0 ≤ v) (e : n / 2 ^ k = x) (h : x < 2 ^ v.toNat) : n < 2 ^ ((k : Int) + v).toNat := by
 rw [show ((k : Int) + v).toNat = k + v.toNat by omega, Nat.pow_add]
 have hp : 0 < 2 ^ k := Nat.pow_pos (by decide)
 have h1 := Nat.lt_mul_div_succ n hp
 rw [e] at h1
 exact Nat.lt_of_lt_of_le h1 (Nat.mul_le_mul (Nat.le_refl _) h)
theorem len64_any (n : Nat) (hn : n < 18446744073709551616) (w : World) :
  Calls Tryz.prog 196 #[.int .u64 n] w fun e w' => (∃ L : Nat, e = .returned (.int .i64 L) ∧ L ≤ 64 ∧ n < 2 ^ L) ∧ Below w.heap.size w w' := by
 by_cases h32 : 4294967296 ≤ n
 ·obtain ⟨x32, e32⟩ : ∃ x, n / 4294967296 = x := ⟨_, rfl⟩
  have c32 : (4294967296 : Int) ≤ n := by omega
  have d32 : (n : Int) / 4294967296 = x32 := by omega
  by_cases h16 : 65536 ≤ x32
  ·obtain ⟨x16, e16⟩ : ∃ x, x32 / 65536 = x := ⟨_, rfl⟩
   have c16 : (65536 : Int) ≤ x32 := by omega
   have d16 : (x32 : Int) / 65536 = x16 := by omega
   by_cases h8 : 256 ≤ x16
   ·obtain ⟨x8, e8⟩ : ∃ x, x16 / 256 = x := ⟨_, rfl⟩
    have c8 : (256 : Int) ≤ x16 := by omega
    have d8 : (x16 : Int) / 256 = x8 := by omega
    have l1 : x8 < 256 := by omega
    have l2 : (x8 : Int) < 256 := by omega
    have hm : (x8 : Int) % 256 = x8 := by omega
    have hg := jbt jda x8 l1
    obtain ⟨v, hv⟩ : ∃ v, bt jda x8 = v := ⟨_, rfl⟩
    have hb := l8_bd x8 l1
    rw [show l8 x8 = v from hv] at hb
    rw [hv] at hg
    go_enter Tryz.func196, Tryz.ntmps196
    go_wp2
    go_ret
    refine ⟨⟨(56 + v).toNat, ?_, ?_, ?_⟩, Below.refl _ _⟩
    ·exact congrArg (fun y => Ending.returned (Value.int .i64 y)) (show (56 + v) = (((56 + v).toNat : Nat) : Int) by omega)
    ·omega
    ·exact jhe 56 n x8 v (by omega) (by rw [← e8, ← e16, ← e32, Nat.div_div_eq_div_mul, Nat.div_div_eq_div_mul]) hb.2.2
   ·have c8 : ¬ (256 : Int) ≤ x16 := by omega
    have l1 : x16 < 256 := by omega
    have l2 : (x16 : Int) < 256 := by omega
    have hm : (x16 : Int) % 256 = x16 := by omega
    have hg := jbt jda x16 l1
    obtain ⟨v, hv⟩ : ∃ v, bt jda x16 = v := ⟨_, rfl⟩
    have hb := l8_bd x16 l1
    rw [show l8 x16 = v from hv] at hb
    rw [hv] at hg
    go_enter Tryz.func196, Tryz.ntmps196
    go_wp2
    go_ret
    refine ⟨⟨(48 + v).toNat, ?_, ?_, ?_⟩, Below.refl _ _⟩
    ·exact congrArg (fun y => Ending.returned (Value.int .i64 y)) (show (48 + v) = (((48 + v).toNat : Nat) : Int) by omega)
    ·omega
    ·exact jhe 48 n x16 v (by omega) (by rw [← e16, ← e32, Nat.div_div_eq_div_mul]) hb.2.2
  ·have c16 : ¬ (65536 : Int) ≤ x32 := by omega
   by_cases h8 : 256 ≤ x32
   ·obtain ⟨x8, e8⟩ : ∃ x, x32 / 256 = x := ⟨_, rfl⟩
    have c8 : (256 : Int) ≤ x32 := by omega
    have d8 : (x32 : Int) / 256 = x8 := by omega
    have l1 : x8 < 256 := by omega
    have l2 : (x8 : Int) < 256 := by omega
    have hm : (x8 : Int) % 256 = x8 := by omega
    have hg := jbt jda x8 l1
    obtain ⟨v, hv⟩ : ∃ v, bt jda x8 = v := ⟨_, rfl⟩
    have hb := l8_bd x8 l1
    rw [show l8 x8 = v from hv] at hb
    rw [hv] at hg
    go_enter Tryz.func196, Tryz.ntmps196
    go_wp2
    go_ret
    refine ⟨⟨(40 + v).toNat, ?_, ?_, ?_⟩, Below.refl _ _⟩
    ·exact congrArg (fun y => Ending.returned (Value.int .i64 y)) (show (40 + v) = (((40 + v).toNat : Nat) : Int) by omega)
    ·omega
    ·exact jhe 40 n x8 v (by omega) (by rw [← e8, ← e32, Nat.div_div_eq_div_mul]) hb.2.2
   ·have c8 : ¬ (256 : Int) ≤ x32 := by omega
    have l1 : x32 < 256 := by omega
    have l2 : (x32 : Int) < 256 := by omega
    have hm : (x32 : Int) % 256 = x32 := by omega
    have hg := jbt jda x32 l1
    obtain ⟨v, hv⟩ : ∃ v, bt jda x32 = v := ⟨_, rfl⟩
    have hb := l8_bd x32 l1
    rw [show l8 x32 = v from hv] at hb
    rw [hv] at hg
    go_enter Tryz.func196, Tryz.ntmps196
    go_wp2
    go_ret
    refine ⟨⟨(32 + v).toNat, ?_, ?_, ?_⟩, Below.refl _ _⟩
    ·exact congrArg (fun y => Ending.returned (Value.int .i64 y)) (show (32 + v) = (((32 + v).toNat : Nat) : Int) by omega)
    ·omega
    ·exact jhe 32 n x32 v (by omega) (by rw [← e32]) hb.2.2
 ·have c32 : ¬ (4294967296 : Int) ≤ n := by omega
  by_cases h16 : 65536 ≤ n
  ·obtain ⟨x16, e16⟩ : ∃ x, n / 65536 = x := ⟨_, rfl⟩
   have c16 : (65536 : Int) ≤ n := by omega
   have d16 : (n : Int) / 65536 = x16 := by omega
   by_cases h8 : 256 ≤ x16
   ·obtain ⟨x8, e8⟩ : ∃ x, x16 / 256 = x := ⟨_, rfl⟩
    have c8 : (256 : Int) ≤ x16 := by omega
    have d8 : (x16 : Int) / 256 = x8 := by omega
    have l1 : x8 < 256 := by omega
    have l2 : (x8 : Int) < 256 := by omega
    have hm : (x8 : Int) % 256 = x8 := by omega
    have hg := jbt jda x8 l1
    obtain ⟨v, hv⟩ : ∃ v, bt jda x8 = v := ⟨_, rfl⟩
    have hb := l8_bd x8 l1
    rw [show l8 x8 = v from hv] at hb
    rw [hv] at hg
    go_enter Tryz.func196, Tryz.ntmps196
    go_wp2
    go_ret
    refine ⟨⟨(24 + v).toNat, ?_, ?_, ?_⟩, Below.refl _ _⟩
    ·exact congrArg (fun y => Ending.returned (Value.int .i64 y)) (show (24 + v) = (((24 + v).toNat : Nat) : Int) by omega)
    ·omega
    ·exact jhe 24 n x8 v (by omega) (by rw [← e8, ← e16, Nat.div_div_eq_div_mul]) hb.2.2
   ·have c8 : ¬ (256 : Int) ≤ x16 := by omega
    have l1 : x16 < 256 := by omega
    have l2 : (x16 : Int) < 256 := by omega
    have hm : (x16 : Int) % 256 = x16 := by omega
    have hg := jbt jda x16 l1
    obtain ⟨v, hv⟩ : ∃ v, bt jda x16 = v := ⟨_, rfl⟩
    have hb := l8_bd x16 l1
    rw [show l8 x16 = v from hv] at hb
    rw [hv] at hg
    go_enter Tryz.func196, Tryz.ntmps196
    go_wp2
    go_ret
    refine ⟨⟨(16 + v).toNat, ?_, ?_, ?_⟩, Below.refl _ _⟩
    ·exact congrArg (fun y => Ending.returned (Value.int .i64 y)) (show (16 + v) = (((16 + v).toNat : Nat) : Int) by omega)
    ·omega
    ·exact jhe 16 n x16 v (by omega) (by rw [← e16]) hb.2.2
  ·have c16 : ¬ (65536 : Int) ≤ n := by omega
   by_cases h8 : 256 ≤ n
   ·obtain ⟨x8, e8⟩ : ∃ x, n / 256 = x := ⟨_, rfl⟩
    have c8 : (256 : Int) ≤ n := by omega
    have d8 : (n : Int) / 256 = x8 := by omega
    have l1 : x8 < 256 := by omega
    have l2 : (x8 : Int) < 256 := by omega
    have hm : (x8 : Int) % 256 = x8 := by omega
    have hg := jbt jda x8 l1
    obtain ⟨v, hv⟩ : ∃ v, bt jda x8 = v := ⟨_, rfl⟩
    have hb := l8_bd x8 l1
    rw [show l8 x8 = v from hv] at hb
    rw [hv] at hg
    go_enter Tryz.func196, Tryz.ntmps196
    go_wp2
    go_ret
    refine ⟨⟨(8 + v).toNat, ?_, ?_, ?_⟩, Below.refl _ _⟩
    ·exact congrArg (fun y => Ending.returned (Value.int .i64 y)) (show (8 + v) = (((8 + v).toNat : Nat) : Int) by omega)
    ·omega
    ·exact jhe 8 n x8 v (by omega) (by rw [← e8]) hb.2.2
   ·have c8 : ¬ (256 : Int) ≤ n := by omega
    have l1 : n < 256 := by omega
    have l2 : (n : Int) < 256 := by omega
    have hm : (n : Int) % 256 = n := by omega
    have hg := jbt jda n l1
    obtain ⟨v, hv⟩ : ∃ v, bt jda n = v := ⟨_, rfl⟩
    have hb := l8_bd n l1
    rw [show l8 n = v from hv] at hb
    rw [hv] at hg
    go_enter Tryz.func196, Tryz.ntmps196
    go_wp2
    go_ret
    refine ⟨⟨v.toNat, ?_, ?_, ?_⟩, Below.refl _ _⟩
    ·exact congrArg (fun y => Ending.returned (Value.int .i64 y)) (show v = ((v.toNat : Nat) : Int) by omega)
    ·omega
    ·have := jhe 0 n n v (by omega) (by rw [Nat.pow_zero, Nat.div_one]) hb.2.2
     rw [show ((0 : Nat) : Int) + v = v by omega] at this
     exact this
abbrev U64 (a : Nat) : Prop := a < 18446744073709551616
theorem pm_u (a : Nat) (h : a < PM) : U64 a := by unfold PM at h; unfold U64; omega
theorem jev (a b : Nat) (ha : U64 a) (hb : U64 b) (w : World) :
  Calls Tryz.prog 184 #[.int .u64 a, .int .u64 b] w fun e w' => e = .returned (.int .u64 (adN a b : Nat)) ∧ Below w.heap.size w w' := by
 obtain ⟨x, hx⟩ : ∃ x, a % PM = x := ⟨_, rfl⟩
 obtain ⟨y, hy⟩ : ∃ y, b % PM = y := ⟨_, rfl⟩
 obtain ⟨z, hz⟩ : ∃ z, adN a b = z := ⟨_, rfl⟩
 have hx1 : x < PM := by rw [← hx]; exact Nat.mod_lt _ (by decide)
 have hy1 : y < PM := by rw [← hy]; exact Nat.mod_lt _ (by decide)
 have hz1 : z < PM := by rw [← hz]; exact ad_lt a b
 rw [hz]
 unfold adN at hz
 rw [hx, hy] at hz
 unfold PM at *
 have e1 : (a : Int) % 2147482867 = x := by omega
 have e2 : (b : Int) % 2147482867 = y := by omega
 obtain ⟨s, hs⟩ : ∃ s, x + y = s := ⟨_, rfl⟩
 have e3 : IntKind.u64.wrap ((x : Int) + y) = s := by rw [IntKind.wrap_u64]; omega
 have e4 : (s : Int) % 2147482867 = z := by rw [hs] at hz; omega
 clear hs
 clear hx hy hz
 go_enter Tryz.func184, Tryz.ntmps184
 go_wp2
 go_ret
 exact ⟨congrArg (fun q => Ending.returned (Value.int .u64 q)) e4, Below.refl _ _⟩
theorem jdd (a b : Nat) (ha : U64 a) (hb : U64 b) (w : World) :
  Calls Tryz.prog 173 #[.int .u64 a, .int .u64 b] w fun e w' => e = .returned (.int .u64 (sbN a b : Nat)) ∧ Below w.heap.size w w' := by
 obtain ⟨x, hx⟩ : ∃ x, a % PM = x := ⟨_, rfl⟩
 obtain ⟨y, hy⟩ : ∃ y, b % PM = y := ⟨_, rfl⟩
 obtain ⟨z, hz⟩ : ∃ z, sbN a b = z := ⟨_, rfl⟩
 have hx1 : x < PM := by rw [← hx]; exact Nat.mod_lt _ (by decide)
 have hy1 : y < PM := by rw [← hy]; exact Nat.mod_lt _ (by decide)
 have hz1 : z < PM := by rw [← hz]; exact jde a b
 rw [hz]
 unfold sbN at hz
 rw [hx, hy] at hz
 unfold PM at *
 have e1 : (a : Int) % 2147482867 = x := by omega
 have e2 : (b : Int) % 2147482867 = y := by omega
 obtain ⟨s, hs⟩ : ∃ s, x + 2147482867 = s := ⟨_, rfl⟩
 obtain ⟨d, hd⟩ : ∃ d, s - y = d := ⟨_, rfl⟩
 have e3 : IntKind.u64.wrap ((x : Int) + 2147482867) = s := by rw [IntKind.wrap_u64]; omega
 have e5 : IntKind.u64.wrap ((s : Int) - y) = d := by rw [IntKind.wrap_u64]; omega
 have e4 : (d : Int) % 2147482867 = z := by rw [hs, hd] at hz; omega
 clear hs hd
 clear hx hy hz
 go_enter Tryz.func173, Tryz.ntmps173
 go_wp2
 go_ret
 exact ⟨congrArg (fun q => Ending.returned (Value.int .u64 q)) e4, Below.refl _ _⟩
theorem jbn (a b : Nat) (ha : U64 a) (hb : U64 b) (w : World) :
  Calls Tryz.prog 169 #[.int .u64 a, .int .u64 b] w fun e w' => e = .returned (.int .u64 (muN a b : Nat)) ∧ Below w.heap.size w w' := by
 obtain ⟨x, hx⟩ : ∃ x, a % PM = x := ⟨_, rfl⟩
 obtain ⟨y, hy⟩ : ∃ y, b % PM = y := ⟨_, rfl⟩
 obtain ⟨z, hz⟩ : ∃ z, muN a b = z := ⟨_, rfl⟩
 have hx1 : x < PM := by rw [← hx]; exact Nat.mod_lt _ (by decide)
 have hy1 : y < PM := by rw [← hy]; exact Nat.mod_lt _ (by decide)
 have hz1 : z < PM := by rw [← hz]; exact jbq a b
 rw [hz]
 unfold muN at hz
 rw [hx, hy] at hz
 unfold PM at *
 have e1 : (a : Int) % 2147482867 = x := by omega
 have e2 : (b : Int) % 2147482867 = y := by omega
 obtain ⟨s, hs⟩ : ∃ s, x * y = s := ⟨_, rfl⟩
 have hs1 : s < 18446744073709551616 := by
  rw [← hs]
  exact Nat.lt_of_le_of_lt (Nat.mul_le_mul (Nat.le_of_lt hx1) (Nat.le_of_lt hy1)) (by decide)
 have hs2 : (x : Int) * y = s := by rw [← hs, Int.natCast_mul]
 have e3 : IntKind.u64.wrap ((x : Int) * y) = s := by rw [hs2, IntKind.wrap_u64]; omega
 have e4 : (s : Int) % 2147482867 = z := by rw [hs] at hz; omega
 clear hs hs2
 clear hx hy hz
 go_enter Tryz.func169, Tryz.ntmps169
 go_wp2
 go_ret
 exact ⟨congrArg (fun q => Ending.returned (Value.int .u64 q)) e4, Below.refl _ _⟩
theorem jgb (a b : Nat) (ha : U64 a) (hb : U64 b) (w : World) :
  Calls Tryz.prog 97 #[.int .u64 a, .int .u64 b] w fun e w' => e = .returned (.int .u64 (adN a b : Nat)) ∧ Below w.heap.size w w' := by
 obtain ⟨x, hx⟩ : ∃ x, a % PM = x := ⟨_, rfl⟩
 obtain ⟨y, hy⟩ : ∃ y, b % PM = y := ⟨_, rfl⟩
 obtain ⟨z, hz⟩ : ∃ z, adN a b = z := ⟨_, rfl⟩
 have hx1 : x < PM := by rw [← hx]; exact Nat.mod_lt _ (by decide)
 have hy1 : y < PM := by rw [← hy]; exact Nat.mod_lt _ (by decide)
 have hz1 : z < PM := by rw [← hz]; exact ad_lt a b
 rw [hz]
 unfold adN at hz
 rw [hx, hy] at hz
 unfold PM at *
 have e1 : (a : Int) % 2147482867 = x := by omega
 have e2 : (b : Int) % 2147482867 = y := by omega
 obtain ⟨s, hs⟩ : ∃ s, x + y = s := ⟨_, rfl⟩
 have e3 : IntKind.u64.wrap ((x : Int) + y) = s := by rw [IntKind.wrap_u64]; omega
 have e4 : (s : Int) % 2147482867 = z := by rw [hs] at hz; omega
 clear hs
 clear hx hy hz
 go_enter Tryz.func97, Tryz.ntmps97
 go_wp2
 go_ret
 exact ⟨congrArg (fun q => Ending.returned (Value.int .u64 q)) e4, Below.refl _ _⟩
theorem jcy (a b : Nat) (ha : U64 a) (hb : U64 b) (w : World) :
  Calls Tryz.prog 66 #[.int .u64 a, .int .u64 b] w fun e w' => e = .returned (.int .u64 (sbN a b : Nat)) ∧ Below w.heap.size w w' := by
 obtain ⟨x, hx⟩ : ∃ x, a % PM = x := ⟨_, rfl⟩
 obtain ⟨y, hy⟩ : ∃ y, b % PM = y := ⟨_, rfl⟩
 obtain ⟨z, hz⟩ : ∃ z, sbN a b = z := ⟨_, rfl⟩
 have hx1 : x < PM := by rw [← hx]; exact Nat.mod_lt _ (by decide)
 have hy1 : y < PM := by rw [← hy]; exact Nat.mod_lt _ (by decide)
 have hz1 : z < PM := by rw [← hz]; exact jde a b
 rw [hz]
 unfold sbN at hz
 rw [hx, hy] at hz
 unfold PM at *
 have e1 : (a : Int) % 2147482867 = x := by omega
 have e2 : (b : Int) % 2147482867 = y := by omega
 obtain ⟨s, hs⟩ : ∃ s, x + 2147482867 = s := ⟨_, rfl⟩
 obtain ⟨d, hd⟩ : ∃ d, s - y = d := ⟨_, rfl⟩
 have e3 : IntKind.u64.wrap ((x : Int) + 2147482867) = s := by rw [IntKind.wrap_u64]; omega
 have e5 : IntKind.u64.wrap ((s : Int) - y) = d := by rw [IntKind.wrap_u64]; omega
 have e4 : (d : Int) % 2147482867 = z := by rw [hs, hd] at hz; omega
 clear hs hd
 clear hx hy hz
 go_enter Tryz.func66, Tryz.ntmps66
 go_wp2
 go_ret
 exact ⟨congrArg (fun q => Ending.returned (Value.int .u64 q)) e4, Below.refl _ _⟩
theorem jbg (a b : Nat) (ha : U64 a) (hb : U64 b) (w : World) :
  Calls Tryz.prog 96 #[.int .u64 a, .int .u64 b] w fun e w' => e = .returned (.int .u64 (muN a b : Nat)) ∧ Below w.heap.size w w' := by
 obtain ⟨x, hx⟩ : ∃ x, a % PM = x := ⟨_, rfl⟩
 obtain ⟨y, hy⟩ : ∃ y, b % PM = y := ⟨_, rfl⟩
 obtain ⟨z, hz⟩ : ∃ z, muN a b = z := ⟨_, rfl⟩
 have hx1 : x < PM := by rw [← hx]; exact Nat.mod_lt _ (by decide)
 have hy1 : y < PM := by rw [← hy]; exact Nat.mod_lt _ (by decide)
 have hz1 : z < PM := by rw [← hz]; exact jbq a b
 rw [hz]
 unfold muN at hz
 rw [hx, hy] at hz
 unfold PM at *
 have e1 : (a : Int) % 2147482867 = x := by omega
 have e2 : (b : Int) % 2147482867 = y := by omega
 obtain ⟨s, hs⟩ : ∃ s, x * y = s := ⟨_, rfl⟩
 have hs1 : s < 18446744073709551616 := by
  rw [← hs]
  exact Nat.lt_of_le_of_lt (Nat.mul_le_mul (Nat.le_of_lt hx1) (Nat.le_of_lt hy1)) (by decide)
 have hs2 : (x : Int) * y = s := by rw [← hs, Int.natCast_mul]
 have e3 : IntKind.u64.wrap ((x : Int) * y) = s := by rw [hs2, IntKind.wrap_u64]; omega
 have e4 : (s : Int) % 2147482867 = z := by rw [hs] at hz; omega
 clear hs hs2
 clear hx hy hz
 go_enter Tryz.func96, Tryz.ntmps96
 go_wp2
 go_ret
 exact ⟨congrArg (fun q => Ending.returned (Value.int .u64 q)) e4, Below.refl _ _⟩
theorem jhb (k : Nat) (h : U64 k) : bits .and .u64 (k : Int) 1 = ((k % 2 : Nat) : Int) := by
 unfold U64 at h
 have e : (BitVec.ofInt 64 (k : Int) &&& BitVec.ofInt 64 1).toNat = k % 2 := by
  rw [BitVec.toNat_and]
  have a1 : (BitVec.ofInt 64 (k : Int)).toNat = k := by
   rw [BitVec.toNat_ofInt]; omega
  have a2 : (BitVec.ofInt 64 1).toNat = 1 := by decide
  rw [a1, a2, Nat.and_one_is_mod]
 show IntKind.u64.wrap ((BitVec.ofInt 64 (k : Int) &&& BitVec.ofInt 64 1).toNat : Int) = _
 rw [e]
 rw [IntKind.wrap_u64]
 omega
theorem pw_step (a n q : Nat) : pwN a (n / 2 ^ q) = if n / 2 ^ q % 2 = 1 then muN (muN (pwN a (n / 2 ^ (q + 1))) (pwN a (n / 2 ^ (q + 1)))) a else muN (pwN a (n / 2 ^ (q + 1))) (pwN a (n / 2 ^ (q + 1))) := by
 have e : n / 2 ^ (q + 1) = n / 2 ^ q / 2 := by rw [Nat.pow_succ, ← Nat.div_div_eq_div_mul]
 rw [e]
 split
 ·next h => exact pw_odd a _ h
 ·next h => exact pw_even a _ (by omega)
theorem q2_step (a : P2) (n q : Nat) : q2 a (n / 2 ^ q) = if n / 2 ^ q % 2 = 1 then m2 (m2 (q2 a (n / 2 ^ (q + 1))) (q2 a (n / 2 ^ (q + 1)))) a else m2 (q2 a (n / 2 ^ (q + 1))) (q2 a (n / 2 ^ (q + 1))) := by
 have e : n / 2 ^ (q + 1) = n / 2 ^ q / 2 := by rw [Nat.pow_succ, ← Nat.div_div_eq_div_mul]
 rw [e]
 split
 ·next h => exact q2_odd a _ h
 ·next h => exact q2_even a _ (by omega)
theorem rpow_any (a n : Nat) (ha : U64 a) (hn : U64 n) (w : World) :
  Calls Tryz.prog 95 #[.int .u64 a, .int .u64 n] w fun e w' => e = .returned (.int .u64 (pwN a n : Nat)) ∧ Below w.heap.size w w' := by
 go_enter Tryz.func95, Tryz.ntmps95
 go_wp2
 go_loopg [5, 6] 64 (fun gk o i wr => i = .int .i64 ((gk : Int) - 1) ∧ o = .int .u64 (pwN a (n / 2 ^ gk) : Nat) ∧ gk ≤ 64 ∧ Below w.heap.size w wr)
 case atStart =>
  refine ⟨rfl, ?_, by omega, Below.refl _ _⟩
  have : n / 2 ^ 64 = 0 := Nat.div_eq_of_lt hn
  rw [this, pw_0]
  rfl
 case round =>
  obtain ⟨rfl, rfl, hg, BW⟩ := hrel
  cases gk with
  | zero =>
   have e0 : pwN a (n / 2 ^ 0) = pwN a n := by rw [Nat.pow_zero, Nat.div_one]
   rw [e0]
   go_wp2
   go_ret
   exact ⟨rfl, BW⟩
  | succ q =>
   obtain ⟨x, hx⟩ : ∃ x, pwN a (n / 2 ^ (q + 1)) = x := ⟨_, rfl⟩
   obtain ⟨y, hy⟩ : ∃ y, n / 2 ^ q = y := ⟨_, rfl⟩
   have hxU : U64 x := by rw [← hx]; exact pm_u _ (pw_lt _ _)
   have hyU : U64 y := by rw [← hy]; exact Nat.lt_of_le_of_lt (Nat.div_le_self _ _) hn
   have st := pw_step a n q
   rw [hx, hy] at st
   obtain ⟨s, hs⟩ : ∃ s, muN x x = s := ⟨_, rfl⟩
   have hsU : U64 s := by rw [← hs]; exact pm_u _ (jbq _ _)
   rw [hs] at st
   have hd : (n : Int) / 2 ^ q = y := by rw [← hy]; simp [Int.natCast_ediv, Int.natCast_pow]
   have ha1 := jhb y hyU
   have C1 := jbg x x hxU hxU
   rw [hs] at C1
   have HH : Hid (_ ∧ _) := ⟨hy, st⟩
   rw [hx]
   clear hx hy st hs
   by_cases hb : y % 2 = 1
   ·rw [hb] at ha1
    go_wp2_with fail
    refine (C1 _).mono ?_
    rintro e w1 ⟨rfl, B1⟩
    go_wp2_with fail
    refine (jbg s a hsU ha _).mono ?_
    rintro e w2 ⟨rfl, B2⟩
    go_wp2_with fail
    go_roundg q
    case measure => omega
    case rel =>
     refine ⟨by congr 1, ?_, by omega, (jaa (jaa BW BW.size B1) (Nat.le_trans BW.size B1.size) B2)⟩
     rw [HH.out.1, HH.out.2, if_pos hb]
   ·rw [show y % 2 = 0 by omega] at ha1
    go_wp2_with fail
    refine (C1 _).mono ?_
    rintro e w1 ⟨rfl, B1⟩
    go_wp2_with fail
    go_roundg q
    case measure => omega
    case rel =>
     refine ⟨by congr 1, ?_, by omega, (jaa BW BW.size B1)⟩
     rw [HH.out.1, HH.out.2, if_neg hb]
end Go.Proofs.YtoddangedbefgabGreatDoor
namespace Go.Proofs.YtoddangedbefgabGreatDoor
open Go.RowKit
structure Pt where
 X : Nat
 Y : Nat
 I : Bool
deriving DecidableEq
theorem Pt.ext' {p q : Pt} (h1 : p.X = q.X) (h2 : p.Y = q.Y) (h3 : p.I = q.I) : p = q := by
 cases p; cases q; simp only at h1 h2 h3; subst h1 h2 h3; rfl
def iN : Pt := ⟨0, 0, true⟩
def oP : Pt := ⟨0, 0, false⟩
def sqN (x : Nat) : Nat := adN (muN (muN x x) x) x
theorem sq_lt (x : Nat) : sqN x < PM := ad_lt _ _
def onN (p : Pt) : Bool := if p.I then decide (p = iN) else decide (p.X < PM) && decide (p.Y < PM) && decide (muN p.Y p.Y = sqN p.X)
def ngN (p : Pt) : Pt := ⟨p.X, sbN 0 p.Y, p.I⟩
def ovN (a b : Nat) : Nat := muN a (ivN b)
def slN (p q : Pt) : Nat := if p = q then ovN (adN (muN 3 (muN p.X p.X)) 1) (adN p.Y p.Y) else ovN (sbN q.Y p.Y) (sbN q.X p.X)
theorem sl_lt (p q : Pt) : slN p q < PM := by unfold slN ovN; split <;> exact jbq _ _
def lnX (l : Nat) (p q : Pt) : Nat := sbN (sbN (muN l l) p.X) q.X
def lnY (l x : Nat) (p : Pt) : Nat := sbN (muN l (sbN p.X x)) p.Y
def lnN (l : Nat) (p q : Pt) : Pt := ⟨lnX l p q, lnY l (lnX l p q) p, false⟩
def smN (p q : Pt) : Pt := if p = iN then q else if q = iN then p else if q = ngN p then iN else lnN (slN p q) p q
def Wl (p : Pt) : Prop := p.X < PM ∧ p.Y < PM ∧ (p.I = true → p = iN)
theorem wl_inf : Wl iN := ⟨by decide, by decide, fun _ => rfl⟩
theorem jbs {p : Pt} (h : onN p = true) : Wl p := by
 unfold onN at h
 split at h
 ·have e : p = iN := of_decide_eq_true h
  rw [e]; exact wl_inf
 ·next hi =>
  simp only [Bool.and_eq_true, decide_eq_true_eq] at h
  exact ⟨h.1.1, h.1.2, fun e => absurd e hi⟩
theorem wl_sm {p q : Pt} (hp : Wl p) (hq : Wl q) : Wl (smN p q) := by
 unfold smN
 split
 ·exact hq
 ·split
  ·exact hp
  ·split
   ·exact wl_inf
   ·exact ⟨jde _ _, jde _ _, fun e => by cases e⟩
theorem wl_i {p : Pt} (h : Wl p) (hn : p ≠ iN) : p.I = false := by
 cases e : p.I
 ·rfl
 ·exact absurd (h.2.2 e) hn
theorem jcd (q : Pt) : smN iN q = q := by unfold smN; rw [if_pos rfl]
theorem jdz (p : Pt) : smN p iN = p := by
 unfold smN
 split
 ·next h => exact h.symm
 ·rw [if_pos rfl]
def tmN (p : Pt) (n : Nat) : Pt := if h : n = 0 then iN else if n % 2 = 1 then smN (smN (tmN p (n / 2)) (tmN p (n / 2))) p else smN (tmN p (n / 2)) (tmN p (n / 2))
termination_by n
decreasing_by all_goals omega
theorem tm_0 (p : Pt) : tmN p 0 = iN := by rw [tmN, dif_pos rfl]
theorem tm_odd (p : Pt) (n : Nat) (h : n % 2 = 1) : tmN p n = smN (smN (tmN p (n / 2)) (tmN p (n / 2))) p := by rw [tmN, dif_neg (by omega), if_pos h]
theorem jgn (p : Pt) (n : Nat) (h : n % 2 = 0) : tmN p n = smN (tmN p (n / 2)) (tmN p (n / 2)) := by
 by_cases h0 : n = 0
 ·subst h0; rw [show 0 / 2 = 0 from rfl, tm_0, jcd]
 ·rw [tmN, dif_neg h0, if_neg (by omega)]
theorem tm_step (p : Pt) (n q : Nat) : tmN p (n / 2 ^ q) = if n / 2 ^ q % 2 = 1 then smN (smN (tmN p (n / 2 ^ (q + 1))) (tmN p (n / 2 ^ (q + 1)))) p else smN (tmN p (n / 2 ^ (q + 1))) (tmN p (n / 2 ^ (q + 1))) := by
 have e : n / 2 ^ (q + 1) = n / 2 ^ q / 2 := by rw [Nat.pow_succ, ← Nat.div_div_eq_div_mul]
 rw [e]
 split
 ·next h => exact tm_odd p _ h
 ·next h => exact jgn p _ (by omega)
theorem wl_tm (p : Pt) (h : Wl p) (n : Nat) : Wl (tmN p n) := by
 induction n using Nat.strongRecOn with
 | ind n ih =>
  by_cases h0 : n = 0
  ·subst h0; rw [tm_0]; exact wl_inf
  ·have e := ih (n / 2) (by omega)
   by_cases h1 : n % 2 = 1
   ·rw [tm_odd p n h1]; exact wl_sm (wl_sm e e) h
   ·rw [jgn p n (by omega)]; exact wl_sm e e
theorem tm_inf (n : Nat) : tmN iN n = iN := by
 induction n using Nat.strongRecOn with
 | ind n ih =>
  by_cases h0 : n = 0
  ·subst h0; rw [tm_0]
  ·have e := ih (n / 2) (by omega)
   by_cases h1 : n % 2 = 1
   ·rw [tm_odd _ n h1, e, jcd, jcd]
   ·rw [jgn _ n (by omega), e, jcd]
def orN : Nat := 536870717
def grN (p : Pt) : Bool := onN p && decide (tmN p orN = iN)
/- The reference's, on points told so. -/
theorem r_on (p : Pt) : (if p.I = true then decide (p.X = 0) && decide (p.Y = 0) else decide (p.X < PM) && decide (p.Y < PM) && decide (muN p.Y p.Y = adN (muN p.X (muN p.X p.X)) p.X)) = onN p := by
 unfold onN sqN
 rw [mu_comm p.X (muN p.X p.X)]
 by_cases hi : p.I = true
 ·rw [if_pos hi, if_pos hi]
  by_cases e : p = iN
  ·subst e; rfl
  ·rw [decide_eq_false e]
   simp only [Bool.and_eq_false_iff, decide_eq_false_iff_not]
   by_cases h0 : p.X = 0
   ·right
    intro h1
    exact e (Pt.ext' h0 h1 hi)
   ·exact .inl h0
 ·rw [if_neg hi, if_neg hi]
theorem dbl (y : Nat) : muN 2 y = adN y y := by rw [jes, ad_eq, Nat.two_mul]
theorem jgt {p : Pt} (h : Wl p) : ngN (ngN p) = p := by
 refine Pt.ext' rfl ?_ rfl
 have := h.2.1
 show sbN 0 (sbN 0 p.Y) = p.Y
 unfold sbN PM at *
 omega
theorem on_ng {p : Pt} (h : onN p = true) : onN (ngN p) = true := by
 have w := jbs h
 by_cases hi : p = iN
 ·subst hi; exact h
 ·have hf := wl_i w hi
  unfold onN at h ⊢
  rw [if_neg (by rw [hf]; simp)] at h
  rw [if_neg (by show ¬ p.I = true; rw [hf]; simp)]
  simp only [Bool.and_eq_true, decide_eq_true_eq] at h ⊢
  refine ⟨⟨h.1.1, jde _ _⟩, ?_⟩
  show muN (sbN 0 p.Y) (sbN 0 p.Y) = sqN p.X
  rw [← h.2]
  by_cases y0 : p.Y = 0
  ·rw [y0]; rfl
  ·have : sbN 0 p.Y = PM - p.Y := by
    have := w.2.1
    unfold sbN PM at *; omega
   rw [this, sq_neg _ w.2.1]
theorem sm_ng {p : Pt} (h : Wl p) : smN p (ngN p) = iN := by
 unfold smN
 split
 ·next e => subst e; rfl
 ·next e =>
  split
  ·next e2 =>
   have := jgt h
   rw [e2] at this
   exact absurd this.symm e
  ·rw [if_pos rfl]
end Go.Proofs.YtoddangedbefgabGreatDoor
namespace Go.Proofs.YtoddangedbefgabGreatDoor
open Go.RowKit
def jgo {A : Type} (n : Nat) (f : Nat → A) : A := match n with | 0 => f 0 | m + 1 => f (m + 1)
theorem jej {A : Type} (n : Nat) (f : Nat → A) : jgo n f = f n := by cases n <;> rfl
def pwI (a n : Nat) : Nat → Nat → Nat
 | 0, acc => acc
 | k + 1, acc => jgo (if n / 2 ^ k % 2 = 1 then muN (muN acc acc) a else muN acc acc) (pwI a n k)
theorem pwI_eq (a n : Nat) : ∀ k, pwI a n k (pwN a (n / 2 ^ k)) = pwN a n
 | 0 => by rw [pwI, Nat.pow_zero, Nat.div_one]
 | k + 1 => by rw [pwI, jej, ← pw_step, pwI_eq a n k]
def ivI (a : Nat) : Nat := pwI a 2147482865 31 1
theorem ivI_eq (a : Nat) : ivI a = ivN a := by
 have := pwI_eq a 2147482865 31
 rw [show 2147482865 / 2 ^ 31 = 0 by decide, pw_0] at this
 exact this
def slI (p q : Pt) : Nat := if p = q then muN (adN (muN 3 (muN p.X p.X)) 1) (ivI (adN p.Y p.Y)) else muN (sbN q.Y p.Y) (ivI (sbN q.X p.X))
theorem slI_eq (p q : Pt) : slI p q = slN p q := by unfold slI slN ovN; rw [ivI_eq, ivI_eq]
def smI (p q : Pt) : Pt := if p = iN then q else if q = iN then p else if q = ngN p then iN else
 jgo (slI p q) fun l => jgo (lnX l p q) fun x => jgo (lnY l x p) fun y => ⟨x, y, false⟩
theorem smI_eq (p q : Pt) : smI p q = smN p q := by
 unfold smI smN lnN
 rw [jej, jej, jej, slI_eq]
def tmI (p : Pt) (n : Nat) : Nat → Pt → Pt
 | 0, acc => acc
 | k + 1, acc => tmI p n k (if n / 2 ^ k % 2 = 1 then smI (smI acc acc) p else smI acc acc)
theorem tmI_eq (p : Pt) (n : Nat) : ∀ k, tmI p n k (tmN p (n / 2 ^ k)) = tmN p n
 | 0 => by rw [tmI, Nat.pow_zero, Nat.div_one]
 | k + 1 => by rw [tmI, smI_eq, smI_eq, ← tm_step, tmI_eq p n k]
def gN : Pt := ⟨1846166884, 1411018613, false⟩
theorem on_gen : onN gN = true := by decide +kernel
theorem gen_tm : tmN gN 536870717 = iN := by
 have := tmI_eq gN 536870717 30
 rw [show 536870717 / 2 ^ 30 = 0 by decide, tm_0] at this
 rw [← this]
 decide +kernel
theorem gr_gen : grN gN = true := by
 have : grN gN = (onN gN && decide (tmN gN 536870717 = iN)) := rfl
 rw [this, on_gen, gen_tm, decide_eq_true rfl]
 rfl
def chkD : Nat → Nat → Bool
 | 0, _ => true
 | n + 1, d => (PM % d != 0) && jgo (d + 1) (chkD n)
theorem chkD_spec : ∀ (n d : Nat), chkD n d = true → ∀ k, k < n → PM % (d + k) ≠ 0
 | 0, _, _, k, hk => absurd hk (Nat.not_lt_zero k)
 | n + 1, d, h, k, hk => by
  rw [chkD, jej, Bool.and_eq_true, bne_iff_ne] at h
  cases k with
  | zero => exact h.1
  | succ k =>
   have := chkD_spec n (d + 1) h.2 k (by omega)
   rw [show d + (k + 1) = d + 1 + k by omega]
   exact this
theorem chk_all : (List.range 47).all (fun i => chkD 1000 (2 + 1000 * i)) = true := by decide +kernel
theorem no_small (d : Nat) (h2 : 2 ≤ d) (h : d < 47000) : ¬ d ∣ PM := by
 intro hd
 have h1 := List.all_eq_true.1 chk_all ((d - 2) / 1000) (List.mem_range.2 (by omega))
 have h3 := chkD_spec 1000 _ h1 ((d - 2) % 1000) (by omega)
 rw [show 2 + 1000 * ((d - 2) / 1000) + (d - 2) % 1000 = d by omega] at h3
 exact h3 (Nat.mod_eq_zero_of_dvd hd)
def IsP (p : Nat) : Prop := 2 ≤ p ∧ ∀ d, d ∣ p → d = 1 ∨ d = p
theorem pm_prime : IsP PM := by
 refine ⟨by decide, fun d hd => ?_⟩
 obtain ⟨e, he⟩ := hd
 obtain ⟨q, hq⟩ : ∃ q, PM = q := ⟨_, rfl⟩
 have hq2 : q = 2147482867 := by rw [← hq]
 by_cases h1 : d = 1
 ·exact .inl h1
 ·by_cases h0 : d = 0
  ·subst h0
   rw [Nat.zero_mul] at he
   exact absurd he (by decide)
  ·by_cases hs : d < 47000
   ·exact absurd ⟨e, he⟩ (no_small d (by omega) hs)
   ·by_cases e1 : e = 1
    ·subst e1; rw [Nat.mul_one] at he; exact .inr he.symm
    ·by_cases e0 : e = 0
     ·subst e0; rw [Nat.mul_zero] at he; exact absurd he (by decide)
     ·have hes : e < 47000 := by
       apply Nat.lt_of_not_le
       intro hle
       have := Nat.mul_le_mul (Nat.le_of_not_lt hs) hle
       rw [← he] at this
       exact absurd this (by decide)
      exact absurd ⟨d, by rw [Nat.mul_comm]; exact he⟩ (no_small e (by omega) hes)
theorem IsP.cop {p : Nat} (hp : IsP p) {a : Nat} (h : ¬ p ∣ a) : Nat.Coprime p a := by
 rcases hp.2 (Nat.gcd p a) (Nat.gcd_dvd_left p a) with h1 | h1
 ·exact h1
 ·exact absurd (h1 ▸ Nat.gcd_dvd_right p a) h
theorem IsP.split {p : Nat} (hp : IsP p) {a b : Nat} (h : p ∣ a * b) : p ∣ a ∨ p ∣ b := by
 by_cases ha : p ∣ a
 ·exact .inl ha
 ·exact .inr ((hp.cop ha).dvd_of_dvd_mul_left h)
def chN : Nat → Nat → Nat
 | _, 0 => 1
 | 0, _ + 1 => 0
 | n + 1, k + 1 => chN n k + chN n (k + 1)
theorem ch_0 (n : Nat) : chN n 0 = 1 := by cases n <;> rfl
theorem ch_gt : ∀ (n k : Nat), n < k → chN n k = 0
 | 0, k + 1, _ => rfl
 | n + 1, k + 1, h => by rw [chN, ch_gt n k (by omega), ch_gt n (k + 1) (by omega)]
theorem ch_self : ∀ n, chN n n = 1
 | 0 => rfl
 | n + 1 => by rw [chN, ch_self n, ch_gt n (n + 1) (by omega)]
theorem ch_mul : ∀ (n k : Nat), (k + 1) * chN (n + 1) (k + 1) = (n + 1) * chN n k
 | 0, k => by
  rw [chN]
  cases k with
  | zero => rfl
  | succ k => simp [chN]
 | n + 1, k => by
  rw [chN, Nat.mul_add, ch_mul n k]
  cases k with
  | zero => rw [ch_0, ch_0]; omega
  | succ j =>
   have h1 := ch_mul n j
   have h2 : chN (n + 1) (j + 1) = chN n j + chN n (j + 1) := rfl
   have e1 : (j + 1 + 1) * chN (n + 1) (j + 1) = chN (n + 1) (j + 1) + (j + 1) * chN (n + 1) (j + 1) := by rw [Nat.add_mul (j + 1) 1, Nat.one_mul, Nat.add_comm]
   rw [e1, h1, Nat.add_assoc, ← Nat.mul_add, ← h2, Nat.add_mul (n + 1) 1, Nat.one_mul, Nat.add_comm]
theorem ch_dvd {p : Nat} (hp : IsP p) (k : Nat) (h0 : 0 < k) (hk : k < p) : p ∣ chN p k := by
 obtain ⟨q, rfl⟩ : ∃ q, p = q + 1 := ⟨p - 1, by have := hp.1; omega⟩
 obtain ⟨j, rfl⟩ : ∃ j, k = j + 1 := ⟨k - 1, by omega⟩
 have h : (q + 1) ∣ (j + 1) * chN (q + 1) (j + 1) := ⟨_, ch_mul q j⟩
 rcases hp.split h with h1 | h1
 ·exact absurd (Nat.le_of_dvd (by omega) h1) (by omega)
 ·exact h1
def bsN (n a : Nat) : Nat → Nat
 | 0 => 0
 | m + 1 => bsN n a m + chN n m * a ^ m
theorem bs_step (n a : Nat) : ∀ m, bsN (n + 1) a (m + 1) = a * bsN n a m + bsN n a (m + 1)
 | 0 => by simp [bsN, ch_0]
 | m + 1 => by
  rw [bsN, bs_step n a m]
  have e1 : chN (n + 1) (m + 1) = chN n m + chN n (m + 1) := rfl
  have e2 : bsN n a (m + 1) = bsN n a m + chN n m * a ^ m := rfl
  have e3 : bsN n a (m + 1 + 1) = bsN n a (m + 1) + chN n (m + 1) * a ^ (m + 1) := rfl
  have e4 : a * bsN n a (m + 1) = a * bsN n a m + chN n m * a ^ (m + 1) := by
   rw [e2, Nat.mul_add, Nat.pow_succ, Nat.mul_left_comm, Nat.mul_comm a (a ^ m)]
  rw [e3, e4, e1, Nat.add_mul]
  omega
theorem binom (a : Nat) : ∀ n, (a + 1) ^ n = bsN n a (n + 1)
 | 0 => by simp [bsN, ch_0]
 | n + 1 => by
  rw [bs_step, Nat.pow_succ, binom a n, Nat.mul_add, Nat.mul_one, Nat.mul_comm]
  have : bsN n a (n + 1 + 1) = bsN n a (n + 1) := by
   rw [bsN, ch_gt n (n + 1) (by omega), Nat.zero_mul, Nat.add_zero]
  rw [this]
theorem bs_mod {p : Nat} (hp : IsP p) (a : Nat) : ∀ m, m < p → bsN p a (m + 1) % p = 1 % p
 | 0, _ => by simp [bsN, ch_0]
 | m + 1, h => by
  rw [bsN, Nat.add_mod, bs_mod hp a m (by omega)]
  have : chN p (m + 1) * a ^ (m + 1) % p = 0 := by
   obtain ⟨c, hc⟩ := ch_dvd hp (m + 1) (by omega) h
   rw [hc, Nat.mul_assoc, Nat.mul_mod_right]
  rw [this, Nat.add_zero, Nat.mod_mod]
theorem fermat {p : Nat} (hp : IsP p) : ∀ a, a ^ p % p = a % p
 | 0 => by rw [Nat.zero_pow (by have := hp.1; omega)]
 | a + 1 => by
  have h2 := hp.1
  rw [binom, bsN, ch_self, Nat.one_mul, Nat.add_mod, fermat hp a]
  obtain ⟨q, rfl⟩ : ∃ q, p = q + 1 := ⟨p - 1, by omega⟩
  rw [bs_mod hp a q (by omega), ← Nat.add_mod, Nat.add_comm]
theorem sq_pow (y k : Nat) : muN (pwN (muN y y) k) (pwN (muN y y) k) = y ^ (2 * (k + k)) % PM := by
 rw [pw_pow, jes, jes, ← Nat.mul_mod, ← Nat.pow_add, ← Nat.pow_mod, ← Nat.pow_two, ← Nat.pow_mul]
theorem ro_sq (y : Nat) : roB (muN y y) = true := by
 unfold roB
 refine decide_eq_true ?_
 unfold rtN
 rw [Nat.mod_eq_of_lt (jbq y y), sq_pow, jes]
 rw [show 2 * (536870717 + 536870717) = PM + 1 from rfl, Nat.pow_succ, Nat.mul_mod, fermat pm_prime, ← Nat.mul_mod]
theorem root_two (r y : Nat) (hr : r < PM) (hy : y < PM) (h : muN r r = muN y y) : r = y ∨ r + y = PM := by
 rw [jes, jes] at h
 have key : ∀ r y, r < PM → y < PM → y ≤ r → r * r % PM = y * y % PM → r = y ∨ r + y = PM := by
  intro r y hr hy hle h
  obtain ⟨d, rfl⟩ : ∃ d, r = y + d := ⟨r - y, by omega⟩
  have e : (y + d) * (y + d) = y * y + d * (y + d + y) := by
   simp only [Nat.add_mul, Nat.mul_add, Nat.mul_comm y d]; omega
  have h' : PM ∣ d * (y + d + y) := by
   have h1 := (Nat.sub_mod_eq_zero_of_mod_eq h)
   rw [e, Nat.add_sub_cancel_left] at h1
   exact Nat.dvd_of_mod_eq_zero h1
  rcases pm_prime.split h' with ⟨c, hc⟩ | ⟨c, hc⟩
  ·left
   cases c with
   | zero => rw [Nat.mul_zero] at hc; omega
   | succ c => rw [Nat.mul_add, Nat.mul_one] at hc; omega
  ·match c, hc with
   | 0, hc => left; rw [Nat.mul_zero] at hc; omega
   | 1, hc => right; rw [Nat.mul_one] at hc; exact hc
   | c + 2, hc => exfalso; rw [Nat.mul_add] at hc; omega
 by_cases hle : y ≤ r
 ·exact key r y hr hy hle h
 ·rcases key y r hy hr (by omega) h.symm with e | e
  ·exact .inl e.symm
  ·right; omega
theorem ro_of (y : Nat) (hy : y < PM) (a : Nat) (ha : muN y y = a) : roB a = true ∧ (y % 2 = 0 → roN a = y) ∧ (y % 2 = 1 → sbN 0 (roN a) = y) := by
 subst ha
 have hb := ro_sq y
 have he := jeo _ hb
 have hl := ro_lt (muN y y)
 obtain ⟨r, hr⟩ : ∃ r, roN (muN y y) = r := ⟨_, rfl⟩
 rw [hr] at he hl ⊢
 have e1 : muN r r = muN y y := by
  rw [he.1, ad_eq, Nat.add_zero, Nat.mod_eq_of_lt (jbq y y)]
 refine ⟨hb, fun h0 => ?_, fun h1 => ?_⟩
 ·rcases root_two r y hl hy e1 with e | e
  ·exact e
  ·have := he.2
   unfold PM at e
   omega
 ·rcases root_two r y hl hy e1 with e | e
  ·have := he.2
   omega
  ·unfold sbN PM at *
   omega
abbrev PI : Int := 2147482867
def Dv (x : Int) : Prop := ∃ k, x = PI * k
theorem Dv.zero : Dv 0 := ⟨0, by simp⟩
theorem Dv.add {x y : Int} (hx : Dv x) (hy : Dv y) : Dv (x + y) := by
 obtain ⟨a, rfl⟩ := hx
 obtain ⟨b, rfl⟩ := hy
 exact ⟨a + b, by rw [Int.mul_add]⟩
theorem Dv.neg {x : Int} (hx : Dv x) : Dv (-x) := by
 obtain ⟨a, rfl⟩ := hx
 exact ⟨-a, by rw [Int.mul_neg]⟩
theorem Dv.sub {x y : Int} (hx : Dv x) (hy : Dv y) : Dv (x - y) := by
 rw [Int.sub_eq_add_neg]; exact hx.add hy.neg
theorem Dv.mul {x : Int} (hx : Dv x) (y : Int) : Dv (x * y) := by
 obtain ⟨a, rfl⟩ := hx
 exact ⟨a * y, by rw [Int.mul_assoc]⟩
theorem Dv.lmul {x : Int} (hx : Dv x) (y : Int) : Dv (y * x) := by rw [Int.mul_comm]; exact hx.mul y
theorem Dv.of_eq {x y : Int} (hx : Dv x) (e : y = x) : Dv y := e ▸ hx
theorem dv_nat {a b : Nat} (h : Dv ((a : Int) - b)) : a % PM = b % PM := by
 obtain ⟨k, hk⟩ := h
 unfold PM PI at *
 omega
theorem nat_dv {a b : Nat} (h : a % PM = b % PM) : Dv ((a : Int) - b) := by
 refine ⟨(a / PM : Nat) - (b / PM : Nat), ?_⟩
 unfold PM PI at *
 omega
theorem dv_lt {a b : Nat} (ha : a < PM) (hb : b < PM) (h : Dv ((a : Int) - b)) : a = b := by
 have := dv_nat h
 rw [Nat.mod_eq_of_lt ha, Nat.mod_eq_of_lt hb] at this
 exact this
theorem dv_mu (a b : Nat) : Dv ((muN a b : Nat) - (a : Int) * b) := by
 have := nat_dv (a := muN a b) (b := a * b) (by rw [jes, Nat.mod_mod])
 rw [Int.natCast_mul] at this
 exact this
theorem dv_ad (a b : Nat) : Dv ((adN a b : Nat) - ((a : Int) + b)) := by
 have := nat_dv (a := adN a b) (b := a + b) (by rw [ad_eq, Nat.mod_mod])
 rw [Int.natCast_add] at this
 exact this
theorem dv_sb (a b : Nat) : Dv ((sbN a b : Nat) - ((a : Int) - b)) := by
 refine ⟨-((a / PM : Nat) : Int) + 1 + (b / PM : Nat) - ((a % PM + PM - b % PM) / PM : Nat), ?_⟩
 unfold sbN PM PI
 omega
theorem dv_split {x y : Int} (h : Dv (x * y)) : Dv x ∨ Dv y := by
 obtain ⟨k, hk⟩ := h
 have h1 : PM ∣ x.natAbs * y.natAbs := by
  rw [← Int.natAbs_mul, hk, Int.natAbs_mul]
  exact ⟨k.natAbs, rfl⟩
 have back : ∀ z : Int, PM ∣ z.natAbs → Dv z := by
  intro z hz
  obtain ⟨c, hc⟩ := hz
  rcases Int.natAbs_eq z with e | e
  ·exact ⟨c, by rw [e, hc, Int.natCast_mul]; rfl⟩
  ·exact ⟨-c, by rw [e, hc, Int.natCast_mul, Int.mul_neg]; rfl⟩
 rcases pm_prime.split h1 with h2 | h2
 ·exact .inl (back _ h2)
 ·exact .inr (back _ h2)
theorem pow_s (b n m : Nat) (h : m = n + 1) : ((b ^ m : Nat) : Int) = ((b ^ n : Nat) : Int) * b := by rw [h, Nat.pow_succ, Int.natCast_mul]
theorem pw_dv (b n : Nat) : Dv (((pwN b n : Nat) : Int) - (b ^ n : Nat)) := nat_dv (by rw [pw_pow, Nat.mod_mod])
theorem dv_fermat (b n : Nat) (hn : n + 1 = PM) : Dv ((b : Int) * (((b ^ n : Nat) : Int) - 1)) := by
 have e := fermat pm_prime b
 rw [← hn, Nat.pow_succ, hn] at e
 refine (nat_dv e).of_eq ?_
 rw [Int.natCast_mul, Int.mul_sub, Int.mul_one, Int.mul_comm]
theorem dv_ov (a b : Nat) (h : ¬ Dv (b : Int)) : Dv ((ovN a b : Nat) * (b : Int) - a) := by
 have h1 := dv_fermat b 2147482866 rfl
 have h2 : Dv (((b ^ 2147482866 : Nat) : Int) - 1) := (dv_split h1).resolve_left h
 have h3 : Dv (((ivN b : Nat) : Int) - (b ^ 2147482865 : Nat)) := pw_dv b 2147482865
 have h4 := dv_mu a (ivN b)
 have e5 : ((b ^ 2147482866 : Nat) : Int) = ((b ^ 2147482865 : Nat) : Int) * b := pow_s b 2147482865 2147482866 rfl
 rw [e5] at h2
 have e6 : ovN a b = muN a (ivN b) := rfl
 rw [e6]
 generalize ((b ^ 2147482865 : Nat) : Int) = u at *
 generalize ((muN a (ivN b) : Nat) : Int) = m at *
 generalize ((ivN b : Nat) : Int) = v at *
 generalize (b : Int) = c at *
 generalize (a : Int) = d at *
 exact (((h4.mul c).add (h3.lmul (d * c))).add (h2.lmul d)).of_eq (by grind)
theorem third (x1 y1 x2 l X Y g : Int) (h1 : Dv (y1 * y1 - (x1 * x1 * x1 + x1))) (hg : g = x2 * x2 + x1 * x2 + x1 * x1 + 1 - l * l * (x2 - x1) - 2 * l * y1) (dg : Dv g)
  (hX : Dv (X - (l * l - x1 - x2))) (hY : Dv (Y - (l * (x1 - X) - y1))) : Dv (Y * Y - (X * X * X + X)) := by
 have e1 : Dv (Y * Y - (l * (x1 - X) - y1) * (l * (x1 - X) - y1)) := (hY.mul (Y + (l * (x1 - X) - y1))).of_eq (by grind)
 have e2 : Dv ((l * (x1 - X) - y1) * (l * (x1 - X) - y1) - (X * X * X + X)) := by
  refine (((h1.sub (dg.mul (X - x1))).sub (hX.mul ((X - x1) * (X - x2)))).of_eq ?_)
  subst hg
  grind
 exact (e1.add e2).of_eq (by grind)
theorem on_iff {p : Pt} (hp : Wl p) (hi : p ≠ iN) : onN p = true ↔ Dv ((p.Y : Int) * p.Y - ((p.X : Int) * p.X * p.X + p.X)) := by
 have hf := wl_i hp hi
 have e : Dv ((muN p.Y p.Y : Nat) - (sqN p.X : Nat)) ↔ Dv ((p.Y : Int) * p.Y - ((p.X : Int) * p.X * p.X + p.X)) := by
  have a1 := dv_mu p.Y p.Y
  have a2 := dv_mu p.X p.X
  have a3 := dv_mu (muN p.X p.X) p.X
  have a4 := dv_ad (muN (muN p.X p.X) p.X) p.X
  have e4 : sqN p.X = adN (muN (muN p.X p.X) p.X) p.X := rfl
  rw [e4]
  generalize ((adN (muN (muN p.X p.X) p.X) p.X : Nat) : Int) = s at *
  generalize ((muN (muN p.X p.X) p.X : Nat) : Int) = c at *
  generalize ((muN p.X p.X : Nat) : Int) = d at *
  generalize ((muN p.Y p.Y : Nat) : Int) = r at *
  generalize (p.X : Int) = x at *
  generalize (p.Y : Int) = y at *
  have t := ((a1.sub a4).sub a3).sub (a2.mul x)
  constructor
  ·intro h; exact (h.sub t).of_eq (by grind)
  ·intro h; exact (h.add t).of_eq (by grind)
 rw [← e]
 unfold onN
 rw [if_neg (by rw [hf]; simp)]
 simp only [Bool.and_eq_true, decide_eq_true_eq]
 constructor
 ·intro h
  rw [h.2]
  exact Dv.zero.of_eq (by omega)
 ·intro h
  exact ⟨⟨hp.1, hp.2.1⟩, dv_lt (jbq _ _) (sq_lt _) h⟩
theorem jee {p q : Pt} (hp : onN p = true) (hq : onN q = true) : onN (smN p q) = true := by
 have wp := jbs hp
 have wq := jbs hq
 unfold smN
 split
 ·exact hq
 next i1 =>
 split
 ·exact hp
 next i2 =>
 split
 ·decide
 next i3 =>
 have f1 := wl_i wp i1
 have f2 := wl_i wq i2
 have hP := (on_iff wp i1).1 hp
 have hQ := (on_iff wq i2).1 hq
 obtain ⟨l, hl⟩ : ∃ l, slN p q = l := ⟨_, rfl⟩
 have wr : Wl (lnN l p q) := ⟨jde _ _, jde _ _, fun e => by cases e⟩
 rw [hl]
 refine (on_iff wr (fun e => by have := congrArg Pt.I e; cases this)).2 ?_
 have hX : Dv (((lnN l p q).X : Int) - ((l : Int) * l - p.X - q.X)) := by
  have a1 := dv_mu l l
  have a2 := dv_sb (muN l l) p.X
  have a3 := dv_sb (sbN (muN l l) p.X) q.X
  exact (((a3.add a2).add a1).of_eq (by show ((sbN (sbN (muN l l) p.X) q.X : Nat) : Int) - _ = _; omega))
 have hY : Dv (((lnN l p q).Y : Int) - ((l : Int) * ((p.X : Int) - (lnN l p q).X) - p.Y)) := by
  obtain ⟨x, hx⟩ : ∃ x, (lnN l p q).X = x := ⟨_, rfl⟩
  have eY : (lnN l p q).Y = sbN (muN l (sbN p.X x)) p.Y := by rw [← hx]; rfl
  rw [hx, eY]
  have a1 := dv_sb p.X x
  have a2 := dv_mu l (sbN p.X x)
  have a3 := dv_sb (muN l (sbN p.X x)) p.Y
  generalize ((sbN (muN l (sbN p.X x)) p.Y : Nat) : Int) = s at *
  generalize ((muN l (sbN p.X x) : Nat) : Int) = m at *
  generalize ((sbN p.X x : Nat) : Int) = d at *
  exact (((a3.add a2).add (a1.lmul l)).of_eq (by grind))
 refine third p.X p.Y q.X l _ _ _ hP rfl ?_ hX hY
 by_cases he : p = q
 ·-- the tangent
  have hy : ¬ Dv ((adN p.Y p.Y : Nat) : Int) := by
   intro h
   have a1 := dv_ad p.Y p.Y
   have h2 : Dv ((2 : Int) * p.Y) := (h.sub a1).of_eq (by omega)
   rcases dv_split h2 with h3 | h3
   ·obtain ⟨k, hk⟩ := h3
    unfold PI at hk; omega
   ·have : p.Y = 0 := dv_lt wp.2.1 (by decide) (h3.of_eq (by omega))
    apply i3
    rw [← he]
    refine Pt.ext' rfl ?_ rfl
    show p.Y = sbN 0 p.Y
    rw [this]; rfl
  have e : slN p q = ovN (adN (muN 3 (muN p.X p.X)) 1) (adN p.Y p.Y) := by unfold slN; rw [if_pos he]
  have a0 := dv_ov (adN (muN 3 (muN p.X p.X)) 1) (adN p.Y p.Y) hy
  rw [← e, hl] at a0
  have a1 := dv_ad p.Y p.Y
  have a2 := dv_mu p.X p.X
  have a3 := dv_mu 3 (muN p.X p.X)
  have a4 := dv_ad (muN 3 (muN p.X p.X)) 1
  rw [← he]
  generalize ((adN (muN 3 (muN p.X p.X)) 1 : Nat) : Int) = s at *
  generalize ((muN 3 (muN p.X p.X) : Nat) : Int) = t at *
  generalize ((muN p.X p.X : Nat) : Int) = d at *
  generalize ((adN p.Y p.Y : Nat) : Int) = r at *
  have t := (((a0.sub (a1.lmul l)).add a4).add a3).add (a2.lmul 3)
  exact t.neg.of_eq (by grind)
 ·have hx : ¬ Dv ((sbN q.X p.X : Nat) : Int) := by
   intro h
   have a1 := dv_sb q.X p.X
   have ex : q.X = p.X := dv_lt wq.1 wp.1 ((h.sub a1).of_eq (by omega))
   have ey : Dv ((p.Y : Int) * p.Y - (q.Y : Int) * q.Y) := by
    rw [ex] at hQ
    exact (hP.sub hQ).of_eq (by omega)
   have em : muN p.Y p.Y = muN q.Y q.Y := by
    rw [jes, jes]
    refine dv_nat ?_
    rw [Int.natCast_mul, Int.natCast_mul]
    exact ey
   rcases root_two p.Y q.Y wp.2.1 wq.2.1 em with e | e
   ·exact he (Pt.ext' ex.symm e (by rw [f1, f2]))
   ·apply i3
    refine Pt.ext' ex ?_ (by show q.I = p.I; rw [f1, f2])
    show q.Y = sbN 0 p.Y
    have h3 := wp.2.1
    have h4 := wq.2.1
    unfold sbN PM at *
    omega
  have e : slN p q = ovN (sbN q.Y p.Y) (sbN q.X p.X) := by unfold slN; rw [if_neg he]
  have a0 := dv_ov (sbN q.Y p.Y) (sbN q.X p.X) hx
  rw [← e, hl] at a0
  have a1 := dv_sb q.X p.X
  have a2 := dv_sb q.Y p.Y
  have hd : ¬ Dv ((q.X : Int) - p.X) := fun h => hx ((h.add a1).of_eq (by omega))
  generalize ((sbN q.X p.X : Nat) : Int) = s at *
  generalize ((sbN q.Y p.Y : Nat) : Int) = t at *
  have e1 : Dv ((l : Int) * ((q.X : Int) - p.X) - (q.Y - p.Y)) := ((a0.sub (a1.lmul l)).add a2).of_eq (by grind)
  refine (dv_split (x := (q.X : Int) - p.X) ?_).resolve_left hd
  refine ((hP.sub hQ).sub (e1.mul ((l : Int) * ((q.X : Int) - p.X) + (q.Y : Int) + p.Y))).of_eq ?_
  grind
theorem on_tm {p : Pt} (hp : onN p = true) (n : Nat) : onN (tmN p n) = true := by
 induction n using Nat.strongRecOn with
 | ind n ih =>
  by_cases h0 : n = 0
  ·subst h0; rw [tm_0]; decide
  ·have e := ih (n / 2) (by omega)
   by_cases h1 : n % 2 = 1
   ·rw [tm_odd p n h1]; exact jee (jee e e) hp
   ·rw [jgn p n (by omega)]; exact jee e e
end Go.Proofs.YtoddangedbefgabGreatDoor
