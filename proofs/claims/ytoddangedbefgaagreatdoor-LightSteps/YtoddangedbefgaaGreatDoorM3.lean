/- Lemmas: How many bits a number takes: what math/bits.Len64 answers. No condition. What Add, Sub, Mul do, the program's and the reference's: any two numbers, whatever the memory. No condition. What the reference's Pow does. No condition. Points of a curve, pure: which there are, negatives, sums, multiples. No condition. Multiples of the generator, in the kernel. No condition. The prime is one; powers modulo a prime (Fermat); of a square there is one even root. Pure. No condition. The sum of two points is one: pure, by whole numbers modulo the prime. No condition. Points of a line, and of a parabola, of the curve: what associativity wants, pure, over numbers modulo the prime. No condition. -/
import Derived.Test.YtoddangedbefgaaGreatDoorM1
import Derived.Test.YtoddangedbefgaaGreatDoorM2
import Derived.Test.YtoddangedbefgaaGreatDoorRows
import Derived.Deep.MidRow
namespace Go.Proofs.YtoddangedbefgaaGreatDoor
open Go.RowKit Go.Sort

abbrev lenTab : ByteArray := ⟨#[0, 1, 2, 2, 3, 3, 3, 3, 4, 4, 4, 4, 4, 4, 4, 4, 5, 5, 5, 5, 5, 5, 5, 5, 5, 5, 5, 5, 5, 5, 5, 5, 6, 6, 6, 6, 6, 6, 6, 6, 6, 6, 6, 6, 6, 6, 6, 6, 6, 6, 6, 6, 6, 6, 6, 6, 6, 6, 6, 6, 6, 6, 6, 6, 7, 7, 7, 7, 7, 7, 7, 7, 7, 7, 7, 7, 7, 7, 7, 7, 7, 7, 7, 7, 7, 7, 7, 7, 7, 7, 7, 7, 7, 7, 7, 7, 7, 7, 7, 7, 7, 7, 7, 7, 7, 7, 7, 7, 7, 7, 7, 7, 7, 7, 7, 7, 7, 7, 7, 7, 7, 7, 7, 7, 7, 7, 7, 7, 8, 8, 8, 8, 8, 8, 8, 8, 8, 8, 8, 8, 8, 8, 8, 8, 8, 8, 8, 8, 8, 8, 8, 8, 8, 8, 8, 8, 8, 8, 8, 8, 8, 8, 8, 8, 8, 8, 8, 8, 8, 8, 8, 8, 8, 8, 8, 8, 8, 8, 8, 8, 8, 8, 8, 8, 8, 8, 8, 8, 8, 8, 8, 8, 8, 8, 8, 8, 8, 8, 8, 8, 8, 8, 8, 8, 8, 8, 8, 8, 8, 8, 8, 8, 8, 8, 8, 8, 8, 8, 8, 8, 8, 8, 8, 8, 8, 8, 8, 8, 8, 8, 8, 8, 8, 8, 8, 8, 8, 8, 8, 8, 8, 8, 8, 8, 8, 8, 8, 8, 8, 8, 8, 8, 8, 8, 8, 8]⟩
def l8 (x : Nat) : Int := bt lenTab x
theorem l8_bd (x : Nat) (h : x < 256) : 0 ≤ l8 x ∧ l8 x ≤ 8 ∧ x < 2 ^ (l8 x).toNat := by
 have e : ∀ j : Fin 256, 0 ≤ l8 j.val ∧ l8 j.val ≤ 8 ∧ j.val < 2 ^ (l8 j.val).toNat := by decide +kernel
 exact e ⟨x, h⟩
theorem len_at (k n x : Nat) (v : Int) (hv : 0 ≤ v) (e : n / 2 ^ k = x) (h : x < 2 ^ v.toNat) : n < 2 ^ ((k : Int) + v).toNat := by
 rw [show ((k : Int) + v).toNat = k + v.toNat by omega, Nat.pow_add]
 have hp : 0 < 2 ^ k := Nat.pow_pos (by decide)
 have h1 := Nat.lt_mul_div_succ n hp
 rw [e] at h1
 exact Nat.lt_of_lt_of_le h1 (Nat.mul_le_mul (Nat.le_refl _) h)

set_option maxRecDepth 20000 in
set_option maxHeartbeats 2000000 in
theorem len64_any (n : Nat) (hn : n < 18446744073709551616) (w : World) :
  Calls Tryz.prog 219 #[.int .u64 n] w fun e w' => (∃ L : Nat, e = .returned (.int .i64 L) ∧ L ≤ 64 ∧ n < 2 ^ L) ∧ Below w.heap.size w w' := by
 by_cases h32 : 4294967296 ≤ n
 ·obtain ⟨x32, e32⟩ : ∃ x, n / 4294967296 = x := ⟨_, rfl⟩
  have c32 : (4294967296 : Int) ≤ n := by omega
  have d32 : (n : Int) / 4294967296 = x32 := by omega
  by_cases h16 : 65536 ≤ x32
  ·obtain ⟨x16, e16⟩ : ∃ x, x32 / 65536 = x := ⟨_, rfl⟩
   have c16 : (65536 : Int) ≤ x32 := by omega
   have d16 : (x32 : Int) / 65536 = x16 := by omega
   by_cases h8 : 256 ≤ x16
   ·obtain ⟨x8, e8⟩ : ∃ x, x16 / 256 = x := ⟨_, rfl⟩
    have c8 : (256 : Int) ≤ x16 := by omega
    have d8 : (x16 : Int) / 256 = x8 := by omega
    have l1 : x8 < 256 := by omega
    have l2 : (x8 : Int) < 256 := by omega
    have hm : (x8 : Int) % 256 = x8 := by omega
    have hg := bt_get lenTab x8 l1
    obtain ⟨v, hv⟩ : ∃ v, bt lenTab x8 = v := ⟨_, rfl⟩
    have hb := l8_bd x8 l1
    rw [show l8 x8 = v from hv] at hb
    rw [hv] at hg
    go_enter Tryz.func219, Tryz.ntmps219
    go_wp2
    go_ret
    refine ⟨⟨(56 + v).toNat, ?_, ?_, ?_⟩, Below.refl _ _⟩
    ·exact congrArg (fun y => Ending.returned (Value.int .i64 y)) (show (56 + v) = (((56 + v).toNat : Nat) : Int) by omega)
    ·omega
    ·exact len_at 56 n x8 v (by omega) (by rw [← e8, ← e16, ← e32, Nat.div_div_eq_div_mul, Nat.div_div_eq_div_mul]) hb.2.2
   ·have c8 : ¬ (256 : Int) ≤ x16 := by omega
    have l1 : x16 < 256 := by omega
    have l2 : (x16 : Int) < 256 := by omega
    have hm : (x16 : Int) % 256 = x16 := by omega
    have hg := bt_get lenTab x16 l1
    obtain ⟨v, hv⟩ : ∃ v, bt lenTab x16 = v := ⟨_, rfl⟩
    have hb := l8_bd x16 l1
    rw [show l8 x16 = v from hv] at hb
    rw [hv] at hg
    go_enter Tryz.func219, Tryz.ntmps219
    go_wp2
    go_ret
    refine ⟨⟨(48 + v).toNat, ?_, ?_, ?_⟩, Below.refl _ _⟩
    ·exact congrArg (fun y => Ending.returned (Value.int .i64 y)) (show (48 + v) = (((48 + v).toNat : Nat) : Int) by omega)
    ·omega
    ·exact len_at 48 n x16 v (by omega) (by rw [← e16, ← e32, Nat.div_div_eq_div_mul]) hb.2.2
  ·have c16 : ¬ (65536 : Int) ≤ x32 := by omega
   by_cases h8 : 256 ≤ x32
   ·obtain ⟨x8, e8⟩ : ∃ x, x32 / 256 = x := ⟨_, rfl⟩
    have c8 : (256 : Int) ≤ x32 := by omega
    have d8 : (x32 : Int) / 256 = x8 := by omega
    have l1 : x8 < 256 := by omega
    have l2 : (x8 : Int) < 256 := by omega
    have hm : (x8 : Int) % 256 = x8 := by omega
    have hg := bt_get lenTab x8 l1
    obtain ⟨v, hv⟩ : ∃ v, bt lenTab x8 = v := ⟨_, rfl⟩
    have hb := l8_bd x8 l1
    rw [show l8 x8 = v from hv] at hb
    rw [hv] at hg
    go_enter Tryz.func219, Tryz.ntmps219
    go_wp2
    go_ret
    refine ⟨⟨(40 + v).toNat, ?_, ?_, ?_⟩, Below.refl _ _⟩
    ·exact congrArg (fun y => Ending.returned (Value.int .i64 y)) (show (40 + v) = (((40 + v).toNat : Nat) : Int) by omega)
    ·omega
    ·exact len_at 40 n x8 v (by omega) (by rw [← e8, ← e32, Nat.div_div_eq_div_mul]) hb.2.2
   ·have c8 : ¬ (256 : Int) ≤ x32 := by omega
    have l1 : x32 < 256 := by omega
    have l2 : (x32 : Int) < 256 := by omega
    have hm : (x32 : Int) % 256 = x32 := by omega
    have hg := bt_get lenTab x32 l1
    obtain ⟨v, hv⟩ : ∃ v, bt lenTab x32 = v := ⟨_, rfl⟩
    have hb := l8_bd x32 l1
    rw [show l8 x32 = v from hv] at hb
    rw [hv] at hg
    go_enter Tryz.func219, Tryz.ntmps219
    go_wp2
    go_ret
    refine ⟨⟨(32 + v).toNat, ?_, ?_, ?_⟩, Below.refl _ _⟩
    ·exact congrArg (fun y => Ending.returned (Value.int .i64 y)) (show (32 + v) = (((32 + v).toNat : Nat) : Int) by omega)
    ·omega
    ·exact len_at 32 n x32 v (by omega) (by rw [← e32]) hb.2.2
 ·have c32 : ¬ (4294967296 : Int) ≤ n := by omega
  by_cases h16 : 65536 ≤ n
  ·obtain ⟨x16, e16⟩ : ∃ x, n / 65536 = x := ⟨_, rfl⟩
   have c16 : (65536 : Int) ≤ n := by omega
   have d16 : (n : Int) / 65536 = x16 := by omega
   by_cases h8 : 256 ≤ x16
   ·obtain ⟨x8, e8⟩ : ∃ x, x16 / 256 = x := ⟨_, rfl⟩
    have c8 : (256 : Int) ≤ x16 := by omega
    have d8 : (x16 : Int) / 256 = x8 := by omega
    have l1 : x8 < 256 := by omega
    have l2 : (x8 : Int) < 256 := by omega
    have hm : (x8 : Int) % 256 = x8 := by omega
    have hg := bt_get lenTab x8 l1
    obtain ⟨v, hv⟩ : ∃ v, bt lenTab x8 = v := ⟨_, rfl⟩
    have hb := l8_bd x8 l1
    rw [show l8 x8 = v from hv] at hb
    rw [hv] at hg
    go_enter Tryz.func219, Tryz.ntmps219
    go_wp2
    go_ret
    refine ⟨⟨(24 + v).toNat, ?_, ?_, ?_⟩, Below.refl _ _⟩
    ·exact congrArg (fun y => Ending.returned (Value.int .i64 y)) (show (24 + v) = (((24 + v).toNat : Nat) : Int) by omega)
    ·omega
    ·exact len_at 24 n x8 v (by omega) (by rw [← e8, ← e16, Nat.div_div_eq_div_mul]) hb.2.2
   ·have c8 : ¬ (256 : Int) ≤ x16 := by omega
    have l1 : x16 < 256 := by omega
    have l2 : (x16 : Int) < 256 := by omega
    have hm : (x16 : Int) % 256 = x16 := by omega
    have hg := bt_get lenTab x16 l1
    obtain ⟨v, hv⟩ : ∃ v, bt lenTab x16 = v := ⟨_, rfl⟩
    have hb := l8_bd x16 l1
    rw [show l8 x16 = v from hv] at hb
    rw [hv] at hg
    go_enter Tryz.func219, Tryz.ntmps219
    go_wp2
    go_ret
    refine ⟨⟨(16 + v).toNat, ?_, ?_, ?_⟩, Below.refl _ _⟩
    ·exact congrArg (fun y => Ending.returned (Value.int .i64 y)) (show (16 + v) = (((16 + v).toNat : Nat) : Int) by omega)
    ·omega
    ·exact len_at 16 n x16 v (by omega) (by rw [← e16]) hb.2.2
  ·have c16 : ¬ (65536 : Int) ≤ n := by omega
   by_cases h8 : 256 ≤ n
   ·obtain ⟨x8, e8⟩ : ∃ x, n / 256 = x := ⟨_, rfl⟩
    have c8 : (256 : Int) ≤ n := by omega
    have d8 : (n : Int) / 256 = x8 := by omega
    have l1 : x8 < 256 := by omega
    have l2 : (x8 : Int) < 256 := by omega
    have hm : (x8 : Int) % 256 = x8 := by omega
    have hg := bt_get lenTab x8 l1
    obtain ⟨v, hv⟩ : ∃ v, bt lenTab x8 = v := ⟨_, rfl⟩
    have hb := l8_bd x8 l1
    rw [show l8 x8 = v from hv] at hb
    rw [hv] at hg
    go_enter Tryz.func219, Tryz.ntmps219
    go_wp2
    go_ret
    refine ⟨⟨(8 + v).toNat, ?_, ?_, ?_⟩, Below.refl _ _⟩
    ·exact congrArg (fun y => Ending.returned (Value.int .i64 y)) (show (8 + v) = (((8 + v).toNat : Nat) : Int) by omega)
    ·omega
    ·exact len_at 8 n x8 v (by omega) (by rw [← e8]) hb.2.2
   ·have c8 : ¬ (256 : Int) ≤ n := by omega
    have l1 : n < 256 := by omega
    have l2 : (n : Int) < 256 := by omega
    have hm : (n : Int) % 256 = n := by omega
    have hg := bt_get lenTab n l1
    obtain ⟨v, hv⟩ : ∃ v, bt lenTab n = v := ⟨_, rfl⟩
    have hb := l8_bd n l1
    rw [show l8 n = v from hv] at hb
    rw [hv] at hg
    go_enter Tryz.func219, Tryz.ntmps219
    go_wp2
    go_ret
    refine ⟨⟨v.toNat, ?_, ?_, ?_⟩, Below.refl _ _⟩
    ·exact congrArg (fun y => Ending.returned (Value.int .i64 y)) (show v = ((v.toNat : Nat) : Int) by omega)
    ·omega
    ·have := len_at 0 n n v (by omega) (by rw [Nat.pow_zero, Nat.div_one]) hb.2.2
     rw [show ((0 : Nat) : Int) + v = v by omega] at this
     exact this
end Go.Proofs.YtoddangedbefgaaGreatDoor
namespace Go.Proofs.YtoddangedbefgaaGreatDoor
open Go.RowKit Go.Sort
abbrev U64 (a : Nat) : Prop := a < 18446744073709551616
theorem pm_u (a : Nat) (h : a < PM) : U64 a := by unfold PM at h; unfold U64; omega

set_option maxHeartbeats 1000000 in
theorem add_any (a b : Nat) (ha : U64 a) (hb : U64 b) (w : World) :
  Calls Tryz.prog 207 #[.int .u64 a, .int .u64 b] w fun e w' => e = .returned (.int .u64 (adN a b : Nat)) ∧ Below w.heap.size w w' := by
 obtain ⟨x, hx⟩ : ∃ x, a % PM = x := ⟨_, rfl⟩
 obtain ⟨y, hy⟩ : ∃ y, b % PM = y := ⟨_, rfl⟩
 obtain ⟨z, hz⟩ : ∃ z, adN a b = z := ⟨_, rfl⟩
 have hx1 : x < PM := by rw [← hx]; exact Nat.mod_lt _ (by decide)
 have hy1 : y < PM := by rw [← hy]; exact Nat.mod_lt _ (by decide)
 have hz1 : z < PM := by rw [← hz]; exact ad_lt a b
 rw [hz]
 unfold adN at hz
 rw [hx, hy] at hz
 unfold PM at *
 have e1 : (a : Int) % 2147482867 = x := by omega
 have e2 : (b : Int) % 2147482867 = y := by omega
 obtain ⟨s, hs⟩ : ∃ s, x + y = s := ⟨_, rfl⟩
 have e3 : IntKind.u64.wrap ((x : Int) + y) = s := by rw [IntKind.wrap_u64]; omega
 have e4 : (s : Int) % 2147482867 = z := by rw [hs] at hz; omega
 clear hs
 clear hx hy hz
 go_enter Tryz.func207, Tryz.ntmps207
 go_wp2
 go_ret
 exact ⟨congrArg (fun q => Ending.returned (Value.int .u64 q)) e4, Below.refl _ _⟩

set_option maxHeartbeats 1000000 in
theorem sub_any (a b : Nat) (ha : U64 a) (hb : U64 b) (w : World) :
  Calls Tryz.prog 196 #[.int .u64 a, .int .u64 b] w fun e w' => e = .returned (.int .u64 (sbN a b : Nat)) ∧ Below w.heap.size w w' := by
 obtain ⟨x, hx⟩ : ∃ x, a % PM = x := ⟨_, rfl⟩
 obtain ⟨y, hy⟩ : ∃ y, b % PM = y := ⟨_, rfl⟩
 obtain ⟨z, hz⟩ : ∃ z, sbN a b = z := ⟨_, rfl⟩
 have hx1 : x < PM := by rw [← hx]; exact Nat.mod_lt _ (by decide)
 have hy1 : y < PM := by rw [← hy]; exact Nat.mod_lt _ (by decide)
 have hz1 : z < PM := by rw [← hz]; exact sb_lt a b
 rw [hz]
 unfold sbN at hz
 rw [hx, hy] at hz
 unfold PM at *
 have e1 : (a : Int) % 2147482867 = x := by omega
 have e2 : (b : Int) % 2147482867 = y := by omega
 obtain ⟨s, hs⟩ : ∃ s, x + 2147482867 = s := ⟨_, rfl⟩
 obtain ⟨d, hd⟩ : ∃ d, s - y = d := ⟨_, rfl⟩
 have e3 : IntKind.u64.wrap ((x : Int) + 2147482867) = s := by rw [IntKind.wrap_u64]; omega
 have e5 : IntKind.u64.wrap ((s : Int) - y) = d := by rw [IntKind.wrap_u64]; omega
 have e4 : (d : Int) % 2147482867 = z := by rw [hs, hd] at hz; omega
 clear hs hd
 clear hx hy hz
 go_enter Tryz.func196, Tryz.ntmps196
 go_wp2
 go_ret
 exact ⟨congrArg (fun q => Ending.returned (Value.int .u64 q)) e4, Below.refl _ _⟩

set_option maxHeartbeats 1000000 in
theorem mul_any (a b : Nat) (ha : U64 a) (hb : U64 b) (w : World) :
  Calls Tryz.prog 192 #[.int .u64 a, .int .u64 b] w fun e w' => e = .returned (.int .u64 (muN a b : Nat)) ∧ Below w.heap.size w w' := by
 obtain ⟨x, hx⟩ : ∃ x, a % PM = x := ⟨_, rfl⟩
 obtain ⟨y, hy⟩ : ∃ y, b % PM = y := ⟨_, rfl⟩
 obtain ⟨z, hz⟩ : ∃ z, muN a b = z := ⟨_, rfl⟩
 have hx1 : x < PM := by rw [← hx]; exact Nat.mod_lt _ (by decide)
 have hy1 : y < PM := by rw [← hy]; exact Nat.mod_lt _ (by decide)
 have hz1 : z < PM := by rw [← hz]; exact mu_lt a b
 rw [hz]
 unfold muN at hz
 rw [hx, hy] at hz
 unfold PM at *
 have e1 : (a : Int) % 2147482867 = x := by omega
 have e2 : (b : Int) % 2147482867 = y := by omega
 obtain ⟨s, hs⟩ : ∃ s, x * y = s := ⟨_, rfl⟩
 have hs1 : s < 18446744073709551616 := by
  rw [← hs]
  exact Nat.lt_of_le_of_lt (Nat.mul_le_mul (Nat.le_of_lt hx1) (Nat.le_of_lt hy1)) (by decide)
 have hs2 : (x : Int) * y = s := by rw [← hs, Int.natCast_mul]
 have e3 : IntKind.u64.wrap ((x : Int) * y) = s := by rw [hs2, IntKind.wrap_u64]; omega
 have e4 : (s : Int) % 2147482867 = z := by rw [hs] at hz; omega
 clear hs hs2
 clear hx hy hz
 go_enter Tryz.func192, Tryz.ntmps192
 go_wp2
 go_ret
 exact ⟨congrArg (fun q => Ending.returned (Value.int .u64 q)) e4, Below.refl _ _⟩



end Go.Proofs.YtoddangedbefgaaGreatDoor
namespace Go.Proofs.YtoddangedbefgaaGreatDoor
open Go.RowKit Go.Sort

theorem and_one (k : Nat) (h : U64 k) : bits .and .u64 (k : Int) 1 = ((k % 2 : Nat) : Int) := by
 unfold U64 at h
 have e : (BitVec.ofInt 64 (k : Int) &&& BitVec.ofInt 64 1).toNat = k % 2 := by
  rw [BitVec.toNat_and]
  have a1 : (BitVec.ofInt 64 (k : Int)).toNat = k := by
   rw [BitVec.toNat_ofInt]; omega
  have a2 : (BitVec.ofInt 64 1).toNat = 1 := by decide
  rw [a1, a2, Nat.and_one_is_mod]
 show IntKind.u64.wrap ((BitVec.ofInt 64 (k : Int) &&& BitVec.ofInt 64 1).toNat : Int) = _
 rw [e]
 rw [IntKind.wrap_u64]
 omega
theorem pw_step (a n q : Nat) : pwN a (n / 2 ^ q) = if n / 2 ^ q % 2 = 1 then muN (muN (pwN a (n / 2 ^ (q + 1))) (pwN a (n / 2 ^ (q + 1)))) a else muN (pwN a (n / 2 ^ (q + 1))) (pwN a (n / 2 ^ (q + 1))) := by
 have e : n / 2 ^ (q + 1) = n / 2 ^ q / 2 := by rw [Nat.pow_succ, ← Nat.div_div_eq_div_mul]
 rw [e]
 split
 ·next h => exact pw_odd a _ h
 ·next h => exact pw_even a _ (by omega)
theorem q2_step (a : P2) (n q : Nat) : q2 a (n / 2 ^ q) = if n / 2 ^ q % 2 = 1 then m2 (m2 (q2 a (n / 2 ^ (q + 1))) (q2 a (n / 2 ^ (q + 1)))) a else m2 (q2 a (n / 2 ^ (q + 1))) (q2 a (n / 2 ^ (q + 1))) := by
 have e : n / 2 ^ (q + 1) = n / 2 ^ q / 2 := by rw [Nat.pow_succ, ← Nat.div_div_eq_div_mul]
 rw [e]
 split
 ·next h => exact q2_odd a _ h
 ·next h => exact q2_even a _ (by omega)

end Go.Proofs.YtoddangedbefgaaGreatDoor
namespace Go.Proofs.YtoddangedbefgaaGreatDoor
open Go.RowKit

structure Pt where
 X : Nat
 Y : Nat
 I : Bool
deriving DecidableEq
theorem Pt.ext' {p q : Pt} (h1 : p.X = q.X) (h2 : p.Y = q.Y) (h3 : p.I = q.I) : p = q := by
 cases p; cases q; simp only at h1 h2 h3; subst h1 h2 h3; rfl
def iN : Pt := ⟨0, 0, true⟩
def oP : Pt := ⟨0, 0, false⟩
def sqN (x : Nat) : Nat := adN (muN (muN x x) x) x
theorem sq_lt (x : Nat) : sqN x < PM := ad_lt _ _
def onN (p : Pt) : Bool := if p.I then decide (p = iN) else decide (p.X < PM) && decide (p.Y < PM) && decide (muN p.Y p.Y = sqN p.X)
def ngN (p : Pt) : Pt := ⟨p.X, sbN 0 p.Y, p.I⟩
def ovN (a b : Nat) : Nat := muN a (ivN b)
def slN (p q : Pt) : Nat := if p = q then ovN (adN (muN 3 (muN p.X p.X)) 1) (adN p.Y p.Y) else ovN (sbN q.Y p.Y) (sbN q.X p.X)
theorem sl_lt (p q : Pt) : slN p q < PM := by unfold slN ovN; split <;> exact mu_lt _ _
def lnX (l : Nat) (p q : Pt) : Nat := sbN (sbN (muN l l) p.X) q.X
def lnY (l x : Nat) (p : Pt) : Nat := sbN (muN l (sbN p.X x)) p.Y
def lnN (l : Nat) (p q : Pt) : Pt := ⟨lnX l p q, lnY l (lnX l p q) p, false⟩
def smN (p q : Pt) : Pt := if p = iN then q else if q = iN then p else if q = ngN p then iN else lnN (slN p q) p q
def Wl (p : Pt) : Prop := p.X < PM ∧ p.Y < PM ∧ (p.I = true → p = iN)
theorem wl_inf : Wl iN := ⟨by decide, by decide, fun _ => rfl⟩
theorem wl_on {p : Pt} (h : onN p = true) : Wl p := by
 unfold onN at h
 split at h
 ·have e : p = iN := of_decide_eq_true h
  rw [e]; exact wl_inf
 ·next hi =>
  simp only [Bool.and_eq_true, decide_eq_true_eq] at h
  exact ⟨h.1.1, h.1.2, fun e => absurd e hi⟩
theorem wl_sm {p q : Pt} (hp : Wl p) (hq : Wl q) : Wl (smN p q) := by
 unfold smN
 split
 ·exact hq
 ·split
  ·exact hp
  ·split
   ·exact wl_inf
   ·exact ⟨sb_lt _ _, sb_lt _ _, fun e => by cases e⟩
theorem wl_i {p : Pt} (h : Wl p) (hn : p ≠ iN) : p.I = false := by
 cases e : p.I
 ·rfl
 ·exact absurd (h.2.2 e) hn
theorem sm_inf (q : Pt) : smN iN q = q := by unfold smN; rw [if_pos rfl]
theorem inf_sm (p : Pt) : smN p iN = p := by
 unfold smN
 split
 ·next h => exact h.symm
 ·rw [if_pos rfl]
def tmN (p : Pt) (n : Nat) : Pt := if h : n = 0 then iN else if n % 2 = 1 then smN (smN (tmN p (n / 2)) (tmN p (n / 2))) p else smN (tmN p (n / 2)) (tmN p (n / 2))
termination_by n
decreasing_by all_goals omega
theorem tm_0 (p : Pt) : tmN p 0 = iN := by rw [tmN, dif_pos rfl]
theorem tm_odd (p : Pt) (n : Nat) (h : n % 2 = 1) : tmN p n = smN (smN (tmN p (n / 2)) (tmN p (n / 2))) p := by rw [tmN, dif_neg (by omega), if_pos h]
theorem tm_even (p : Pt) (n : Nat) (h : n % 2 = 0) : tmN p n = smN (tmN p (n / 2)) (tmN p (n / 2)) := by
 by_cases h0 : n = 0
 ·subst h0; rw [show 0 / 2 = 0 from rfl, tm_0, sm_inf]
 ·rw [tmN, dif_neg h0, if_neg (by omega)]
theorem tm_step (p : Pt) (n q : Nat) : tmN p (n / 2 ^ q) = if n / 2 ^ q % 2 = 1 then smN (smN (tmN p (n / 2 ^ (q + 1))) (tmN p (n / 2 ^ (q + 1)))) p else smN (tmN p (n / 2 ^ (q + 1))) (tmN p (n / 2 ^ (q + 1))) := by
 have e : n / 2 ^ (q + 1) = n / 2 ^ q / 2 := by rw [Nat.pow_succ, ← Nat.div_div_eq_div_mul]
 rw [e]
 split
 ·next h => exact tm_odd p _ h
 ·next h => exact tm_even p _ (by omega)
theorem wl_tm (p : Pt) (h : Wl p) (n : Nat) : Wl (tmN p n) := by
 induction n using Nat.strongRecOn with
 | ind n ih =>
  by_cases h0 : n = 0
  ·subst h0; rw [tm_0]; exact wl_inf
  ·have e := ih (n / 2) (by omega)
   by_cases h1 : n % 2 = 1
   ·rw [tm_odd p n h1]; exact wl_sm (wl_sm e e) h
   ·rw [tm_even p n (by omega)]; exact wl_sm e e
theorem tm_inf (n : Nat) : tmN iN n = iN := by
 induction n using Nat.strongRecOn with
 | ind n ih =>
  by_cases h0 : n = 0
  ·subst h0; rw [tm_0]
  ·have e := ih (n / 2) (by omega)
   by_cases h1 : n % 2 = 1
   ·rw [tm_odd _ n h1, e, sm_inf, sm_inf]
   ·rw [tm_even _ n (by omega), e, sm_inf]
def orN : Nat := 536870717
def grN (p : Pt) : Bool := onN p && decide (tmN p orN = iN)

/- The reference's, on points told so. -/
theorem ng_ng {p : Pt} (h : Wl p) : ngN (ngN p) = p := by
 refine Pt.ext' rfl ?_ rfl
 have := h.2.1
 show sbN 0 (sbN 0 p.Y) = p.Y
 unfold sbN PM at *
 omega
theorem on_ng {p : Pt} (h : onN p = true) : onN (ngN p) = true := by
 have w := wl_on h
 by_cases hi : p = iN
 ·subst hi; exact h
 ·have hf := wl_i w hi
  unfold onN at h ⊢
  rw [if_neg (by rw [hf]; simp)] at h
  rw [if_neg (by show ¬ p.I = true; rw [hf]; simp)]
  simp only [Bool.and_eq_true, decide_eq_true_eq] at h ⊢
  refine ⟨⟨h.1.1, sb_lt _ _⟩, ?_⟩
  show muN (sbN 0 p.Y) (sbN 0 p.Y) = sqN p.X
  rw [← h.2]
  by_cases y0 : p.Y = 0
  ·rw [y0]; rfl
  ·have : sbN 0 p.Y = PM - p.Y := by
    have := w.2.1
    unfold sbN PM at *; omega
   rw [this, sq_neg _ w.2.1]
theorem sm_ng {p : Pt} (h : Wl p) : smN p (ngN p) = iN := by
 unfold smN
 split
 ·next e => subst e; rfl
 ·next e =>
  split
  ·next e2 =>
   have := ng_ng h
   rw [e2] at this
   exact absurd this.symm e
  ·rw [if_pos rfl]
end Go.Proofs.YtoddangedbefgaaGreatDoor
namespace Go.Proofs.YtoddangedbefgaaGreatDoor
open Go.RowKit

def strictN {A : Type} (n : Nat) (f : Nat → A) : A := match n with | 0 => f 0 | m + 1 => f (m + 1)
theorem strict_eq {A : Type} (n : Nat) (f : Nat → A) : strictN n f = f n := by cases n <;> rfl
def pwI (a n : Nat) : Nat → Nat → Nat
 | 0, acc => acc
 | k + 1, acc => strictN (if n / 2 ^ k % 2 = 1 then muN (muN acc acc) a else muN acc acc) (pwI a n k)
theorem pwI_eq (a n : Nat) : ∀ k, pwI a n k (pwN a (n / 2 ^ k)) = pwN a n
 | 0 => by rw [pwI, Nat.pow_zero, Nat.div_one]
 | k + 1 => by rw [pwI, strict_eq, ← pw_step, pwI_eq a n k]
def ivI (a : Nat) : Nat := pwI a 2147482865 31 1
theorem ivI_eq (a : Nat) : ivI a = ivN a := by
 have := pwI_eq a 2147482865 31
 rw [show 2147482865 / 2 ^ 31 = 0 by decide, pw_0] at this
 exact this
def slI (p q : Pt) : Nat := if p = q then muN (adN (muN 3 (muN p.X p.X)) 1) (ivI (adN p.Y p.Y)) else muN (sbN q.Y p.Y) (ivI (sbN q.X p.X))
theorem slI_eq (p q : Pt) : slI p q = slN p q := by unfold slI slN ovN; rw [ivI_eq, ivI_eq]
def smI (p q : Pt) : Pt := if p = iN then q else if q = iN then p else if q = ngN p then iN else
 strictN (slI p q) fun l => strictN (lnX l p q) fun x => strictN (lnY l x p) fun y => ⟨x, y, false⟩
theorem smI_eq (p q : Pt) : smI p q = smN p q := by
 unfold smI smN lnN
 rw [strict_eq, strict_eq, strict_eq, slI_eq]
def tmI (p : Pt) (n : Nat) : Nat → Pt → Pt
 | 0, acc => acc
 | k + 1, acc => tmI p n k (if n / 2 ^ k % 2 = 1 then smI (smI acc acc) p else smI acc acc)
theorem tmI_eq (p : Pt) (n : Nat) : ∀ k, tmI p n k (tmN p (n / 2 ^ k)) = tmN p n
 | 0 => by rw [tmI, Nat.pow_zero, Nat.div_one]
 | k + 1 => by rw [tmI, smI_eq, smI_eq, ← tm_step, tmI_eq p n k]
def gN : Pt := ⟨1846166884, 1411018613, false⟩
theorem on_gen : onN gN = true := by decide +kernel
set_option maxRecDepth 100000 in
theorem gen_tm : tmN gN 536870717 = iN := by
 have := tmI_eq gN 536870717 30
 rw [show 536870717 / 2 ^ 30 = 0 by decide, tm_0] at this
 rw [← this]
 decide +kernel
theorem gr_gen : grN gN = true := by
 have : grN gN = (onN gN && decide (tmN gN 536870717 = iN)) := rfl
 rw [this, on_gen, gen_tm, decide_eq_true rfl]
 rfl
end Go.Proofs.YtoddangedbefgaaGreatDoor
namespace Go.Proofs.YtoddangedbefgaaGreatDoor
open Go.RowKit

def chkD : Nat → Nat → Bool
 | 0, _ => true
 | n + 1, d => (PM % d != 0) && strictN (d + 1) (chkD n)
theorem chkD_spec : ∀ (n d : Nat), chkD n d = true → ∀ k, k < n → PM % (d + k) ≠ 0
 | 0, _, _, k, hk => absurd hk (Nat.not_lt_zero k)
 | n + 1, d, h, k, hk => by
  rw [chkD, strict_eq, Bool.and_eq_true, bne_iff_ne] at h
  cases k with
  | zero => exact h.1
  | succ k =>
   have := chkD_spec n (d + 1) h.2 k (by omega)
   rw [show d + (k + 1) = d + 1 + k by omega]
   exact this
set_option maxRecDepth 100000 in
theorem chk_all : (List.range 47).all (fun i => chkD 1000 (2 + 1000 * i)) = true := by decide +kernel
theorem no_small (d : Nat) (h2 : 2 ≤ d) (h : d < 47000) : ¬ d ∣ PM := by
 intro hd
 have h1 := List.all_eq_true.1 chk_all ((d - 2) / 1000) (List.mem_range.2 (by omega))
 have h3 := chkD_spec 1000 _ h1 ((d - 2) % 1000) (by omega)
 rw [show 2 + 1000 * ((d - 2) / 1000) + (d - 2) % 1000 = d by omega] at h3
 exact h3 (Nat.mod_eq_zero_of_dvd hd)
def IsP (p : Nat) : Prop := 2 ≤ p ∧ ∀ d, d ∣ p → d = 1 ∨ d = p
theorem pm_prime : IsP PM := by
 refine ⟨by decide, fun d hd => ?_⟩
 obtain ⟨e, he⟩ := hd
 obtain ⟨q, hq⟩ : ∃ q, PM = q := ⟨_, rfl⟩
 have hq2 : q = 2147482867 := by rw [← hq]
 by_cases h1 : d = 1
 ·exact .inl h1
 ·by_cases h0 : d = 0
  ·subst h0
   rw [Nat.zero_mul] at he
   exact absurd he (by decide)
  ·by_cases hs : d < 47000
   ·exact absurd ⟨e, he⟩ (no_small d (by omega) hs)
   ·by_cases e1 : e = 1
    ·subst e1; rw [Nat.mul_one] at he; exact .inr he.symm
    ·by_cases e0 : e = 0
     ·subst e0; rw [Nat.mul_zero] at he; exact absurd he (by decide)
     ·have hes : e < 47000 := by
       apply Nat.lt_of_not_le
       intro hle
       have := Nat.mul_le_mul (Nat.le_of_not_lt hs) hle
       rw [← he] at this
       exact absurd this (by decide)
      exact absurd ⟨d, by rw [Nat.mul_comm]; exact he⟩ (no_small e (by omega) hes)
theorem IsP.cop {p : Nat} (hp : IsP p) {a : Nat} (h : ¬ p ∣ a) : Nat.Coprime p a := by
 rcases hp.2 (Nat.gcd p a) (Nat.gcd_dvd_left p a) with h1 | h1
 ·exact h1
 ·exact absurd (h1 ▸ Nat.gcd_dvd_right p a) h
theorem IsP.split {p : Nat} (hp : IsP p) {a b : Nat} (h : p ∣ a * b) : p ∣ a ∨ p ∣ b := by
 by_cases ha : p ∣ a
 ·exact .inl ha
 ·exact .inr ((hp.cop ha).dvd_of_dvd_mul_left h)
def chN : Nat → Nat → Nat
 | _, 0 => 1
 | 0, _ + 1 => 0
 | n + 1, k + 1 => chN n k + chN n (k + 1)
theorem ch_0 (n : Nat) : chN n 0 = 1 := by cases n <;> rfl
theorem ch_gt : ∀ (n k : Nat), n < k → chN n k = 0
 | 0, k + 1, _ => rfl
 | n + 1, k + 1, h => by rw [chN, ch_gt n k (by omega), ch_gt n (k + 1) (by omega)]
theorem ch_self : ∀ n, chN n n = 1
 | 0 => rfl
 | n + 1 => by rw [chN, ch_self n, ch_gt n (n + 1) (by omega)]
theorem ch_mul : ∀ (n k : Nat), (k + 1) * chN (n + 1) (k + 1) = (n + 1) * chN n k
 | 0, k => by
  rw [chN]
  cases k with
  | zero => rfl
  | succ k => simp [chN]
 | n + 1, k => by
  rw [chN, Nat.mul_add, ch_mul n k]
  cases k with
  | zero => rw [ch_0, ch_0]; omega
  | succ j =>
   have h1 := ch_mul n j
   have h2 : chN (n + 1) (j + 1) = chN n j + chN n (j + 1) := rfl
   have e1 : (j + 1 + 1) * chN (n + 1) (j + 1) = chN (n + 1) (j + 1) + (j + 1) * chN (n + 1) (j + 1) := by rw [Nat.add_mul (j + 1) 1, Nat.one_mul, Nat.add_comm]
   rw [e1, h1, Nat.add_assoc, ← Nat.mul_add, ← h2, Nat.add_mul (n + 1) 1, Nat.one_mul, Nat.add_comm]
theorem ch_dvd {p : Nat} (hp : IsP p) (k : Nat) (h0 : 0 < k) (hk : k < p) : p ∣ chN p k := by
 obtain ⟨q, rfl⟩ : ∃ q, p = q + 1 := ⟨p - 1, by have := hp.1; omega⟩
 obtain ⟨j, rfl⟩ : ∃ j, k = j + 1 := ⟨k - 1, by omega⟩
 have h : (q + 1) ∣ (j + 1) * chN (q + 1) (j + 1) := ⟨_, ch_mul q j⟩
 rcases hp.split h with h1 | h1
 ·exact absurd (Nat.le_of_dvd (by omega) h1) (by omega)
 ·exact h1
def bsN (n a : Nat) : Nat → Nat
 | 0 => 0
 | m + 1 => bsN n a m + chN n m * a ^ m
theorem bs_step (n a : Nat) : ∀ m, bsN (n + 1) a (m + 1) = a * bsN n a m + bsN n a (m + 1)
 | 0 => by simp [bsN, ch_0]
 | m + 1 => by
  rw [bsN, bs_step n a m]
  have e1 : chN (n + 1) (m + 1) = chN n m + chN n (m + 1) := rfl
  have e2 : bsN n a (m + 1) = bsN n a m + chN n m * a ^ m := rfl
  have e3 : bsN n a (m + 1 + 1) = bsN n a (m + 1) + chN n (m + 1) * a ^ (m + 1) := rfl
  have e4 : a * bsN n a (m + 1) = a * bsN n a m + chN n m * a ^ (m + 1) := by
   rw [e2, Nat.mul_add, Nat.pow_succ, Nat.mul_left_comm, Nat.mul_comm a (a ^ m)]
  rw [e3, e4, e1, Nat.add_mul]
  omega
theorem binom (a : Nat) : ∀ n, (a + 1) ^ n = bsN n a (n + 1)
 | 0 => by simp [bsN, ch_0]
 | n + 1 => by
  rw [bs_step, Nat.pow_succ, binom a n, Nat.mul_add, Nat.mul_one, Nat.mul_comm]
  have : bsN n a (n + 1 + 1) = bsN n a (n + 1) := by
   rw [bsN, ch_gt n (n + 1) (by omega), Nat.zero_mul, Nat.add_zero]
  rw [this]
theorem bs_mod {p : Nat} (hp : IsP p) (a : Nat) : ∀ m, m < p → bsN p a (m + 1) % p = 1 % p
 | 0, _ => by simp [bsN, ch_0]
 | m + 1, h => by
  rw [bsN, Nat.add_mod, bs_mod hp a m (by omega)]
  have : chN p (m + 1) * a ^ (m + 1) % p = 0 := by
   obtain ⟨c, hc⟩ := ch_dvd hp (m + 1) (by omega) h
   rw [hc, Nat.mul_assoc, Nat.mul_mod_right]
  rw [this, Nat.add_zero, Nat.mod_mod]
theorem fermat {p : Nat} (hp : IsP p) : ∀ a, a ^ p % p = a % p
 | 0 => by rw [Nat.zero_pow (by have := hp.1; omega)]
 | a + 1 => by
  have h2 := hp.1
  rw [binom, bsN, ch_self, Nat.one_mul, Nat.add_mod, fermat hp a]
  obtain ⟨q, rfl⟩ : ∃ q, p = q + 1 := ⟨p - 1, by omega⟩
  rw [bs_mod hp a q (by omega), ← Nat.add_mod, Nat.add_comm]
theorem sq_pow (y k : Nat) : muN (pwN (muN y y) k) (pwN (muN y y) k) = y ^ (2 * (k + k)) % PM := by
 rw [pw_pow, mu_eq, mu_eq, ← Nat.mul_mod, ← Nat.pow_add, ← Nat.pow_mod, ← Nat.pow_two, ← Nat.pow_mul]
theorem ro_sq (y : Nat) : roB (muN y y) = true := by
 unfold roB
 refine decide_eq_true ?_
 unfold rtN
 rw [Nat.mod_eq_of_lt (mu_lt y y), sq_pow, mu_eq]
 rw [show 2 * (536870717 + 536870717) = PM + 1 from rfl, Nat.pow_succ, Nat.mul_mod, fermat pm_prime, ← Nat.mul_mod]
theorem root_two (r y : Nat) (hr : r < PM) (hy : y < PM) (h : muN r r = muN y y) : r = y ∨ r + y = PM := by
 rw [mu_eq, mu_eq] at h
 have key : ∀ r y, r < PM → y < PM → y ≤ r → r * r % PM = y * y % PM → r = y ∨ r + y = PM := by
  intro r y hr hy hle h
  obtain ⟨d, rfl⟩ : ∃ d, r = y + d := ⟨r - y, by omega⟩
  have e : (y + d) * (y + d) = y * y + d * (y + d + y) := by
   simp only [Nat.add_mul, Nat.mul_add, Nat.mul_comm y d]; omega
  have h' : PM ∣ d * (y + d + y) := by
   have h1 := (Nat.sub_mod_eq_zero_of_mod_eq h)
   rw [e, Nat.add_sub_cancel_left] at h1
   exact Nat.dvd_of_mod_eq_zero h1
  rcases pm_prime.split h' with ⟨c, hc⟩ | ⟨c, hc⟩
  ·left
   cases c with
   | zero => rw [Nat.mul_zero] at hc; omega
   | succ c => rw [Nat.mul_add, Nat.mul_one] at hc; omega
  ·match c, hc with
   | 0, hc => left; rw [Nat.mul_zero] at hc; omega
   | 1, hc => right; rw [Nat.mul_one] at hc; exact hc
   | c + 2, hc => exfalso; rw [Nat.mul_add] at hc; omega
 by_cases hle : y ≤ r
 ·exact key r y hr hy hle h
 ·rcases key y r hy hr (by omega) h.symm with e | e
  ·exact .inl e.symm
  ·right; omega
theorem ro_of (y : Nat) (hy : y < PM) (a : Nat) (ha : muN y y = a) : roB a = true ∧ (y % 2 = 0 → roN a = y) ∧ (y % 2 = 1 → sbN 0 (roN a) = y) := by
 subst ha
 have hb := ro_sq y
 have he := ro_even _ hb
 have hl := ro_lt (muN y y)
 obtain ⟨r, hr⟩ : ∃ r, roN (muN y y) = r := ⟨_, rfl⟩
 rw [hr] at he hl ⊢
 have e1 : muN r r = muN y y := by
  rw [he.1, ad_eq, Nat.add_zero, Nat.mod_eq_of_lt (mu_lt y y)]
 refine ⟨hb, fun h0 => ?_, fun h1 => ?_⟩
 ·rcases root_two r y hl hy e1 with e | e
  ·exact e
  ·have := he.2
   unfold PM at e
   omega
 ·rcases root_two r y hl hy e1 with e | e
  ·have := he.2
   omega
  ·unfold sbN PM at *
   omega
end Go.Proofs.YtoddangedbefgaaGreatDoor
namespace Go.Proofs.YtoddangedbefgaaGreatDoor
open Go.RowKit

abbrev PI : Int := 2147482867
def Dv (x : Int) : Prop := ∃ k, x = PI * k
theorem Dv.zero : Dv 0 := ⟨0, by simp⟩
theorem Dv.add {x y : Int} (hx : Dv x) (hy : Dv y) : Dv (x + y) := by
 obtain ⟨a, rfl⟩ := hx
 obtain ⟨b, rfl⟩ := hy
 exact ⟨a + b, by rw [Int.mul_add]⟩
theorem Dv.neg {x : Int} (hx : Dv x) : Dv (-x) := by
 obtain ⟨a, rfl⟩ := hx
 exact ⟨-a, by rw [Int.mul_neg]⟩
theorem Dv.sub {x y : Int} (hx : Dv x) (hy : Dv y) : Dv (x - y) := by
 rw [Int.sub_eq_add_neg]; exact hx.add hy.neg
theorem Dv.mul {x : Int} (hx : Dv x) (y : Int) : Dv (x * y) := by
 obtain ⟨a, rfl⟩ := hx
 exact ⟨a * y, by rw [Int.mul_assoc]⟩
theorem Dv.lmul {x : Int} (hx : Dv x) (y : Int) : Dv (y * x) := by rw [Int.mul_comm]; exact hx.mul y
theorem Dv.of_eq {x y : Int} (hx : Dv x) (e : y = x) : Dv y := e ▸ hx
theorem dv_nat {a b : Nat} (h : Dv ((a : Int) - b)) : a % PM = b % PM := by
 obtain ⟨k, hk⟩ := h
 unfold PM PI at *
 omega
theorem nat_dv {a b : Nat} (h : a % PM = b % PM) : Dv ((a : Int) - b) := by
 refine ⟨(a / PM : Nat) - (b / PM : Nat), ?_⟩
 unfold PM PI at *
 omega
theorem dv_lt {a b : Nat} (ha : a < PM) (hb : b < PM) (h : Dv ((a : Int) - b)) : a = b := by
 have := dv_nat h
 rw [Nat.mod_eq_of_lt ha, Nat.mod_eq_of_lt hb] at this
 exact this
theorem dv_mu (a b : Nat) : Dv ((muN a b : Nat) - (a : Int) * b) := by
 have := nat_dv (a := muN a b) (b := a * b) (by rw [mu_eq, Nat.mod_mod])
 rw [Int.natCast_mul] at this
 exact this
theorem dv_ad (a b : Nat) : Dv ((adN a b : Nat) - ((a : Int) + b)) := by
 have := nat_dv (a := adN a b) (b := a + b) (by rw [ad_eq, Nat.mod_mod])
 rw [Int.natCast_add] at this
 exact this
theorem dv_sb (a b : Nat) : Dv ((sbN a b : Nat) - ((a : Int) - b)) := by
 refine ⟨-((a / PM : Nat) : Int) + 1 + (b / PM : Nat) - ((a % PM + PM - b % PM) / PM : Nat), ?_⟩
 unfold sbN PM PI
 omega
theorem dv_split {x y : Int} (h : Dv (x * y)) : Dv x ∨ Dv y := by
 obtain ⟨k, hk⟩ := h
 have h1 : PM ∣ x.natAbs * y.natAbs := by
  rw [← Int.natAbs_mul, hk, Int.natAbs_mul]
  exact ⟨k.natAbs, rfl⟩
 have back : ∀ z : Int, PM ∣ z.natAbs → Dv z := by
  intro z hz
  obtain ⟨c, hc⟩ := hz
  rcases Int.natAbs_eq z with e | e
  ·exact ⟨c, by rw [e, hc, Int.natCast_mul]; rfl⟩
  ·exact ⟨-c, by rw [e, hc, Int.natCast_mul, Int.mul_neg]; rfl⟩
 rcases pm_prime.split h1 with h2 | h2
 ·exact .inl (back _ h2)
 ·exact .inr (back _ h2)
theorem pow_s (b n m : Nat) (h : m = n + 1) : ((b ^ m : Nat) : Int) = ((b ^ n : Nat) : Int) * b := by rw [h, Nat.pow_succ, Int.natCast_mul]
theorem pw_dv (b n : Nat) : Dv (((pwN b n : Nat) : Int) - (b ^ n : Nat)) := nat_dv (by rw [pw_pow, Nat.mod_mod])
theorem dv_fermat (b n : Nat) (hn : n + 1 = PM) : Dv ((b : Int) * (((b ^ n : Nat) : Int) - 1)) := by
 have e := fermat pm_prime b
 rw [← hn, Nat.pow_succ, hn] at e
 refine (nat_dv e).of_eq ?_
 rw [Int.natCast_mul, Int.mul_sub, Int.mul_one, Int.mul_comm]
theorem dv_ov (a b : Nat) (h : ¬ Dv (b : Int)) : Dv ((ovN a b : Nat) * (b : Int) - a) := by
 have h1 := dv_fermat b 2147482866 rfl
 have h2 : Dv (((b ^ 2147482866 : Nat) : Int) - 1) := (dv_split h1).resolve_left h
 have h3 : Dv (((ivN b : Nat) : Int) - (b ^ 2147482865 : Nat)) := pw_dv b 2147482865
 have h4 := dv_mu a (ivN b)
 have e5 : ((b ^ 2147482866 : Nat) : Int) = ((b ^ 2147482865 : Nat) : Int) * b := pow_s b 2147482865 2147482866 rfl
 rw [e5] at h2
 have e6 : ovN a b = muN a (ivN b) := rfl
 rw [e6]
 generalize ((b ^ 2147482865 : Nat) : Int) = u at *
 generalize ((muN a (ivN b) : Nat) : Int) = m at *
 generalize ((ivN b : Nat) : Int) = v at *
 generalize (b : Int) = c at *
 generalize (a : Int) = d at *
 exact (((h4.mul c).add (h3.lmul (d * c))).add (h2.lmul d)).of_eq (by grind)
theorem third (x1 y1 x2 l X Y g : Int) (h1 : Dv (y1 * y1 - (x1 * x1 * x1 + x1))) (hg : g = x2 * x2 + x1 * x2 + x1 * x1 + 1 - l * l * (x2 - x1) - 2 * l * y1) (dg : Dv g)
  (hX : Dv (X - (l * l - x1 - x2))) (hY : Dv (Y - (l * (x1 - X) - y1))) : Dv (Y * Y - (X * X * X + X)) := by
 have e1 : Dv (Y * Y - (l * (x1 - X) - y1) * (l * (x1 - X) - y1)) := (hY.mul (Y + (l * (x1 - X) - y1))).of_eq (by grind)
 have e2 : Dv ((l * (x1 - X) - y1) * (l * (x1 - X) - y1) - (X * X * X + X)) := by
  refine (((h1.sub (dg.mul (X - x1))).sub (hX.mul ((X - x1) * (X - x2)))).of_eq ?_)
  subst hg
  grind
 exact (e1.add e2).of_eq (by grind)
theorem on_iff {p : Pt} (hp : Wl p) (hi : p ≠ iN) : onN p = true ↔ Dv ((p.Y : Int) * p.Y - ((p.X : Int) * p.X * p.X + p.X)) := by
 have hf := wl_i hp hi
 have e : Dv ((muN p.Y p.Y : Nat) - (sqN p.X : Nat)) ↔ Dv ((p.Y : Int) * p.Y - ((p.X : Int) * p.X * p.X + p.X)) := by
  have a1 := dv_mu p.Y p.Y
  have a2 := dv_mu p.X p.X
  have a3 := dv_mu (muN p.X p.X) p.X
  have a4 := dv_ad (muN (muN p.X p.X) p.X) p.X
  have e4 : sqN p.X = adN (muN (muN p.X p.X) p.X) p.X := rfl
  rw [e4]
  generalize ((adN (muN (muN p.X p.X) p.X) p.X : Nat) : Int) = s at *
  generalize ((muN (muN p.X p.X) p.X : Nat) : Int) = c at *
  generalize ((muN p.X p.X : Nat) : Int) = d at *
  generalize ((muN p.Y p.Y : Nat) : Int) = r at *
  generalize (p.X : Int) = x at *
  generalize (p.Y : Int) = y at *
  have t := ((a1.sub a4).sub a3).sub (a2.mul x)
  constructor
  ·intro h; exact (h.sub t).of_eq (by grind)
  ·intro h; exact (h.add t).of_eq (by grind)
 rw [← e]
 unfold onN
 rw [if_neg (by rw [hf]; simp)]
 simp only [Bool.and_eq_true, decide_eq_true_eq]
 constructor
 ·intro h
  rw [h.2]
  exact Dv.zero.of_eq (by omega)
 ·intro h
  exact ⟨⟨hp.1, hp.2.1⟩, dv_lt (mu_lt _ _) (sq_lt _) h⟩
theorem on_sm {p q : Pt} (hp : onN p = true) (hq : onN q = true) : onN (smN p q) = true := by
 have wp := wl_on hp
 have wq := wl_on hq
 unfold smN
 split
 ·exact hq
 next i1 =>
 split
 ·exact hp
 next i2 =>
 split
 ·decide
 next i3 =>
 have f1 := wl_i wp i1
 have f2 := wl_i wq i2
 have hP := (on_iff wp i1).1 hp
 have hQ := (on_iff wq i2).1 hq
 obtain ⟨l, hl⟩ : ∃ l, slN p q = l := ⟨_, rfl⟩
 have wr : Wl (lnN l p q) := ⟨sb_lt _ _, sb_lt _ _, fun e => by cases e⟩
 rw [hl]
 refine (on_iff wr (fun e => by have := congrArg Pt.I e; cases this)).2 ?_
 have hX : Dv (((lnN l p q).X : Int) - ((l : Int) * l - p.X - q.X)) := by
  have a1 := dv_mu l l
  have a2 := dv_sb (muN l l) p.X
  have a3 := dv_sb (sbN (muN l l) p.X) q.X
  exact (((a3.add a2).add a1).of_eq (by show ((sbN (sbN (muN l l) p.X) q.X : Nat) : Int) - _ = _; omega))
 have hY : Dv (((lnN l p q).Y : Int) - ((l : Int) * ((p.X : Int) - (lnN l p q).X) - p.Y)) := by
  obtain ⟨x, hx⟩ : ∃ x, (lnN l p q).X = x := ⟨_, rfl⟩
  have eY : (lnN l p q).Y = sbN (muN l (sbN p.X x)) p.Y := by rw [← hx]; rfl
  rw [hx, eY]
  have a1 := dv_sb p.X x
  have a2 := dv_mu l (sbN p.X x)
  have a3 := dv_sb (muN l (sbN p.X x)) p.Y
  generalize ((sbN (muN l (sbN p.X x)) p.Y : Nat) : Int) = s at *
  generalize ((muN l (sbN p.X x) : Nat) : Int) = m at *
  generalize ((sbN p.X x : Nat) : Int) = d at *
  exact (((a3.add a2).add (a1.lmul l)).of_eq (by grind))
 refine third p.X p.Y q.X l _ _ _ hP rfl ?_ hX hY
 by_cases he : p = q
 ·-- the tangent
  have hy : ¬ Dv ((adN p.Y p.Y : Nat) : Int) := by
   intro h
   have a1 := dv_ad p.Y p.Y
   have h2 : Dv ((2 : Int) * p.Y) := (h.sub a1).of_eq (by omega)
   rcases dv_split h2 with h3 | h3
   ·obtain ⟨k, hk⟩ := h3
    unfold PI at hk; omega
   ·have : p.Y = 0 := dv_lt wp.2.1 (by decide) (h3.of_eq (by omega))
    apply i3
    rw [← he]
    refine Pt.ext' rfl ?_ rfl
    show p.Y = sbN 0 p.Y
    rw [this]; rfl
  have e : slN p q = ovN (adN (muN 3 (muN p.X p.X)) 1) (adN p.Y p.Y) := by unfold slN; rw [if_pos he]
  have a0 := dv_ov (adN (muN 3 (muN p.X p.X)) 1) (adN p.Y p.Y) hy
  rw [← e, hl] at a0
  have a1 := dv_ad p.Y p.Y
  have a2 := dv_mu p.X p.X
  have a3 := dv_mu 3 (muN p.X p.X)
  have a4 := dv_ad (muN 3 (muN p.X p.X)) 1
  rw [← he]
  generalize ((adN (muN 3 (muN p.X p.X)) 1 : Nat) : Int) = s at *
  generalize ((muN 3 (muN p.X p.X) : Nat) : Int) = t at *
  generalize ((muN p.X p.X : Nat) : Int) = d at *
  generalize ((adN p.Y p.Y : Nat) : Int) = r at *
  have t := (((a0.sub (a1.lmul l)).add a4).add a3).add (a2.lmul 3)
  exact t.neg.of_eq (by grind)
 ·have hx : ¬ Dv ((sbN q.X p.X : Nat) : Int) := by
   intro h
   have a1 := dv_sb q.X p.X
   have ex : q.X = p.X := dv_lt wq.1 wp.1 ((h.sub a1).of_eq (by omega))
   have ey : Dv ((p.Y : Int) * p.Y - (q.Y : Int) * q.Y) := by
    rw [ex] at hQ
    exact (hP.sub hQ).of_eq (by omega)
   have em : muN p.Y p.Y = muN q.Y q.Y := by
    rw [mu_eq, mu_eq]
    refine dv_nat ?_
    rw [Int.natCast_mul, Int.natCast_mul]
    exact ey
   rcases root_two p.Y q.Y wp.2.1 wq.2.1 em with e | e
   ·exact he (Pt.ext' ex.symm e (by rw [f1, f2]))
   ·apply i3
    refine Pt.ext' ex ?_ (by show q.I = p.I; rw [f1, f2])
    show q.Y = sbN 0 p.Y
    have h3 := wp.2.1
    have h4 := wq.2.1
    unfold sbN PM at *
    omega
  have e : slN p q = ovN (sbN q.Y p.Y) (sbN q.X p.X) := by unfold slN; rw [if_neg he]
  have a0 := dv_ov (sbN q.Y p.Y) (sbN q.X p.X) hx
  rw [← e, hl] at a0
  have a1 := dv_sb q.X p.X
  have a2 := dv_sb q.Y p.Y
  have hd : ¬ Dv ((q.X : Int) - p.X) := fun h => hx ((h.add a1).of_eq (by omega))
  generalize ((sbN q.X p.X : Nat) : Int) = s at *
  generalize ((sbN q.Y p.Y : Nat) : Int) = t at *
  have e1 : Dv ((l : Int) * ((q.X : Int) - p.X) - (q.Y - p.Y)) := ((a0.sub (a1.lmul l)).add a2).of_eq (by grind)
  refine (dv_split (x := (q.X : Int) - p.X) ?_).resolve_left hd
  refine ((hP.sub hQ).sub (e1.mul ((l : Int) * ((q.X : Int) - p.X) + (q.Y : Int) + p.Y))).of_eq ?_
  grind
theorem on_tm {p : Pt} (hp : onN p = true) (n : Nat) : onN (tmN p n) = true := by
 induction n using Nat.strongRecOn with
 | ind n ih =>
  by_cases h0 : n = 0
  ·subst h0; rw [tm_0]; decide
  ·have e := ih (n / 2) (by omega)
   by_cases h1 : n % 2 = 1
   ·rw [tm_odd p n h1]; exact on_sm (on_sm e e) hp
   ·rw [tm_even p n (by omega)]; exact on_sm e e
end Go.Proofs.YtoddangedbefgaaGreatDoor
namespace Go.Proofs.YtoddangedbefgaaGreatDoor
open Go.RowKit

abbrev Fq := Fin PM
theorem nz {a b : Fq} (h : a * b = 0) : a = 0 ∨ b = 0 := by
 have h1 : a.val * b.val % PM = 0 := by
  have := congrArg Fin.val h
  rw [Fin.val_mul] at this
  exact this
 rcases pm_prime.split (Nat.dvd_of_mod_eq_zero h1) with h2 | h2
 ·exact .inl (Fin.ext (Nat.eq_zero_of_dvd_of_lt h2 a.isLt))
 ·exact .inr (Fin.ext (Nat.eq_zero_of_dvd_of_lt h2 b.isLt))
def fq (n : Nat) : Fq := Fin.ofNat PM n
theorem fq_val (n : Nat) : (fq n).val = n % PM := rfl
theorem fq_mu (a b : Nat) : fq (muN a b) = fq a * fq b := by
 refine Fin.ext ?_
 rw [Fin.val_mul, fq_val, fq_val, fq_val, mu_eq, Nat.mod_mod, Nat.mul_mod]
theorem fq_ad (a b : Nat) : fq (adN a b) = fq a + fq b := by
 refine Fin.ext ?_
 rw [Fin.val_add, fq_val, fq_val, fq_val, ad_eq, Nat.mod_mod, Nat.add_mod]
theorem fq_sb (a b : Nat) : fq (sbN a b) = fq a - fq b := by
 refine Fin.ext ?_
 rw [Fin.sub_def, fq_val]
 show sbN a b % PM = (PM - b % PM + a % PM) % PM
 unfold sbN
 have : b % PM < PM := Nat.mod_lt _ (by decide)
 rw [Nat.mod_mod, show a % PM + PM - b % PM = PM - b % PM + a % PM by omega]
theorem fq_inj {a b : Nat} (ha : a < PM) (hb : b < PM) (h : fq a = fq b) : a = b := by
 have := congrArg Fin.val h
 rw [fq_val, fq_val, Nat.mod_eq_of_lt ha, Nat.mod_eq_of_lt hb] at this
 exact this
theorem fq_self (a : Fq) : fq a.val = a := Fin.ext (Nat.mod_eq_of_lt a.isLt)
theorem fq_0 : fq 0 = 0 := rfl
theorem fq_1 : fq 1 = 1 := rfl
theorem fq_3 : fq 3 = 3 := rfl
theorem fq_z {b : Nat} (h : fq b ≠ 0) : ¬ Dv (b : Int) := by
 intro ⟨k, hk⟩
 apply h
 refine Fin.ext ?_
 rw [fq_val]
 show b % 2147482867 = 0
 unfold PI at hk
 omega
theorem fq_ov (a b : Nat) (h : fq b ≠ 0) : fq (ovN a b) * fq b = fq a := by
 have := dv_ov a b (fq_z h)
 refine Fin.ext ?_
 rw [Fin.val_mul, fq_val, fq_val, fq_val, ← Nat.mul_mod]
 refine dv_nat ?_
 rw [Int.natCast_mul]
 exact this
theorem inv_ex {a : Fq} (h : a ≠ 0) : ∃ b, a * b = 1 := by
 refine ⟨fq (ovN 1 a.val), ?_⟩
 have := fq_ov 1 a.val (by rw [fq_self]; exact h)
 rw [fq_self, fq_1] at this
 rw [Fin.mul_comm]
 exact this
theorem two_nz : (2 : Fq) ≠ 0 := by decide
theorem one_nz : (1 : Fq) ≠ 0 := by decide
theorem cancel {a b c : Fq} (h : a ≠ 0) (e : a * b = a * c) : b = c := by
 have h1 : a * (b - c) = 0 := by grobner
 rcases nz h1 with h2 | h2
 ·exact absurd h2 h
 ·clear e h1; grobner
theorem lc1 {a b u v : Fq} (c : Fq) (h : u = v) (e : a - b = c * (u - v)) : a = b := by subst h; grobner
theorem lc2 {a b u v u2 v2 : Fq} (c c2 : Fq) (h : u = v) (h2 : u2 = v2) (e : a - b = c * (u - v) + c2 * (u2 - v2)) : a = b := by subst h h2; grobner
theorem lc3 {a b u v u2 v2 u3 v3 : Fq} (c c2 c3 : Fq) (h : u = v) (h2 : u2 = v2) (h3 : u3 = v3) (e : a - b = c * (u - v) + c2 * (u2 - v2) + c3 * (u3 - v3)) : a = b := by subst h h2 h3; grobner
theorem lc4 {a b u v u2 v2 u3 v3 u4 v4 : Fq} (c c2 c3 c4 : Fq) (h : u = v) (h2 : u2 = v2) (h3 : u3 = v3) (h4 : u4 = v4) (e : a - b = c * (u - v) + c2 * (u2 - v2) + c3 * (u3 - v3) + c4 * (u4 - v4)) : a = b := by subst h h2 h3 h4; grobner
structure Col (x1 y1 x2 y2 x3 y3 l c : Fq) : Prop where
 a1 : y1 = l * x1 + c
 a2 : y2 = l * x2 + c
 a3 : y3 = l * x3 + c
 e1 : x1 + x2 + x3 = l * l
 e2 : x1 * x2 + x1 * x3 + x2 * x3 = 1 - 2 * l * c
 e3 : x1 * x2 * x3 = c * c
theorem Col.on1 {x1 y1 x2 y2 x3 y3 l c : Fq} (h : Col x1 y1 x2 y2 x3 y3 l c) : y1 * y1 = x1 * x1 * x1 + x1 := by
 obtain ⟨a1, a2, a3, e1, e2, e3⟩ := h
 subst a1 a2 a3
 exact lc3 (-(x1 * x1)) x1 (-1) e1 e2 e3 (by clear e1 e2 e3; grobner)
theorem Col.s12 {x1 y1 x2 y2 x3 y3 l c : Fq} (h : Col x1 y1 x2 y2 x3 y3 l c) : Col x2 y2 x1 y1 x3 y3 l c := by
 obtain ⟨a1, a2, a3, e1, e2, e3⟩ := h
 exact ⟨a2, a1, a3, lc1 1 e1 (by clear e1 e2 e3 a1 a2 a3; grobner), lc1 1 e2 (by clear e1 e2 e3 a1 a2 a3; grobner), lc1 1 e3 (by clear e1 e2 e3 a1 a2 a3; grobner)⟩
theorem Col.s23 {x1 y1 x2 y2 x3 y3 l c : Fq} (h : Col x1 y1 x2 y2 x3 y3 l c) : Col x1 y1 x3 y3 x2 y2 l c := by
 obtain ⟨a1, a2, a3, e1, e2, e3⟩ := h
 exact ⟨a1, a3, a2, lc1 1 e1 (by clear e1 e2 e3 a1 a2 a3; grobner), lc1 1 e2 (by clear e1 e2 e3 a1 a2 a3; grobner), lc1 1 e3 (by clear e1 e2 e3 a1 a2 a3; grobner)⟩
theorem Col.neg {x1 y1 x2 y2 x3 y3 l c : Fq} (h : Col x1 y1 x2 y2 x3 y3 l c) : Col x1 (-y1) x2 (-y2) x3 (-y3) (-l) (-c) := by
 obtain ⟨a1, a2, a3, e1, e2, e3⟩ := h
 exact ⟨lc1 (-1) a1 (by clear e1 e2 e3 a1 a2 a3; grobner), lc1 (-1) a2 (by clear e1 e2 e3 a1 a2 a3; grobner), lc1 (-1) a3 (by clear e1 e2 e3 a1 a2 a3; grobner), lc1 1 e1 (by clear e1 e2 e3 a1 a2 a3; grobner), lc1 1 e2 (by clear e1 e2 e3 a1 a2 a3; grobner), lc1 1 e3 (by clear e1 e2 e3 a1 a2 a3; grobner)⟩
theorem smooth {x : Fq} (h1 : x * x * x + x = 0) (h2 : 3 * (x * x) + 1 = 0) : False := by
 have h : (2 : Fq) = 0 := by grobner
 exact two_nz h
theorem col_make {x1 y1 x2 y2 l : Fq} (o1 : y1 * y1 = x1 * x1 * x1 + x1) (o2 : y2 * y2 = x2 * x2 * x2 + x2)
  (h : x1 ≠ x2 ∧ l * (x2 - x1) = y2 - y1 ∨ x1 = x2 ∧ y1 = y2 ∧ l * (y1 + y1) = 3 * (x1 * x1) + 1) :
  Col x1 y1 x2 y2 (l * l - x1 - x2) (l * (l * l - x1 - x2 - x1) + y1) l (y1 - l * x1) := by
 have dg : x2 * x2 + x1 * x2 + x1 * x1 + 1 = l * l * (x2 - x1) + 2 * l * y1 := by
  rcases h with ⟨hn, hl⟩ | ⟨e1, e2, hl⟩
  ·refine cancel (a := x2 - x1) (fun e => hn (lc1 (-1) e (by clear e o1 o2 hl hn; grobner))) ?_
   exact lc3 1 (-1) (-(l * (x2 - x1) + y2 + y1)) o1 o2 hl (by clear o1 o2 hl hn; grobner)
  ·subst e1 e2; exact lc1 (-1) hl (by clear o1 o2 hl; grobner)
 have ey : y2 = l * x2 + (y1 - l * x1) := by
  rcases h with ⟨hn, hl⟩ | ⟨e1, e2, hl⟩
  ·exact lc1 (-1) hl (by clear o1 o2 hl hn dg; grobner)
  ·subst e1 e2; clear o1 o2 hl dg; grobner
 exact ⟨by clear o1 o2 dg ey h; grobner, ey, by clear o1 o2 dg ey h; grobner, by clear o1 o2 dg ey h; grobner, lc1 (-1) dg (by clear o1 o2 dg ey h; grobner), lc2 (-x1) (-1) dg o1 (by clear o1 o2 dg ey h; grobner)⟩
theorem col_tan {x y x3 y3 l c : Fq} (h : Col x y x y x3 y3 l c) : y ≠ 0 ∧ l * (y + y) = 3 * (x * x) + 1 := by
 have o := h.on1
 obtain ⟨a1, a2, a3, e1, e2, e3⟩ := h
 have hl : l * (y + y) = 3 * (x * x) + 1 := lc3 (2 * l) 1 (-(2 * x)) a1 e2 e1 (by clear o a1 a2 a3 e1 e2 e3; grobner)
 refine ⟨fun e => ?_, hl⟩
 subst e
 exact smooth (x := x) (lc1 (-1) o (by clear o hl a1 a2 a3 e1 e2 e3; grobner)) (lc1 (-1) hl (by clear o hl a1 a2 a3 e1 e2 e3; grobner))
theorem dbl_nz {y : Fq} (h : y ≠ 0) : y + y ≠ 0 := by
 intro e
 have e : 2 * y = 0 := lc1 1 e (by clear e h; grobner)
 rcases nz e with e | e
 ·exact two_nz e
 ·exact h e
theorem col_uniq {x1 y1 x2 y2 x3 y3 l c x3' y3' l' c' : Fq} (h : Col x1 y1 x2 y2 x3 y3 l c) (h' : Col x1 y1 x2 y2 x3' y3' l' c') :
  l = l' ∧ c = c' ∧ x3 = x3' ∧ y3 = y3' := by
 have el : l = l' := by
  by_cases ex : x1 = x2
  ·have ey : y1 = y2 := by
    have a := h.a1; have b := h.a2; subst ex; rw [a, b]
   subst ex ey
   obtain ⟨n1, t1⟩ := col_tan h
   obtain ⟨n2, t2⟩ := col_tan h'
   clear h h'
   exact cancel (a := y1 + y1) (dbl_nz n1) (lc2 1 (-1) t1 t2 (by clear t1 t2 n1 n2; grobner))
  ·have a := h.a1; have b := h.a2; have a' := h'.a1; have b' := h'.a2
   clear h h'
   refine cancel (a := x2 - x1) (fun e => ex (lc1 (-1) e (by clear e a b a' b' ex; grobner))) ?_
   exact lc4 1 (-1) (-1) 1 a b a' b' (by clear a b a' b' ex; grobner)
 subst el
 have ec : c = c' := by
  have a := h.a1; have b := h'.a1; clear h h'
  exact lc2 (-1) 1 a b (by clear a b; grobner)
 subst ec
 have ex : x3 = x3' := by
  have a := h.e1; have b := h'.e1; clear h h'
  exact lc2 1 (-1) a b (by clear a b; grobner)
 subst ex
 exact ⟨rfl, rfl, rfl, by rw [h.a3, h'.a3]⟩
theorem neg_z : (-0 : Fq) = 0 := by grobner
theorem neg_same {y : Fq} (e : y = -y) : y = 0 := by
 have e : 2 * y = 0 := lc1 1 e (by clear e; grobner)
 rcases nz e with e | e
 ·exact absurd e two_nz
 ·exact e
theorem col_no {x y x3 y3 l c : Fq} (h : Col x y x (-y) x3 y3 l c) : False := by
 have e : y = -y := by rw [h.a2, ← h.a1]
 have e := neg_same e
 subst e
 rw [neg_z] at h
 exact (col_tan h).1 rfl
structure Qd (x1 y1 x2 y2 x3 y3 x4 y4 a b c : Fq) : Prop where
 n : a ≠ 0
 b1 : y1 = a * x1 * x1 + b * x1 + c
 b2 : y2 = a * x2 * x2 + b * x2 + c
 b3 : y3 = a * x3 * x3 + b * x3 + c
 b4 : y4 = a * x4 * x4 + b * x4 + c
 e1 : 2 * a * b - 1 = - (a * a * (x1 + x2 + x3 + x4))
 e2 : b * b + 2 * a * c = a * a * (x1 * x2 + x3 * x4 + (x1 + x2) * (x3 + x4))
 e3 : 2 * b * c - 1 = - (a * a * (x1 * x2 * (x3 + x4) + x3 * x4 * (x1 + x2)))
 e4 : c * c = a * a * (x1 * x2 * (x3 * x4))
theorem Qd.rot {x1 y1 x2 y2 x3 y3 x4 y4 a b c : Fq} (h : Qd x1 y1 x2 y2 x3 y3 x4 y4 a b c) : Qd x2 y2 x3 y3 x1 y1 x4 y4 a b c := by
 obtain ⟨n, b1, b2, b3, b4, e1, e2, e3, e4⟩ := h
 refine ⟨n, b2, b3, b1, b4, lc1 1 e1 ?_, lc1 1 e2 ?_, lc1 1 e3 ?_, lc1 1 e4 ?_⟩ <;> (clear n b1 b2 b3 b4 e1 e2 e3 e4; grobner)
theorem col_qd {x1 y1 x2 y2 s t x3 y3 x4 y4 l c v d : Fq} (h : Col x1 y1 x2 y2 s (-t) l c) (g : Col s t x3 y3 x4 y4 v d) (hn : v + l ≠ 0) :
  ∃ a b e, Qd x1 y1 x2 y2 x3 y3 x4 y4 a b e := by
 obtain ⟨a, ha⟩ := inv_ex hn
 obtain ⟨a1, a2, a3, e1, e2, e3⟩ := h
 obtain ⟨c1, c2, c3, f1, f2, f3⟩ := g
 have K : (v + l) * s = -(c + d) := lc2 (-1) (-1) a3 c1 (by clear a1 a2 a3 e1 e2 e3 c1 c2 c3 f1 f2 f3 ha hn; grobner)
 have G1 : (v + l) * (v - l) = x3 + x4 - x1 - x2 := lc2 1 (-1) e1 f1 (by clear a1 a2 a3 e1 e2 e3 c1 c2 c3 f1 f2 f3 ha hn K; grobner)
 have G0 : (v + l) * (d - c) = x1 * x2 - x3 * x4 := by
  exact lc4 (-1) 1 s (-(v - l)) e2 f2 G1 K (by clear a1 a2 a3 e1 e2 e3 c1 c2 c3 f1 f2 f3 ha hn K G1; grobner)
 have V : v - l = a * (x3 + x4 - x1 - x2) := lc2 a (-(v - l)) G1 ha (by clear a1 a2 a3 e1 e2 e3 c1 c2 c3 f1 f2 f3 ha hn K G1 G0; grobner)
 have D : d - c = a * (x1 * x2 - x3 * x4) := lc2 a (-(d - c)) G0 ha (by clear a1 a2 a3 e1 e2 e3 c1 c2 c3 f1 f2 f3 ha hn K G1 G0 V; grobner)
 have S : s = -(a * (c + d)) := lc2 a (-s) K ha (by clear a1 a2 a3 e1 e2 e3 c1 c2 c3 f1 f2 f3 ha hn K G1 G0 V D; grobner)
 clear K G1 G0
 refine ⟨a, l - a * (x1 + x2), c + a * x1 * x2, ?_, ?_, ?_, ?_, ?_, ?_, ?_, ?_, ?_⟩
 ·intro e; subst e
  exact one_nz (lc1 (-1) ha (by clear a1 a2 a3 e1 e2 e3 c1 c2 c3 f1 f2 f3 ha hn V D S; grobner))
 ·exact lc1 1 a1 (by clear a1 a2 a3 e1 e2 e3 c1 c2 c3 f1 f2 f3 ha hn V D S; grobner)
 ·exact lc1 1 a2 (by clear a1 a2 a3 e1 e2 e3 c1 c2 c3 f1 f2 f3 ha hn V D S; grobner)
 ·exact lc3 1 x3 1 c2 V D (by clear a1 a2 a3 e1 e2 e3 c1 c2 c3 f1 f2 f3 ha hn V D S; grobner)
 ·exact lc3 1 x4 1 c3 V D (by clear a1 a2 a3 e1 e2 e3 c1 c2 c3 f1 f2 f3 ha hn V D S; grobner)
 ·exact lc2 1 (-a) ha V (by clear a1 a2 a3 e1 e2 e3 c1 c2 c3 f1 f2 f3 ha hn V D S; grobner)
 ·have q1 : (l - a * (x1 + x2)) * (l - a * (x1 + x2)) + 2 * a * (c + a * x1 * x2) - a * a * (x1 * x2 + x3 * x4 + (x1 + x2) * (x3 + x4)) = l * l - a * (x1 + x2) * (v + l) + a * (c + d) :=
   lc2 (a * (x1 + x2)) (-a) V D (by clear a1 a2 a3 e1 e2 e3 c1 c2 c3 f1 f2 f3 ha hn V D S; grobner)
  exact lc4 1 (-(x1 + x2)) (-1) 1 q1 ha e1 S (by clear a1 a2 a3 e1 e2 e3 c1 c2 c3 f1 f2 f3 ha hn V D S q1; grobner)
 ·have q1 : 2 * (l - a * (x1 + x2)) * (c + a * x1 * x2) - 1 + a * a * (x1 * x2 * (x3 + x4) + x3 * x4 * (x1 + x2)) = 2 * l * c - 1 + x1 * x2 * (a * (v + l)) - (x1 + x2) * (a * (c + d)) :=
   lc2 (-(a * (x1 * x2))) (a * (x1 + x2)) V D (by clear a1 a2 a3 e1 e2 e3 c1 c2 c3 f1 f2 f3 ha hn V D S; grobner)
  exact lc4 1 (x1 * x2) (1) (-(x1 + x2)) q1 ha e2 S (by clear a1 a2 a3 e1 e2 e3 c1 c2 c3 f1 f2 f3 ha hn V D S q1; grobner)
 ·exact lc3 (-1) (x1 * x2) (-(a * (x1 * x2))) e3 S D (by clear a1 a2 a3 e1 e2 e3 c1 c2 c3 f1 f2 f3 ha hn V D S; grobner)
theorem qd_tan {x y x3 y3 x4 y4 a b e y' : Fq} (h : Qd x y x y' x3 y3 x4 y4 a b e) : 2 * y * (2 * a * x + b) = 3 * (x * x) + 1 := by
 obtain ⟨n, b1, b2, b3, b4, e1, e2, e3, e4⟩ := h
 exact lc4 (2 * (2 * a * x + b)) (3 * (x * x)) (2 * x) 1 b1 e1 e2 e3 (by clear n b1 b2 b3 b4 e1 e2 e3 e4; grobner)
theorem qd_col {x1 y1 x2 y2 s t x3 y3 x4 y4 l c a b e : Fq} (h : Col x1 y1 x2 y2 s (-t) l c) (g : Qd x1 y1 x2 y2 x3 y3 x4 y4 a b e) :
  ∃ v d, Col s t x3 y3 x4 y4 v d := by
 have hb : b = l - a * (x1 + x2) := by
  by_cases ex : x1 = x2
  ·have ey : y1 = y2 := by
    have a := h.a1; have b := h.a2; subst ex; rw [a, b]
   subst ex ey
   obtain ⟨n1, t1⟩ := col_tan h
   have t2 := qd_tan g
   clear h g
   exact cancel (a := y1 + y1) (dbl_nz n1) (lc2 1 (-1) t2 t1 (by clear t1 t2 n1; grobner))
  ·have a1 := h.a1; have a2 := h.a2; have b1 := g.b1; have b2 := g.b2
   clear h g
   refine cancel (a := x2 - x1) (fun e => ex (lc1 (-1) e (by clear e a1 a2 b1 b2 ex; grobner))) ?_
   exact lc4 (-1) 1 1 (-1) a1 a2 b1 b2 (by clear a1 a2 b1 b2 ex; grobner)
 have he : e = c + a * x1 * x2 := by
  have a1 := h.a1; have b1 := g.b1
  clear h g
  exact lc3 1 (-1) (-x1) a1 b1 hb (by clear a1 b1 hb; grobner)
 obtain ⟨i, hi⟩ := inv_ex g.n
 obtain ⟨n, b1, b2, b3, b4, g1, g2, g3, g4⟩ := g
 obtain ⟨a1, a2, a3, e1, e2, e3⟩ := h
 subst hb he
 have H1 : a * a * (x3 + x4) = a * a * (x1 + x2) - 2 * a * l + 1 := lc1 1 g1 (by clear n b1 b2 b3 b4 g1 g2 g3 g4 a1 a2 a3 e1 e2 e3 hi; grobner)
 have H0 : a * a * (x3 * x4) = a * a * (x1 * x2) + 2 * a * c + s := lc3 (-1) (-(x1 + x2)) (-1) g2 H1 e1 (by clear n b1 b2 b3 b4 g1 g2 g3 g4 a1 a2 a3 e1 e2 e3 hi H1; grobner)
 have T1 : x3 + x4 = x1 + x2 - 2 * i * l + i * i := by
  refine cancel (a := a * a) (fun e => ?_) ?_
  ·rcases nz e with e | e <;> exact n e
  ·exact lc2 1 (2 * a * l - (a * i + 1)) H1 hi (by clear n b1 b2 b3 b4 g1 g2 g3 g4 a1 a2 a3 e1 e2 e3 hi H1 H0; grobner)
 have T0 : x3 * x4 = x1 * x2 + 2 * i * c + i * i * s := by
  refine cancel (a := a * a) (fun e => ?_) ?_
  ·rcases nz e with e | e <;> exact n e
  ·exact lc2 1 (-(2 * a * c) - s * (a * i + 1)) H0 hi (by clear n b1 b2 b3 b4 g1 g2 g3 g4 a1 a2 a3 e1 e2 e3 hi H1 H0 T1; grobner)
 clear g1 g2 g3 g4
 refine ⟨i - l, -(i * s) - c, ?_, ?_, ?_, ?_, ?_, ?_⟩
 ·exact lc1 (-1) a3 (by clear n b1 b2 b3 b4 a1 a2 a3 e1 e2 e3 hi H1 H0 T1 T0; grobner)
 ·refine cancel (a := a) n ?_
  exact lc4 a x3 (-1) (-(x3 - s)) b3 H1 H0 hi (by clear n b1 b2 b3 b4 a1 a2 a3 e1 e2 e3 hi H1 H0 T1 T0; grobner)
 ·refine cancel (a := a) n ?_
  exact lc4 a x4 (-1) (-(x4 - s)) b4 H1 H0 hi (by clear n b1 b2 b3 b4 a1 a2 a3 e1 e2 e3 hi H1 H0 T1 T0; grobner)
 ·exact lc2 1 1 T1 e1 (by clear n b1 b2 b3 b4 a1 a2 a3 e1 e2 e3 hi H1 H0 T1 T0; grobner)
 ·exact lc3 s 1 1 T1 T0 e2 (by clear n b1 b2 b3 b4 a1 a2 a3 e1 e2 e3 hi H1 H0 T1 T0; grobner)
 ·exact lc2 s 1 T0 e3 (by clear n b1 b2 b3 b4 a1 a2 a3 e1 e2 e3 hi H1 H0 T1 T0; grobner)
theorem col_same {x1 y1 x2 y2 s t x3 y3 x4 y4 l c d : Fq} (h : Col x1 y1 x2 y2 s (-t) l c) (g : Col s t x3 y3 x4 y4 (-l) d) :
  (x3 = x1 ∧ y3 = -y1 ∧ x4 = x2 ∧ y4 = -y2) ∨ (x3 = x2 ∧ y3 = -y2 ∧ x4 = x1 ∧ y4 = -y1) := by
 obtain ⟨a1, a2, a3, e1, e2, e3⟩ := h
 obtain ⟨c1, c2, c3, f1, f2, f3⟩ := g
 have hd : d = -c := lc2 (-1) (-1) a3 c1 (by clear a1 a2 a3 e1 e2 e3 c1 c2 c3 f1 f2 f3; grobner)
 subst hd
 have hs : x3 + x4 = x1 + x2 := lc2 1 (-1) f1 e1 (by clear a1 a2 a3 e1 e2 e3 c1 c2 c3 f1 f2 f3; grobner)
 have hp : x3 * x4 = x1 * x2 := lc3 1 (-1) (-s) f2 e2 hs (by clear a1 a2 a3 e1 e2 e3 c1 c2 c3 f1 f2 f3 hs; grobner)
 have hz : (x3 - x1) * (x3 - x2) = 0 := lc2 (x3) (-1) hs hp (by clear a1 a2 a3 e1 e2 e3 c1 c2 c3 f1 f2 f3 hs hp; grobner)
 have key : ∀ {u w z q : Fq}, w = l * u + c → z = -l * q + -c → q = u → z = -w := by
  intro u w z q h1 h2 h3
  subst h3
  rw [h1, h2]
  clear h1 h2 a1 a2 a3 e1 e2 e3 c1 c2 c3 f1 f2 f3 hs hp hz
  grobner
 rcases nz hz with e | e
 ·left
  have x31 : x3 = x1 := lc1 1 e (by clear a1 a2 a3 e1 e2 e3 c1 c2 c3 f1 f2 f3 hs hp hz e key; grobner)
  have x42 : x4 = x2 := lc2 1 (-1) hs x31 (by clear a1 a2 a3 e1 e2 e3 c1 c2 c3 f1 f2 f3 hs hp hz e key x31; grobner)
  exact ⟨x31, key a1 c2 x31, x42, key a2 c3 x42⟩
 ·right
  have x31 : x3 = x2 := lc1 1 e (by clear a1 a2 a3 e1 e2 e3 c1 c2 c3 f1 f2 f3 hs hp hz e key; grobner)
  have x42 : x4 = x1 := lc2 1 (-1) hs x31 (by clear a1 a2 a3 e1 e2 e3 c1 c2 c3 f1 f2 f3 hs hp hz e key x31; grobner)
  exact ⟨x31, key a2 c2 x31, x42, key a1 c3 x42⟩
end Go.Proofs.YtoddangedbefgaaGreatDoor
