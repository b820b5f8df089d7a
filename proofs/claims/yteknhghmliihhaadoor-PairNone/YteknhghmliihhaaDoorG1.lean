/- How many bits a number takes: what math/bits.Len64 answers. No condition. -/
import Derived.Test.YteknhghmliihhaaDoorBt
import Derived.Deep.MidRow
namespace Go.Proofs.YteknhghmliihhaaDoor
open Go.RowKit Go.Sort

abbrev lenTab : ByteArray := ⟨#[0, 1, 2, 2, 3, 3, 3, 3, 4, 4, 4, 4, 4, 4, 4, 4, 5, 5, 5, 5, 5, 5, 5, 5, 5, 5, 5, 5, 5, 5, 5, 5, 6, 6, 6, 6, 6, 6, 6, 6, 6, 6, 6, 6, 6, 6, 6, 6, 6, 6, 6, 6, 6, 6, 6, 6, 6, 6, 6, 6, 6, 6, 6, 6, 7, 7, 7, 7, 7, 7, 7, 7, 7, 7, 7, 7, 7, 7, 7, 7, 7, 7, 7, 7, 7, 7, 7, 7, 7, 7, 7, 7, 7, 7, 7, 7, 7, 7, 7, 7, 7, 7, 7, 7, 7, 7, 7, 7, 7, 7, 7, 7, 7, 7, 7, 7, 7, 7, 7, 7, 7, 7, 7, 7, 7, 7, 7, 7, 8, 8, 8, 8, 8, 8, 8, 8, 8, 8, 8, 8, 8, 8, 8, 8, 8, 8, 8, 8, 8, 8, 8, 8, 8, 8, 8, 8, 8, 8, 8, 8, 8, 8, 8, 8, 8, 8, 8, 8, 8, 8, 8, 8, 8, 8, 8, 8, 8, 8, 8, 8, 8, 8, 8, 8, 8, 8, 8, 8, 8, 8, 8, 8, 8, 8, 8, 8, 8, 8, 8, 8, 8, 8, 8, 8, 8, 8, 8, 8, 8, 8, 8, 8, 8, 8, 8, 8, 8, 8, 8, 8, 8, 8, 8, 8, 8, 8, 8, 8, 8, 8, 8, 8, 8, 8, 8, 8, 8, 8, 8, 8, 8, 8, 8, 8, 8, 8, 8, 8, 8, 8, 8, 8, 8, 8, 8, 8]⟩
def l8 (x : Nat) : Int := bt lenTab x
theorem l8_bd (x : Nat) (h : x < 256) : 0 ≤ l8 x ∧ l8 x ≤ 8 ∧ x < 2 ^ (l8 x).toNat := by
  have e : ∀ j : Fin 256, 0 ≤ l8 j.val ∧ l8 j.val ≤ 8 ∧ j.val < 2 ^ (l8 j.val).toNat := by decide +kernel
  exact e ⟨x, h⟩
theorem len_at (k n x : Nat) (v : Int) (hv : 0 ≤ v) (e : n / 2 ^ k = x) (h : x < 2 ^ v.toNat) : n < 2 ^ ((k : Int) + v).toNat := by
  rw [show ((k : Int) + v).toNat = k + v.toNat by omega, Nat.pow_add]
  have hp : 0 < 2 ^ k := Nat.pow_pos (by decide)
  have h1 := Nat.lt_mul_div_succ n hp
  rw [e] at h1
  exact Nat.lt_of_lt_of_le h1 (Nat.mul_le_mul (Nat.le_refl _) h)

set_option maxRecDepth 20000 in
set_option maxHeartbeats 2000000 in
theorem len64_any (n : Nat) (hn : n < 18446744073709551616) (w : World) :
    Calls Tryd.prog 56 #[.int .u64 n] w fun e w' => (∃ L : Nat, e = .returned (.int .i64 L) ∧ L ≤ 64 ∧ n < 2 ^ L) ∧ Below w.heap.size w w' := by
  by_cases h32 : 4294967296 ≤ n
  · obtain ⟨x32, e32⟩ : ∃ x, n / 4294967296 = x := ⟨_, rfl⟩
    have c32 : (4294967296 : Int) ≤ n := by omega
    have d32 : (n : Int) / 4294967296 = x32 := by omega
    by_cases h16 : 65536 ≤ x32
    · obtain ⟨x16, e16⟩ : ∃ x, x32 / 65536 = x := ⟨_, rfl⟩
      have c16 : (65536 : Int) ≤ x32 := by omega
      have d16 : (x32 : Int) / 65536 = x16 := by omega
      by_cases h8 : 256 ≤ x16
      · obtain ⟨x8, e8⟩ : ∃ x, x16 / 256 = x := ⟨_, rfl⟩
        have c8 : (256 : Int) ≤ x16 := by omega
        have d8 : (x16 : Int) / 256 = x8 := by omega
        have l1 : x8 < 256 := by omega
        have l2 : (x8 : Int) < 256 := by omega
        have hm : (x8 : Int) % 256 = x8 := by omega
        have hg := bt_get lenTab x8 l1
        obtain ⟨v, hv⟩ : ∃ v, bt lenTab x8 = v := ⟨_, rfl⟩
        have hb := l8_bd x8 l1
        rw [show l8 x8 = v from hv] at hb
        rw [hv] at hg
        go_enter Tryd.func56, Tryd.ntmps56
        go_wp2
        go_ret
        refine ⟨⟨(56 + v).toNat, ?_, ?_, ?_⟩, Below.refl _ _⟩
        · exact congrArg (fun y => Ending.returned (Value.int .i64 y)) (show (56 + v) = (((56 + v).toNat : Nat) : Int) by omega)
        · omega
        · exact len_at 56 n x8 v (by omega) (by rw [← e8, ← e16, ← e32, Nat.div_div_eq_div_mul, Nat.div_div_eq_div_mul]) hb.2.2
      · have c8 : ¬ (256 : Int) ≤ x16 := by omega
        have l1 : x16 < 256 := by omega
        have l2 : (x16 : Int) < 256 := by omega
        have hm : (x16 : Int) % 256 = x16 := by omega
        have hg := bt_get lenTab x16 l1
        obtain ⟨v, hv⟩ : ∃ v, bt lenTab x16 = v := ⟨_, rfl⟩
        have hb := l8_bd x16 l1
        rw [show l8 x16 = v from hv] at hb
        rw [hv] at hg
        go_enter Tryd.func56, Tryd.ntmps56
        go_wp2
        go_ret
        refine ⟨⟨(48 + v).toNat, ?_, ?_, ?_⟩, Below.refl _ _⟩
        · exact congrArg (fun y => Ending.returned (Value.int .i64 y)) (show (48 + v) = (((48 + v).toNat : Nat) : Int) by omega)
        · omega
        · exact len_at 48 n x16 v (by omega) (by rw [← e16, ← e32, Nat.div_div_eq_div_mul]) hb.2.2
    · have c16 : ¬ (65536 : Int) ≤ x32 := by omega
      by_cases h8 : 256 ≤ x32
      · obtain ⟨x8, e8⟩ : ∃ x, x32 / 256 = x := ⟨_, rfl⟩
        have c8 : (256 : Int) ≤ x32 := by omega
        have d8 : (x32 : Int) / 256 = x8 := by omega
        have l1 : x8 < 256 := by omega
        have l2 : (x8 : Int) < 256 := by omega
        have hm : (x8 : Int) % 256 = x8 := by omega
        have hg := bt_get lenTab x8 l1
        obtain ⟨v, hv⟩ : ∃ v, bt lenTab x8 = v := ⟨_, rfl⟩
        have hb := l8_bd x8 l1
        rw [show l8 x8 = v from hv] at hb
        rw [hv] at hg
        go_enter Tryd.func56, Tryd.ntmps56
        go_wp2
        go_ret
        refine ⟨⟨(40 + v).toNat, ?_, ?_, ?_⟩, Below.refl _ _⟩
        · exact congrArg (fun y => Ending.returned (Value.int .i64 y)) (show (40 + v) = (((40 + v).toNat : Nat) : Int) by omega)
        · omega
        · exact len_at 40 n x8 v (by omega) (by rw [← e8, ← e32, Nat.div_div_eq_div_mul]) hb.2.2
      · have c8 : ¬ (256 : Int) ≤ x32 := by omega
        have l1 : x32 < 256 := by omega
        have l2 : (x32 : Int) < 256 := by omega
        have hm : (x32 : Int) % 256 = x32 := by omega
        have hg := bt_get lenTab x32 l1
        obtain ⟨v, hv⟩ : ∃ v, bt lenTab x32 = v := ⟨_, rfl⟩
        have hb := l8_bd x32 l1
        rw [show l8 x32 = v from hv] at hb
        rw [hv] at hg
        go_enter Tryd.func56, Tryd.ntmps56
        go_wp2
        go_ret
        refine ⟨⟨(32 + v).toNat, ?_, ?_, ?_⟩, Below.refl _ _⟩
        · exact congrArg (fun y => Ending.returned (Value.int .i64 y)) (show (32 + v) = (((32 + v).toNat : Nat) : Int) by omega)
        · omega
        · exact len_at 32 n x32 v (by omega) (by rw [← e32]) hb.2.2
  · have c32 : ¬ (4294967296 : Int) ≤ n := by omega
    by_cases h16 : 65536 ≤ n
    · obtain ⟨x16, e16⟩ : ∃ x, n / 65536 = x := ⟨_, rfl⟩
      have c16 : (65536 : Int) ≤ n := by omega
      have d16 : (n : Int) / 65536 = x16 := by omega
      by_cases h8 : 256 ≤ x16
      · obtain ⟨x8, e8⟩ : ∃ x, x16 / 256 = x := ⟨_, rfl⟩
        have c8 : (256 : Int) ≤ x16 := by omega
        have d8 : (x16 : Int) / 256 = x8 := by omega
        have l1 : x8 < 256 := by omega
        have l2 : (x8 : Int) < 256 := by omega
        have hm : (x8 : Int) % 256 = x8 := by omega
        have hg := bt_get lenTab x8 l1
        obtain ⟨v, hv⟩ : ∃ v, bt lenTab x8 = v := ⟨_, rfl⟩
        have hb := l8_bd x8 l1
        rw [show l8 x8 = v from hv] at hb
        rw [hv] at hg
        go_enter Tryd.func56, Tryd.ntmps56
        go_wp2
        go_ret
        refine ⟨⟨(24 + v).toNat, ?_, ?_, ?_⟩, Below.refl _ _⟩
        · exact congrArg (fun y => Ending.returned (Value.int .i64 y)) (show (24 + v) = (((24 + v).toNat : Nat) : Int) by omega)
        · omega
        · exact len_at 24 n x8 v (by omega) (by rw [← e8, ← e16, Nat.div_div_eq_div_mul]) hb.2.2
      · have c8 : ¬ (256 : Int) ≤ x16 := by omega
        have l1 : x16 < 256 := by omega
        have l2 : (x16 : Int) < 256 := by omega
        have hm : (x16 : Int) % 256 = x16 := by omega
        have hg := bt_get lenTab x16 l1
        obtain ⟨v, hv⟩ : ∃ v, bt lenTab x16 = v := ⟨_, rfl⟩
        have hb := l8_bd x16 l1
        rw [show l8 x16 = v from hv] at hb
        rw [hv] at hg
        go_enter Tryd.func56, Tryd.ntmps56
        go_wp2
        go_ret
        refine ⟨⟨(16 + v).toNat, ?_, ?_, ?_⟩, Below.refl _ _⟩
        · exact congrArg (fun y => Ending.returned (Value.int .i64 y)) (show (16 + v) = (((16 + v).toNat : Nat) : Int) by omega)
        · omega
        · exact len_at 16 n x16 v (by omega) (by rw [← e16]) hb.2.2
    · have c16 : ¬ (65536 : Int) ≤ n := by omega
      by_cases h8 : 256 ≤ n
      · obtain ⟨x8, e8⟩ : ∃ x, n / 256 = x := ⟨_, rfl⟩
        have c8 : (256 : Int) ≤ n := by omega
        have d8 : (n : Int) / 256 = x8 := by omega
        have l1 : x8 < 256 := by omega
        have l2 : (x8 : Int) < 256 := by omega
        have hm : (x8 : Int) % 256 = x8 := by omega
        have hg := bt_get lenTab x8 l1
        obtain ⟨v, hv⟩ : ∃ v, bt lenTab x8 = v := ⟨_, rfl⟩
        have hb := l8_bd x8 l1
        rw [show l8 x8 = v from hv] at hb
        rw [hv] at hg
        go_enter Tryd.func56, Tryd.ntmps56
        go_wp2
        go_ret
        refine ⟨⟨(8 + v).toNat, ?_, ?_, ?_⟩, Below.refl _ _⟩
        · exact congrArg (fun y => Ending.returned (Value.int .i64 y)) (show (8 + v) = (((8 + v).toNat : Nat) : Int) by omega)
        · omega
        · exact len_at 8 n x8 v (by omega) (by rw [← e8]) hb.2.2
      · have c8 : ¬ (256 : Int) ≤ n := by omega
        have l1 : n < 256 := by omega
        have l2 : (n : Int) < 256 := by omega
        have hm : (n : Int) % 256 = n := by omega
        have hg := bt_get lenTab n l1
        obtain ⟨v, hv⟩ : ∃ v, bt lenTab n = v := ⟨_, rfl⟩
        have hb := l8_bd n l1
        rw [show l8 n = v from hv] at hb
        rw [hv] at hg
        go_enter Tryd.func56, Tryd.ntmps56
        go_wp2
        go_ret
        refine ⟨⟨v.toNat, ?_, ?_, ?_⟩, Below.refl _ _⟩
        · exact congrArg (fun y => Ending.returned (Value.int .i64 y)) (show v = ((v.toNat : Nat) : Int) by omega)
        · omega
        · have := len_at 0 n n v (by omega) (by rw [Nat.pow_zero, Nat.div_one]) hb.2.2
          rw [show ((0 : Nat) : Int) + v = v by omega] at this
          exact this
end Go.Proofs.YteknhghmliihhaaDoor
