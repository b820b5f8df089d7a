/- Lemmas: How many bytes a number takes: what math/bits.Len64 answers. No condition. -/
import Derived.Test.YtmefanagpkbjeaaDoorM1
import Derived.Test.YtmefanagpkbjeaaDoorM6
import Derived.Test.YtmefanagpkbjeaaDoorRows
import Derived.Deep.MidRow
namespace Go.Proofs.YtmefanagpkbjeaaDoor
open Go.RowKit Go.Sort

/-- How many bytes a number takes. -/
def blen (n : Nat) : Nat := if h : n = 0 then 0 else blen (n / 256) + 1
termination_by n
decreasing_by omega
theorem blen_0 : blen 0 = 0 := by rw [blen, dif_pos rfl]
theorem blen_pos (n : Nat) (h : n ≠ 0) : blen n = blen (n / 256) + 1 := by rw [blen, dif_neg h]
theorem blen_at : ∀ (k n x : Nat), n / 256 ^ k = x → 0 < x → x < 256 → blen n = k + 1
  | 0, n, x, h, h0, h1 => by
    rw [Nat.pow_zero, Nat.div_one] at h
    subst h
    rw [blen_pos n (by omega), show n / 256 = 0 by omega, blen_0]
  | k + 1, n, x, h, h0, h1 => by
    have hn : n ≠ 0 := fun e => by rw [e, Nat.zero_div] at h; omega
    rw [blen_pos n hn, blen_at k (n / 256) x (by rw [Nat.div_div_eq_div_mul, ← h, Nat.pow_succ, Nat.mul_comm]) h0 h1]
abbrev lenTab : ByteArray := ⟨#[0, 1, 2, 2, 3, 3, 3, 3, 4, 4, 4, 4, 4, 4, 4, 4, 5, 5, 5, 5, 5, 5, 5, 5, 5, 5, 5, 5, 5, 5, 5, 5, 6, 6, 6, 6, 6, 6, 6, 6, 6, 6, 6, 6, 6, 6, 6, 6, 6, 6, 6, 6, 6, 6, 6, 6, 6, 6, 6, 6, 6, 6, 6, 6, 7, 7, 7, 7, 7, 7, 7, 7, 7, 7, 7, 7, 7, 7, 7, 7, 7, 7, 7, 7, 7, 7, 7, 7, 7, 7, 7, 7, 7, 7, 7, 7, 7, 7, 7, 7, 7, 7, 7, 7, 7, 7, 7, 7, 7, 7, 7, 7, 7, 7, 7, 7, 7, 7, 7, 7, 7, 7, 7, 7, 7, 7, 7, 7, 8, 8, 8, 8, 8, 8, 8, 8, 8, 8, 8, 8, 8, 8, 8, 8, 8, 8, 8, 8, 8, 8, 8, 8, 8, 8, 8, 8, 8, 8, 8, 8, 8, 8, 8, 8, 8, 8, 8, 8, 8, 8, 8, 8, 8, 8, 8, 8, 8, 8, 8, 8, 8, 8, 8, 8, 8, 8, 8, 8, 8, 8, 8, 8, 8, 8, 8, 8, 8, 8, 8, 8, 8, 8, 8, 8, 8, 8, 8, 8, 8, 8, 8, 8, 8, 8, 8, 8, 8, 8, 8, 8, 8, 8, 8, 8, 8, 8, 8, 8, 8, 8, 8, 8, 8, 8, 8, 8, 8, 8, 8, 8, 8, 8, 8, 8, 8, 8, 8, 8, 8, 8, 8, 8, 8, 8, 8, 8]⟩
def l8 (x : Nat) : Int := bt lenTab x
theorem l8_bd (x : Nat) (h : x < 256) : 0 ≤ l8 x ∧ l8 x ≤ 8 ∧ (x = 0 → l8 x = 0) ∧ (0 < x → 1 ≤ l8 x) := by
  have e : ∀ j : Fin 256, 0 ≤ l8 j.val ∧ l8 j.val ≤ 8 ∧ (j.val = 0 → l8 j.val = 0) ∧ (0 < j.val → 1 ≤ l8 j.val) := by decide +kernel
  exact e ⟨x, h⟩

set_option maxRecDepth 20000 in
set_option maxHeartbeats 2000000 in
theorem len64_any (n : Nat) (hn : n < 18446744073709551616) (w : World) :
    Calls Tryd.prog 142 #[.int .u64 n] w fun e w' => (∃ L : Nat, e = .returned (.int .i64 L) ∧ L ≤ 64 ∧ (L + 7) / 8 = blen n) ∧ Below w.heap.size w w' := by
  by_cases h32 : 4294967296 ≤ n
  · obtain ⟨x32, e32⟩ : ∃ x, n / 4294967296 = x := ⟨_, rfl⟩
    have c32 : (4294967296 : Int) ≤ n := by omega
    have d32 : (n : Int) / 4294967296 = x32 := by omega
    by_cases h16 : 65536 ≤ x32
    · obtain ⟨x16, e16⟩ : ∃ x, x32 / 65536 = x := ⟨_, rfl⟩
      have c16 : (65536 : Int) ≤ x32 := by omega
      have d16 : (x32 : Int) / 65536 = x16 := by omega
      by_cases h8 : 256 ≤ x16
      · obtain ⟨x8, e8⟩ : ∃ x, x16 / 256 = x := ⟨_, rfl⟩
        have c8 : (256 : Int) ≤ x16 := by omega
        have d8 : (x16 : Int) / 256 = x8 := by omega
        have l1 : x8 < 256 := by omega
        have l2 : (x8 : Int) < 256 := by omega
        have hm : (x8 : Int) % 256 = x8 := by omega
        have hg := bt_get lenTab x8 l1
        obtain ⟨v, hv⟩ : ∃ v, bt lenTab x8 = v := ⟨_, rfl⟩
        have hb := l8_bd x8 l1
        rw [show l8 x8 = v from hv] at hb
        rw [hv] at hg
        go_enter Tryd.func142, Tryd.ntmps142
        go_wp2
        go_ret
        refine ⟨⟨(56 + v).toNat, ?_, ?_, ?_⟩, Below.refl _ _⟩
        · exact congrArg (fun y => Ending.returned (Value.int .i64 y)) (show (56 + v) = (((56 + v).toNat : Nat) : Int) by omega)
        · omega
        · rw [blen_at 7 n x8 (by rw [← e8, ← e16, ← e32, Nat.div_div_eq_div_mul, Nat.div_div_eq_div_mul]) (by omega) (by omega)]
          omega
      · have c8 : ¬ (256 : Int) ≤ x16 := by omega
        have l1 : x16 < 256 := by omega
        have l2 : (x16 : Int) < 256 := by omega
        have hm : (x16 : Int) % 256 = x16 := by omega
        have hg := bt_get lenTab x16 l1
        obtain ⟨v, hv⟩ : ∃ v, bt lenTab x16 = v := ⟨_, rfl⟩
        have hb := l8_bd x16 l1
        rw [show l8 x16 = v from hv] at hb
        rw [hv] at hg
        go_enter Tryd.func142, Tryd.ntmps142
        go_wp2
        go_ret
        refine ⟨⟨(48 + v).toNat, ?_, ?_, ?_⟩, Below.refl _ _⟩
        · exact congrArg (fun y => Ending.returned (Value.int .i64 y)) (show (48 + v) = (((48 + v).toNat : Nat) : Int) by omega)
        · omega
        · rw [blen_at 6 n x16 (by rw [← e16, ← e32, Nat.div_div_eq_div_mul]) (by omega) (by omega)]
          omega
    · have c16 : ¬ (65536 : Int) ≤ x32 := by omega
      by_cases h8 : 256 ≤ x32
      · obtain ⟨x8, e8⟩ : ∃ x, x32 / 256 = x := ⟨_, rfl⟩
        have c8 : (256 : Int) ≤ x32 := by omega
        have d8 : (x32 : Int) / 256 = x8 := by omega
        have l1 : x8 < 256 := by omega
        have l2 : (x8 : Int) < 256 := by omega
        have hm : (x8 : Int) % 256 = x8 := by omega
        have hg := bt_get lenTab x8 l1
        obtain ⟨v, hv⟩ : ∃ v, bt lenTab x8 = v := ⟨_, rfl⟩
        have hb := l8_bd x8 l1
        rw [show l8 x8 = v from hv] at hb
        rw [hv] at hg
        go_enter Tryd.func142, Tryd.ntmps142
        go_wp2
        go_ret
        refine ⟨⟨(40 + v).toNat, ?_, ?_, ?_⟩, Below.refl _ _⟩
        · exact congrArg (fun y => Ending.returned (Value.int .i64 y)) (show (40 + v) = (((40 + v).toNat : Nat) : Int) by omega)
        · omega
        · rw [blen_at 5 n x8 (by rw [← e8, ← e32, Nat.div_div_eq_div_mul]) (by omega) (by omega)]
          omega
      · have c8 : ¬ (256 : Int) ≤ x32 := by omega
        have l1 : x32 < 256 := by omega
        have l2 : (x32 : Int) < 256 := by omega
        have hm : (x32 : Int) % 256 = x32 := by omega
        have hg := bt_get lenTab x32 l1
        obtain ⟨v, hv⟩ : ∃ v, bt lenTab x32 = v := ⟨_, rfl⟩
        have hb := l8_bd x32 l1
        rw [show l8 x32 = v from hv] at hb
        rw [hv] at hg
        go_enter Tryd.func142, Tryd.ntmps142
        go_wp2
        go_ret
        refine ⟨⟨(32 + v).toNat, ?_, ?_, ?_⟩, Below.refl _ _⟩
        · exact congrArg (fun y => Ending.returned (Value.int .i64 y)) (show (32 + v) = (((32 + v).toNat : Nat) : Int) by omega)
        · omega
        · rw [blen_at 4 n x32 (by rw [← e32]) (by omega) (by omega)]
          omega
  · have c32 : ¬ (4294967296 : Int) ≤ n := by omega
    by_cases h16 : 65536 ≤ n
    · obtain ⟨x16, e16⟩ : ∃ x, n / 65536 = x := ⟨_, rfl⟩
      have c16 : (65536 : Int) ≤ n := by omega
      have d16 : (n : Int) / 65536 = x16 := by omega
      by_cases h8 : 256 ≤ x16
      · obtain ⟨x8, e8⟩ : ∃ x, x16 / 256 = x := ⟨_, rfl⟩
        have c8 : (256 : Int) ≤ x16 := by omega
        have d8 : (x16 : Int) / 256 = x8 := by omega
        have l1 : x8 < 256 := by omega
        have l2 : (x8 : Int) < 256 := by omega
        have hm : (x8 : Int) % 256 = x8 := by omega
        have hg := bt_get lenTab x8 l1
        obtain ⟨v, hv⟩ : ∃ v, bt lenTab x8 = v := ⟨_, rfl⟩
        have hb := l8_bd x8 l1
        rw [show l8 x8 = v from hv] at hb
        rw [hv] at hg
        go_enter Tryd.func142, Tryd.ntmps142
        go_wp2
        go_ret
        refine ⟨⟨(24 + v).toNat, ?_, ?_, ?_⟩, Below.refl _ _⟩
        · exact congrArg (fun y => Ending.returned (Value.int .i64 y)) (show (24 + v) = (((24 + v).toNat : Nat) : Int) by omega)
        · omega
        · rw [blen_at 3 n x8 (by rw [← e8, ← e16, Nat.div_div_eq_div_mul]) (by omega) (by omega)]
          omega
      · have c8 : ¬ (256 : Int) ≤ x16 := by omega
        have l1 : x16 < 256 := by omega
        have l2 : (x16 : Int) < 256 := by omega
        have hm : (x16 : Int) % 256 = x16 := by omega
        have hg := bt_get lenTab x16 l1
        obtain ⟨v, hv⟩ : ∃ v, bt lenTab x16 = v := ⟨_, rfl⟩
        have hb := l8_bd x16 l1
        rw [show l8 x16 = v from hv] at hb
        rw [hv] at hg
        go_enter Tryd.func142, Tryd.ntmps142
        go_wp2
        go_ret
        refine ⟨⟨(16 + v).toNat, ?_, ?_, ?_⟩, Below.refl _ _⟩
        · exact congrArg (fun y => Ending.returned (Value.int .i64 y)) (show (16 + v) = (((16 + v).toNat : Nat) : Int) by omega)
        · omega
        · rw [blen_at 2 n x16 (by rw [← e16]) (by omega) (by omega)]
          omega
    · have c16 : ¬ (65536 : Int) ≤ n := by omega
      by_cases h8 : 256 ≤ n
      · obtain ⟨x8, e8⟩ : ∃ x, n / 256 = x := ⟨_, rfl⟩
        have c8 : (256 : Int) ≤ n := by omega
        have d8 : (n : Int) / 256 = x8 := by omega
        have l1 : x8 < 256 := by omega
        have l2 : (x8 : Int) < 256 := by omega
        have hm : (x8 : Int) % 256 = x8 := by omega
        have hg := bt_get lenTab x8 l1
        obtain ⟨v, hv⟩ : ∃ v, bt lenTab x8 = v := ⟨_, rfl⟩
        have hb := l8_bd x8 l1
        rw [show l8 x8 = v from hv] at hb
        rw [hv] at hg
        go_enter Tryd.func142, Tryd.ntmps142
        go_wp2
        go_ret
        refine ⟨⟨(8 + v).toNat, ?_, ?_, ?_⟩, Below.refl _ _⟩
        · exact congrArg (fun y => Ending.returned (Value.int .i64 y)) (show (8 + v) = (((8 + v).toNat : Nat) : Int) by omega)
        · omega
        · rw [blen_at 1 n x8 (by rw [← e8]) (by omega) (by omega)]
          omega
      · have c8 : ¬ (256 : Int) ≤ n := by omega
        have l1 : n < 256 := by omega
        have l2 : (n : Int) < 256 := by omega
        have hm : (n : Int) % 256 = n := by omega
        have hg := bt_get lenTab n l1
        obtain ⟨v, hv⟩ : ∃ v, bt lenTab n = v := ⟨_, rfl⟩
        have hb := l8_bd n l1
        rw [show l8 n = v from hv] at hb
        rw [hv] at hg
        go_enter Tryd.func142, Tryd.ntmps142
        go_wp2
        go_ret
        refine ⟨⟨v.toNat, ?_, ?_, ?_⟩, Below.refl _ _⟩
        · exact congrArg (fun y => Ending.returned (Value.int .i64 y)) (show v = ((v.toNat : Nat) : Int) by omega)
        · omega
        · by_cases h0 : n = 0
          · have := hb.2.2.1 h0
            rw [h0, blen_0]
            omega
          · have := hb.2.2.2 (by omega)
            rw [blen_at 0 n n (by rw [Nat.pow_zero, Nat.div_one]) (by omega) (by omega)]
            omega
end Go.Proofs.YtmefanagpkbjeaaDoor
