/- What Len64, LeadingZeros64 and leading do at this translation: how many bits stand ahead of a word's highest one. -/
import Derived.Test.YtgapcjdgakamoaaW2
import Derived.Test.YtgapcjdgakamoaaPlain
import Derived.Lib.BitFns
namespace Go.Proofs.Ytgapcjdgakamoaa
open Go.RowKit

theorem bitLenAux_spec : ∀ (f x : Nat), x < 2 ^ f → 0 < x → 2 ^ (Lib.bitLenAux f x) ≤ 2 * x ∧ x < 2 ^ (Lib.bitLenAux f x)
  | 0, x, h, h0 => by simp at h; omega
  | f + 1, x, h, h0 => by
    have hn : ¬ x = 0 := by omega
    rw [Lib.bitLenAux, if_neg hn]
    by_cases h1 : x = 1
    · subst h1
      have e : Lib.bitLenAux f (1 / 2) = 0 := by cases f <;> simp [Lib.bitLenAux]
      rw [e]; decide
    · have := bitLenAux_spec f (x / 2) (by rw [Nat.pow_succ] at h; omega) (by omega)
      rw [Nat.add_comm 1, Nat.pow_succ]
      omega

theorem bitLen_spec (x : Nat) (h : x < 18446744073709551616) (h0 : 0 < x) : 2 ^ (Lib.bitLen x) ≤ 2 * x ∧ x < 2 ^ (Lib.bitLen x) := bitLenAux_spec 64 x h h0

/-- The table's byte at a place. -/
def ln8 (k : Nat) : Nat := ((Lib.len8tab[k]?).getD 0).toNat

theorem ln8_at (k : Nat) (h : k < Lib.len8tab.size) : (Lib.len8tab[k]'h).toNat = ln8 k := by
  unfold ln8
  rw [getElem?_pos Lib.len8tab k h]
  rfl

theorem ln8_len (k : Nat) (h : k < 256) : ln8 k = Lib.bitLen k := by
  have e := Lib.len8_of (k : Int) (by omega) (by omega)
  have e2 : Lib.len8 (k : Int) = (ln8 k : Int) := rfl
  rw [e2] at e
  have e3 : ((k : Int)).toNat = k := rfl
  rw [e3] at e
  omega

theorem len_way (x : Int) (k : Nat) (h0 : 0 ≤ x) (hx : x < 18446744073709551616) (hk : 2 ^ k ≤ x.toNat ∨ k = 0) (b : Int) (hb : b.toNat = x.toNat / 2 ^ k) (hb1 : b ≤ 255) : (k : Int) + ln8 b.toNat = (Lib.bitLen x.toNat : Int) ∧ ln8 b.toNat ≤ 8 := by
  rw [ln8_len b.toNat (by omega), hb]
  refine ⟨?_, Lib.bitLen_le8 ⟨x.toNat / 2 ^ k, by omega⟩⟩
  rcases hk with hk | rfl
  · rw [Lib.bitLen_shift k x.toNat hk (by omega)]; omega
  · simp

theorem w64 (n : Int) (h0 : 0 ≤ n) (h1 : n < 9223372036854775808) : wrap64 n = n := by unfold wrap64; omega

theorem ret_u64 {a b : Int} (h : a = b) : Ending.returned (.int .u64 a) = .returned (.int .u64 b) := by rw [h]
theorem ret_i64 {a b : Int} (h : a = b) : Ending.returned (.int .i64 a) = .returned (.int .i64 b) := by rw [h]

set_option maxRecDepth 100000 in
set_option maxHeartbeats 2000000 in
theorem len64_any (x : Int) (hx : Pt x) (w : World) :
    Calls Try.prog 84 #[.int .u64 x] w fun e w' => e = .returned (.int .i64 (Lib.bitLen x.toNat)) ∧ w' = w := by
  obtain ⟨h0, h1⟩ := hx
  have hs := Lib.len8tab_size
  have hl := ln8_at
  go_enter Try.func84, Try.ntmps84
  go_wp2
  all_goals go_ret
  all_goals (refine ⟨ret_i64 ?_, rfl⟩)
  all_goals first
    | (obtain ⟨q1, q2⟩ := len_way x 56 h0 h1 (.inl (by omega)) (x / 4294967296 / 65536 / 256) (by omega) (by omega); unfold wrap64; omega)
    | (obtain ⟨q1, q2⟩ := len_way x 48 h0 h1 (.inl (by omega)) (x / 4294967296 / 65536) (by omega) (by omega); unfold wrap64; omega)
    | (obtain ⟨q1, q2⟩ := len_way x 40 h0 h1 (.inl (by omega)) (x / 4294967296 / 256) (by omega) (by omega); unfold wrap64; omega)
    | (obtain ⟨q1, q2⟩ := len_way x 32 h0 h1 (.inl (by omega)) (x / 4294967296) (by omega) (by omega); unfold wrap64; omega)
    | (obtain ⟨q1, q2⟩ := len_way x 24 h0 h1 (.inl (by omega)) (x / 65536 / 256) (by omega) (by omega); unfold wrap64; omega)
    | (obtain ⟨q1, q2⟩ := len_way x 16 h0 h1 (.inl (by omega)) (x / 65536) (by omega) (by omega); unfold wrap64; omega)
    | (obtain ⟨q1, q2⟩ := len_way x 8 h0 h1 (.inl (by omega)) (x / 256) (by omega) (by omega); unfold wrap64; omega)
    | (obtain ⟨q1, q2⟩ := len_way x 0 h0 h1 (.inr rfl) x (by simp) (by omega); unfold wrap64; omega)

theorem lz64_any (x : Int) (hx : Pt x) (w : World) :
    Calls Try.prog 81 #[.int .u64 x] w fun e w' => e = .returned (.int .i64 (64 - (Lib.bitLen x.toNat : Int))) ∧ w' = w := by
  have l : Lib.bitLen x.toNat ≤ 64 := Lib.bitLen_le x.toNat 64 (by omega) (by obtain ⟨_, _⟩ := hx; omega)
  go_enter Try.func81, Try.ntmps81
  go_wp2_with fail
  refine (len64_any x hx _).mono ?_
  rintro e w1 ⟨rfl, rfl⟩
  generalize hn : Lib.bitLen x.toNat = n at *
  have H : Hid (Lib.bitLen x.toNat = n) := hn
  clear hn
  go_wp2
  go_ret
  exact ⟨by rw [H.out]; rfl, rfl⟩
end Go.Proofs.Ytgapcjdgakamoaa
