/- Lemmas: How many bytes a number takes: what math/bits.Len64 answers. No condition. -/
import Derived.Test.YtbmapdkcccdmfabDoorM1
import Derived.Test.YtbmapdkcccdmfabDoorM6
import Derived.Test.YtbmapdkcccdmfabDoorRows
import Derived.Deep.MidRow
namespace Go.Proofs.YtbmapdkcccdmfabDoor
open Go.RowKit Go.Sort

/-- How many bytes a number takes. -/
def blen (n : Nat) : Nat := if h : n = 0 then 0 else blen (n / 256) + 1
termination_by n
decreasing_by omega
theorem blen_0 : blen 0 = 0 := by rw [blen, dif_pos rfl]
theorem blen_pos (n : Nat) (h : n ≠ 0) : blen n = blen (n / 256) + 1 := by rw [blen, dif_neg h]
theorem blen_at : ∀ (k n x : Nat), n / 256 ^ k = x → 0 < x → x < 256 → blen n = k + 1
  | 0, n, x, h, h0, h1 => by
    rw [Nat.pow_zero, Nat.div_one] at h
    subst h
    rw [blen_pos n (by omega), show n / 256 = 0 by omega, blen_0]
  | k + 1, n, x, h, h0, h1 => by
    have hn : n ≠ 0 := fun e => by rw [e, Nat.zero_div] at h; omega
    rw [blen_pos n hn, blen_at k (n / 256) x (by rw [Nat.div_div_eq_div_mul, ← h, Nat.pow_succ, Nat.mul_comm]) h0 h1]
abbrev lenTab : ByteArray := ⟨#[0, 1, 2, 2, 3, 3, 3, 3, 4, 4, 4, 4, 4, 4, 4, 4, 5, 5, 5, 5, 5, 5, 5, 5, 5, 5, 5, 5, 5, 5, 5, 5, 6, 6, 6, 6, 6, 6, 6, 6, 6, 6, 6, 6, 6, 6, 6, 6, 6, 6, 6, 6, 6, 6, 6, 6, 6, 6, 6, 6, 6, 6, 6, 6, 7, 7, 7, 7, 7, 7, 7, 7, 7, 7, 7, 7, 7, 7, 7, 7, 7, 7, 7, 7, 7, 7, 7, 7, 7, 7, 7, 7, 7, 7, 7, 7, 7, 7, 7, 7, 7, 7, 7, 7, 7, 7, 7, 7, 7, 7, 7, 7, 7, 7, 7, 7, 7, 7, 7, 7, 7, 7, 7, 7, 7, 7, 7, 7, 8, 8, 8, 8, 8, 8, 8, 8, 8, 8, 8, 8, 8, 8, 8, 8, 8, 8, 8, 8, 8, 8, 8, 8, 8, 8, 8, 8, 8, 8, 8, 8, 8, 8, 8, 8, 8, 8, 8, 8, 8, 8, 8, 8, 8, 8, 8, 8, 8, 8, 8, 8, 8, 8, 8, 8, 8, 8, 8, 8, 8, 8, 8, 8, 8, 8, 8, 8, 8, 8, 8, 8, 8, 8, 8, 8, 8, 8, 8, 8, 8, 8, 8, 8, 8, 8, 8, 8, 8, 8, 8, 8, 8, 8, 8, 8, 8, 8, 8, 8, 8, 8, 8, 8, 8, 8, 8, 8, 8, 8, 8, 8, 8, 8, 8, 8, 8, 8, 8, 8, 8, 8, 8, 8, 8, 8, 8, 8]⟩
def l8 (x : Nat) : Int := bt lenTab x
theorem l8_bd (x : Nat) (h : x < 256) : 0 ≤ l8 x ∧ l8 x ≤ 8 ∧ (x = 0 → l8 x = 0) ∧ (0 < x → 1 ≤ l8 x) := by
  have e : ∀ j : Fin 256, 0 ≤ l8 j.val ∧ l8 j.val ≤ 8 ∧ (j.val = 0 → l8 j.val = 0) ∧ (0 < j.val → 1 ≤ l8 j.val) := by decide +kernel
  exact e ⟨x, h⟩

end Go.Proofs.YtbmapdkcccdmfabDoor
