/- The reference's spread, at this translation. -/
import Derived.Test.YtmemfdpfbeijeabDoorR1
import Derived.Test.YtmemfdpfbeijeabDoorR2
namespace Go.Proofs.YtmemfdpfbeijeabDoor
open Go.RowKit Go.Sort

theorem spN_stable (b : Nat → Int) (n j : Nat) (hj : j < 16 + n) : ∀ m, spN b (n + m) j = spN b n j
  | 0 => rfl
  | m + 1 => by
    show (if j = 16 + (n + m) then nxt (spN b (n + m)) (16 + (n + m)) else spN b (n + m) j) = _
    rw [if_neg (by omega), spN_stable b n j hj m]
theorem sp_at (b : Nat → Int) (n j : Nat) (hn : n ≤ 48) (hj : j < 16 + n) : spreadOf b j = spN b n j := by
  have := spN_stable b n j hj (48 - n)
  rw [show n + (48 - n) = 48 by omega] at this
  exact this
theorem sp_lt (b : Nat → Int) (j : Nat) (hj : j < 16) : spreadOf b j = b j := by
  rw [sp_at b 0 j (by decide) hj]
  show (if j < 16 then b j else 0) = b j
  rw [if_pos hj]
theorem sp_ge (b : Nat → Int) (t : Nat) (h1 : 16 ≤ t) (h2 : t < 64) : spreadOf b t = nxt (spreadOf b) t := by
  obtain ⟨n, rfl⟩ : ∃ n, t = 16 + n := ⟨t - 16, by omega⟩
  rw [sp_at b (n + 1) (16 + n) (by omega) (by omega)]
  show (if 16 + n = 16 + n then nxt (spN b n) (16 + n) else spN b n (16 + n)) = _
  rw [if_pos rfl]
  unfold nxt
  rw [sp_at b n (16 + n - 16) (by omega) (by omega), sp_at b n (16 + n - 15) (by omega) (by omega), sp_at b n (16 + n - 7) (by omega) (by omega), sp_at b n (16 + n - 2) (by omega) (by omega)]
theorem spread_ext (b c : Nat → Int) (h : ∀ j, j < 16 → b j = c j) : spreadOf b = spreadOf c := by
  have e : spN b 0 = spN c 0 := by
    funext j
    show (if j < 16 then b j else 0) = (if j < 16 then c j else 0)
    by_cases hj : j < 16
    · rw [if_pos hj, if_pos hj, h j hj]
    · rw [if_neg hj, if_neg hj]
  have : ∀ n, spN b n = spN c n := fun n => by
    induction n with
    | zero => exact e
    | succ n ih => funext j; show (if j = 16 + n then nxt (spN b n) (16 + n) else spN b n j) = (if j = 16 + n then nxt (spN c n) (16 + n) else spN c n j); rw [ih]
  exact this 48

/-- A word of four bytes. -/
def wordF (f : Nat → Int) (j : Nat) : Int := f (4 * j) * 16777216 + f (4 * j + 1) * 65536 + f (4 * j + 2) * 256 + f (4 * j + 3)
theorem or4 (a b c d : Int) (ha : 0 ≤ a ∧ a < 256) (hb : 0 ≤ b ∧ b < 256) (hc : 0 ≤ c ∧ c < 256) (hd : 0 ≤ d ∧ d < 256) :
    bits .or .u32 (bits .or .u32 (bits .or .u32 (a * 16777216) (b * 65536)) (c * 256)) d = a * 16777216 + b * 65536 + c * 256 + d := by
  obtain ⟨a, rfl⟩ := Int.eq_ofNat_of_zero_le ha.1
  obtain ⟨b, rfl⟩ := Int.eq_ofNat_of_zero_le hb.1
  obtain ⟨c, rfl⟩ := Int.eq_ofNat_of_zero_le hc.1
  obtain ⟨d, rfl⟩ := Int.eq_ofNat_of_zero_le hd.1
  have h1 := or_add a (b * 65536) 24 (by omega) (by omega)
  have h2 := or_add (a * 256 + b) (c * 256) 16 (by omega) (by omega)
  have h3 := or_add (a * 65536 + b * 256 + c) d 8 (by omega) (by omega)
  have e1 : ((a : Int)) * 16777216 = ((a * 2 ^ 24 : Nat) : Int) := by simp
  have e2 : ((b : Int)) * 65536 = ((b * 65536 : Nat) : Int) := by simp
  have e3 : ((c : Int)) * 256 = ((c * 256 : Nat) : Int) := by simp
  rw [e1, e2, h1, e3, show a * 2 ^ 24 + b * 65536 = (a * 256 + b) * 2 ^ 16 by omega, h2, show (a * 256 + b) * 2 ^ 16 + c * 256 = (a * 65536 + b * 256 + c) * 2 ^ 8 by omega, h3]
  omega
theorem num4 (t : ByteArray) (p : Nat) : num t p 4 = bt t p * 16777216 + bt t (p + 1) * 65536 + bt t (p + 2) * 256 + bt t (p + 3) := by
  have a := bt_bd t p
  have b := bt_bd t (p + 1)
  have c := bt_bd t (p + 2)
  have d := bt_bd t (p + 3)
  show bits .or .u32 (bits .or .u32 (bits .or .u32 (bits .or .u32 (0 * 256 % 4294967296) (bt t (p + 0)) * 256 % 4294967296) (bt t (p + 1)) * 256 % 4294967296) (bt t (p + 2)) * 256 % 4294967296) (bt t (p + 3)) = _
  rw [Nat.add_zero]
  generalize bt t p = x0 at *
  generalize bt t (p + 1) = x1 at *
  generalize bt t (p + 2) = x2 at *
  generalize bt t (p + 3) = x3 at *
  obtain ⟨x0, rfl⟩ := Int.eq_ofNat_of_zero_le a.1
  obtain ⟨x1, rfl⟩ := Int.eq_ofNat_of_zero_le b.1
  obtain ⟨x2, rfl⟩ := Int.eq_ofNat_of_zero_le c.1
  obtain ⟨x3, rfl⟩ := Int.eq_ofNat_of_zero_le d.1
  have h0 := or_add 0 x0 8 (by omega) (by omega)
  have h1 := or_add x0 x1 8 (by omega) (by omega)
  have h2 := or_add (x0 * 256 + x1) x2 8 (by omega) (by omega)
  have h3 := or_add ((x0 * 256 + x1) * 256 + x2) x3 8 (by omega) (by omega)
  rw [show ((0 : Int) * 256 % 4294967296) = ((0 * 2 ^ 8 : Nat) : Int) by decide, h0, show (((0 * 2 ^ 8 + x0 : Nat) : Int) * 256 % 4294967296) = ((x0 * 2 ^ 8 : Nat) : Int) by omega, h1, show (((x0 * 2 ^ 8 + x1 : Nat) : Int) * 256 % 4294967296) = (((x0 * 256 + x1) * 2 ^ 8 : Nat) : Int) by omega, h2, show ((((x0 * 256 + x1) * 2 ^ 8 + x2 : Nat) : Int) * 256 % 4294967296) = ((((x0 * 256 + x1) * 256 + x2) * 2 ^ 8 : Nat) : Int) by omega, h3]
  omega
theorem word_is (t : ByteArray) (j : Nat) : wordAt t j = wordF (bt t) j := num4 t (4 * j)
end Go.Proofs.YtmemfdpfbeijeabDoor
