/- The reference's lanes are the program's: byte by byte, or lane by lane. -/
import Derived.Test.YteiadmhododppaaDoorKR6
namespace Go.Proofs.YteiadmhododppaaDoor
open Go.RowKit Go.Sort

theorem xor_nat64 (x y : Nat) (hx : x < 18446744073709551616) (hy : y < 18446744073709551616) (hz : x ^^^ y < 18446744073709551616) : xr (x : Int) (y : Int) = ((x ^^^ y : Nat) : Int) := by
  have e : xr (x : Int) (y : Int) = IntKind.u64.wrap (((BitVec.ofInt 64 (x : Int)) ^^^ (BitVec.ofInt 64 (y : Int))).toNat : Int) := rfl
  rw [e, BitVec.toNat_xor, ofInt_nat64 x hx, ofInt_nat64 y hy, IntKind.wrap_u64]
  omega
theorem xor_add (a b i : Nat) (h : a < 2 ^ i) : a ^^^ (2 ^ i * b) = 2 ^ i * b + a := by
  apply Nat.eq_of_testBit_eq
  intro j
  rw [Nat.testBit_xor, Nat.testBit_two_pow_mul_add b h, Nat.testBit_two_pow_mul]
  by_cases hj : j < i
  · simp [hj, show ¬ i ≤ j by omega]
  · have : a.testBit j = false := Nat.testBit_lt_two_pow (Nat.lt_of_lt_of_le h (Nat.pow_le_pow_right (by decide) (by omega)))
    simp [hj, this, show i ≤ j by omega]
theorem or_add (a b i : Nat) (h : a < 2 ^ i) : a ||| (2 ^ i * b) = 2 ^ i * b + a := by
  rw [Nat.or_comm, Nat.two_pow_add_eq_or_of_lt h]
/-- A lane of bytes, the first one lowest. -/
def NX (q : Nat → Nat) : Nat → Nat
  | 0 => 0
  | k + 1 => 2 ^ (8 * k) * q k + NX q k
theorem NX_lt (q : Nat → Nat) (hq : ∀ j, q j < 256) (k : Nat) : NX q k < 2 ^ (8 * k) := by
  induction k with
  | zero => exact Nat.one_pos
  | succ k ih =>
    have e : 2 ^ (8 * (k + 1)) = 2 ^ (8 * k) * 256 := by rw [show 8 * (k + 1) = 8 * k + 8 by omega, Nat.pow_add]
    have h1 : 2 ^ (8 * k) * (q k + 1) ≤ 2 ^ (8 * k) * 256 := Nat.mul_le_mul_left _ (by have := hq k; omega)
    rw [Nat.mul_add] at h1
    rw [e, NX]
    omega
theorem NX_bd (q : Nat → Nat) (hq : ∀ j, q j < 256) (k : Nat) (hk : k ≤ 8) : NX q k < 18446744073709551616 :=
  Nat.lt_of_lt_of_le (NX_lt q hq k) (Nat.le_trans (Nat.pow_le_pow_right (by decide) (show 8 * k ≤ 64 by omega)) (by decide))
theorem NX_ext (q p : Nat → Nat) (k : Nat) (h : ∀ j, j < k → q j = p j) : NX q k = NX p k := by
  induction k with
  | zero => rfl
  | succ k ih => rw [NX, NX, ih (fun j hj => h j (by omega)), h k (by omega)]
theorem NX_none (q : Nat → Nat) (m : Nat) : ∀ k, m ≤ k → (∀ j, m ≤ j → j < k → q j = 0) → NX q k = NX q m := by
  intro k
  induction k with
  | zero => intro h _; rw [show m = 0 by omega]
  | succ k ih =>
    intro h hz
    by_cases e : m = k + 1
    · rw [e]
    · rw [NX, hz k (by omega) (by omega), Nat.mul_zero, Nat.zero_add, ih (by omega) (fun j a b => hz j a (by omega))]
theorem sh_lt (b k : Nat) (hb : b < 256) (hk : k < 8) : 2 ^ (8 * k) * b < 18446744073709551616 := by
  have h1 : 2 ^ (8 * k) * b < 2 ^ (8 * k) * 256 := Nat.mul_lt_mul_of_pos_left hb (Nat.pow_pos (by decide))
  have h2 : 2 ^ (8 * k) ≤ 2 ^ 56 := Nat.pow_le_pow_right (by decide) (by omega)
  have h3 : (2 : Nat) ^ 56 = 72057594037927936 := by decide
  omega
theorem sh_wrap (b k : Nat) (hb : b < 256) (hk : k < 8) : IntKind.u64.wrap ((b : Int) * 2 ^ (8 * k)) = ((2 ^ (8 * k) * b : Nat) : Int) := by
  have h := sh_lt b k hb hk
  have e : (b : Int) * 2 ^ (8 * k) = ((2 ^ (8 * k) * b : Nat) : Int) := by rw [Int.natCast_mul, Int.natCast_pow, Int.mul_comm]; rfl
  rw [e, IntKind.wrap_u64]
  omega
theorem NX_xor (q : Nat → Nat) (hq : ∀ j, q j < 256) (k : Nat) (hk : k < 8) : xr (NX q k : Int) (IntKind.u64.wrap ((q k : Int) * 2 ^ (8 * k))) = (NX q (k + 1) : Int) := by
  have h := xor_add (NX q k) (q k) (8 * k) (NX_lt q hq k)
  rw [sh_wrap _ _ (hq k) hk, xor_nat64 _ _ (NX_bd q hq k (by omega)) (sh_lt _ _ (hq k) hk) (by rw [h]; exact NX_bd q hq (k + 1) (by omega)), h]
  rfl
theorem NX_or (q : Nat → Nat) (hq : ∀ j, q j < 256) (k : Nat) (hk : k < 8) : bits .or .u64 (NX q k : Int) (IntKind.u64.wrap ((q k : Int) * 2 ^ (8 * k))) = (NX q (k + 1) : Int) := by
  have h := or_add (NX q k) (q k) (8 * k) (NX_lt q hq k)
  rw [sh_wrap _ _ (hq k) hk, or_nat64 _ _ (NX_bd q hq k (by omega)) (sh_lt _ _ (hq k) hk), h]
  rfl
theorem laneN_is (t : ByteArray) (k : Nat) (hk : k ≤ 8) : laneN t k = (NX (fun j => (bt t j).toNat) k : Int) := by
  have hq : ∀ j, (fun j => (bt t j).toNat) j < 256 := fun j => by have := bt_bd t j; show (bt t j).toNat < 256; omega
  induction k with
  | zero => rfl
  | succ k ih =>
    have hb := bt_bd t k
    have e : bt t k = (((fun j => (bt t j).toNat) k : Nat) : Int) := by show bt t k = ((bt t k).toNat : Int); omega
    rw [laneN, ih (by omega), e, NX_or _ hq k (by omega)]

theorem putAt_same (g : Nat → Int) (l : Nat) : putAt g l (g l) = g := by
  funext j
  unfold putAt
  by_cases e : j = l
  · rw [if_pos e, e]
  · rw [if_neg e]
theorem putAt_twice (g : Nat → Int) (l : Nat) (u v : Int) : putAt (putAt g l u) l v = putAt g l v := by
  funext j
  unfold putAt
  by_cases e : j = l
  · rw [if_pos e, if_pos e]
  · rw [if_neg e, if_neg e, if_neg e]
theorem putAt_at (g : Nat → Int) (l : Nat) (v : Int) : putAt g l v l = v := by unfold putAt; rw [if_pos rfl]
theorem xr_zero' (x : Int) (h : La x) : xr x 0 = x := by
  obtain ⟨n, rfl⟩ := Int.eq_ofNat_of_zero_le h.1
  have hn : n < 18446744073709551616 := by have := h.2; omega
  have := xor_nat64 n 0 hn (by decide) (by rw [Nat.xor_zero]; exact hn)
  rw [Nat.xor_zero] at this
  exact this
/-- Eight bytes of a lane. -/
theorem rblk_lane (G : Nat → Int) (hG : ∀ j, La (G j)) (Q : Nat → Nat) (hQ : ∀ j, Q j < 256) (l k : Nat) (hk : k ≤ 8) :
    rblk G (fun i => (Q i : Int)) (8 * l + k) = putAt (rblk G (fun i => (Q i : Int)) (8 * l)) l (xr (rblk G (fun i => (Q i : Int)) (8 * l) l) (NX (fun j => Q (8 * l + j)) k : Int)) := by
  induction k with
  | zero =>
    rw [show NX (fun j => Q (8 * l + j)) 0 = 0 from rfl]
    show _ = putAt _ l (xr _ 0)
    rw [xr_zero' _ (la_rblk _ _ hG _ _), putAt_same]
    rfl
  | succ k ih =>
    show putAt (rblk G _ (8 * l + k)) ((8 * l + k) / 8) (xr (rblk G _ (8 * l + k) ((8 * l + k) / 8)) (IntKind.u64.wrap ((Q (8 * l + k) : Int) * 2 ^ (8 * ((8 * l + k) % 8))))) = _
    rw [show (8 * l + k) / 8 = l by omega, show (8 * l + k) % 8 = k by omega, ih (by omega), putAt_twice, putAt_at, xr_assoc, NX_xor (fun j => Q (8 * l + j)) (fun j => hQ _) k (by omega)]
end Go.Proofs.YteiadmhododppaaDoor
