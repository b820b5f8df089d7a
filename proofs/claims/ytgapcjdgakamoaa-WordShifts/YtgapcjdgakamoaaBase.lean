/- The plain numbers behind words of four parts, and the model's laws for bits.Add64 and bits.Sub64 at this translation. No condition. -/
import Derived.Test.YtgapcjdgakamoaaRows
import Derived.Handy
import Derived.WalkSpells
import Derived.Laws.Externs
namespace Go.Proofs.Ytgapcjdgakamoaa
open Go.RowKit

/-- A part of a word. -/
def Pt (x : Int) : Prop := 0 ≤ x ∧ x < 18446744073709551616
/-- Four parts of a word. -/
def Ws (a b c d : Int) : Prop := Pt a ∧ Pt b ∧ Pt c ∧ Pt d
/-- The number of four parts. -/
def val (a b c d : Int) : Int := a + 18446744073709551616 * b + 340282366920938463463374607431768211456 * c + 6277101735386680763835789423207666416102355444464034512896 * d

theorem add64 (x y c : Int) (hx : 0 ≤ x) (hy : 0 ≤ y) (hc0 : 0 ≤ c) (hc : c ≤ 1) (w : World) : (callFunc 73 #[.int .u64 x, .int .u64 y, .int .u64 c]).run Try.prog w =
    .ok (.value (.tuple #[.int .u64 ((x + y + c) % 18446744073709551616), .int .u64 ((x + y + c) / 18446744073709551616)])) w := by
  rw [run_callFunc_extern Try.func73 (by kernel_rfl) (by kernel_rfl) (by kernel_rfl) (e := add64Entry) (by kernel_rfl), run_add64 x y c hx hy hc0 hc]
  rfl

/-- The model's own entry for math/bits.Sub64: the last of its two. -/
def sub64Entry : Array Value → Sem Value := (Extern.MathBitsCarry.rows.getLast (by simp [Extern.MathBitsCarry.rows])).2

theorem run_sub64 (x y b : Nat) (hb : b ≤ 1) (w : World) :
    (sub64Entry #[.int .u64 x, .int .u64 y, .int .u64 b]).run Try.prog w =
      .ok (.tuple #[.int .u64 (((x + 18446744073709551616 - y - b) % 18446744073709551616 : Nat) : Int), .int .u64 ((if x < y + b then 1 else 0 : Nat) : Int)]) w := by
  have : b = 0 ∨ b = 1 := by omega
  rcases this with rfl | rfl <;> rfl

/-- The borrow, under a name. -/
def bor (x y : Int) : Int := if x < y then 1 else 0

theorem sub64 (x y b : Int) (hx : 0 ≤ x) (hy : 0 ≤ y) (hy' : y < 18446744073709551616) (hb0 : 0 ≤ b) (hb : b ≤ 1) (w : World) : (callFunc 74 #[.int .u64 x, .int .u64 y, .int .u64 b]).run Try.prog w =
    .ok (.value (.tuple #[.int .u64 ((x - y - b) % 18446744073709551616), .int .u64 (bor x (y + b))])) w := by
  obtain ⟨x, rfl⟩ := Int.eq_ofNat_of_zero_le hx
  obtain ⟨y, rfl⟩ := Int.eq_ofNat_of_zero_le hy
  obtain ⟨b, rfl⟩ := Int.eq_ofNat_of_zero_le hb0
  have e1 : (((x + 18446744073709551616 - y - b) % 18446744073709551616 : Nat) : Int) = ((x : Int) - y - b) % 18446744073709551616 := by omega
  have e2 : ((if x < y + b then 1 else 0 : Nat) : Int) = bor (x : Int) (y + b) := by unfold bor; split <;> split <;> omega
  rw [← e1, ← e2, run_callFunc_extern Try.func74 (by kernel_rfl) (by kernel_rfl) (by kernel_rfl) (e := sub64Entry) (by kernel_rfl), run_sub64 x y b (by omega)]
  rfl

theorem add64_0 (x y : Int) (hx : 0 ≤ x) (hy : 0 ≤ y) (w : World) : (callFunc 73 #[.int .u64 x, .int .u64 y, .int .u64 0]).run Try.prog w =
    .ok (.value (.tuple #[.int .u64 ((x + y) % 18446744073709551616), .int .u64 ((x + y) / 18446744073709551616)])) w := by
  simpa using add64 x y 0 hx hy (Int.le_refl 0) (by decide) w
theorem sub64_0 (x y : Int) (hx : 0 ≤ x) (hy : 0 ≤ y) (hy' : y < 18446744073709551616) (w : World) : (callFunc 74 #[.int .u64 x, .int .u64 y, .int .u64 0]).run Try.prog w =
    .ok (.value (.tuple #[.int .u64 ((x - y) % 18446744073709551616), .int .u64 (bor x y)])) w := by
  simpa using sub64 x y 0 hx hy hy' (Int.le_refl 0) (by decide) w

theorem add64v (x y c : Int) (hx : Pt x) (hy : Pt y) (hc0 : 0 ≤ c) (hc1 : c ≤ 1) : ∃ s d : Int,
    (∀ w : World, (callFunc 73 #[.int .u64 x, .int .u64 y, .int .u64 c]).run Try.prog w = .ok (.value (.tuple #[.int .u64 s, .int .u64 d])) w) ∧ Hid (Pt s ∧ 0 ≤ d ∧ d ≤ 1 ∧ s + 18446744073709551616 * d = x + y + c) := by
  obtain ⟨hx0, hx1⟩ := hx
  obtain ⟨hy0, hy1⟩ := hy
  exact ⟨_, _, add64 x y c hx0 hy0 hc0 hc1, ⟨⟨by omega, by omega⟩, by omega, by omega, by omega⟩⟩

theorem sub64v (x y c : Int) (hx : Pt x) (hy : Pt y) (hc0 : 0 ≤ c) (hc1 : c ≤ 1) : ∃ s d : Int,
    (∀ w : World, (callFunc 74 #[.int .u64 x, .int .u64 y, .int .u64 c]).run Try.prog w = .ok (.value (.tuple #[.int .u64 s, .int .u64 d])) w) ∧ Hid (Pt s ∧ 0 ≤ d ∧ d ≤ 1 ∧ s - 18446744073709551616 * d = x - y - c) := by
  obtain ⟨hx0, hx1⟩ := hx
  obtain ⟨hy0, hy1⟩ := hy
  refine ⟨_, _, sub64 x y c hx0 hy0 hy1 hc0 hc1, ⟨⟨by omega, by omega⟩, ?_, ?_, ?_⟩⟩ <;> (unfold bor; split <;> omega)
end Go.Proofs.Ytgapcjdgakamoaa
