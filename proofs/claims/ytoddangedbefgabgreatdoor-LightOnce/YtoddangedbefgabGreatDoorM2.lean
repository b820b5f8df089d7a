/- Lemmas: Points of a curve, pure: which there are, negatives, sums, multiples. No condition. The prime is one; powers modulo a prime (Fermat); of a square there is one even root. Pure. No condition. The sum of two points is one: pure, by whole numbers modulo the prime. No condition. -/
import Derived.Test.YtoddangedbefgabGreatDoorM1
import Derived.Test.YtoddangedbefgabGreatDoorRows
import Derived.Deep.MidRow
import Derived.Laws.IdiomStrings
namespace Go.Proofs.YtoddangedbefgabGreatDoor
open Go.RowKit

structure Pt where
 X : Nat
 Y : Nat
 I : Bool
deriving DecidableEq
def iN : Pt := ⟨0, 0, true⟩
def oP : Pt := ⟨0, 0, false⟩

/- The reference's, on points told so. -/
end Go.Proofs.YtoddangedbefgabGreatDoor
namespace Go.Proofs.YtoddangedbefgabGreatDoor
open Go.RowKit

def IsP (p : Nat) : Prop := 2 ≤ p ∧ ∀ d, d ∣ p → d = 1 ∨ d = p
theorem IsP.cop {p : Nat} (hp : IsP p) {a : Nat} (h : ¬ p ∣ a) : Nat.Coprime p a := by
 rcases hp.2 (Nat.gcd p a) (Nat.gcd_dvd_left p a) with h1 | h1
 ·exact h1
 ·exact absurd (h1 ▸ Nat.gcd_dvd_right p a) h
theorem IsP.split {p : Nat} (hp : IsP p) {a b : Nat} (h : p ∣ a * b) : p ∣ a ∨ p ∣ b := by
 by_cases ha : p ∣ a
 ·exact .inl ha
 ·exact .inr ((hp.cop ha).dvd_of_dvd_mul_left h)
end Go.Proofs.YtoddangedbefgabGreatDoor
namespace Go.Proofs.YtoddangedbefgabGreatDoor
open Go.RowKit

abbrev PI : Int := 2147482867
def Dv (x : Int) : Prop := ∃ k, x = PI * k
theorem Dv.zero : Dv 0 := ⟨0, by simp⟩
theorem Dv.add {x y : Int} (hx : Dv x) (hy : Dv y) : Dv (x + y) := by
 obtain ⟨a, rfl⟩ := hx
 obtain ⟨b, rfl⟩ := hy
 exact ⟨a + b, by rw [Int.mul_add]⟩
end Go.Proofs.YtoddangedbefgabGreatDoor
