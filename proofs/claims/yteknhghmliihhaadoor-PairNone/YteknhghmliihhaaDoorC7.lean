/- Multiples of the generator, in the kernel. No condition. -/
import Derived.Test.YteknhghmliihhaaDoorC0
namespace Go.Proofs.YteknhghmliihhaaDoor
open Go.RowKit

/-- A number is reckoned first. -/
def strictN {A : Type} (n : Nat) (f : Nat → A) : A := match n with | 0 => f 0 | m + 1 => f (m + 1)
theorem strict_eq {A : Type} (n : Nat) (f : Nat → A) : strictN n f = f n := by cases n <;> rfl
def pwI (a n : Nat) : Nat → Nat → Nat
  | 0, acc => acc
  | k + 1, acc => strictN (if n / 2 ^ k % 2 = 1 then muN (muN acc acc) a else muN acc acc) (pwI a n k)
theorem pwI_eq (a n : Nat) : ∀ k, pwI a n k (pwN a (n / 2 ^ k)) = pwN a n
  | 0 => by rw [pwI, Nat.pow_zero, Nat.div_one]
  | k + 1 => by rw [pwI, strict_eq, ← pw_step, pwI_eq a n k]
def ivI (a : Nat) : Nat := pwI a 2147482865 31 1
theorem ivI_eq (a : Nat) : ivI a = ivN a := by
  have := pwI_eq a 2147482865 31
  rw [show 2147482865 / 2 ^ 31 = 0 by decide, pw_0] at this
  exact this
def slI (p q : Pt) : Nat := if p = q then muN (adN (muN 3 (muN p.X p.X)) 1) (ivI (adN p.Y p.Y)) else muN (sbN q.Y p.Y) (ivI (sbN q.X p.X))
theorem slI_eq (p q : Pt) : slI p q = slN p q := by unfold slI slN ovN; rw [ivI_eq, ivI_eq]
def smI (p q : Pt) : Pt := if p = iN then q else if q = iN then p else if q = ngN p then iN else
  strictN (slI p q) fun l => strictN (lnX l p q) fun x => strictN (lnY l x p) fun y => ⟨x, y, false⟩
theorem smI_eq (p q : Pt) : smI p q = smN p q := by
  unfold smI smN lnN
  rw [strict_eq, strict_eq, strict_eq, slI_eq]
def tmI (p : Pt) (n : Nat) : Nat → Pt → Pt
  | 0, acc => acc
  | k + 1, acc => tmI p n k (if n / 2 ^ k % 2 = 1 then smI (smI acc acc) p else smI acc acc)
theorem tmI_eq (p : Pt) (n : Nat) : ∀ k, tmI p n k (tmN p (n / 2 ^ k)) = tmN p n
  | 0 => by rw [tmI, Nat.pow_zero, Nat.div_one]
  | k + 1 => by rw [tmI, smI_eq, smI_eq, ← tm_step, tmI_eq p n k]
def gN : Pt := ⟨1846166884, 1411018613, false⟩
def dN : Pt := ⟨1350530835, 2077719295, false⟩
theorem dbl_gen : smN gN gN = dN := by rw [← smI_eq]; decide +kernel
theorem on_gen : onN gN = true := by decide +kernel
theorem on_dbl : onN dN = true := by decide +kernel
theorem on_11 : onN ⟨1, 1, false⟩ = false := by decide +kernel
set_option maxRecDepth 100000 in
theorem gen_tm : tmN gN 536870717 = iN := by
  have := tmI_eq gN 536870717 30
  rw [show 536870717 / 2 ^ 30 = 0 by decide, tm_0] at this
  rw [← this]
  decide +kernel
theorem gr_gen : grN gN = true := by
  have : grN gN = (onN gN && decide (tmN gN 536870717 = iN)) := rfl
  rw [this, on_gen, gen_tm, decide_eq_true rfl]
  rfl
end Go.Proofs.YteknhghmliihhaaDoor
