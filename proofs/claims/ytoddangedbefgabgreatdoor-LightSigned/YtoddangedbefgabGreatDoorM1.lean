/- Lemmas: What every walk of this translation leans on: a memory that keeps its old blocks; contracts that give one value. No condition. Numbers modulo a prime, and pairs of them: pure. No condition. -/
import Derived.Test.YtoddangedbefgabGreatDoorRows
import Derived.Deep.LoopGhost
import Derived.Handy
import Derived.Lib.QuietBelow
import Derived.WalkSpells
namespace Go.Proofs.YtoddangedbefgabGreatDoor
open Go.RowKit Go.Sort
theorem jaa {n : Nat} {w W w1 : World} (h : Below n w W) (hle : n ≤ W.heap.size) (hb : Below W.heap.size W w1) : Below n w w1 := h.trans (hb.mono hle)
theorem wpOf {P : Program} {c : Code} {Q : Exit → Act → World → Prop} {a : Act} {W : World} (S : World → Prop) (hS : S W) (h : ∀ W', S W' → c.wp P Q a W') : c.wp P Q a W := h W hS
theorem thenOf {K : Act → World → Prop} {Q : Exit → Act → World → Prop} {x : Exit} {a : Act} {W : World} (S : World → Prop) (hS : S W) (h : ∀ W', S W' → Exit.then K Q x a W') : Exit.then K Q x a W := h W hS
theorem jae {f : Nat} {args : Array Value} {v : Value} {w : World} (h : ∀ W, Calls Tryz.prog f args W fun e w' => e = .returned v ∧ Below W.heap.size W w') :
  ∀ d os, Calls Tryz.prog f args (grow (redrawn w d) os) fun e w'' => e = .returned v ∧ ∃ p : Regrown, w'' = grow (redrawn w p.d) p.os := fun _ _ => Calls.regrown_of (h _)
end Go.Proofs.YtoddangedbefgabGreatDoor
namespace Go.Proofs.YtoddangedbefgabGreatDoor
open Go.RowKit
abbrev PM : Nat := 2147482867
def adN (a b : Nat) : Nat := (a % PM + b % PM) % PM
def sbN (a b : Nat) : Nat := (a % PM + PM - b % PM) % PM
def muN (a b : Nat) : Nat := a % PM * (b % PM) % PM
theorem ad_lt (a b : Nat) : adN a b < PM := Nat.mod_lt _ (by decide)
theorem jde (a b : Nat) : sbN a b < PM := Nat.mod_lt _ (by decide)
theorem jbq (a b : Nat) : muN a b < PM := Nat.mod_lt _ (by decide)
theorem jes (a b : Nat) : muN a b = a * b % PM := (Nat.mul_mod a b PM).symm
theorem ad_eq (a b : Nat) : adN a b = (a + b) % PM := (Nat.add_mod a b PM).symm
theorem mu_comm (a b : Nat) : muN a b = muN b a := by rw [jes, jes, Nat.mul_comm]
theorem mu_zero (a : Nat) : muN 0 a = 0 := by unfold muN; simp
def pwN (a : Nat) (n : Nat) : Nat := if h : n = 0 then 1 else if n % 2 = 1 then muN (muN (pwN a (n / 2)) (pwN a (n / 2))) a else muN (pwN a (n / 2)) (pwN a (n / 2))
termination_by n
decreasing_by all_goals omega
theorem pw_0 (a : Nat) : pwN a 0 = 1 := by rw [pwN, dif_pos rfl]
theorem pw_odd (a n : Nat) (h : n % 2 = 1) : pwN a n = muN (muN (pwN a (n / 2)) (pwN a (n / 2))) a := by rw [pwN, dif_neg (by omega), if_pos h]
theorem pw_even (a n : Nat) (h : n % 2 = 0) : pwN a n = muN (pwN a (n / 2)) (pwN a (n / 2)) := by
 by_cases h0 : n = 0
 ·subst h0; rw [show 0 / 2 = 0 from rfl, pw_0]; rfl
 ·rw [pwN, dif_neg h0, if_neg (by omega)]
theorem pw_lt (a n : Nat) : pwN a n < PM := by
 rw [pwN]
 split
 ·decide
 ·split
  ·exact jbq _ _
  ·exact jbq _ _
theorem pw_pow (a : Nat) (n : Nat) : pwN a n = a ^ n % PM := by
 induction n using Nat.strongRecOn with
 | ind n ih =>
  by_cases h0 : n = 0
  ·subst h0; rw [pw_0]; rfl
  ·have e := ih (n / 2) (by omega)
   by_cases h1 : n % 2 = 1
   ·rw [pw_odd a n h1, e, jes, jes, ← Nat.mul_mod, ← Nat.pow_add]
    conv => rhs; rw [show n = n / 2 + n / 2 + 1 by omega, Nat.pow_succ]
    rw [Nat.mul_mod, Nat.mod_mod, ← Nat.mul_mod]
   ·rw [pw_even a n (by omega), e, jes, ← Nat.mul_mod, ← Nat.pow_add]
    conv => rhs; rw [show n = n / 2 + n / 2 by omega]
def rtN (a : Nat) : Nat := pwN a 536870717
def roN (a : Nat) : Nat := if muN (rtN a) (rtN a) = a % PM then (if rtN a % 2 = 1 then PM - rtN a else rtN a) else 0
def roB (a : Nat) : Bool := decide (muN (rtN a) (rtN a) = a % PM)
def ivN (a : Nat) : Nat := pwN a 2147482865
theorem rt_lt (a : Nat) : rtN a < PM := pw_lt _ _
theorem iv_lt (a : Nat) : ivN a < PM := pw_lt _ _
theorem ro_lt (a : Nat) : roN a < PM := by
 have := rt_lt a
 unfold roN
 split
 ·split
  ·unfold PM at *; omega
  ·exact this
 ·decide
theorem sb_neg (x : Nat) (h : x < PM) (h1 : x % 2 = 1) : sbN 0 x = PM - x := by unfold sbN PM at *; omega
theorem sq_neg (x : Nat) (h : x < PM) : muN (PM - x) (PM - x) = muN x x := by
 rw [jes, jes]
 obtain ⟨y, hy⟩ : ∃ y, PM - x = y := ⟨_, rfl⟩
 rw [hy]
 have hx : PM = x + y := by omega
 have e1 : y * y + PM * x = x * x + PM * y := by rw [hx]; rw [Nat.add_mul, Nat.add_mul, Nat.mul_comm y x]; omega
 have e2 : (y * y + PM * x) % PM = y * y % PM := Nat.add_mul_mod_self_left _ _ _
 have e3 : (x * x + PM * y) % PM = x * x % PM := Nat.add_mul_mod_self_left _ _ _
 rw [← e2, e1, e3]
theorem jeo (a : Nat) (h : roB a = true) : muN (roN a) (roN a) = adN a 0 ∧ roN a % 2 = 0 := by
 have e : muN (rtN a) (rtN a) = a % PM := of_decide_eq_true h
 have := rt_lt a
 unfold roN
 rw [if_pos e, ad_eq, Nat.add_zero]
 split
 ·rw [sq_neg _ this]
  exact ⟨e, by unfold PM at *; omega⟩
 ·exact ⟨e, by omega⟩
theorem ro_none (a : Nat) (h : roB a = false) : roN a = 0 := by
 have e : ¬ muN (rtN a) (rtN a) = a % PM := of_decide_eq_false h
 unfold roN
 rw [if_neg e]
structure P2 where
 A : Nat
 B : Nat
def m2 (a b : P2) : P2 := ⟨sbN (muN a.A b.A) (muN a.B b.B), adN (muN a.A b.B) (muN a.B b.A)⟩
def o2 : P2 := ⟨1, 0⟩
def r2 (a : P2) : P2 := ⟨a.A % PM, a.B % PM⟩
def z2 : P2 := ⟨0, 0⟩
theorem m2_zero (a : P2) : m2 z2 a = z2 := by
 unfold m2 z2
 simp only [mu_zero]
 rfl
theorem m2_lt (a b : P2) : (m2 a b).A < PM ∧ (m2 a b).B < PM := ⟨jde _ _, ad_lt _ _⟩
def q2 (a : P2) (n : Nat) : P2 := if h : n = 0 then o2 else if n % 2 = 1 then m2 (m2 (q2 a (n / 2)) (q2 a (n / 2))) a else m2 (q2 a (n / 2)) (q2 a (n / 2))
termination_by n
decreasing_by all_goals omega
theorem q2_0 (a : P2) : q2 a 0 = o2 := by rw [q2, dif_pos rfl]
theorem q2_odd (a : P2) (n : Nat) (h : n % 2 = 1) : q2 a n = m2 (m2 (q2 a (n / 2)) (q2 a (n / 2))) a := by rw [q2, dif_neg (by omega), if_pos h]
theorem q2_even (a : P2) (n : Nat) (h : n % 2 = 0) : q2 a n = m2 (q2 a (n / 2)) (q2 a (n / 2)) := by
 by_cases h0 : n = 0
 ·subst h0; rw [show 0 / 2 = 0 from rfl, q2_0]; rfl
 ·rw [q2, dif_neg h0, if_neg (by omega)]
theorem q2_lt (a : P2) (n : Nat) : (q2 a n).A < PM ∧ (q2 a n).B < PM := by
 rw [q2]
 split
 ·exact ⟨by decide, by decide⟩
 ·split
  ·exact m2_lt _ _
  ·exact m2_lt _ _
def nrN (a : P2) : Nat := adN (muN a.A a.A) (muN a.B a.B)
def i2 (a : P2) : P2 := ⟨muN a.A (ivN (nrN a)), muN (sbN 0 a.B) (ivN (nrN a))⟩
end Go.Proofs.YtoddangedbefgabGreatDoor
