/- Lemmas: What every walk of this translation leans on: a memory that keeps its old blocks; contracts that give one value. No condition. Numbers modulo a prime, and pairs of them: pure. No condition. -/
import Derived.Test.YtoddangedbefgabGreatDoorRows
import Derived.BigRegion
import Derived.Deep.LoopGhost
import Derived.Handy
import Derived.Laws.BitsAllLaws
import Derived.Laws.Externs
import Derived.Lib.QuietBelow
import Derived.WalkSpells
namespace Go.Proofs.YtoddangedbefgabGreatDoor
open Go.RowKit Go.Sort

theorem belowStep {n : Nat} {w W w1 : World} (h : Below n w W) (hle : n ≤ W.heap.size) (hb : Below W.heap.size W w1) : Below n w w1 := h.trans (hb.mono hle)
theorem wpOf {P : Program} {c : Code} {Q : Exit → Act → World → Prop} {a : Act} {W : World} (S : World → Prop) (hS : S W) (h : ∀ W', S W' → c.wp P Q a W') : c.wp P Q a W := h W hS
theorem thenOf {K : Act → World → Prop} {Q : Exit → Act → World → Prop} {x : Exit} {a : Act} {W : World} (S : World → Prop) (hS : S W) (h : ∀ W', S W' → Exit.then K Q x a W') : Exit.then K Q x a W := h W hS
theorem inClass {f : Nat} {args : Array Value} {v : Value} {w : World} (h : ∀ W, Calls Tryz.prog f args W fun e w' => e = .returned v ∧ Below W.heap.size W w') :
  ∀ d os, Calls Tryz.prog f args (grow (redrawn w d) os) fun e w'' => e = .returned v ∧ ∃ p : Regrown, w'' = grow (redrawn w p.d) p.os := fun _ _ => Calls.regrown_of (h _)
end Go.Proofs.YtoddangedbefgabGreatDoor
namespace Go.Proofs.YtoddangedbefgabGreatDoor
open Go.RowKit

abbrev PM : Nat := 2147482867
def adN (a b : Nat) : Nat := (a % PM + b % PM) % PM
def sbN (a b : Nat) : Nat := (a % PM + PM - b % PM) % PM
def muN (a b : Nat) : Nat := a % PM * (b % PM) % PM
def pwN (a : Nat) (n : Nat) : Nat := if h : n = 0 then 1 else if n % 2 = 1 then muN (muN (pwN a (n / 2)) (pwN a (n / 2))) a else muN (pwN a (n / 2)) (pwN a (n / 2))
termination_by n
decreasing_by all_goals omega
def ivN (a : Nat) : Nat := pwN a 2147482865

structure P2 where
 A : Nat
 B : Nat
def m2 (a b : P2) : P2 := ⟨sbN (muN a.A b.A) (muN a.B b.B), adN (muN a.A b.B) (muN a.B b.A)⟩
def o2 : P2 := ⟨1, 0⟩
def r2 (a : P2) : P2 := ⟨a.A % PM, a.B % PM⟩
def z2 : P2 := ⟨0, 0⟩
def nrN (a : P2) : Nat := adN (muN a.A a.A) (muN a.B a.B)
def i2 (a : P2) : P2 := ⟨muN a.A (ivN (nrN a)), muN (sbN 0 a.B) (ivN (nrN a))⟩
end Go.Proofs.YtoddangedbefgabGreatDoor
