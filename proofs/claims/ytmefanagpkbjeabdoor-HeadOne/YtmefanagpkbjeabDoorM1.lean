/- Lemmas: What every walk of this translation leans on: a memory that keeps its old blocks; contracts that give one value. No condition. -/
import Derived.Test.YtmefanagpkbjeabDoorRows
import Derived.BigRegion
import Derived.Deep.LoopGhost
import Derived.Handy
import Derived.Laws.BitsAllLaws
import Derived.Laws.Externs
import Derived.Lib.QuietBelow
import Derived.WalkSpells
namespace Go.Proofs.YtmefanagpkbjeabDoor
open Go.RowKit Go.Sort

theorem belowStep {n : Nat} {w W w1 : World} (h : Below n w W) (hle : n ≤ W.heap.size) (hb : Below W.heap.size W w1) : Below n w w1 := h.trans (hb.mono hle)
/-- What a memory keeps is enough to go on. -/
theorem wpOf {P : Program} {c : Code} {Q : Exit → Act → World → Prop} {a : Act} {W : World} (S : World → Prop) (hS : S W) (h : ∀ W', S W' → c.wp P Q a W') : c.wp P Q a W := h W hS
theorem thenOf {K : Act → World → Prop} {Q : Exit → Act → World → Prop} {x : Exit} {a : Act} {W : World} (S : World → Prop) (hS : S W) (h : ∀ W', S W' → Exit.then K Q x a W') : Exit.then K Q x a W := h W hS
/-- A contract in every memory of the class that a drawn statement goes through. -/
theorem inClass {f : Nat} {args : Array Value} {v : Value} {w : World} (h : ∀ W, Calls Tryd.prog f args W fun e w' => e = .returned v ∧ Below W.heap.size W w') :
    ∀ d os, Calls Tryd.prog f args (grow (redrawn w d) os) fun e w'' => e = .returned v ∧ ∃ p : Regrown, w'' = grow (redrawn w p.d) p.os := fun _ _ => Calls.regrown_of (h _)
end Go.Proofs.YtmefanagpkbjeabDoor
