/- Lemmas: The entries of pairs: entriesOf. -/
import Derived.Test.YtbmapdkcccdmfaaDoorM1
import Derived.Test.YtbmapdkcccdmfaaDoorM10
import Derived.Test.YtbmapdkcccdmfaaDoorM11
import Derived.Test.YtbmapdkcccdmfaaDoorM12
import Derived.Test.YtbmapdkcccdmfaaDoorM13
import Derived.Test.YtbmapdkcccdmfaaDoorM14
import Derived.Test.YtbmapdkcccdmfaaDoorM15
import Derived.Test.YtbmapdkcccdmfaaDoorM18
import Derived.Test.YtbmapdkcccdmfaaDoorM19
import Derived.Test.YtbmapdkcccdmfaaDoorM2
import Derived.Test.YtbmapdkcccdmfaaDoorM20
import Derived.Test.YtbmapdkcccdmfaaDoorM21
import Derived.Test.YtbmapdkcccdmfaaDoorM22
import Derived.Test.YtbmapdkcccdmfaaDoorM23
import Derived.Test.YtbmapdkcccdmfaaDoorM24
import Derived.Test.YtbmapdkcccdmfaaDoorM25
import Derived.Test.YtbmapdkcccdmfaaDoorM26
import Derived.Test.YtbmapdkcccdmfaaDoorM3
import Derived.Test.YtbmapdkcccdmfaaDoorM32
import Derived.Test.YtbmapdkcccdmfaaDoorM33
import Derived.Test.YtbmapdkcccdmfaaDoorM34
import Derived.Test.YtbmapdkcccdmfaaDoorM6
import Derived.Test.YtbmapdkcccdmfaaDoorM7
import Derived.Test.YtbmapdkcccdmfaaDoorM8
import Derived.Test.YtbmapdkcccdmfaaDoorM9
import Derived.Test.YtbmapdkcccdmfaaDoorRows
namespace Go.Proofs.YtbmapdkcccdmfaaDoor
open Go.RowKit Go.Shelf Go.Sort

def ents (es : List Pr) : List Pr := es.map fun e => (ofOf e.1, e.2)
theorem ents_len (es : List Pr) : (ents es).length = es.length := by unfold ents; rw [List.length_map]
def HeldE (cl : List Value) (es : List Pr) : Prop := ∀ (j : Nat) (e : Pr), es[j]? = some e → cl[2 * j]? = some (.string e.1) ∧ cl[2 * j + 1]? = some (.string e.2)
theorem HeldE.snoc {cl : List Value} {es : List Pr} (h : HeldE cl es) (e : Pr) (hl : 2 * es.length + 1 < cl.length) : HeldE ((cl.set (2 * es.length) (.string e.1)).set (2 * es.length + 1) (.string e.2)) (es ++ [e]) := by
 intro j x hx
 by_cases hj : j < es.length
 ·rw [List.getElem?_append_left hj] at hx
  obtain ⟨h1, h2⟩ := h j x hx
  rw [List.getElem?_set_ne (by omega), List.getElem?_set_ne (by omega), List.getElem?_set_ne (by omega), List.getElem?_set_ne (by omega)]
  exact ⟨h1, h2⟩
 ·have hjl := (List.getElem?_eq_some_iff.1 hx).1
  rw [List.length_append] at hjl
  have hj2 : j = es.length := by simp at hjl; omega
  subst hj2
  simp at hx
  subst hx
  refine ⟨?_, ?_⟩
  ·rw [List.getElem?_set_ne (by omega), List.getElem?_set_self (by omega)]
  ·rw [List.getElem?_set_self (by rw [List.length_set]; omega)]

end Go.Proofs.YtbmapdkcccdmfaaDoor
