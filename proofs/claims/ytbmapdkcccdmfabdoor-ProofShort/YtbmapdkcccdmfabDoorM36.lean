/- Lemmas: The entries of pairs: entriesOf. -/
import Derived.Test.YtbmapdkcccdmfabDoorM1
import Derived.Test.YtbmapdkcccdmfabDoorM10
import Derived.Test.YtbmapdkcccdmfabDoorM11
import Derived.Test.YtbmapdkcccdmfabDoorM12
import Derived.Test.YtbmapdkcccdmfabDoorM13
import Derived.Test.YtbmapdkcccdmfabDoorM14
import Derived.Test.YtbmapdkcccdmfabDoorM15
import Derived.Test.YtbmapdkcccdmfabDoorM18
import Derived.Test.YtbmapdkcccdmfabDoorM19
import Derived.Test.YtbmapdkcccdmfabDoorM2
import Derived.Test.YtbmapdkcccdmfabDoorM20
import Derived.Test.YtbmapdkcccdmfabDoorM21
import Derived.Test.YtbmapdkcccdmfabDoorM22
import Derived.Test.YtbmapdkcccdmfabDoorM23
import Derived.Test.YtbmapdkcccdmfabDoorM24
import Derived.Test.YtbmapdkcccdmfabDoorM25
import Derived.Test.YtbmapdkcccdmfabDoorM26
import Derived.Test.YtbmapdkcccdmfabDoorM3
import Derived.Test.YtbmapdkcccdmfabDoorM33
import Derived.Test.YtbmapdkcccdmfabDoorM34
import Derived.Test.YtbmapdkcccdmfabDoorM35
import Derived.Test.YtbmapdkcccdmfabDoorM6
import Derived.Test.YtbmapdkcccdmfabDoorM7
import Derived.Test.YtbmapdkcccdmfabDoorM8
import Derived.Test.YtbmapdkcccdmfabDoorM9
import Derived.Test.YtbmapdkcccdmfabDoorRows
namespace Go.Proofs.YtbmapdkcccdmfabDoor
open Go.RowKit Go.Shelf Go.Sort

/-- Pairs as entries: their keys as paths. -/
def ents (es : List Pr) : List Pr := es.map fun e => (ofOf e.1, e.2)
theorem ents_at {es : List Pr} {j : Nat} {e : Pr} (h : es[j]? = some e) : (ents es)[j]? = some (ofOf e.1, e.2) := by
  unfold ents
  rw [List.getElem?_map, h]
  rfl
theorem ents_len (es : List Pr) : (ents es).length = es.length := by unfold ents; rw [List.length_map]
/-- The entries that a row holds, from its front. -/
def HeldE (cl : List Value) (es : List Pr) : Prop := ∀ (j : Nat) (e : Pr), es[j]? = some e → cl[2 * j]? = some (.string e.1) ∧ cl[2 * j + 1]? = some (.string e.2)
theorem HeldE.snoc {cl : List Value} {es : List Pr} (h : HeldE cl es) (e : Pr) (hl : 2 * es.length + 1 < cl.length) : HeldE ((cl.set (2 * es.length) (.string e.1)).set (2 * es.length + 1) (.string e.2)) (es ++ [e]) := by
  intro j x hx
  by_cases hj : j < es.length
  · rw [List.getElem?_append_left hj] at hx
    obtain ⟨h1, h2⟩ := h j x hx
    rw [List.getElem?_set_ne (by omega), List.getElem?_set_ne (by omega), List.getElem?_set_ne (by omega), List.getElem?_set_ne (by omega)]
    exact ⟨h1, h2⟩
  · have hjl := (List.getElem?_eq_some_iff.1 hx).1
    rw [List.length_append] at hjl
    have hj2 : j = es.length := by simp at hjl; omega
    subst hj2
    simp at hx
    subst hx
    refine ⟨?_, ?_⟩
    · rw [List.getElem?_set_ne (by omega), List.getElem?_set_self (by omega)]
    · rw [List.getElem?_set_self (by rw [List.length_set]; omega)]

end Go.Proofs.YtbmapdkcccdmfabDoor
