/- Lemmas: shown. -/
import Derived.Test.YtbmapdkcccdmfaaGreatDoorM1
import Derived.Test.YtbmapdkcccdmfaaGreatDoorM10
import Derived.Test.YtbmapdkcccdmfaaGreatDoorM11
import Derived.Test.YtbmapdkcccdmfaaGreatDoorM12
import Derived.Test.YtbmapdkcccdmfaaGreatDoorM13
import Derived.Test.YtbmapdkcccdmfaaGreatDoorM14
import Derived.Test.YtbmapdkcccdmfaaGreatDoorM15
import Derived.Test.YtbmapdkcccdmfaaGreatDoorM17
import Derived.Test.YtbmapdkcccdmfaaGreatDoorM18
import Derived.Test.YtbmapdkcccdmfaaGreatDoorM19
import Derived.Test.YtbmapdkcccdmfaaGreatDoorM2
import Derived.Test.YtbmapdkcccdmfaaGreatDoorM20
import Derived.Test.YtbmapdkcccdmfaaGreatDoorM21
import Derived.Test.YtbmapdkcccdmfaaGreatDoorM22
import Derived.Test.YtbmapdkcccdmfaaGreatDoorM23
import Derived.Test.YtbmapdkcccdmfaaGreatDoorM24
import Derived.Test.YtbmapdkcccdmfaaGreatDoorM25
import Derived.Test.YtbmapdkcccdmfaaGreatDoorM26
import Derived.Test.YtbmapdkcccdmfaaGreatDoorM3
import Derived.Test.YtbmapdkcccdmfaaGreatDoorM32
import Derived.Test.YtbmapdkcccdmfaaGreatDoorM33
import Derived.Test.YtbmapdkcccdmfaaGreatDoorM34
import Derived.Test.YtbmapdkcccdmfaaGreatDoorM35
import Derived.Test.YtbmapdkcccdmfaaGreatDoorM36
import Derived.Test.YtbmapdkcccdmfaaGreatDoorM37
import Derived.Test.YtbmapdkcccdmfaaGreatDoorM38
import Derived.Test.YtbmapdkcccdmfaaGreatDoorM39
import Derived.Test.YtbmapdkcccdmfaaGreatDoorM4
import Derived.Test.YtbmapdkcccdmfaaGreatDoorM40
import Derived.Test.YtbmapdkcccdmfaaGreatDoorM41
import Derived.Test.YtbmapdkcccdmfaaGreatDoorM42
import Derived.Test.YtbmapdkcccdmfaaGreatDoorM43
import Derived.Test.YtbmapdkcccdmfaaGreatDoorM44
import Derived.Test.YtbmapdkcccdmfaaGreatDoorM6
import Derived.Test.YtbmapdkcccdmfaaGreatDoorM7
import Derived.Test.YtbmapdkcccdmfaaGreatDoorM8
import Derived.Test.YtbmapdkcccdmfaaGreatDoorM9
import Derived.Test.YtbmapdkcccdmfaaGreatDoorRows
namespace Go.Proofs.YtbmapdkcccdmfaaGreatDoor
open Go.RowKit Go.Shelf Go.Sort

theorem right4 : RightP four4 := by
 refine ⟨by decide, fun j e he => ?_, fun j k e f hjk he hf => ?_⟩
 ·have : e ∈ four4 := List.mem_of_getElem? he
  have h : ∀ e ∈ four4, pOk e = true := by decide +kernel
  exact h e this
 ·have hk : k < 4 := (List.getElem?_eq_some_iff.1 hf).1
  have h : ∀ j k : Fin 4, j.val < k.val → (four4[j.val]?.map (·.1)) ≠ (four4[k.val]?.map (·.1)) := by decide +kernel
  have := h ⟨j, by omega⟩ ⟨k, hk⟩ hjk
  intro h'
  apply this
  show (four4[j]?.map (·.1)) = (four4[k]?.map (·.1))
  rw [he, hf]
  simp [h']
theorem sorted4 : SortedP four4 := by
 intro i j x y hij hx hy
 have hj : j < 4 := (List.getElem?_eq_some_iff.1 hy).1
 have h : ∀ i j : Fin 4, i.val < j.val → ∀ x ∈ four4[i.val]?, ∀ y ∈ four4[j.val]?, ltStr y.1.data.toList x.1.data.toList = false := by decide +kernel
 exact h ⟨i, by omega⟩ ⟨j, hj⟩ hij x hx y hy
theorem only4 {es' : List Pr} (h : es'.Perm four4) (hs : SortedP es') : es' = four4 := sorted_one right4 h (List.Perm.refl _) hs sorted4
end Go.Proofs.YtbmapdkcccdmfaaGreatDoor
