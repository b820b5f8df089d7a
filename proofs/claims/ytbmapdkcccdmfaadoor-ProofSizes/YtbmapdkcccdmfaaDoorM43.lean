/- Lemmas: shown. -/
import Derived.Test.YtbmapdkcccdmfaaDoorM1
import Derived.Test.YtbmapdkcccdmfaaDoorM10
import Derived.Test.YtbmapdkcccdmfaaDoorM11
import Derived.Test.YtbmapdkcccdmfaaDoorM12
import Derived.Test.YtbmapdkcccdmfaaDoorM13
import Derived.Test.YtbmapdkcccdmfaaDoorM14
import Derived.Test.YtbmapdkcccdmfaaDoorM15
import Derived.Test.YtbmapdkcccdmfaaDoorM16
import Derived.Test.YtbmapdkcccdmfaaDoorM17
import Derived.Test.YtbmapdkcccdmfaaDoorM18
import Derived.Test.YtbmapdkcccdmfaaDoorM19
import Derived.Test.YtbmapdkcccdmfaaDoorM2
import Derived.Test.YtbmapdkcccdmfaaDoorM20
import Derived.Test.YtbmapdkcccdmfaaDoorM21
import Derived.Test.YtbmapdkcccdmfaaDoorM22
import Derived.Test.YtbmapdkcccdmfaaDoorM23
import Derived.Test.YtbmapdkcccdmfaaDoorM24
import Derived.Test.YtbmapdkcccdmfaaDoorM25
import Derived.Test.YtbmapdkcccdmfaaDoorM26
import Derived.Test.YtbmapdkcccdmfaaDoorM3
import Derived.Test.YtbmapdkcccdmfaaDoorM32
import Derived.Test.YtbmapdkcccdmfaaDoorM33
import Derived.Test.YtbmapdkcccdmfaaDoorM34
import Derived.Test.YtbmapdkcccdmfaaDoorM35
import Derived.Test.YtbmapdkcccdmfaaDoorM36
import Derived.Test.YtbmapdkcccdmfaaDoorM37
import Derived.Test.YtbmapdkcccdmfaaDoorM38
import Derived.Test.YtbmapdkcccdmfaaDoorM39
import Derived.Test.YtbmapdkcccdmfaaDoorM4
import Derived.Test.YtbmapdkcccdmfaaDoorM40
import Derived.Test.YtbmapdkcccdmfaaDoorM41
import Derived.Test.YtbmapdkcccdmfaaDoorM42
import Derived.Test.YtbmapdkcccdmfaaDoorM6
import Derived.Test.YtbmapdkcccdmfaaDoorM7
import Derived.Test.YtbmapdkcccdmfaaDoorM8
import Derived.Test.YtbmapdkcccdmfaaDoorM9
import Derived.Test.YtbmapdkcccdmfaaDoorRows
namespace Go.Proofs.YtbmapdkcccdmfaaDoor
open Go.RowKit Go.Shelf Go.Sort

theorem right4 : RightP four4 := by
 refine ⟨by decide, fun j e he => ?_, fun j k e f hjk he hf => ?_⟩
 ·have : e ∈ four4 := List.mem_of_getElem? he
  have h : ∀ e ∈ four4, pOk e = true := by decide +kernel
  exact h e this
 ·have hk : k < 4 := (List.getElem?_eq_some_iff.1 hf).1
  have h : ∀ j k : Fin 4, j.val < k.val → (four4[j.val]?.map (·.1)) ≠ (four4[k.val]?.map (·.1)) := by decide +kernel
  have := h ⟨j, by omega⟩ ⟨k, hk⟩ hjk
  intro h'
  apply this
  show (four4[j]?.map (·.1)) = (four4[k]?.map (·.1))
  rw [he, hf]
  simp [h']
theorem sorted4 : SortedP four4 := by
 intro i j x y hij hx hy
 have hj : j < 4 := (List.getElem?_eq_some_iff.1 hy).1
 have h : ∀ i j : Fin 4, i.val < j.val → ∀ x ∈ four4[i.val]?, ∀ y ∈ four4[j.val]?, ltStr y.1.data.toList x.1.data.toList = false := by decide +kernel
 exact h ⟨i, by omega⟩ ⟨j, hj⟩ hij x hx y hy
theorem only4 {es' : List Pr} (h : es'.Perm four4) (hs : SortedP es') : es' = four4 := sorted_one right4 h (List.Perm.refl _) hs sorted4
end Go.Proofs.YtbmapdkcccdmfaaDoor
