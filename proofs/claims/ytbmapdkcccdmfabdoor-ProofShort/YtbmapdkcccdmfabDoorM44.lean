/- Lemmas: shown. -/
import Derived.Test.YtbmapdkcccdmfabDoorM1
import Derived.Test.YtbmapdkcccdmfabDoorM10
import Derived.Test.YtbmapdkcccdmfabDoorM11
import Derived.Test.YtbmapdkcccdmfabDoorM12
import Derived.Test.YtbmapdkcccdmfabDoorM13
import Derived.Test.YtbmapdkcccdmfabDoorM14
import Derived.Test.YtbmapdkcccdmfabDoorM15
import Derived.Test.YtbmapdkcccdmfabDoorM16
import Derived.Test.YtbmapdkcccdmfabDoorM17
import Derived.Test.YtbmapdkcccdmfabDoorM18
import Derived.Test.YtbmapdkcccdmfabDoorM19
import Derived.Test.YtbmapdkcccdmfabDoorM2
import Derived.Test.YtbmapdkcccdmfabDoorM20
import Derived.Test.YtbmapdkcccdmfabDoorM21
import Derived.Test.YtbmapdkcccdmfabDoorM22
import Derived.Test.YtbmapdkcccdmfabDoorM23
import Derived.Test.YtbmapdkcccdmfabDoorM24
import Derived.Test.YtbmapdkcccdmfabDoorM25
import Derived.Test.YtbmapdkcccdmfabDoorM26
import Derived.Test.YtbmapdkcccdmfabDoorM3
import Derived.Test.YtbmapdkcccdmfabDoorM33
import Derived.Test.YtbmapdkcccdmfabDoorM34
import Derived.Test.YtbmapdkcccdmfabDoorM35
import Derived.Test.YtbmapdkcccdmfabDoorM36
import Derived.Test.YtbmapdkcccdmfabDoorM37
import Derived.Test.YtbmapdkcccdmfabDoorM38
import Derived.Test.YtbmapdkcccdmfabDoorM39
import Derived.Test.YtbmapdkcccdmfabDoorM4
import Derived.Test.YtbmapdkcccdmfabDoorM40
import Derived.Test.YtbmapdkcccdmfabDoorM41
import Derived.Test.YtbmapdkcccdmfabDoorM42
import Derived.Test.YtbmapdkcccdmfabDoorM43
import Derived.Test.YtbmapdkcccdmfabDoorM6
import Derived.Test.YtbmapdkcccdmfabDoorM7
import Derived.Test.YtbmapdkcccdmfabDoorM8
import Derived.Test.YtbmapdkcccdmfabDoorM9
import Derived.Test.YtbmapdkcccdmfabDoorRows
namespace Go.Proofs.YtbmapdkcccdmfabDoor
open Go.RowKit Go.Shelf Go.Sort

theorem right4 : RightP four4 := by
  refine ⟨by decide, fun j e he => ?_, fun j k e f hjk he hf => ?_⟩
  · have : e ∈ four4 := List.mem_of_getElem? he
    have h : ∀ e ∈ four4, pOk e = true := by decide +kernel
    exact h e this
  · have hk : k < 4 := (List.getElem?_eq_some_iff.1 hf).1
    have h : ∀ j k : Fin 4, j.val < k.val → (four4[j.val]?.map (·.1)) ≠ (four4[k.val]?.map (·.1)) := by decide +kernel
    have := h ⟨j, by omega⟩ ⟨k, hk⟩ hjk
    intro h'
    apply this
    show (four4[j]?.map (·.1)) = (four4[k]?.map (·.1))
    rw [he, hf]
    simp [h']
theorem sorted4 : SortedP four4 := by
  intro i j x y hij hx hy
  have hj : j < 4 := (List.getElem?_eq_some_iff.1 hy).1
  have h : ∀ i j : Fin 4, i.val < j.val → ∀ x ∈ four4[i.val]?, ∀ y ∈ four4[j.val]?, ltStr y.1.data.toList x.1.data.toList = false := by decide +kernel
  exact h ⟨i, by omega⟩ ⟨j, hj⟩ hij x hx y hy
theorem only4 {es' : List Pr} (h : es'.Perm four4) (hs : SortedP es') : es' = four4 := sorted_one right4 h (List.Perm.refl _) hs sorted4
end Go.Proofs.YtbmapdkcccdmfabDoor
