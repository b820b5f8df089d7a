/- Lemmas: Lists of texts opened from a law's arguments. -/
import Derived.Test.YtbmapdkcccdmfabDoorM1
import Derived.Test.YtbmapdkcccdmfabDoorM10
import Derived.Test.YtbmapdkcccdmfabDoorM11
import Derived.Test.YtbmapdkcccdmfabDoorM12
import Derived.Test.YtbmapdkcccdmfabDoorM13
import Derived.Test.YtbmapdkcccdmfabDoorM14
import Derived.Test.YtbmapdkcccdmfabDoorM15
import Derived.Test.YtbmapdkcccdmfabDoorM16
import Derived.Test.YtbmapdkcccdmfabDoorM17
import Derived.Test.YtbmapdkcccdmfabDoorM18
import Derived.Test.YtbmapdkcccdmfabDoorM19
import Derived.Test.YtbmapdkcccdmfabDoorM2
import Derived.Test.YtbmapdkcccdmfabDoorM20
import Derived.Test.YtbmapdkcccdmfabDoorM21
import Derived.Test.YtbmapdkcccdmfabDoorM22
import Derived.Test.YtbmapdkcccdmfabDoorM23
import Derived.Test.YtbmapdkcccdmfabDoorM24
import Derived.Test.YtbmapdkcccdmfabDoorM25
import Derived.Test.YtbmapdkcccdmfabDoorM26
import Derived.Test.YtbmapdkcccdmfabDoorM3
import Derived.Test.YtbmapdkcccdmfabDoorM33
import Derived.Test.YtbmapdkcccdmfabDoorM34
import Derived.Test.YtbmapdkcccdmfabDoorM35
import Derived.Test.YtbmapdkcccdmfabDoorM36
import Derived.Test.YtbmapdkcccdmfabDoorM37
import Derived.Test.YtbmapdkcccdmfabDoorM38
import Derived.Test.YtbmapdkcccdmfabDoorM39
import Derived.Test.YtbmapdkcccdmfabDoorM4
import Derived.Test.YtbmapdkcccdmfabDoorM40
import Derived.Test.YtbmapdkcccdmfabDoorM41
import Derived.Test.YtbmapdkcccdmfabDoorM42
import Derived.Test.YtbmapdkcccdmfabDoorM43
import Derived.Test.YtbmapdkcccdmfabDoorM44
import Derived.Test.YtbmapdkcccdmfabDoorM45
import Derived.Test.YtbmapdkcccdmfabDoorM5
import Derived.Test.YtbmapdkcccdmfabDoorM6
import Derived.Test.YtbmapdkcccdmfabDoorM7
import Derived.Test.YtbmapdkcccdmfabDoorM8
import Derived.Test.YtbmapdkcccdmfabDoorM9
import Derived.Test.YtbmapdkcccdmfabDoorRows
import Derived.Carry
import Derived.SliceStrings
namespace Go.Proofs.YtbmapdkcccdmfabDoor
open Go.ChangeShapes Go.WideShapes Go.ChangeAt Go.RowKit

theorem cellsSt8 : Tryd.prog.cellsOf 9 = 1 := by kernel_rfl
theorem open_strs {H : Type} {enc : TypeId × Value → H} {W : World} {fuel : Nat} {a : Option Addr} {len cap : Nat} {x : DataW H × List MemPlace} (h : DataW.trod enc Tryd.prog W 0 (fun _ => true) true fuel 22 [.slice a len cap] = some x) (hlt : ∀ y ∈ x.2, y.block < W.heap.size) :
    ∃ es : List ByteArray, es.length = len ∧ len ≤ cap ∧ slS W.heap.size W a es := by
  rcases open_strings Tryd.underlying22 Tryd.underlying9 cellsSt8 h with ⟨hcs, hx⟩ | ⟨a', len', cap', ss, hcs, _, hle, hm, hz, hx, hcell, hws⟩
  · injection hcs with hcs _
    injection hcs with h1 h2 h3
    exact ⟨[], h2.symm, by omega, .inl rfl⟩
  · injection hcs with hcs _
    injection hcs with h1 h2 h3
    subst h1 h2 h3
    rw [if_pos rfl] at hz
    by_cases h0 : len = 0
    · subst h0
      exact ⟨[], rfl, hle, .inl rfl⟩
    · obtain ⟨b, off, spot⟩ := a'
      have hspot : spot = none := by simpa [Addr.add] using World.cell?_spot (hcell 0 (by omega))
      subst hspot
      have hbl : b < W.heap.size := by
        have h2 := hlt (.cell b off) (by rw [hx]; exact MemPlace.mem_row.2 ⟨0, by omega, by simp⟩)
        exact h2
      refine ⟨ss.take len, by rw [List.length_take]; omega, hle, .inr ⟨b, off, rfl, hbl, fun j y hy => ?_⟩⟩
      rw [List.getElem?_take] at hy
      split at hy
      · have h2 := hcell j (by omega)
        rw [add_plain] at h2
        rw [h2, List.getD_eq_getElem?_getD, hy]
        rfl
      · cases hy
end Go.Proofs.YtbmapdkcccdmfabDoor
