/- Lists of texts that a law gets: where they lie. No condition. -/
import Derived.Test.YtmemfdpfbeijeaaDoorSRow
import Derived.Test.YtmemfdpfbeijeaaDoorZ5
import Derived.SliceStrings
import Derived.Carry
namespace Go.Proofs.YtmemfdpfbeijeaaDoor
open Go.ChangeShapes Go.WideShapes Go.ChangeAt Go.RowKit

theorem wf64 {n : Int} (h : (Lit.int .u64 n).wf = true) : 0 ≤ n ∧ n < 18446744073709551616 := by
  simp [Lit.wf, IntKind.min, IntKind.max] at h
  have h1 := h.1
  have h2 := h.2
  simp [IntKind.bits, IntKind.signed] at h1 h2
  omega
theorem cellsSt8 : Tryd.prog.cellsOf 9 = 1 := by kernel_rfl
theorem open_strs {H : Type} {enc : TypeId × Value → H} {W : World} {fuel : Nat} {a : Option Addr} {len cap : Nat} {x : DataW H × List MemPlace} (h : DataW.trod enc Tryd.prog W 0 (fun _ => true) true fuel 28 [.slice a len cap] = some x) (hlt : ∀ y ∈ x.2, y.block < W.heap.size) :
    ∃ es : List ByteArray, es.length = len ∧ len ≤ cap ∧ slS W.heap.size W a es := by
  rcases open_strings Tryd.underlying28 Tryd.underlying9 cellsSt8 h with ⟨hcs, hx⟩ | ⟨a', len', cap', ss, hcs, _, hle, hm, hz, hx, hcell, hws⟩
  · injection hcs with hcs _
    injection hcs with h1 h2 h3
    exact ⟨[], h2.symm, by omega, .inl rfl⟩
  · injection hcs with hcs _
    injection hcs with h1 h2 h3
    subst h1 h2 h3
    rw [if_pos rfl] at hz
    by_cases h0 : len = 0
    · subst h0
      exact ⟨[], rfl, hle, .inl rfl⟩
    · obtain ⟨b, off, spot⟩ := a'
      have hspot : spot = none := by simpa [Addr.add] using World.cell?_spot (hcell 0 (by omega))
      subst hspot
      have hbl : b < W.heap.size := by
        have h2 := hlt (.cell b off) (by rw [hx]; exact MemPlace.mem_row.2 ⟨0, by omega, by simp⟩)
        exact h2
      refine ⟨ss.take len, by rw [List.length_take]; omega, hle, .inr ⟨b, off, rfl, hbl, fun j y hy => ?_⟩⟩
      rw [List.getElem?_take] at hy
      split at hy
      · have h2 := hcell j (by omega)
        rw [add_plain] at h2
        rw [h2, List.getD_eq_getElem?_getD, hy]
        rfl
      · cases hy
end Go.Proofs.YtmemfdpfbeijeaaDoor
