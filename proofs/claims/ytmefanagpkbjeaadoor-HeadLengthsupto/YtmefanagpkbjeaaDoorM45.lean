/- Lemmas: Headers, Lights, committees, Boots, Updates that a law gets, opened: what they hold, and how much. No condition. -/
import Derived.Test.YtmefanagpkbjeaaDoorM1
import Derived.Test.YtmefanagpkbjeaaDoorM11
import Derived.Test.YtmefanagpkbjeaaDoorM2
import Derived.Test.YtmefanagpkbjeaaDoorM21
import Derived.Test.YtmefanagpkbjeaaDoorM22
import Derived.Test.YtmefanagpkbjeaaDoorM23
import Derived.Test.YtmefanagpkbjeaaDoorM24
import Derived.Test.YtmefanagpkbjeaaDoorM25
import Derived.Test.YtmefanagpkbjeaaDoorM26
import Derived.Test.YtmefanagpkbjeaaDoorM27
import Derived.Test.YtmefanagpkbjeaaDoorM28
import Derived.Test.YtmefanagpkbjeaaDoorM3
import Derived.Test.YtmefanagpkbjeaaDoorM4
import Derived.Test.YtmefanagpkbjeaaDoorM44
import Derived.Test.YtmefanagpkbjeaaDoorM5
import Derived.Test.YtmefanagpkbjeaaDoorRows
import Derived.ChangeArms
import Derived.ChangeMaps5
import Derived.ChangeSame
import Derived.JoinedCond
import Derived.OpenShut
import Derived.ProofKit
namespace Go.Proofs.YtmefanagpkbjeaaDoor
open Go.ChangeShapes Go.WideShapes Go.ChangeAt Go.RowKit

/-- How much texts are. -/
def txB : List ByteArray → Nat
  | [] => 0
  | t :: r => t.size + 1 + txB r
section
variable {H : Type} {enc : TypeId × Value → H}
theorem txB_bulk : ∀ ys : List ByteArray, Rows.uptoBulkAll (strs (H := H) ys) = txB ys
  | [] => rfl
  | t :: r => by
    have ih := txB_bulk r
    show (t.data.toList.length + 1) + Rows.uptoBulkAll (strs (H := H) r) = t.size + 1 + txB r
    rw [ih]
    simp
theorem open_strsB {W : World} {fuel : Nat} {v : Value} {x : DataW H × List MemPlace} (h : DataW.trod enc Tryd.prog W 0 (fun _ => true) true fuel 27 [v] = some x) (hlt : ∀ y ∈ x.2, y.block < W.heap.size) :
    ∃ (a : Option Addr) (es : List ByteArray) (cap : Nat), v = .slice a es.length cap ∧ es.length ≤ cap ∧ slS W.heap.size W a es ∧ txB es + 1 ≤ Rows.uptoBulk x.1 := by
  rcases open_strings Tryd.underlying27 Tryd.underlying9 cellsSt8 h with ⟨hcs, hx⟩ | ⟨a', len', cap', ss, hcs, _, hle, hm, hz, hx, hcell, hws⟩
  · injection hcs with hcs _
    refine ⟨none, [], 0, hcs, Nat.le_refl _, .inl rfl, ?_⟩
    rw [hx]
    exact Nat.le_refl _
  · injection hcs with hcs _
    rw [if_pos rfl] at hz
    unfold maxLen at hm
    have hll : (ss.take len').length = len' := by rw [List.length_take]; omega
    refine ⟨some a', ss.take len', cap', by rw [hll]; exact hcs, by rw [hll]; exact hle, ?_, ?_⟩
    · by_cases h0 : len' = 0
      · subst h0
        exact .inl rfl
      · obtain ⟨b, off, spot⟩ := a'
        have hspot : spot = none := by simpa [Addr.add] using World.cell?_spot (hcell 0 (by omega))
        subst hspot
        have hbl : b < W.heap.size := by
          have h2 := hlt (.cell b off) (by rw [hx]; exact MemPlace.mem_row.2 ⟨0, by omega, by simp⟩)
          exact h2
        refine .inr ⟨b, off, rfl, hbl, fun j y hy => ?_⟩
        rw [List.getElem?_take] at hy
        split at hy
        · have h2 := hcell j (by omega)
          rw [add_plain] at h2
          rw [h2, List.getD_eq_getElem?_getD, hy]
          rfl
        · cases hy
    · rw [hx]
      show _ ≤ Rows.uptoBulkAll (strs (H := H) (ss.take len')) + Rows.uptoBulkAll (strs (H := H) (ss.drop len')) + 1
      rw [txB_bulk]
      omega
theorem cU8 : Tryd.prog.cellsOf 22 = 1 := by kernel_rfl
theorem cS8 : Tryd.prog.cellsOf 9 = 1 := by kernel_rfl
theorem cL8 : Tryd.prog.cellsOf 27 = 1 := by kernel_rfl
theorem cHd : Tryd.prog.cellsOf 24 = 5 := by kernel_rfl
theorem cEx : Tryd.prog.cellsOf 26 = 3 := by kernel_rfl
theorem cLt : Tryd.prog.cellsOf 29 = 9 := by kernel_rfl
theorem cCm : Tryd.prog.cellsOf 31 = 2 := by kernel_rfl
theorem cBt : Tryd.prog.cellsOf 41 = 12 := by kernel_rfl
theorem cUp : Tryd.prog.cellsOf 43 = 25 := by kernel_rfl
theorem one_of {α : Type} (l : List α) (h : l.length = 1) : ∃ a, l = [a] := by
  match l, h with
  | [a], _ => exact ⟨a, rfl⟩
theorem of_two {α : Type} (l : List α) (h : l.length = 2) : ∃ a b, l = [a, b] := by
  match l, h with
  | [a, b], _ => exact ⟨a, b, rfl⟩
theorem of_three {α : Type} (l : List α) (h : l.length = 3) : ∃ a b c, l = [a, b, c] := by
  match l, h with
  | [a, b, c], _ => exact ⟨a, b, c, rfl⟩
theorem of_five {α : Type} (l : List α) (h : l.length = 5) : ∃ a b c d e, l = [a, b, c, d, e] := by
  match l, h with
  | [a, b, c, d, e], _ => exact ⟨a, b, c, d, e, rfl⟩
theorem of_eight {α : Type} (l : List α) (h : l.length = 8) : ∃ a b c d e f g i, l = [a, b, c, d, e, f, g, i] := by
  match l, h with
  | [a, b, c, d, e, f, g, i], _ => exact ⟨a, b, c, d, e, f, g, i, rfl⟩
/-- A header's five cells. -/
theorem hd_open {W : World} {fuel : Nat} {cs : List Value} {x : DataW H × List MemPlace} (h : DataW.trod enc Tryd.prog W 0 (fun _ => true) true fuel 24 cs = some x) :
    ∃ (s u : Nat) (p t b : ByteArray), cs = [.int .u64 s, .int .u64 u, .string p, .string t, .string b] ∧ s < 18446744073709551616 ∧ u < 18446744073709551616 ∧ p.size + t.size + b.size + 5 ≤ Rows.uptoBulk x.1 := by
  obtain ⟨xs, n, rfl, hx, hl, hxs, hf⟩ := DataW.trod_struct Tryd.underlying24 h
  rw [cHd] at hl
  obtain ⟨c0, c1, c2, c3, c4, rfl⟩ := of_five cs hl
  obtain ⟨y0, y1, y2, y3, y4, rfl⟩ := of_five xs hxs
  have g0 : DataW.trod enc Tryd.prog W 0 (fun _ => true) true n 22 (List.take (Tryd.prog.cellsOf 22) (List.drop 0 [c0, c1, c2, c3, c4])) = some y0 := hf 0 _ rfl
  have g1 : DataW.trod enc Tryd.prog W 0 (fun _ => true) true n 22 (List.take (Tryd.prog.cellsOf 22) (List.drop 1 [c0, c1, c2, c3, c4])) = some y1 := hf 1 _ rfl
  have g2 : DataW.trod enc Tryd.prog W 0 (fun _ => true) true n 9 (List.take (Tryd.prog.cellsOf 9) (List.drop 2 [c0, c1, c2, c3, c4])) = some y2 := hf 2 _ rfl
  have g3 : DataW.trod enc Tryd.prog W 0 (fun _ => true) true n 9 (List.take (Tryd.prog.cellsOf 9) (List.drop 3 [c0, c1, c2, c3, c4])) = some y3 := hf 3 _ rfl
  have g4 : DataW.trod enc Tryd.prog W 0 (fun _ => true) true n 9 (List.take (Tryd.prog.cellsOf 9) (List.drop 4 [c0, c1, c2, c3, c4])) = some y4 := hf 4 _ rfl
  rw [cU8] at g0 g1
  rw [cS8] at g2 g3 g4
  obtain ⟨s, e0, rfl, w0⟩ := DataW.trod_int Tryd.underlying22 g0
  obtain ⟨u, e1, rfl, w1⟩ := DataW.trod_int Tryd.underlying22 g1
  obtain ⟨p, e2, rfl, _⟩ := DataW.trod_string Tryd.underlying9 g2
  obtain ⟨t, e3, rfl, _⟩ := DataW.trod_string Tryd.underlying9 g3
  obtain ⟨b, e4, rfl, _⟩ := DataW.trod_string Tryd.underlying9 g4
  simp at e0 e1 e2 e3 e4
  have i0 := wf64 w0
  have i1 := wf64 w1
  refine ⟨s.toNat, u.toNat, p, t, b, by rw [e0, e1, e2, e3, e4, Int.toNat_of_nonneg i0.1, Int.toNat_of_nonneg i1.1], by omega, by omega, ?_⟩
  rw [hx]
  simp [Rows.uptoBulkAll, Rows.uptoBulk]
  omega
theorem ex_open {W : World} {fuel : Nat} {cs : List Value} {x : DataW H × List MemPlace} (h : DataW.trod enc Tryd.prog W 0 (fun _ => true) true fuel 26 cs = some x) :
    ∃ (p t : ByteArray) (s : Nat), cs = [.string p, .string t, .int .u64 s] ∧ s < 18446744073709551616 ∧ p.size + t.size + 3 ≤ Rows.uptoBulk x.1 := by
  obtain ⟨xs, n, rfl, hx, hl, hxs, hf⟩ := DataW.trod_struct Tryd.underlying26 h
  rw [cEx] at hl
  obtain ⟨c0, c1, c2, rfl⟩ := of_three cs hl
  obtain ⟨y0, y1, y2, rfl⟩ := of_three xs hxs
  have g0 : DataW.trod enc Tryd.prog W 0 (fun _ => true) true n 9 (List.take (Tryd.prog.cellsOf 9) (List.drop 0 [c0, c1, c2])) = some y0 := hf 0 _ rfl
  have g1 : DataW.trod enc Tryd.prog W 0 (fun _ => true) true n 9 (List.take (Tryd.prog.cellsOf 9) (List.drop 1 [c0, c1, c2])) = some y1 := hf 1 _ rfl
  have g2 : DataW.trod enc Tryd.prog W 0 (fun _ => true) true n 22 (List.take (Tryd.prog.cellsOf 22) (List.drop 2 [c0, c1, c2])) = some y2 := hf 2 _ rfl
  rw [cU8] at g2
  rw [cS8] at g0 g1
  obtain ⟨p, e0, rfl, _⟩ := DataW.trod_string Tryd.underlying9 g0
  obtain ⟨t, e1, rfl, _⟩ := DataW.trod_string Tryd.underlying9 g1
  obtain ⟨s, e2, rfl, w0⟩ := DataW.trod_int Tryd.underlying22 g2
  simp at e0 e1 e2
  have i0 := wf64 w0
  refine ⟨p, t, s.toNat, by rw [e0, e1, e2, Int.toNat_of_nonneg i0.1], by omega, ?_⟩
  rw [hx]
  simp [Rows.uptoBulkAll, Rows.uptoBulk]
  omega
theorem cm_open {W : World} {fuel : Nat} {cs : List Value} {x : DataW H × List MemPlace} (h : DataW.trod enc Tryd.prog W 0 (fun _ => true) true fuel 31 cs = some x) (hlt : ∀ y ∈ x.2, y.block < W.heap.size) :
    ∃ (a : Option Addr) (ks : List ByteArray) (c : Nat) (s : ByteArray), cs = [.slice a ks.length c, .string s] ∧ slS W.heap.size W a ks ∧ txB ks + s.size + 2 ≤ Rows.uptoBulk x.1 := by
  obtain ⟨xs, n, rfl, hx, hl, hxs, hf⟩ := DataW.trod_struct Tryd.underlying31 h
  rw [cCm] at hl
  obtain ⟨c0, c1, rfl⟩ := of_two cs hl
  obtain ⟨y0, y1, rfl⟩ := of_two xs hxs
  have g0 : DataW.trod enc Tryd.prog W 0 (fun _ => true) true n 27 (List.take (Tryd.prog.cellsOf 27) (List.drop 0 [c0, c1])) = some y0 := hf 0 _ rfl
  have g1 : DataW.trod enc Tryd.prog W 0 (fun _ => true) true n 9 (List.take (Tryd.prog.cellsOf 9) (List.drop 1 [c0, c1])) = some y1 := hf 1 _ rfl
  rw [cL8] at g0
  rw [cS8] at g1
  rw [hx] at hlt
  obtain ⟨a, ks, c, rfl, _, hs, hb⟩ := open_strsB g0 (fun y hy => hlt y (by simp [hy]))
  obtain ⟨s, e1, rfl, _⟩ := DataW.trod_string Tryd.underlying9 g1
  simp at e1
  refine ⟨a, ks, c, s, by rw [e1], hs, ?_⟩
  rw [hx]
  simp [Rows.uptoBulkAll, Rows.uptoBulk]
  omega
set_option maxRecDepth 20000 in
theorem lt_open {W : World} {fuel : Nat} {cs : List Value} {x : DataW H × List MemPlace} (h : DataW.trod enc Tryd.prog W 0 (fun _ => true) true fuel 29 cs = some x) (hlt : ∀ y ∈ x.2, y.block < W.heap.size) :
    ∃ (s u m : Nat) (p t b ea ra : ByteArray) (a : Option Addr) (br : List ByteArray) (c : Nat), cs = [.int .u64 s, .int .u64 u, .string p, .string t, .string b, .string ea, .string ra, .int .u64 m, .slice a br.length c] ∧
      s < 18446744073709551616 ∧ u < 18446744073709551616 ∧ m < 18446744073709551616 ∧ slS W.heap.size W a br ∧ p.size + t.size + b.size + ea.size + ra.size + txB br + 9 ≤ Rows.uptoBulk x.1 := by
  obtain ⟨xs, n, rfl, hx, hl, hxs, hf⟩ := DataW.trod_struct Tryd.underlying29 h
  rw [cLt] at hl
  obtain ⟨y0, y1, y2, rfl⟩ := of_three xs hxs
  have g0 : DataW.trod enc Tryd.prog W 0 (fun _ => true) true n 24 (List.take (Tryd.prog.cellsOf 24) (List.drop 0 cs)) = some y0 := hf 0 _ rfl
  have g1 : DataW.trod enc Tryd.prog W 0 (fun _ => true) true n 26 (List.take (Tryd.prog.cellsOf 26) (List.drop 5 cs)) = some y1 := hf 1 _ rfl
  have g2 : DataW.trod enc Tryd.prog W 0 (fun _ => true) true n 27 (List.take (Tryd.prog.cellsOf 27) (List.drop 8 cs)) = some y2 := hf 2 _ rfl
  rw [cHd] at g0
  rw [cEx] at g1
  rw [cL8] at g2
  obtain ⟨s, u, p, t, b, e0, i0, i1, b0⟩ := hd_open g0
  obtain ⟨ea, ra, m, e1, i2, b1⟩ := ex_open g1
  obtain ⟨v, e2⟩ := one_of (List.take 1 (List.drop 8 cs)) (by rw [List.length_take, List.length_drop, hl]; decide)
  rw [e2] at g2
  rw [hx] at hlt
  obtain ⟨a, br, c, rfl, _, hs, hb⟩ := open_strsB g2 (fun y hy => hlt y (by simp [hy]))
  refine ⟨s, u, m, p, t, b, ea, ra, a, br, c, ?_, i0, i1, i2, hs, ?_⟩
  · have : cs = List.take 5 (List.drop 0 cs) ++ (List.take 3 (List.drop 5 cs) ++ List.take 1 (List.drop 8 cs)) := by
      rw [List.drop_zero]
      have h1 : List.take 1 (List.drop 8 cs) = List.drop 8 cs := List.take_of_length_le (by rw [List.length_drop, hl]; decide)
      have h2 : List.take 3 (List.drop 5 cs) ++ List.drop 8 cs = List.drop 5 cs := by
        have := List.take_append_drop 3 (List.drop 5 cs)
        rwa [List.drop_drop] at this
      rw [h1, h2, List.take_append_drop]
    rw [this, e0, e1, e2]
    rfl
  · rw [hx]
    simp [Rows.uptoBulkAll, Rows.uptoBulk]
    omega
set_option maxRecDepth 100000 in
theorem open_top {W : World} {b0 : Nat} {t : TypeId} {fs : Array Field} {v : Value} {d : DataW H} {ps : List MemPlace} (ht : Tryd.prog.underlying t = some (.struct fs)) (hval : Value.okWide Tryd.prog W .any b0 t v) (hd : DataW.Trod enc Tryd.prog W 0 (fun _ => true) true t v d ps) :
    ∃ (cs : List Value) (fuel : Nat), v = .agg cs.toArray ∧ DataW.trod enc Tryd.prog W 0 (fun _ => true) true fuel t cs = some (d, ps) := by
  obtain ⟨cs, rfl, hsz⟩ := okWide_struct ht hval
  obtain ⟨fuel, hf⟩ := hd
  refine ⟨cs.toList, fuel, by simp, ?_⟩
  exact hf
end
end Go.Proofs.YtmefanagpkbjeaaDoor
