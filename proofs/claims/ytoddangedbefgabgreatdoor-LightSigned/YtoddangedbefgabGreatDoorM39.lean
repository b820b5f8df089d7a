/- Lemmas: Lights, committees, Boots, messages, stores that a law gets, opened: what they hold, where their lists lie, and that no part is greater than memory. No condition. A leaf under a state; what begins with a Boot, by the document. No condition. The law LightBegins, walked. No condition but on sizes that no machine has. What the package's slotsFollow, periodIsKnown, isNew do. No condition. What the package's isNew does. No condition. What the package's checkFinal does. No condition. What the library's Equal of lists of texts does. No condition. -/
import Derived.Test.YtoddangedbefgabGreatDoorM23
import Derived.Test.YtoddangedbefgabGreatDoorM37
set_option maxRecDepth 100000
set_option maxHeartbeats 4000000
namespace Go.Proofs.YtoddangedbefgabGreatDoor
open Go.ChangeShapes Go.WideShapes Go.ChangeAt Go.RowKit
structure BtD where
 l : LtD
 c : CmD
 br : List ByteArray
def BtD.ok (d : BtD) : Prop := d.l.ok
def StD.ok (d : StD) : Prop := d.fin.ok ∧ d.new.ok ∧ d.best.ok ∧ (-9223372036854775808 ≤ d.last ∧ d.last < 9223372036854775808) ∧ (-9223372036854775808 ≤ d.this ∧ d.this < 9223372036854775808)
theorem wfiI {n : Int} (h : (Lit.int .i64 n).wf = true) : -9223372036854775808 ≤ n ∧ n < 9223372036854775808 := by
 simp [Lit.wf, IntKind.min, IntKind.max] at h
 have h1 := h.1
 have h2 := h.2
 simp [IntKind.bits, IntKind.signed] at h1 h2
 omega
theorem bytes_str : Tryz.prog.bytesOf 9 = 16 := by kernel_rfl
section
variable {H : Type} {enc : TypeId × Value → H}
def WB (t : TypeId) (x : DataW H) : Prop := ∀ n ∈ x.weights Tryz.prog t, n ≤ reachBytes
theorem strs_weight {e : TypeId} : ∀ (ys : List ByteArray) (x : ByteArray), x ∈ ys → x.data.toList.length ∈ DataW.weightsAll Tryz.prog e (strs (H := H) ys)
 | [], _, hx => by cases hx
 | y :: ys, x, hx => by
  have e4 : strs (H := H) (y :: ys) = .lit (.string y.data.toList) :: strs ys := rfl
  rw [e4]
  simp only [DataW.weightsAll, DataW.weights, List.mem_append]
  rcases List.mem_cons.1 hx with rfl | h
  ·exact Or.inl (by simp)
  ·exact Or.inr (strs_weight ys x h)
theorem strs_len : ∀ ys : List ByteArray, (strs (H := H) ys).length = ys.length
 | [] => rfl
 | y :: ys => by
  have e4 : strs (H := H) (y :: ys) = .lit (.string y.data.toList) :: strs ys := rfl
  rw [e4, List.length_cons, strs_len ys, List.length_cons]
theorem jez {W : World} {fuel : Nat} {v : Value} {x : DataW H × List MemPlace} (h : DataW.trod enc Tryz.prog W 0 (fun _ => true) true fuel 27 [v] = some x) (hlt : ∀ y ∈ x.2, y.block < W.heap.size) (hw : WB 27 x.1) :
  ∃ (q : Pl) (es : List ByteArray), v = slV es q ∧ slS W.heap.size W q.a es ∧ szS es := by
 rcases open_strings Tryz.underlying27 Tryz.underlying9 cellsSt8 h with ⟨hcs, hx⟩ | ⟨a', len', cap', ss, hcs, _, hle, hm, hz, hx, hcell, hws⟩
 ·injection hcs with hcs _
  exact ⟨⟨none, 0⟩, [], hcs, .inl rfl, by simp, fun x hx => by cases hx⟩
 ·injection hcs with hcs _
  rw [if_pos rfl] at hz
  unfold maxLen at hm
  have hll : (ss.take len').length = len' := by rw [List.length_take]; omega
  refine ⟨⟨some a', cap'⟩, ss.take len', by unfold slV; rw [hll]; exact hcs, ?_, ?_⟩
  ·by_cases h0 : len' = 0
   ·subst h0
    exact .inl rfl
   ·obtain ⟨b, off, spot⟩ := a'
    have hspot : spot = none := by simpa [Addr.add] using World.cell?_spot (hcell 0 (by omega))
    subst hspot
    have hbl : b < W.heap.size := by
     have h2 := hlt (.cell b off) (by rw [hx]; exact MemPlace.mem_row.2 ⟨0, by omega, by simp⟩)
     exact h2
    refine .inr ⟨b, off, rfl, hbl, fun j y hy => ?_⟩
    rw [List.getElem?_take] at hy
    split at hy
    ·have h2 := hcell j (by omega)
     rw [add_plain] at h2
     rw [h2, List.getD_eq_getElem?_getD, hy]
     rfl
    ·cases hy
  ·rw [hx] at hw
   unfold WB at hw
   simp only [DataW.weights, Tryz.underlying27] at hw
   have w0 := hw _ (List.mem_cons_self ..)
   rw [strs_len, strs_len, bytes_str] at w0
   have hr : reachBytes = 140737488351232 := rfl
   refine ⟨by omega, fun x hx => ?_⟩
   have w1 := hw _ (List.mem_cons_of_mem _ (List.mem_append_left _ (strs_weight _ x hx)))
   have h3 : x.data.toList.length = x.size := by simp
   omega
theorem cU8 : Tryz.prog.cellsOf 22 = 1 := by kernel_rfl
theorem cS8 : Tryz.prog.cellsOf 9 = 1 := by kernel_rfl
theorem cL8 : Tryz.prog.cellsOf 27 = 1 := by kernel_rfl
theorem cHd : Tryz.prog.cellsOf 24 = 5 := by kernel_rfl
theorem cEx : Tryz.prog.cellsOf 26 = 3 := by kernel_rfl
theorem cLt : Tryz.prog.cellsOf 29 = 9 := by kernel_rfl
theorem cCm : Tryz.prog.cellsOf 31 = 2 := by kernel_rfl
theorem cUp : Tryz.prog.cellsOf 33 = 25 := by kernel_rfl
theorem jcl {α : Type} (l : List α) (h : l.length = 1) : ∃ a, l = [a] := by
 match l, h with
 | [a], _ => exact ⟨a, rfl⟩
theorem of_two {α : Type} (l : List α) (h : l.length = 2) : ∃ a b, l = [a, b] := by
 match l, h with
 | [a, b], _ => exact ⟨a, b, rfl⟩
theorem of_three {α : Type} (l : List α) (h : l.length = 3) : ∃ a b c, l = [a, b, c] := by
 match l, h with
 | [a, b, c], _ => exact ⟨a, b, c, rfl⟩
theorem of_five {α : Type} (l : List α) (h : l.length = 5) : ∃ a b c d e, l = [a, b, c, d, e] := by
 match l, h with
 | [a, b, c, d, e], _ => exact ⟨a, b, c, d, e, rfl⟩
theorem cSt : Tryz.prog.cellsOf 38 = 51 := by kernel_rfl
theorem cB8 : Tryz.prog.cellsOf 4 = 1 := by kernel_rfl
theorem cI8 : Tryz.prog.cellsOf 3 = 1 := by kernel_rfl
theorem of_nine {α : Type} (l : List α) (h : l.length = 9) : ∃ a b c d e f g i j, l = [a, b, c, d, e, f, g, i, j] := by
 match l, h with
 | [a, b, c, d, e, f, g, i, j], _ => exact ⟨a, b, c, d, e, f, g, i, j, rfl⟩
theorem of_eight {α : Type} (l : List α) (h : l.length = 8) : ∃ a b c d e f g i, l = [a, b, c, d, e, f, g, i] := by
 match l, h with
 | [a, b, c, d, e, f, g, i], _ => exact ⟨a, b, c, d, e, f, g, i, rfl⟩
theorem stp {α : Type} (cs : List α) (o k m : Nat) (h : o + k = m) : List.drop o cs = List.take k (List.drop o cs) ++ List.drop m cs := by
 have := List.take_append_drop k (List.drop o cs)
 rw [List.drop_drop, h] at this
 exact this.symm
theorem jdi {s : ByteArray} (h : WB (H := H) 9 (.lit (.string s.data.toList))) : s.size ≤ 281474976710656 := by
 have w := h s.data.toList.length (by simp [DataW.weights])
 have hr : reachBytes = 140737488351232 := rfl
 have h3 : s.data.toList.length = s.size := by simp
 omega
theorem trod_boolL {W : World} {fuel : Nat} {v : Value} {x : DataW H × List MemPlace} (h : DataW.trod enc Tryz.prog W 0 (fun _ => true) true fuel 4 [v] = some x) : ∃ b : Bool, [v] = [.bool b] ∧ x = (.lit (.bool b), []) := by
 obtain ⟨b, e, r⟩ := DataW.trod_bool Tryz.underlying4 h
 exact ⟨b, e, r⟩
theorem hd_openW {W : World} {fuel : Nat} {cs : List Value} {x : DataW H × List MemPlace} (h : DataW.trod enc Tryz.prog W 0 (fun _ => true) true fuel 24 cs = some x) (hlt : ∀ y ∈ x.2, y.block < W.heap.size) (hw : WB 24 x.1) :
  ∃ (s u : Nat) (p t b : ByteArray), cs = [.int .u64 s, .int .u64 u, .string p, .string t, .string b] ∧ U6 s ∧ U6 u ∧ (p.size ≤ 281474976710656 ∧ t.size ≤ 281474976710656 ∧ b.size ≤ 281474976710656) := by
 obtain ⟨xs, n, rfl, hx, hl, hxs, hf⟩ := DataW.trod_struct Tryz.underlying24 h
 rw [cHd] at hl
 obtain ⟨y0, y1, y2, y3, y4, rfl⟩ := of_five xs hxs
 have g0 : DataW.trod enc Tryz.prog W 0 (fun _ => true) true n 22 (List.take (Tryz.prog.cellsOf 22) (List.drop 0 cs)) = some y0 := hf 0 _ rfl
 rw [cU8] at g0
 have g1 : DataW.trod enc Tryz.prog W 0 (fun _ => true) true n 22 (List.take (Tryz.prog.cellsOf 22) (List.drop 1 cs)) = some y1 := hf 1 _ rfl
 rw [cU8] at g1
 have g2 : DataW.trod enc Tryz.prog W 0 (fun _ => true) true n 9 (List.take (Tryz.prog.cellsOf 9) (List.drop 2 cs)) = some y2 := hf 2 _ rfl
 rw [cS8] at g2
 have g3 : DataW.trod enc Tryz.prog W 0 (fun _ => true) true n 9 (List.take (Tryz.prog.cellsOf 9) (List.drop 3 cs)) = some y3 := hf 3 _ rfl
 rw [cS8] at g3
 have g4 : DataW.trod enc Tryz.prog W 0 (fun _ => true) true n 9 (List.take (Tryz.prog.cellsOf 9) (List.drop 4 cs)) = some y4 := hf 4 _ rfl
 rw [cS8] at g4
 rw [hx] at hlt hw
 unfold WB at hw
 simp only [DataW.weights, Tryz.underlying24] at hw
 have w2 : WB 9 y2.1 := fun n hn => hw n (DataW.weights_mem_each (j := 2) (t := 9) rfl rfl n hn)
 have w3 : WB 9 y3.1 := fun n hn => hw n (DataW.weights_mem_each (j := 3) (t := 9) rfl rfl n hn)
 have w4 : WB 9 y4.1 := fun n hn => hw n (DataW.weights_mem_each (j := 4) (t := 9) rfl rfl n hn)
 obtain ⟨v0, e0⟩ := jcl (List.take 1 (List.drop 0 cs)) (by rw [List.length_take, List.length_drop, hl]; decide)
 rw [e0] at g0
 obtain ⟨q0, r0, rfl, i0⟩ := DataW.trod_int Tryz.underlying22 g0
 have z0 := wf64 i0
 simp at r0
 obtain ⟨v1, e1⟩ := jcl (List.take 1 (List.drop 1 cs)) (by rw [List.length_take, List.length_drop, hl]; decide)
 rw [e1] at g1
 obtain ⟨q1, r1, rfl, i1⟩ := DataW.trod_int Tryz.underlying22 g1
 have z1 := wf64 i1
 simp at r1
 obtain ⟨v2, e2⟩ := jcl (List.take 1 (List.drop 2 cs)) (by rw [List.length_take, List.length_drop, hl]; decide)
 rw [e2] at g2
 obtain ⟨d2, r2, rfl, _⟩ := DataW.trod_string Tryz.underlying9 g2
 simp at r2
 have z2 := jdi (s := d2) w2
 obtain ⟨v3, e3⟩ := jcl (List.take 1 (List.drop 3 cs)) (by rw [List.length_take, List.length_drop, hl]; decide)
 rw [e3] at g3
 obtain ⟨d3, r3, rfl, _⟩ := DataW.trod_string Tryz.underlying9 g3
 simp at r3
 have z3 := jdi (s := d3) w3
 obtain ⟨v4, e4⟩ := jcl (List.take 1 (List.drop 4 cs)) (by rw [List.length_take, List.length_drop, hl]; decide)
 rw [e4] at g4
 obtain ⟨d4, r4, rfl, _⟩ := DataW.trod_string Tryz.underlying9 g4
 simp at r4
 have z4 := jdi (s := d4) w4
 have f0 := stp cs 0 1 1 rfl
 have f1 := stp cs 1 1 2 rfl
 have f2 := stp cs 2 1 3 rfl
 have f3 := stp cs 3 1 4 rfl
 have f4 := stp cs 4 1 5 rfl
 have hz : List.drop 5 cs = [] := List.drop_of_length_le (by omega)
 have hc : List.drop 0 cs = List.take 1 (List.drop 0 cs) ++ (List.take 1 (List.drop 1 cs) ++ (List.take 1 (List.drop 2 cs) ++ (List.take 1 (List.drop 3 cs) ++ (List.take 1 (List.drop 4 cs) ++ (List.drop 5 cs))))) := by
  rw [← f4, ← f3, ← f2, ← f1, ← f0]
 rw [e0, e1, e2, e3, e4, hz] at hc
 rw [List.drop_zero] at hc
 refine ⟨q0.toNat, q1.toNat, d2, d3, d4, ?_, (by unfold U6; omega), (by unfold U6; omega), z2, z3, z4⟩
 rw [hc]
 simp [r0, r1, r2, r3, r4, Int.toNat_of_nonneg z0.1, Int.toNat_of_nonneg z1.1]
theorem ex_openW {W : World} {fuel : Nat} {cs : List Value} {x : DataW H × List MemPlace} (h : DataW.trod enc Tryz.prog W 0 (fun _ => true) true fuel 26 cs = some x) (hlt : ∀ y ∈ x.2, y.block < W.heap.size) (hw : WB 26 x.1) :
  ∃ (p t : ByteArray) (s : Nat), cs = [.string p, .string t, .int .u64 s] ∧ U6 s ∧ (p.size ≤ 281474976710656 ∧ t.size ≤ 281474976710656) := by
 obtain ⟨xs, n, rfl, hx, hl, hxs, hf⟩ := DataW.trod_struct Tryz.underlying26 h
 rw [cEx] at hl
 obtain ⟨y0, y1, y2, rfl⟩ := of_three xs hxs
 have g0 : DataW.trod enc Tryz.prog W 0 (fun _ => true) true n 9 (List.take (Tryz.prog.cellsOf 9) (List.drop 0 cs)) = some y0 := hf 0 _ rfl
 rw [cS8] at g0
 have g1 : DataW.trod enc Tryz.prog W 0 (fun _ => true) true n 9 (List.take (Tryz.prog.cellsOf 9) (List.drop 1 cs)) = some y1 := hf 1 _ rfl
 rw [cS8] at g1
 have g2 : DataW.trod enc Tryz.prog W 0 (fun _ => true) true n 22 (List.take (Tryz.prog.cellsOf 22) (List.drop 2 cs)) = some y2 := hf 2 _ rfl
 rw [cU8] at g2
 rw [hx] at hlt hw
 unfold WB at hw
 simp only [DataW.weights, Tryz.underlying26] at hw
 have w0 : WB 9 y0.1 := fun n hn => hw n (DataW.weights_mem_each (j := 0) (t := 9) rfl rfl n hn)
 have w1 : WB 9 y1.1 := fun n hn => hw n (DataW.weights_mem_each (j := 1) (t := 9) rfl rfl n hn)
 obtain ⟨v0, e0⟩ := jcl (List.take 1 (List.drop 0 cs)) (by rw [List.length_take, List.length_drop, hl]; decide)
 rw [e0] at g0
 obtain ⟨d0, r0, rfl, _⟩ := DataW.trod_string Tryz.underlying9 g0
 simp at r0
 have z0 := jdi (s := d0) w0
 obtain ⟨v1, e1⟩ := jcl (List.take 1 (List.drop 1 cs)) (by rw [List.length_take, List.length_drop, hl]; decide)
 rw [e1] at g1
 obtain ⟨d1, r1, rfl, _⟩ := DataW.trod_string Tryz.underlying9 g1
 simp at r1
 have z1 := jdi (s := d1) w1
 obtain ⟨v2, e2⟩ := jcl (List.take 1 (List.drop 2 cs)) (by rw [List.length_take, List.length_drop, hl]; decide)
 rw [e2] at g2
 obtain ⟨q2, r2, rfl, i2⟩ := DataW.trod_int Tryz.underlying22 g2
 have z2 := wf64 i2
 simp at r2
 have f0 := stp cs 0 1 1 rfl
 have f1 := stp cs 1 1 2 rfl
 have f2 := stp cs 2 1 3 rfl
 have hz : List.drop 3 cs = [] := List.drop_of_length_le (by omega)
 have hc : List.drop 0 cs = List.take 1 (List.drop 0 cs) ++ (List.take 1 (List.drop 1 cs) ++ (List.take 1 (List.drop 2 cs) ++ (List.drop 3 cs))) := by
  rw [← f2, ← f1, ← f0]
 rw [e0, e1, e2, hz] at hc
 rw [List.drop_zero] at hc
 refine ⟨d0, d1, q2.toNat, ?_, (by unfold U6; omega), z0, z1⟩
 rw [hc]
 simp [r0, r1, r2, Int.toNat_of_nonneg z2.1]
theorem lt_openW {W : World} {fuel : Nat} {cs : List Value} {x : DataW H × List MemPlace} (h : DataW.trod enc Tryz.prog W 0 (fun _ => true) true fuel 29 cs = some x) (hlt : ∀ y ∈ x.2, y.block < W.heap.size) (hw : WB 29 x.1) :
  ∃ (d : LtD) (q : Pl), cs = ltV d q ∧ d.ok ∧ slS W.heap.size W q.a d.br ∧ szL d := by
 obtain ⟨xs, n, rfl, hx, hl, hxs, hf⟩ := DataW.trod_struct Tryz.underlying29 h
 rw [cLt] at hl
 obtain ⟨y0, y1, y2, rfl⟩ := of_three xs hxs
 have g0 : DataW.trod enc Tryz.prog W 0 (fun _ => true) true n 24 (List.take (Tryz.prog.cellsOf 24) (List.drop 0 cs)) = some y0 := hf 0 _ rfl
 rw [cHd] at g0
 have g1 : DataW.trod enc Tryz.prog W 0 (fun _ => true) true n 26 (List.take (Tryz.prog.cellsOf 26) (List.drop 5 cs)) = some y1 := hf 1 _ rfl
 rw [cEx] at g1
 have g2 : DataW.trod enc Tryz.prog W 0 (fun _ => true) true n 27 (List.take (Tryz.prog.cellsOf 27) (List.drop 8 cs)) = some y2 := hf 2 _ rfl
 rw [cL8] at g2
 rw [hx] at hlt hw
 unfold WB at hw
 simp only [DataW.weights, Tryz.underlying29] at hw
 have w0 : WB 24 y0.1 := fun n hn => hw n (DataW.weights_mem_each (j := 0) (t := 24) rfl rfl n hn)
 have w1 : WB 26 y1.1 := fun n hn => hw n (DataW.weights_mem_each (j := 1) (t := 26) rfl rfl n hn)
 have w2 : WB 27 y2.1 := fun n hn => hw n (DataW.weights_mem_each (j := 2) (t := 27) rfl rfl n hn)
 obtain ⟨s0, u0, p0, t0, b0, e0, is0, iu0, z0⟩ := hd_openW g0 (fun y hy => hlt y (by simp [hy])) w0
 obtain ⟨p1, t1, s1, e1, is1, z1⟩ := ex_openW g1 (fun y hy => hlt y (by simp [hy])) w1
 obtain ⟨v2, e2⟩ := jcl (List.take 1 (List.drop 8 cs)) (by rw [List.length_take, List.length_drop, hl]; decide)
 rw [e2] at g2
 obtain ⟨q2, d2, rfl, in2, z2⟩ := jez g2 (fun y hy => hlt y (by simp [hy])) w2
 have f0 := stp cs 0 5 5 rfl
 have f1 := stp cs 5 3 8 rfl
 have f2 := stp cs 8 1 9 rfl
 have hz : List.drop 9 cs = [] := List.drop_of_length_le (by omega)
 have hc : List.drop 0 cs = List.take 5 (List.drop 0 cs) ++ (List.take 3 (List.drop 5 cs) ++ (List.take 1 (List.drop 8 cs) ++ (List.drop 9 cs))) := by
  rw [← f2, ← f1, ← f0]
 rw [e0, e1, e2, hz] at hc
 rw [List.drop_zero] at hc
 refine ⟨⟨s0, u0, p0, t0, b0, p1, t1, s1, d2⟩, q2, ?_, ⟨is0, iu0, is1⟩, in2, z0.1, z0.2.1, z0.2.2, z1.1, z1.2, z2⟩
 rw [hc]
 rfl
theorem cm_openW {W : World} {fuel : Nat} {cs : List Value} {x : DataW H × List MemPlace} (h : DataW.trod enc Tryz.prog W 0 (fun _ => true) true fuel 31 cs = some x) (hlt : ∀ y ∈ x.2, y.block < W.heap.size) (hw : WB 31 x.1) :
  ∃ (d : CmD) (q : Pl), cs = cmV d q ∧ slS W.heap.size W q.a d.ks ∧ szC d := by
 obtain ⟨xs, n, rfl, hx, hl, hxs, hf⟩ := DataW.trod_struct Tryz.underlying31 h
 rw [cCm] at hl
 obtain ⟨y0, y1, rfl⟩ := of_two xs hxs
 have g0 : DataW.trod enc Tryz.prog W 0 (fun _ => true) true n 27 (List.take (Tryz.prog.cellsOf 27) (List.drop 0 cs)) = some y0 := hf 0 _ rfl
 rw [cL8] at g0
 have g1 : DataW.trod enc Tryz.prog W 0 (fun _ => true) true n 9 (List.take (Tryz.prog.cellsOf 9) (List.drop 1 cs)) = some y1 := hf 1 _ rfl
 rw [cS8] at g1
 rw [hx] at hlt hw
 unfold WB at hw
 simp only [DataW.weights, Tryz.underlying31] at hw
 have w0 : WB 27 y0.1 := fun n hn => hw n (DataW.weights_mem_each (j := 0) (t := 27) rfl rfl n hn)
 have w1 : WB 9 y1.1 := fun n hn => hw n (DataW.weights_mem_each (j := 1) (t := 9) rfl rfl n hn)
 obtain ⟨v0, e0⟩ := jcl (List.take 1 (List.drop 0 cs)) (by rw [List.length_take, List.length_drop, hl]; decide)
 rw [e0] at g0
 obtain ⟨q0, d0, rfl, in0, z0⟩ := jez g0 (fun y hy => hlt y (by simp [hy])) w0
 obtain ⟨v1, e1⟩ := jcl (List.take 1 (List.drop 1 cs)) (by rw [List.length_take, List.length_drop, hl]; decide)
 rw [e1] at g1
 obtain ⟨d1, r1, rfl, _⟩ := DataW.trod_string Tryz.underlying9 g1
 simp at r1
 have z1 := jdi (s := d1) w1
 have f0 := stp cs 0 1 1 rfl
 have f1 := stp cs 1 1 2 rfl
 have hz : List.drop 2 cs = [] := List.drop_of_length_le (by omega)
 have hc : List.drop 0 cs = List.take 1 (List.drop 0 cs) ++ (List.take 1 (List.drop 1 cs) ++ (List.drop 2 cs)) := by
  rw [← f1, ← f0]
 rw [e0, e1, hz] at hc
 rw [List.drop_zero] at hc
 refine ⟨⟨d0, d1⟩, q0, ?_, in0, z0, z1⟩
 rw [hc]
 simp [r1, cmV, slV]
theorem up_openW {W : World} {fuel : Nat} {cs : List Value} {x : DataW H × List MemPlace} (h : DataW.trod enc Tryz.prog W 0 (fun _ => true) true fuel 33 cs = some x) (hlt : ∀ y ∈ x.2, y.block < W.heap.size) (hw : WB 33 x.1) :
  ∃ (d : UpD) (q : UpP), cs = upV d q ∧ d.ok ∧ upIn W.heap.size W d q ∧ szU d := by
 obtain ⟨xs, n, rfl, hx, hl, hxs, hf⟩ := DataW.trod_struct Tryz.underlying33 h
 rw [cUp] at hl
 obtain ⟨y0, y1, y2, y3, y4, y5, y6, y7, rfl⟩ := of_eight xs hxs
 have g0 : DataW.trod enc Tryz.prog W 0 (fun _ => true) true n 29 (List.take (Tryz.prog.cellsOf 29) (List.drop 0 cs)) = some y0 := hf 0 _ rfl
 rw [cLt] at g0
 have g1 : DataW.trod enc Tryz.prog W 0 (fun _ => true) true n 31 (List.take (Tryz.prog.cellsOf 31) (List.drop 9 cs)) = some y1 := hf 1 _ rfl
 rw [cCm] at g1
 have g2 : DataW.trod enc Tryz.prog W 0 (fun _ => true) true n 27 (List.take (Tryz.prog.cellsOf 27) (List.drop 11 cs)) = some y2 := hf 2 _ rfl
 rw [cL8] at g2
 have g3 : DataW.trod enc Tryz.prog W 0 (fun _ => true) true n 29 (List.take (Tryz.prog.cellsOf 29) (List.drop 12 cs)) = some y3 := hf 3 _ rfl
 rw [cLt] at g3
 have g4 : DataW.trod enc Tryz.prog W 0 (fun _ => true) true n 27 (List.take (Tryz.prog.cellsOf 27) (List.drop 21 cs)) = some y4 := hf 4 _ rfl
 rw [cL8] at g4
 have g5 : DataW.trod enc Tryz.prog W 0 (fun _ => true) true n 22 (List.take (Tryz.prog.cellsOf 22) (List.drop 22 cs)) = some y5 := hf 5 _ rfl
 rw [cU8] at g5
 have g6 : DataW.trod enc Tryz.prog W 0 (fun _ => true) true n 9 (List.take (Tryz.prog.cellsOf 9) (List.drop 23 cs)) = some y6 := hf 6 _ rfl
 rw [cS8] at g6
 have g7 : DataW.trod enc Tryz.prog W 0 (fun _ => true) true n 22 (List.take (Tryz.prog.cellsOf 22) (List.drop 24 cs)) = some y7 := hf 7 _ rfl
 rw [cU8] at g7
 rw [hx] at hlt hw
 unfold WB at hw
 simp only [DataW.weights, Tryz.underlying33] at hw
 have w0 : WB 29 y0.1 := fun n hn => hw n (DataW.weights_mem_each (j := 0) (t := 29) rfl rfl n hn)
 have w1 : WB 31 y1.1 := fun n hn => hw n (DataW.weights_mem_each (j := 1) (t := 31) rfl rfl n hn)
 have w2 : WB 27 y2.1 := fun n hn => hw n (DataW.weights_mem_each (j := 2) (t := 27) rfl rfl n hn)
 have w3 : WB 29 y3.1 := fun n hn => hw n (DataW.weights_mem_each (j := 3) (t := 29) rfl rfl n hn)
 have w4 : WB 27 y4.1 := fun n hn => hw n (DataW.weights_mem_each (j := 4) (t := 27) rfl rfl n hn)
 have w6 : WB 9 y6.1 := fun n hn => hw n (DataW.weights_mem_each (j := 6) (t := 9) rfl rfl n hn)
 obtain ⟨d0, q0, e0, ok0, in0, z0⟩ := lt_openW g0 (fun y hy => hlt y (by simp [hy])) w0
 obtain ⟨d1, q1, e1, in1, z1⟩ := cm_openW g1 (fun y hy => hlt y (by simp [hy])) w1
 obtain ⟨v2, e2⟩ := jcl (List.take 1 (List.drop 11 cs)) (by rw [List.length_take, List.length_drop, hl]; decide)
 rw [e2] at g2
 obtain ⟨q2, d2, rfl, in2, z2⟩ := jez g2 (fun y hy => hlt y (by simp [hy])) w2
 obtain ⟨d3, q3, e3, ok3, in3, z3⟩ := lt_openW g3 (fun y hy => hlt y (by simp [hy])) w3
 obtain ⟨v4, e4⟩ := jcl (List.take 1 (List.drop 21 cs)) (by rw [List.length_take, List.length_drop, hl]; decide)
 rw [e4] at g4
 obtain ⟨q4, d4, rfl, in4, z4⟩ := jez g4 (fun y hy => hlt y (by simp [hy])) w4
 obtain ⟨v5, e5⟩ := jcl (List.take 1 (List.drop 22 cs)) (by rw [List.length_take, List.length_drop, hl]; decide)
 rw [e5] at g5
 obtain ⟨q5, r5, rfl, i5⟩ := DataW.trod_int Tryz.underlying22 g5
 have z5 := wf64 i5
 simp at r5
 obtain ⟨v6, e6⟩ := jcl (List.take 1 (List.drop 23 cs)) (by rw [List.length_take, List.length_drop, hl]; decide)
 rw [e6] at g6
 obtain ⟨d6, r6, rfl, _⟩ := DataW.trod_string Tryz.underlying9 g6
 simp at r6
 have z6 := jdi (s := d6) w6
 obtain ⟨v7, e7⟩ := jcl (List.take 1 (List.drop 24 cs)) (by rw [List.length_take, List.length_drop, hl]; decide)
 rw [e7] at g7
 obtain ⟨q7, r7, rfl, i7⟩ := DataW.trod_int Tryz.underlying22 g7
 have z7 := wf64 i7
 simp at r7
 have f0 := stp cs 0 9 9 rfl
 have f1 := stp cs 9 2 11 rfl
 have f2 := stp cs 11 1 12 rfl
 have f3 := stp cs 12 9 21 rfl
 have f4 := stp cs 21 1 22 rfl
 have f5 := stp cs 22 1 23 rfl
 have f6 := stp cs 23 1 24 rfl
 have f7 := stp cs 24 1 25 rfl
 have hz : List.drop 25 cs = [] := List.drop_of_length_le (by omega)
 have hc : List.drop 0 cs = List.take 9 (List.drop 0 cs) ++ (List.take 2 (List.drop 9 cs) ++ (List.take 1 (List.drop 11 cs) ++ (List.take 9 (List.drop 12 cs) ++ (List.take 1 (List.drop 21 cs) ++ (List.take 1 (List.drop 22 cs) ++ (List.take 1 (List.drop 23 cs) ++ (List.take 1 (List.drop 24 cs) ++ (List.drop 25 cs)))))))) := by
  rw [← f7, ← f6, ← f5, ← f4, ← f3, ← f2, ← f1, ← f0]
 rw [e0, e1, e2, e3, e4, e5, e6, e7, hz] at hc
 rw [List.drop_zero] at hc
 refine ⟨⟨d0, d1, d2, d3, d4, q5.toNat, d6, q7.toNat⟩, ⟨q0, q1, q2, q3, q4⟩, ?_, ⟨ok0, ok3, (by unfold U6; dsimp only; omega), (by unfold U6; dsimp only; omega)⟩, ⟨in0, in1, in2, in3, in4⟩, z0, z1, z2, z3, z4, z6⟩
 rw [hc]
 simp [upV, r5, r6, r7, Int.toNat_of_nonneg z5.1, Int.toNat_of_nonneg z7.1]
theorem st_openW {W : World} {fuel : Nat} {cs : List Value} {x : DataW H × List MemPlace} (h : DataW.trod enc Tryz.prog W 0 (fun _ => true) true fuel 38 cs = some x) (hlt : ∀ y ∈ x.2, y.block < W.heap.size) (hw : WB 38 x.1) :
  ∃ (d : StD) (q : StP), cs = stV d q ∧ d.ok ∧ stIn W.heap.size W d q ∧ szT d := by
 obtain ⟨xs, n, rfl, hx, hl, hxs, hf⟩ := DataW.trod_struct Tryz.underlying38 h
 rw [cSt] at hl
 obtain ⟨y0, y1, y2, y3, y4, y5, y6, y7, y8, rfl⟩ := of_nine xs hxs
 have g0 : DataW.trod enc Tryz.prog W 0 (fun _ => true) true n 29 (List.take (Tryz.prog.cellsOf 29) (List.drop 0 cs)) = some y0 := hf 0 _ rfl
 rw [cLt] at g0
 have g1 : DataW.trod enc Tryz.prog W 0 (fun _ => true) true n 29 (List.take (Tryz.prog.cellsOf 29) (List.drop 9 cs)) = some y1 := hf 1 _ rfl
 rw [cLt] at g1
 have g2 : DataW.trod enc Tryz.prog W 0 (fun _ => true) true n 31 (List.take (Tryz.prog.cellsOf 31) (List.drop 18 cs)) = some y2 := hf 2 _ rfl
 rw [cCm] at g2
 have g3 : DataW.trod enc Tryz.prog W 0 (fun _ => true) true n 31 (List.take (Tryz.prog.cellsOf 31) (List.drop 20 cs)) = some y3 := hf 3 _ rfl
 rw [cCm] at g3
 have g4 : DataW.trod enc Tryz.prog W 0 (fun _ => true) true n 33 (List.take (Tryz.prog.cellsOf 33) (List.drop 22 cs)) = some y4 := hf 4 _ rfl
 rw [cUp] at g4
 have g5 : DataW.trod enc Tryz.prog W 0 (fun _ => true) true n 4 (List.take (Tryz.prog.cellsOf 4) (List.drop 47 cs)) = some y5 := hf 5 _ rfl
 rw [cB8] at g5
 have g6 : DataW.trod enc Tryz.prog W 0 (fun _ => true) true n 3 (List.take (Tryz.prog.cellsOf 3) (List.drop 48 cs)) = some y6 := hf 6 _ rfl
 rw [cI8] at g6
 have g7 : DataW.trod enc Tryz.prog W 0 (fun _ => true) true n 3 (List.take (Tryz.prog.cellsOf 3) (List.drop 49 cs)) = some y7 := hf 7 _ rfl
 rw [cI8] at g7
 have g8 : DataW.trod enc Tryz.prog W 0 (fun _ => true) true n 4 (List.take (Tryz.prog.cellsOf 4) (List.drop 50 cs)) = some y8 := hf 8 _ rfl
 rw [cB8] at g8
 rw [hx] at hlt hw
 unfold WB at hw
 simp only [DataW.weights, Tryz.underlying38] at hw
 have w0 : WB 29 y0.1 := fun n hn => hw n (DataW.weights_mem_each (j := 0) (t := 29) rfl rfl n hn)
 have w1 : WB 29 y1.1 := fun n hn => hw n (DataW.weights_mem_each (j := 1) (t := 29) rfl rfl n hn)
 have w2 : WB 31 y2.1 := fun n hn => hw n (DataW.weights_mem_each (j := 2) (t := 31) rfl rfl n hn)
 have w3 : WB 31 y3.1 := fun n hn => hw n (DataW.weights_mem_each (j := 3) (t := 31) rfl rfl n hn)
 have w4 : WB 33 y4.1 := fun n hn => hw n (DataW.weights_mem_each (j := 4) (t := 33) rfl rfl n hn)
 obtain ⟨d0, q0, e0, ok0, in0, z0⟩ := lt_openW g0 (fun y hy => hlt y (by simp [hy])) w0
 obtain ⟨d1, q1, e1, ok1, in1, z1⟩ := lt_openW g1 (fun y hy => hlt y (by simp [hy])) w1
 obtain ⟨d2, q2, e2, in2, z2⟩ := cm_openW g2 (fun y hy => hlt y (by simp [hy])) w2
 obtain ⟨d3, q3, e3, in3, z3⟩ := cm_openW g3 (fun y hy => hlt y (by simp [hy])) w3
 obtain ⟨d4, q4, e4, ok4, in4, z4⟩ := up_openW g4 (fun y hy => hlt y (by simp [hy])) w4
 obtain ⟨v5, e5⟩ := jcl (List.take 1 (List.drop 47 cs)) (by rw [List.length_take, List.length_drop, hl]; decide)
 rw [e5] at g5
 obtain ⟨q5, r5, rfl⟩ := trod_boolL g5
 simp at r5
 obtain ⟨v6, e6⟩ := jcl (List.take 1 (List.drop 48 cs)) (by rw [List.length_take, List.length_drop, hl]; decide)
 rw [e6] at g6
 obtain ⟨q6, r6, rfl, i6⟩ := DataW.trod_int Tryz.underlying3 g6
 have z6 := wfiI i6
 simp at r6
 obtain ⟨v7, e7⟩ := jcl (List.take 1 (List.drop 49 cs)) (by rw [List.length_take, List.length_drop, hl]; decide)
 rw [e7] at g7
 obtain ⟨q7, r7, rfl, i7⟩ := DataW.trod_int Tryz.underlying3 g7
 have z7 := wfiI i7
 simp at r7
 obtain ⟨v8, e8⟩ := jcl (List.take 1 (List.drop 50 cs)) (by rw [List.length_take, List.length_drop, hl]; decide)
 rw [e8] at g8
 obtain ⟨q8, r8, rfl⟩ := trod_boolL g8
 simp at r8
 have f0 := stp cs 0 9 9 rfl
 have f1 := stp cs 9 9 18 rfl
 have f2 := stp cs 18 2 20 rfl
 have f3 := stp cs 20 2 22 rfl
 have f4 := stp cs 22 25 47 rfl
 have f5 := stp cs 47 1 48 rfl
 have f6 := stp cs 48 1 49 rfl
 have f7 := stp cs 49 1 50 rfl
 have f8 := stp cs 50 1 51 rfl
 have hz : List.drop 51 cs = [] := List.drop_of_length_le (by omega)
 have hc : List.drop 0 cs = List.take 9 (List.drop 0 cs) ++ (List.take 9 (List.drop 9 cs) ++ (List.take 2 (List.drop 18 cs) ++ (List.take 2 (List.drop 20 cs) ++ (List.take 25 (List.drop 22 cs) ++ (List.take 1 (List.drop 47 cs) ++ (List.take 1 (List.drop 48 cs) ++ (List.take 1 (List.drop 49 cs) ++ (List.take 1 (List.drop 50 cs) ++ (List.drop 51 cs))))))))) := by
  rw [← f8, ← f7, ← f6, ← f5, ← f4, ← f3, ← f2, ← f1, ← f0]
 rw [e0, e1, e2, e3, e4, e5, e6, e7, e8, hz] at hc
 rw [List.drop_zero] at hc
 refine ⟨⟨d0, d1, d2, d3, d4, q5, q6, q7, q8⟩, ⟨q0, q1, q2, q3, q4⟩, ?_, ⟨ok0, ok1, ok4, z6, z7⟩, ⟨in0, in1, in2, in3, in4⟩, z0, z1, z2, z3, z4⟩
 rw [hc]
 simp [stV, r5, r6, r7, r8]
theorem open_top {W : World} {b0 : Nat} {t : TypeId} {fs : Array Field} {v : Value} {d : DataW H} {ps : List MemPlace} (ht : Tryz.prog.underlying t = some (.struct fs)) (hval : Value.okWide Tryz.prog W .any b0 t v) (hd : DataW.Trod enc Tryz.prog W 0 (fun _ => true) true t v d ps) :
  ∃ (cs : List Value) (fuel : Nat), v = .agg cs.toArray ∧ DataW.trod enc Tryz.prog W 0 (fun _ => true) true fuel t cs = some (d, ps) := by
 obtain ⟨cs, rfl, hsz⟩ := okWide_struct ht hval
 obtain ⟨fuel, hf⟩ := hd
 refine ⟨cs.toList, fuel, by simp, ?_⟩
 exact hf
end
end Go.Proofs.YtoddangedbefgabGreatDoor
namespace Go.Proofs.YtoddangedbefgabGreatDoor
open Go.RowKit Go.Shelf Go.Sort
def lfV (root : ByteArray) (br : List ByteArray) (leaf : Nat) (state : ByteArray) : Bool := decide (br.length = 3) && chk root br leaf state
theorem isLeaf_any (root : ByteArray) (br : List ByteArray) (q : Pl) (leaf : Nat) (hleaf : leaf < 18446744073709551616) (state : ByteArray) (n : Nat) (w : World) (hl : Laid w) (hn : n ≤ w.heap.size) (hp : slS n w q.a br) :
  Calls Tryz.prog 43 #[.string root, slV br q, .int .u64 (leaf : Int), .string state] w fun e w' => e = .returned (.bool (lfV root br leaf state)) ∧ Below w.heap.size w w' := by
 have KC := check_any root br leaf hleaf state q.a q.c n w hl hn hp
 unfold lfV slV
 obtain ⟨r, hr⟩ : ∃ r, chk root br leaf state = r := ⟨_, rfl⟩
 obtain ⟨N, hN⟩ : ∃ N, br.length = N := ⟨_, rfl⟩
 rw [hr, hN] at KC
 rw [hr, hN]
 clear hr hN hp hn hl
 go_enter Tryz.func43, Tryz.ntmps43
 by_cases h : N = 3
 ·subst h
  go_wp2_with fail
  refine KC.mono ?_
  rintro e w2 ⟨rfl, B2⟩
  have HB : Hid _ := B2
  clear B2 KC
  go_wp2
  go_ret
  exact ⟨by simp, HB.out⟩
 ·have h0 : ((N : Int) == 3) = false := by rw [beq_eq_false_iff_ne]; omega
  go_wp2
  go_ret
  exact ⟨by simp [h], Below.refl _ _⟩
def hdV (d : LtD) : List Value := [.int .u64 (d.s : Int), .int .u64 (d.u : Int), .string d.p, .string d.t, .string d.b]
def hrV (d : LtD) : ByteArray := rtS (hdC d.s d.u d.p d.t d.b) 3
theorem hrootL_any (d : LtD) (w : World) (hl : Laid w) : Calls Tryz.prog 42 #[.agg (hdV d).toArray] w fun e w' => e = .returned (.tuple #[.string (hrV d), .int .i64 (rtE (hdC d.s d.u d.p d.t d.b) 3)]) ∧ Below w.heap.size w w' := hroot_any d.s d.u d.p d.t d.b w hl
theorem rhrootL_any (d : LtD) (w : World) : Calls Tryz.prog 15 #[.agg (hdV d).toArray] w fun e w' => e = .returned (.tuple #[.string (hrV d), .int .i64 (rtE (hdC d.s d.u d.p d.t d.b) 3)]) ∧ Below w.heap.size w w' := rhroot_any d.s d.u d.p d.t d.b w
theorem hcommC_any (d : CmD) (q : Pl) (n : Nat) (w : World) (hl : Laid w) (hn : n ≤ w.heap.size) (hp : slS n w q.a d.ks) : Calls Tryz.prog 40 #[.agg (cmV d q).toArray] w fun e w' => e = .returned (.tuple #[.string (cmS d.ks d.sm), .int .i64 (cmE d.ks d.sm)]) ∧ Below w.heap.size w w' := hcomm_any d.ks q.a q.c d.sm n w hl hn hp
end Go.Proofs.YtoddangedbefgabGreatDoor
namespace Go.Proofs.YtoddangedbefgabGreatDoor
open Go.RowKit Go.Shelf Go.Sort
theorem lgL_sz {d : LtD} (h : szL d) : Lg d.br := lg_sz h.2.2.2.2.2
theorem lgU_sz {d : UpD} (h : szU d) : LgU d := ⟨lgL_sz h.1, lg_sz h.2.1.1, lg_sz h.2.2.1, lgL_sz h.2.2.2.1, lg_sz h.2.2.2.2.1⟩
theorem lgT_sz {d : StD} (h : szT d) : LgT d := ⟨lgL_sz h.1, lgL_sz h.2.1, lg_sz h.2.2.1.1, lg_sz h.2.2.2.1.1, lgU_sz h.2.2.2.2⟩
theorem stIn.up {n m : Nat} {W : World} {d : StD} {q : StP} (h : stIn n W d q) (hm : n ≤ m) : stIn m W d q := ⟨jbi h.1 hm, jbi h.2.1 hm, jbi h.2.2.1 hm, jbi h.2.2.2.1 hm, jbi h.2.2.2.2.1 hm, jbi h.2.2.2.2.2.1 hm, jbi h.2.2.2.2.2.2.1 hm, jbi h.2.2.2.2.2.2.2.1 hm, jbi h.2.2.2.2.2.2.2.2 hm⟩
def flB (d : UpD) (now : Nat) : Bool := decide (d.slot ≤ now) && (decide (d.l.s < d.slot) && decide (d.f.s ≤ d.l.s))
theorem slotsFollow_any (d : UpD) (q : UpP) (now : Nat) (w : World) : Calls Tryz.prog 44 #[.agg (upV d q).toArray, .int .u64 (now : Int)] w fun x w' => x = .returned (.bool (flB d now)) ∧ Below w.heap.size w w' := by
 obtain ⟨L, hL⟩ : ∃ L, (upV d q).toArray = L := ⟨_, rfl⟩
 unfold flB
 obtain ⟨s, hs⟩ : ∃ n, d.slot = n := ⟨_, rfl⟩
 obtain ⟨m, hm⟩ : ∃ n, d.l.s = n := ⟨_, rfl⟩
 obtain ⟨f, hf⟩ : ∃ n, d.f.s = n := ⟨_, rfl⟩
 have h0 : L[0]? = some (.int .u64 (m : Int)) := by rw [← hL, ← hm]; rfl
 have h1 : L[12]? = some (.int .u64 (f : Int)) := by rw [← hL, ← hf]; rfl
 have h2 : L[24]? = some (.int .u64 (s : Int)) := by rw [← hL, ← hs]; rfl
 rw [hL, hs, hm, hf]
 clear hL hs hm hf
 have B1 := (box1 w (.cells L 33)).1
 go_enter Tryz.func44, Tryz.ntmps44
 by_cases h : s ≤ now
 ·have l0 : (s : Int) ≤ now := by omega
  by_cases h9 : m < s
  ·have l1 : (m : Int) < s := by omega
   go_wp2
   go_ret
   exact ⟨by simp_all, B1⟩
  ·have l1 : ¬ (m : Int) < s := by omega
   go_wp2
   go_ret
   exact ⟨by simp_all, B1⟩
 ·have l0 : ¬ (s : Int) ≤ now := by omega
  go_wp2
  go_ret
  exact ⟨by simp_all, B1⟩
def pkB (s : StD) (d : UpD) : Bool := decide (d.slot / 64 = s.fin.s / 64) || (decide (0 < s.nxt.ks.length) && decide (d.slot / 64 = s.fin.s / 64 + 1))
theorem jgs (s : StD) (hs : s.ok) (d : UpD) (hd : d.ok) (p : StP) (q : UpP) (w : World) : Calls Tryz.prog 45 #[.agg (stV s p).toArray, .agg (upV d q).toArray] w fun x w' => x = .returned (.bool (pkB s d)) ∧ Below w.heap.size w w' := by
 have KF := jcj s.fin hs.1.1 p.fin
 have KP := jdx d.slot hd.2.2.2
 have KK := jdk s.nxt p.nxt
 have a0 := jek s p
 have a3 := jfk s p
 have u24 : (upV d q)[24]? = some (.int .u64 (d.slot : Int)) := rfl
 have HL : Hid ((stV s p).length = 51 ∧ (ltV s.fin p.fin).length = 9 ∧ (cmV s.nxt p.nxt).length = 2) := show _ from ⟨rfl, rfl, rfl⟩
 have bd : Hid (s.fin.s / 64 + 1 < 18446744073709551616) := show s.fin.s / 64 + 1 < 18446744073709551616 by have := hs.1.1; unfold U6 at this; omega
 unfold pkB
 obtain ⟨a, ha⟩ : ∃ n, s.fin.s / 64 = n := ⟨_, rfl⟩
 obtain ⟨b, hb⟩ : ∃ n, d.slot / 64 = n := ⟨_, rfl⟩
 obtain ⟨kn, hk⟩ : ∃ n, decide (0 < s.nxt.ks.length) = n := ⟨_, rfl⟩
 rw [ha] at KF bd ⊢
 rw [hb] at KP ⊢
 rw [hk] at KK ⊢
 obtain ⟨LS, hLS⟩ : ∃ L, stV s p = L := ⟨_, rfl⟩
 obtain ⟨LU, hLU⟩ : ∃ L, upV d q = L := ⟨_, rfl⟩
 obtain ⟨XF, hXF⟩ : ∃ L, ltV s.fin p.fin = L := ⟨_, rfl⟩
 obtain ⟨XN, hXN⟩ : ∃ L, cmV s.nxt p.nxt = L := ⟨_, rfl⟩
 rw [hLS] at a0 a3 HL ⊢
 rw [hLU] at u24 ⊢
 rw [hXF] at a0 KF HL
 rw [hXN] at a3 KK HL
 clear hLS hLU hXF hXN ha hb hk hs hd
 obtain ⟨B1, xS, xU, hs⟩ := box2 w (.cells LS.toArray 38) (.cells LU.toArray 33)
 obtain ⟨z, hz⟩ : ∃ z, w.heap.size = z := ⟨_, rfl⟩
 obtain ⟨V, hV⟩ : ∃ V, (w.alloc (.cells LS.toArray 38)).alloc (.cells LU.toArray 33) = V := ⟨_, rfl⟩
 have HZ : Hid (w.heap.size = z) := hz
 rw [hV] at B1 xS xU hs
 rw [hz] at B1 xS xU hs
 have RF := jbl (jac xS 0 XF a0) (by omega)
 have c24 : V.cell? ⟨z + 1, 24, none⟩ = some (.int .u64 (d.slot : Int)) := jaf xU 24 _ u24
 have hzV : z + 1 < V.heap.size := by omega
 have kf := jae (w := V) KF
 have kp := jae (w := V) KP
 go_enter Tryz.func45, Tryz.ntmps45
 go_wp2_with fail
 first | rw [hz] | skip
 first | rw [hV] | skip
 refine wp_region_quiet_below (by kernel_rfl) (by kernel_rfl) ?_
 refine Stp.out ?_
 iterate 1 (refine jag (fun K hK => ?_); go_simp; refine hK _ ?_; clear hK K)
 refine jak (by kernel_rfl) 29 _ rfl _ _ rfl _ _ RF Tryz.underlying29 rfl (by rw [HL.out.2.1]; kernel_rfl) ?_
 refine jag (fun K hK => ?_)
 go_simp
 apply Exists.intro
 refine ⟨fun _ => ?_, hK _ ?_⟩
 exact kf _ _
 clear hK K
 iterate 1 (refine jag (fun K hK => ?_); go_simp; refine hK _ ?_; clear hK K)
 refine jag (fun K hK => ?_)
 go_simp
 apply Exists.intro
 refine ⟨fun r => ?_, hK _ ?_⟩
 ·have cW := ((below_regrown V r.d r.os).cell hzV).trans c24
  rw [cW]
  exact ⟨rfl, rfl⟩
 clear hK K
 refine jag (fun K hK => ?_)
 go_simp
 apply Exists.intro
 refine ⟨fun _ => ?_, hK _ ?_⟩
 exact kp _ _
 clear hK K
 iterate 2 (refine jag (fun K hK => ?_); go_simp; refine hK _ ?_; clear hK K)
 refine ⟨wpQuiet_nil ?_⟩
 intro w2 hw2
 have cB2 : Below V.heap.size V w2 := by
  obtain ⟨p, rfl⟩ := hw2
  exact below_regrown _ _ _
 have B2 : Below z w w2 := by
  obtain ⟨p, rfl⟩ := hw2
  exact jaa B1 (by have := B1.size; omega) (below_regrown V p.d p.os)
 clear hw2
 have xS2 := (cB2.block z (by omega)).trans xS
 have RN := jac xS2 20 XN a3
 have hz2 : z ≤ w2.heap.size := by have := cB2.size; omega
 have HB : Hid (_ ∧ _) := ⟨B2, hz2⟩
 clear RF c24 kf kp xS xU B1 cB2 B2 hz2 hz hV KF KP u24 a0 a3 xS2 hzV hs
 have we : IntKind.u64.wrap ((a : Int) + 1) = (a : Int) + 1 := by have := bd.out; rw [IntKind.wrap_u64]; omega
 by_cases hab : b = a
 ·have l0 : ((b : Int) == (a : Int)) = true := by rw [hab]; exact beq_self_eq_true _
  go_wp2
  go_ret
  exact ⟨by simp [hab], by rw [HZ.out]; exact HB.out.1⟩
 ·have l0 : ((b : Int) == (a : Int)) = false := by rw [beq_eq_false_iff_ne]; omega
  go_wp2_with (first | (refine wpList_load_mid rfl 31 _ rfl z 20 rfl _ _ RN Tryz.underlying31 rfl (by rw [HL.out.2.2]; kernel_rfl) ?_) | (refine jab (by rfl) 31 _ rfl z 20 rfl _ _ RN Tryz.underlying31 rfl (by rw [HL.out.2.2]; kernel_rfl) ?_))
  refine (KK _).mono ?_
  rintro e w3 ⟨rfl, C⟩
  have HB : Hid _ := jaa HB.out.1 HB.out.2 C
  clear C RN KK
  cases kn with
  | false =>
   go_wp2
   go_ret
   exact ⟨by simp_all, by rw [HZ.out]; exact HB.out⟩
  | true =>
   by_cases h1 : b = a + 1
   ·have l1 : ((b : Int) == (a : Int) + 1) = true := by rw [h1]; exact beq_self_eq_true _
    go_wp2
    go_ret
    exact ⟨by simp_all, by rw [HZ.out]; exact HB.out⟩
   ·have l1 : ((b : Int) == (a : Int) + 1) = false := by rw [beq_eq_false_iff_ne]; omega
    go_wp2
    go_ret
    exact ⟨by simp_all, by rw [HZ.out]; exact HB.out⟩
def nwB (s : StD) (d : UpD) : Bool := decide (s.fin.s < d.l.s) || (!decide (0 < s.nxt.ks.length) && (hnB d && decide (d.l.s / 64 = s.fin.s / 64)))
theorem isNew_any (s : StD) (hs : s.ok) (d : UpD) (hd : d.ok) (p : StP) (q : UpP) (w : World) : Calls Tryz.prog 46 #[.agg (stV s p).toArray, .agg (upV d q).toArray] w fun x w' => x = .returned (.bool (nwB s d)) ∧ Below w.heap.size w w' := by
 have KA := jdl d.l s.fin q.l p.fin
 have KS := jcx d.l s.fin hd.1.1 hs.1.1 q.l p.fin
 have KK := jdk s.nxt p.nxt
 have KH := jeg d q
 have a0 := jek s p
 have a3 := jfk s p
 have u0 := upV_l d q
 have HL : Hid ((stV s p).length = 51 ∧ (ltV s.fin p.fin).length = 9 ∧ (cmV s.nxt p.nxt).length = 2 ∧ (upV d q).length = 25 ∧ (ltV d.l q.l).length = 9) := show _ from ⟨rfl, rfl, rfl, rfl, rfl⟩
 unfold nwB
 obtain ⟨ab, ha⟩ : ∃ n, decide (s.fin.s < d.l.s) = n := ⟨_, rfl⟩
 obtain ⟨sp, hb⟩ : ∃ n, decide (d.l.s / 64 = s.fin.s / 64) = n := ⟨_, rfl⟩
 obtain ⟨kn, hk⟩ : ∃ n, decide (0 < s.nxt.ks.length) = n := ⟨_, rfl⟩
 obtain ⟨hn, hh⟩ : ∃ n, hnB d = n := ⟨_, rfl⟩
 rw [ha] at KA ⊢
 rw [hb] at KS ⊢
 rw [hk] at KK ⊢
 rw [hh] at KH ⊢
 obtain ⟨LS, hLS⟩ : ∃ L, stV s p = L := ⟨_, rfl⟩
 obtain ⟨LU, hLU⟩ : ∃ L, upV d q = L := ⟨_, rfl⟩
 obtain ⟨XF, hXF⟩ : ∃ L, ltV s.fin p.fin = L := ⟨_, rfl⟩
 obtain ⟨XN, hXN⟩ : ∃ L, cmV s.nxt p.nxt = L := ⟨_, rfl⟩
 obtain ⟨XL, hXL⟩ : ∃ L, ltV d.l q.l = L := ⟨_, rfl⟩
 rw [hLS] at a0 a3 HL ⊢
 rw [hLU] at u0 HL KH ⊢
 rw [hXF] at a0 HL KA KS
 rw [hXN] at a3 KK HL
 rw [hXL] at u0 KA KS HL
 clear hLS hLU hXF hXN hXL ha hb hk hs hd hh
 obtain ⟨B1, xS, xU, hs⟩ := box2 w (.cells LS.toArray 38) (.cells LU.toArray 33)
 obtain ⟨z, hz⟩ : ∃ z, w.heap.size = z := ⟨_, rfl⟩
 have HZ : Hid (w.heap.size = z) := hz
 rw [hz] at B1 xS xU hs
 have RF := jac xS 0 XF a0
 have RL := jac xU 0 XL u0
 go_enter Tryz.func46, Tryz.ntmps46
 go_wp2_with (first | (refine jab (by kernel_rfl) 29 _ rfl z 0 rfl _ _ RF Tryz.underlying29 rfl (by rw [HL.out.2.1]; kernel_rfl) ?_) | (refine jab (by kernel_rfl) 29 _ rfl (z + 1) 0 rfl _ _ RL Tryz.underlying29 rfl (by rw [HL.out.2.2.2.2]; kernel_rfl) ?_))
 refine (KA _).mono ?_
 rintro e V1 ⟨rfl, C⟩
 have xS1 : Bq z 38 LS.toArray V1 := (C.block z (by omega)).trans xS
 have xU1 : Bq (z + 1) 33 LU.toArray V1 := (C.block (z + 1) (by omega)).trans xU
 have BV1 := jaa B1 (by omega) C
 have s1 : z + 2 ≤ V1.heap.size := by have := C.size; omega
 have RN := jac xS1 20 XN a3
 have HB : Hid (Below z w V1) := BV1
 clear C KA RF RL xS xU hs B1 hz
 cases ab with
 | true =>
  clear RN BV1 xS1 xU1 s1
  go_wp2
  go_ret
  exact ⟨by simp_all, by rw [HZ.out]; exact HB.out⟩
 | false =>
  go_wp2_with (refine jab (by kernel_rfl) 31 _ rfl z 20 rfl _ _ RN Tryz.underlying31 rfl (by rw [HL.out.2.2.1]; kernel_rfl) ?_)
  refine (KK _).mono ?_
  rintro e V2 ⟨rfl, C⟩
  have xS2 : Bq z 38 LS.toArray V2 := (C.block z (by omega)).trans xS1
  have xU2 : Bq (z + 1) 33 LU.toArray V2 := (C.block (z + 1) (by omega)).trans xU1
  have BV2 := jaa BV1 (by omega) C
  have s2 : z + 2 ≤ V2.heap.size := by have := C.size; omega
  have RU := jal xU2
  have HB : Hid (Below z w V2) := BV2
  clear C KK RN xS1 xU1 BV1 s1
  cases kn with
  | true =>
   clear RU BV2 xS2 xU2 s2
   go_wp2
   go_ret
   exact ⟨by simp_all, by rw [HZ.out]; exact HB.out⟩
  | false =>
   go_wp2_with (refine jab (by kernel_rfl) 33 _ rfl (z + 1) 0 rfl _ _ RU Tryz.underlying33 rfl (by rw [HL.out.2.2.2.1]; kernel_rfl) ?_)
   refine (KH _).mono ?_
   rintro e V3 ⟨rfl, C⟩
   have xS3 : Bq z 38 LS.toArray V3 := (C.block z (by omega)).trans xS2
   have xU3 : Bq (z + 1) 33 LU.toArray V3 := (C.block (z + 1) (by omega)).trans xU2
   have BV3 := jaa BV2 (by omega) C
   have s3 : z + 2 ≤ V3.heap.size := by have := C.size; omega
   have RF := jac xS3 0 XF a0
   have RL := jac xU3 0 XL u0
   have HB : Hid (Below z w V3) := BV3
   clear C KH RU xS2 xU2 BV2 s2
   cases hn with
   | false =>
    clear RF RL BV3 xS3 xU3 s3
    go_wp2
    go_ret
    exact ⟨by simp_all, by rw [HZ.out]; exact HB.out⟩
   | true =>
    go_wp2_with (first | (refine jab (by kernel_rfl) 29 _ rfl z 0 rfl _ _ RF Tryz.underlying29 rfl (by rw [HL.out.2.1]; kernel_rfl) ?_) | (refine jab (by kernel_rfl) 29 _ rfl (z + 1) 0 rfl _ _ RL Tryz.underlying29 rfl (by rw [HL.out.2.2.2.2]; kernel_rfl) ?_))
    refine (KS _).mono ?_
    rintro e V4 ⟨rfl, C⟩
    have xS4 : Bq z 38 LS.toArray V4 := (C.block z (by omega)).trans xS3
    have xU4 : Bq (z + 1) 33 LU.toArray V4 := (C.block (z + 1) (by omega)).trans xU3
    have BV4 := jaa BV3 (by omega) C
    have s4 : z + 2 ≤ V4.heap.size := by have := C.size; omega
    have HB : Hid (Below z w V4) := BV4
    clear C KS RF RL xS3 xU3 BV3 s3
    clear BV4 xS4 xU4 s4
    go_wp2
    go_ret
    exact ⟨by simp_all, by rw [HZ.out]; exact HB.out⟩
def cfE (d : UpD) : Int := if (!fnB d) = true then 0 else if (!ltHo d.f) = true then 130 else if (!lfV (hrV d.f) d.fb 3 d.l.t) = true then 145 else 0
theorem upV_fh (d : UpD) (q : UpP) (j : Nat) (v : Value) (h : (hdV d.f)[j]? = some v) : (upV d q)[12 + j]? = some v := upV_f d q j v (by
 have h5 : j < 5 := (List.getElem?_eq_some_iff.1 h).1
 match j, h5, h with
 | 0, _, h => exact h
 | 1, _, h => exact h
 | 2, _, h => exact h
 | 3, _, h => exact h
 | 4, _, h => exact h)
theorem checkFinal_any (d : UpD) (q : UpP) (n : Nat) (w : World) (hl : Laid w) (hn : n ≤ w.heap.size) (hp : upIn n w d q) : Calls Tryz.prog 47 #[.agg (upV d q).toArray] w fun x w' => x = .returned (.int .i64 (cfE d)) ∧ Below w.heap.size w w' := by
 have KF := jfp d q
 have KR := fun (W : World) (hB : Below w.heap.size w W) => hrootL_any d.f W (hl.below hB)
 have KH := fun (W : World) (hB : Below w.heap.size w W) (hs : w.heap.size ≤ W.heap.size) => jgx d.f q.f n W (hl.below hB) (Nat.le_trans hn hs) (jan (hB.mono hn) hp.2.2.2.1)
 have KL := fun (W : World) (hB : Below w.heap.size w W) (hs : w.heap.size ≤ W.heap.size) => isLeaf_any (hrV d.f) d.fb q.fb 3 (by omega) d.l.t n W (hl.below hB) (Nat.le_trans hn hs) (jan (hB.mono hn) hp.2.2.2.2)
 have hE : cfE d = if (!fnB d) = true then 0 else if (!ltHo d.f) = true then 130 else if (!lfV (hrV d.f) d.fb 3 d.l.t) = true then 145 else 0 := rfl
 have u12 := upV_f d q
 have uh := upV_fh d q
 have u21 : (upV d q)[21]? = some (slV d.fb q.fb) := rfl
 have u3 : (upV d q)[3]? = some (.string d.l.t) := rfl
 have HL : Hid ((upV d q).length = 25 ∧ (ltV d.f q.f).length = 9 ∧ (hdV d.f).length = 5) := show _ from ⟨rfl, rfl, rfl⟩
 obtain ⟨fn, hf⟩ : ∃ n, fnB d = n := ⟨_, rfl⟩
 obtain ⟨ho, hh⟩ : ∃ n, ltHo d.f = n := ⟨_, rfl⟩
 obtain ⟨hr, hr0⟩ : ∃ n, hrV d.f = n := ⟨_, rfl⟩
 obtain ⟨re, hre⟩ : ∃ x, rtE (hdC (d.f.s : Int) (d.f.u : Int) d.f.p d.f.t d.f.b) 3 = x := ⟨_, rfl⟩
 rw [hr0] at KL hE
 obtain ⟨lf, hlf⟩ : ∃ n, lfV hr d.fb 3 d.l.t = n := ⟨_, rfl⟩
 rw [hf] at KF hE
 rw [hh] at KH hE
 rw [hr0, hre] at KR
 rw [hlf] at KL hE
 obtain ⟨LU, hLU⟩ : ∃ L, upV d q = L := ⟨_, rfl⟩
 obtain ⟨XF, hXF⟩ : ∃ L, ltV d.f q.f = L := ⟨_, rfl⟩
 obtain ⟨XH, hXH⟩ : ∃ L, hdV d.f = L := ⟨_, rfl⟩
 rw [hLU] at u12 uh u21 u3 HL KF ⊢
 rw [hXF] at u12 HL KH
 rw [hXH] at uh KR HL
 have HE : Hid _ := hE
 clear hLU hXF hXH hf hh hr0 hre hlf hE hp hn hl
 obtain ⟨B1, xU, hs⟩ := box1 w (.cells LU.toArray 33)
 obtain ⟨z, hz⟩ : ∃ z, w.heap.size = z := ⟨_, rfl⟩
 have HZ : Hid (w.heap.size = z) := hz
 rw [hz] at B1 xU hs KR KH KL
 have RU := jal xU
 go_enter Tryz.func47, Tryz.ntmps47
 go_wp2_with (refine jab (by kernel_rfl) 33 _ rfl z 0 rfl _ _ RU Tryz.underlying33 rfl (by rw [HL.out.1]; kernel_rfl) ?_)
 refine (KF _).mono ?_
 rintro e V1 ⟨rfl, C⟩
 have xU1 : Bq z 33 LU.toArray V1 := (C.block z (by omega)).trans xU
 have BV1 := jaa B1 (by omega) C
 have s1 : z + 1 ≤ V1.heap.size := by have := C.size; omega
 have RH := jac xU1 12 XH uh
 have HB : Hid (Below z w V1) := BV1
 clear C KF RU xU hs B1 hz
 cases fn with
 | false =>
  clear RH BV1 xU1 s1
  go_wp2
  have hE : cfE d = 0 := by rw [HE.out]; rfl
  rw [hE]
  go_ret
  exact ⟨by simp, by rw [HZ.out]; exact HB.out⟩
 | true =>
  go_wp2_with (first | (refine wpList_load_mid rfl 24 _ rfl z 12 rfl _ _ RH Tryz.underlying24 rfl (by rw [HL.out.2.2]; kernel_rfl) ?_) | (refine jab (by kernel_rfl) 24 _ rfl z 12 rfl _ _ RH Tryz.underlying24 rfl (by rw [HL.out.2.2]; kernel_rfl) ?_))
  refine (KR _ BV1).mono ?_
  rintro e V2 ⟨rfl, C⟩
  have xU2 : Bq z 33 LU.toArray V2 := (C.block z (by omega)).trans xU1
  have BV2 := jaa BV1 (by omega) C
  have s2 : z + 1 ≤ V2.heap.size := by have := C.size; omega
  have RF := jac xU2 12 XF u12
  have HB : Hid (Below z w V2) := BV2
  clear C KR RH xU1 BV1 s1
  go_wp2_with (first | (refine wpList_load_mid rfl 29 _ rfl z 12 rfl _ _ RF Tryz.underlying29 rfl (by rw [HL.out.2.1]; kernel_rfl) ?_) | (refine jab (by kernel_rfl) 29 _ rfl z 12 rfl _ _ RF Tryz.underlying29 rfl (by rw [HL.out.2.1]; kernel_rfl) ?_))
  refine (KH _ BV2 (by omega)).mono ?_
  rintro e V3 ⟨rfl, C⟩
  have xU3 : Bq z 33 LU.toArray V3 := (C.block z (by omega)).trans xU2
  have BV3 := jaa BV2 (by omega) C
  have s3 : z + 1 ≤ V3.heap.size := by have := C.size; omega
  have c3 : V3.cell? ⟨z, 3, none⟩ = some (.string d.l.t) := jaf xU3 3 _ u3
  have c21 : V3.cell? ⟨z, 21, none⟩ = some (slV d.fb q.fb) := jaf xU3 21 _ u21
  have HB : Hid (Below z w V3) := BV3
  clear C KH RF xU2 BV2 s2
  cases ho with
  | false =>
   clear BV3 xU3 s3 c3 c21
   go_wp2
   have hE : cfE d = 130 := by rw [HE.out]; rfl
   rw [hE]
   go_ret
   exact ⟨by simp, by rw [HZ.out]; exact HB.out⟩
  | true =>
   go_wp2_with fail
   refine (KL _ BV3 (by omega)).mono ?_
   rintro e V4 ⟨rfl, C⟩
   have xU4 : Bq z 33 LU.toArray V4 := (C.block z (by omega)).trans xU3
   have BV4 := jaa BV3 (by omega) C
   have s4 : z + 1 ≤ V4.heap.size := by have := C.size; omega
   have HB : Hid (Below z w V4) := BV4
   clear C KL xU3 BV3 s3 c3 c21
   cases lf with
   | false =>
    clear BV4 xU4 s4
    go_wp2
    have hE : cfE d = 145 := by rw [HE.out]; rfl
    rw [hE]
    go_ret
    exact ⟨by simp, by rw [HZ.out]; exact HB.out⟩
   | true =>
    clear BV4 xU4 s4
    go_wp2
    have hE : cfE d = 0 := by rw [HE.out]; rfl
    rw [hE]
    go_ret
    exact ⟨by simp, by rw [HZ.out]; exact HB.out⟩
theorem equalTx_any (xs ys : List ByteArray) (hx : xs.length < 1000000000000000000) (hy : ys.length < 1000000000000000000) (a a' : Option Addr) (c c' n : Nat) (w : World) (hn : n ≤ w.heap.size) (h1 : slS n w a xs) (h2 : slS n w a' ys) :
  Calls Tryz.prog 118 #[.slice a xs.length c, .slice a' ys.length c'] w fun e w' => e = .returned (.bool (decide (xs = ys))) ∧ Below w.heap.size w w' := by
 obtain ⟨N, hN⟩ : ∃ N, xs.length = N := ⟨_, rfl⟩
 obtain ⟨M, hM⟩ : ∃ M, ys.length = M := ⟨_, rfl⟩
 have HN : Hid (xs.length = N ∧ ys.length = M) := ⟨hN, hM⟩
 rw [hN] at hx ⊢
 rw [hM] at hy ⊢
 clear hN hM
 by_cases hne : N = M
 ·subst hne
  obtain ⟨q, hq⟩ : ∃ q, decide (xs = ys) = q := ⟨_, rfl⟩
  have HQ : Hid _ := hq
  rw [hq]
  clear hq
  obtain ⟨z, hz⟩ : ∃ z, w.heap.size = z := ⟨_, rfl⟩
  rw [hz] at hn ⊢
  have B0 : Below z w w := by rw [← hz]; exact Below.refl _ _
  have HZ : Hid _ := hz
  clear hz
  go_enter Tryz.func118, Tryz.ntmps118
  go_wp2_with fail
  go_loopg [13] N (fun gk i wr => ∃ k : Nat, k + gk = N ∧ i = .int .i64 k ∧ Hid (∀ j, j < k → xs[j]? = ys[j]?) ∧ Below z w wr)
  case atStart => exact ⟨0, by omega, rfl, (fun j h => by omega), B0⟩
  case round =>
   obtain ⟨k, hk, rfl, hA, BW⟩ := hrel
   have hwz : z ≤ wr.heap.size := by have := BW.size; have := HZ.out; omega
   by_cases hlt : k < N
   ·have l1 : (k : Int) < N := by omega
    obtain ⟨f, hf⟩ : ∃ f, xs[k]? = some f := ⟨xs[k]'(by have := HN.out; omega), List.getElem?_eq_getElem (by have := HN.out; omega)⟩
    obtain ⟨g, hg⟩ : ∃ f, ys[k]? = some f := ⟨ys[k]'(by have := HN.out; omega), List.getElem?_eq_getElem (by have := HN.out; omega)⟩
    obtain ⟨b, o, rfl, hb, c0⟩ := jci h1 k f hf
    obtain ⟨b', o', rfl, hb', c1⟩ := jci h2 k g hg
    have hbv : b < wr.heap.size := by omega
    have hbv' : b' < wr.heap.size := by omega
    replace c0 := (BW.cell (p := ⟨b, _, none⟩) (by show b < z; omega)).trans c0
    replace c1 := (BW.cell (p := ⟨b', _, none⟩) (by show b' < z; omega)).trans c1
    obtain ⟨r, hr⟩ : ∃ p, o + k = p := ⟨_, rfl⟩
    obtain ⟨r', hr'⟩ : ∃ p, o' + k = p := ⟨_, rfl⟩
    rw [hr] at c0
    rw [hr'] at c1
    have q0 : ∀ d os, (grow (redrawn wr d) os).cell? ⟨b, r, none⟩ = some (.string f) := fun d os => ((below_regrown wr d os).cell (p := ⟨b, r, none⟩) hbv).trans c0
    have q1 : ∀ d os, (grow (redrawn wr d) os).cell? ⟨b', r', none⟩ = some (.string g) := fun d os => ((below_regrown wr d os).cell (p := ⟨b', r', none⟩) hbv').trans c1
    have wk : IntKind.i64.wrap ((k : Int) + 1) = ((k + 1 : Nat) : Int) := by rw [IntKind.wrap_i64]; omega
    clear c0 c1
    by_cases hsame : f = g
    ·have hs : (f.toList == g.toList) = true := by rw [hsame]; exact beq_self_eq_true _
     have HG : Hid (xs[k]? = ys[k]?) := (show xs[k]? = ys[k]? by rw [hf, hg, hsame])
     clear hsame hg hf
     go_wp2_with fail
     refine wp_region_quiet_below (by kernel_rfl) (by kernel_rfl) ?_
     repeat (quiet_step (fail))
     refine wpQuiet_nil ?_
     intro w8 hw8
     have B8 : Below wr.heap.size wr w8 := by
      obtain ⟨p, rfl⟩ := hw8
      exact below_regrown _ _ _
     have BW8 := jaa BW hwz B8
     clear hw8 q0 q1
     go_wp2
     go_roundg (gk - 1)
     case measure => omega
     case rel =>
      refine ⟨k + 1, by omega, by first | rfl | (congr 1; omega), ?_, BW8⟩
      intro j hj
      by_cases e : j = k
      ·subst e
       exact HG.out
      ·exact hA.out j (by omega)
    ·have hs : (f.toList == g.toList) = false := by rw [beq_eq_false_iff_ne]; exact fun e => hsame (toList_inj e)
     have hqf : q = false := by
      rw [← HQ.out]
      refine decide_eq_false fun e => hsame ?_
      rw [e, hg] at hf
      exact (Option.some.inj hf).symm
     have HG : Hid (q = false) := hqf
     clear hqf
     clear hsame hg hf
     go_wp2_with fail
     refine wp_region_quiet_below (by kernel_rfl) (by kernel_rfl) ?_
     repeat (quiet_step (fail))
     refine wpQuiet_nil ?_
     intro w8 hw8
     have B8 : Below wr.heap.size wr w8 := by
      obtain ⟨p, rfl⟩ := hw8
      exact below_regrown _ _ _
     have BW8 := jaa BW hwz B8
     clear hw8 q0 q1
     go_wp2
     go_ret
     exact ⟨by rw [HG.out]; rfl, BW8⟩
   ·have l1 : ¬ (k : Int) < N := by omega
    have hqf : q = true := by
     rw [← HQ.out]
     refine decide_eq_true (List.ext_getElem? fun j => ?_)
     by_cases hj : j < k
     ·exact hA.out j hj
     ·have := HN.out
      rw [List.getElem?_eq_none (by omega), List.getElem?_eq_none (by omega)]
    have HG : Hid (q = true) := hqf
    clear hqf
    go_wp2
    go_ret
    exact ⟨by rw [HG.out]; rfl, BW⟩
 ·have hd : decide (xs = ys) = false := by
   refine decide_eq_false fun e => hne ?_
   have := congrArg List.length e
   have := HN.out
   omega
  rw [hd]
  have hb : ((N : Int) == M) = false := by rw [beq_eq_false_iff_ne]; omega
  go_enter Tryz.func118, Tryz.ntmps118
  go_wp2
  go_ret
  exact ⟨rfl, Below.refl _ _⟩
end Go.Proofs.YtoddangedbefgabGreatDoor
