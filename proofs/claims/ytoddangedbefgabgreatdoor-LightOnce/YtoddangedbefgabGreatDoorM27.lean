/- Lemmas: Lights, committees, Boots, messages, stores that a law gets, opened: what they hold, where their lists lie, and that no part is greater than memory. No condition. A store and a message, part by part; what taking over makes of a store: pure. No condition. -/
import Derived.Test.YtoddangedbefgabGreatDoorM1
import Derived.Test.YtoddangedbefgabGreatDoorM10
import Derived.Test.YtoddangedbefgabGreatDoorM11
import Derived.Test.YtoddangedbefgabGreatDoorM12
import Derived.Test.YtoddangedbefgabGreatDoorM13
import Derived.Test.YtoddangedbefgabGreatDoorM14
import Derived.Test.YtoddangedbefgabGreatDoorM15
import Derived.Test.YtoddangedbefgabGreatDoorM16
import Derived.Test.YtoddangedbefgabGreatDoorM17
import Derived.Test.YtoddangedbefgabGreatDoorM18
import Derived.Test.YtoddangedbefgabGreatDoorM19
import Derived.Test.YtoddangedbefgabGreatDoorM2
import Derived.Test.YtoddangedbefgabGreatDoorM20
import Derived.Test.YtoddangedbefgabGreatDoorM21
import Derived.Test.YtoddangedbefgabGreatDoorM22
import Derived.Test.YtoddangedbefgabGreatDoorM23
import Derived.Test.YtoddangedbefgabGreatDoorM24
import Derived.Test.YtoddangedbefgabGreatDoorM25
import Derived.Test.YtoddangedbefgabGreatDoorM26
import Derived.Test.YtoddangedbefgabGreatDoorM3
import Derived.Test.YtoddangedbefgabGreatDoorM4
import Derived.Test.YtoddangedbefgabGreatDoorM5
import Derived.Test.YtoddangedbefgabGreatDoorM6
import Derived.Test.YtoddangedbefgabGreatDoorM7
import Derived.Test.YtoddangedbefgabGreatDoorM8
import Derived.Test.YtoddangedbefgabGreatDoorM9
import Derived.Test.YtoddangedbefgabGreatDoorRows
import Derived.ChangeArms
import Derived.ChangeMaps5
import Derived.ChangeSame
import Derived.JoinedCond
import Derived.OpenShut
import Derived.ProofKit
import Derived.SizedLaws
namespace Go.Proofs.YtoddangedbefgabGreatDoor
open Go.ChangeShapes Go.WideShapes Go.ChangeAt Go.RowKit

structure BtD where
 l : LtD
 c : CmD
 br : List ByteArray
structure BtP where
 l : Pl
 c : Pl
 br : Pl
def btV (d : BtD) (q : BtP) : List Value := ltV d.l q.l ++ cmV d.c q.c ++ [slV d.br q.br]
def btIn (n : Nat) (W : World) (d : BtD) (q : BtP) : Prop := slS n W q.l.a d.l.br ∧ slS n W q.c.a d.c.ks ∧ slS n W q.br.a d.br
def szB (d : BtD) : Prop := szL d.l ∧ szC d.c ∧ szS d.br
def BtD.ok (d : BtD) : Prop := d.l.ok
def StD.ok (d : StD) : Prop := d.fin.ok ∧ d.new.ok ∧ d.best.ok ∧ (-9223372036854775808 ≤ d.last ∧ d.last < 9223372036854775808) ∧ (-9223372036854775808 ≤ d.this ∧ d.this < 9223372036854775808)
theorem wfiI {n : Int} (h : (Lit.int .i64 n).wf = true) : -9223372036854775808 ≤ n ∧ n < 9223372036854775808 := by
 simp [Lit.wf, IntKind.min, IntKind.max] at h
 have h1 := h.1
 have h2 := h.2
 simp [IntKind.bits, IntKind.signed] at h1 h2
 omega
theorem bytes_str : Tryz.prog.bytesOf 9 = 16 := by kernel_rfl
section
variable {H : Type} {enc : TypeId × Value → H}
def WB (t : TypeId) (x : DataW H) : Prop := ∀ n ∈ x.weights Tryz.prog t, n ≤ reachBytes
theorem strs_weight {e : TypeId} : ∀ (ys : List ByteArray) (x : ByteArray), x ∈ ys → x.data.toList.length ∈ DataW.weightsAll Tryz.prog e (strs (H := H) ys)
 | [], _, hx => by cases hx
 | y :: ys, x, hx => by
  have e4 : strs (H := H) (y :: ys) = .lit (.string y.data.toList) :: strs ys := rfl
  rw [e4]
  simp only [DataW.weightsAll, DataW.weights, List.mem_append]
  rcases List.mem_cons.1 hx with rfl | h
  ·exact Or.inl (by simp)
  ·exact Or.inr (strs_weight ys x h)
theorem strs_len : ∀ ys : List ByteArray, (strs (H := H) ys).length = ys.length
 | [] => rfl
 | y :: ys => by
  have e4 : strs (H := H) (y :: ys) = .lit (.string y.data.toList) :: strs ys := rfl
  rw [e4, List.length_cons, strs_len ys, List.length_cons]
theorem open_strsW {W : World} {fuel : Nat} {v : Value} {x : DataW H × List MemPlace} (h : DataW.trod enc Tryz.prog W 0 (fun _ => true) true fuel 27 [v] = some x) (hlt : ∀ y ∈ x.2, y.block < W.heap.size) (hw : WB 27 x.1) :
  ∃ (q : Pl) (es : List ByteArray), v = slV es q ∧ slS W.heap.size W q.a es ∧ szS es := by
 rcases open_strings Tryz.underlying27 Tryz.underlying9 cellsSt8 h with ⟨hcs, hx⟩ | ⟨a', len', cap', ss, hcs, _, hle, hm, hz, hx, hcell, hws⟩
 ·injection hcs with hcs _
  exact ⟨⟨none, 0⟩, [], hcs, .inl rfl, by simp, fun x hx => by cases hx⟩
 ·injection hcs with hcs _
  rw [if_pos rfl] at hz
  unfold maxLen at hm
  have hll : (ss.take len').length = len' := by rw [List.length_take]; omega
  refine ⟨⟨some a', cap'⟩, ss.take len', by unfold slV; rw [hll]; exact hcs, ?_, ?_⟩
  ·by_cases h0 : len' = 0
   ·subst h0
    exact .inl rfl
   ·obtain ⟨b, off, spot⟩ := a'
    have hspot : spot = none := by simpa [Addr.add] using World.cell?_spot (hcell 0 (by omega))
    subst hspot
    have hbl : b < W.heap.size := by
     have h2 := hlt (.cell b off) (by rw [hx]; exact MemPlace.mem_row.2 ⟨0, by omega, by simp⟩)
     exact h2
    refine .inr ⟨b, off, rfl, hbl, fun j y hy => ?_⟩
    rw [List.getElem?_take] at hy
    split at hy
    ·have h2 := hcell j (by omega)
     rw [add_plain] at h2
     rw [h2, List.getD_eq_getElem?_getD, hy]
     rfl
    ·cases hy
  ·rw [hx] at hw
   unfold WB at hw
   simp only [DataW.weights, Tryz.underlying27] at hw
   have w0 := hw _ (List.mem_cons_self ..)
   rw [strs_len, strs_len, bytes_str] at w0
   have hr : reachBytes = 140737488351232 := rfl
   refine ⟨by omega, fun x hx => ?_⟩
   have w1 := hw _ (List.mem_cons_of_mem _ (List.mem_append_left _ (strs_weight _ x hx)))
   have h3 : x.data.toList.length = x.size := by simp
   omega
theorem cU8 : Tryz.prog.cellsOf 22 = 1 := by kernel_rfl
theorem cS8 : Tryz.prog.cellsOf 9 = 1 := by kernel_rfl
theorem cL8 : Tryz.prog.cellsOf 27 = 1 := by kernel_rfl
theorem cHd : Tryz.prog.cellsOf 24 = 5 := by kernel_rfl
theorem cEx : Tryz.prog.cellsOf 26 = 3 := by kernel_rfl
theorem cLt : Tryz.prog.cellsOf 29 = 9 := by kernel_rfl
theorem cCm : Tryz.prog.cellsOf 31 = 2 := by kernel_rfl
theorem cBt : Tryz.prog.cellsOf 52 = 12 := by kernel_rfl
theorem cUp : Tryz.prog.cellsOf 33 = 25 := by kernel_rfl
theorem one_of {α : Type} (l : List α) (h : l.length = 1) : ∃ a, l = [a] := by
 match l, h with
 | [a], _ => exact ⟨a, rfl⟩
theorem of_two {α : Type} (l : List α) (h : l.length = 2) : ∃ a b, l = [a, b] := by
 match l, h with
 | [a, b], _ => exact ⟨a, b, rfl⟩
theorem of_three {α : Type} (l : List α) (h : l.length = 3) : ∃ a b c, l = [a, b, c] := by
 match l, h with
 | [a, b, c], _ => exact ⟨a, b, c, rfl⟩
theorem of_five {α : Type} (l : List α) (h : l.length = 5) : ∃ a b c d e, l = [a, b, c, d, e] := by
 match l, h with
 | [a, b, c, d, e], _ => exact ⟨a, b, c, d, e, rfl⟩
theorem cSt : Tryz.prog.cellsOf 38 = 51 := by kernel_rfl
theorem cB8 : Tryz.prog.cellsOf 4 = 1 := by kernel_rfl
theorem cI8 : Tryz.prog.cellsOf 3 = 1 := by kernel_rfl
theorem of_nine {α : Type} (l : List α) (h : l.length = 9) : ∃ a b c d e f g i j, l = [a, b, c, d, e, f, g, i, j] := by
 match l, h with
 | [a, b, c, d, e, f, g, i, j], _ => exact ⟨a, b, c, d, e, f, g, i, j, rfl⟩
theorem of_eight {α : Type} (l : List α) (h : l.length = 8) : ∃ a b c d e f g i, l = [a, b, c, d, e, f, g, i] := by
 match l, h with
 | [a, b, c, d, e, f, g, i], _ => exact ⟨a, b, c, d, e, f, g, i, rfl⟩
theorem stp {α : Type} (cs : List α) (o k m : Nat) (h : o + k = m) : List.drop o cs = List.take k (List.drop o cs) ++ List.drop m cs := by
 have := List.take_append_drop k (List.drop o cs)
 rw [List.drop_drop, h] at this
 exact this.symm
theorem reach_str {s : ByteArray} (h : WB (H := H) 9 (.lit (.string s.data.toList))) : s.size ≤ 281474976710656 := by
 have w := h s.data.toList.length (by simp [DataW.weights])
 have hr : reachBytes = 140737488351232 := rfl
 have h3 : s.data.toList.length = s.size := by simp
 omega
theorem trod_boolL {W : World} {fuel : Nat} {v : Value} {x : DataW H × List MemPlace} (h : DataW.trod enc Tryz.prog W 0 (fun _ => true) true fuel 4 [v] = some x) : ∃ b : Bool, [v] = [.bool b] ∧ x = (.lit (.bool b), []) := by
 obtain ⟨b, e, r⟩ := DataW.trod_bool Tryz.underlying4 h
 exact ⟨b, e, r⟩
set_option maxRecDepth 100000 in
set_option maxHeartbeats 1000000 in
theorem hd_openW {W : World} {fuel : Nat} {cs : List Value} {x : DataW H × List MemPlace} (h : DataW.trod enc Tryz.prog W 0 (fun _ => true) true fuel 24 cs = some x) (hlt : ∀ y ∈ x.2, y.block < W.heap.size) (hw : WB 24 x.1) :
  ∃ (s u : Nat) (p t b : ByteArray), cs = [.int .u64 s, .int .u64 u, .string p, .string t, .string b] ∧ U6 s ∧ U6 u ∧ (p.size ≤ 281474976710656 ∧ t.size ≤ 281474976710656 ∧ b.size ≤ 281474976710656) := by
 obtain ⟨xs, n, rfl, hx, hl, hxs, hf⟩ := DataW.trod_struct Tryz.underlying24 h
 rw [cHd] at hl
 obtain ⟨y0, y1, y2, y3, y4, rfl⟩ := of_five xs hxs
 have g0 : DataW.trod enc Tryz.prog W 0 (fun _ => true) true n 22 (List.take (Tryz.prog.cellsOf 22) (List.drop 0 cs)) = some y0 := hf 0 _ rfl
 rw [cU8] at g0
 have g1 : DataW.trod enc Tryz.prog W 0 (fun _ => true) true n 22 (List.take (Tryz.prog.cellsOf 22) (List.drop 1 cs)) = some y1 := hf 1 _ rfl
 rw [cU8] at g1
 have g2 : DataW.trod enc Tryz.prog W 0 (fun _ => true) true n 9 (List.take (Tryz.prog.cellsOf 9) (List.drop 2 cs)) = some y2 := hf 2 _ rfl
 rw [cS8] at g2
 have g3 : DataW.trod enc Tryz.prog W 0 (fun _ => true) true n 9 (List.take (Tryz.prog.cellsOf 9) (List.drop 3 cs)) = some y3 := hf 3 _ rfl
 rw [cS8] at g3
 have g4 : DataW.trod enc Tryz.prog W 0 (fun _ => true) true n 9 (List.take (Tryz.prog.cellsOf 9) (List.drop 4 cs)) = some y4 := hf 4 _ rfl
 rw [cS8] at g4
 rw [hx] at hlt hw
 unfold WB at hw
 simp only [DataW.weights, Tryz.underlying24] at hw
 have w2 : WB 9 y2.1 := fun n hn => hw n (DataW.weights_mem_each (j := 2) (t := 9) rfl rfl n hn)
 have w3 : WB 9 y3.1 := fun n hn => hw n (DataW.weights_mem_each (j := 3) (t := 9) rfl rfl n hn)
 have w4 : WB 9 y4.1 := fun n hn => hw n (DataW.weights_mem_each (j := 4) (t := 9) rfl rfl n hn)
 obtain ⟨v0, e0⟩ := one_of (List.take 1 (List.drop 0 cs)) (by rw [List.length_take, List.length_drop, hl]; decide)
 rw [e0] at g0
 obtain ⟨q0, r0, rfl, i0⟩ := DataW.trod_int Tryz.underlying22 g0
 have z0 := wf64 i0
 simp at r0
 obtain ⟨v1, e1⟩ := one_of (List.take 1 (List.drop 1 cs)) (by rw [List.length_take, List.length_drop, hl]; decide)
 rw [e1] at g1
 obtain ⟨q1, r1, rfl, i1⟩ := DataW.trod_int Tryz.underlying22 g1
 have z1 := wf64 i1
 simp at r1
 obtain ⟨v2, e2⟩ := one_of (List.take 1 (List.drop 2 cs)) (by rw [List.length_take, List.length_drop, hl]; decide)
 rw [e2] at g2
 obtain ⟨d2, r2, rfl, _⟩ := DataW.trod_string Tryz.underlying9 g2
 simp at r2
 have z2 := reach_str (s := d2) w2
 obtain ⟨v3, e3⟩ := one_of (List.take 1 (List.drop 3 cs)) (by rw [List.length_take, List.length_drop, hl]; decide)
 rw [e3] at g3
 obtain ⟨d3, r3, rfl, _⟩ := DataW.trod_string Tryz.underlying9 g3
 simp at r3
 have z3 := reach_str (s := d3) w3
 obtain ⟨v4, e4⟩ := one_of (List.take 1 (List.drop 4 cs)) (by rw [List.length_take, List.length_drop, hl]; decide)
 rw [e4] at g4
 obtain ⟨d4, r4, rfl, _⟩ := DataW.trod_string Tryz.underlying9 g4
 simp at r4
 have z4 := reach_str (s := d4) w4
 have f0 := stp cs 0 1 1 rfl
 have f1 := stp cs 1 1 2 rfl
 have f2 := stp cs 2 1 3 rfl
 have f3 := stp cs 3 1 4 rfl
 have f4 := stp cs 4 1 5 rfl
 have hz : List.drop 5 cs = [] := List.drop_of_length_le (by omega)
 have hc : List.drop 0 cs = List.take 1 (List.drop 0 cs) ++ (List.take 1 (List.drop 1 cs) ++ (List.take 1 (List.drop 2 cs) ++ (List.take 1 (List.drop 3 cs) ++ (List.take 1 (List.drop 4 cs) ++ (List.drop 5 cs))))) := by
  rw [← f4, ← f3, ← f2, ← f1, ← f0]
 rw [e0, e1, e2, e3, e4, hz] at hc
 rw [List.drop_zero] at hc
 refine ⟨q0.toNat, q1.toNat, d2, d3, d4, ?_, (by unfold U6; omega), (by unfold U6; omega), z2, z3, z4⟩
 rw [hc]
 simp [r0, r1, r2, r3, r4, Int.toNat_of_nonneg z0.1, Int.toNat_of_nonneg z1.1]
set_option maxRecDepth 100000 in
set_option maxHeartbeats 1000000 in
theorem ex_openW {W : World} {fuel : Nat} {cs : List Value} {x : DataW H × List MemPlace} (h : DataW.trod enc Tryz.prog W 0 (fun _ => true) true fuel 26 cs = some x) (hlt : ∀ y ∈ x.2, y.block < W.heap.size) (hw : WB 26 x.1) :
  ∃ (p t : ByteArray) (s : Nat), cs = [.string p, .string t, .int .u64 s] ∧ U6 s ∧ (p.size ≤ 281474976710656 ∧ t.size ≤ 281474976710656) := by
 obtain ⟨xs, n, rfl, hx, hl, hxs, hf⟩ := DataW.trod_struct Tryz.underlying26 h
 rw [cEx] at hl
 obtain ⟨y0, y1, y2, rfl⟩ := of_three xs hxs
 have g0 : DataW.trod enc Tryz.prog W 0 (fun _ => true) true n 9 (List.take (Tryz.prog.cellsOf 9) (List.drop 0 cs)) = some y0 := hf 0 _ rfl
 rw [cS8] at g0
 have g1 : DataW.trod enc Tryz.prog W 0 (fun _ => true) true n 9 (List.take (Tryz.prog.cellsOf 9) (List.drop 1 cs)) = some y1 := hf 1 _ rfl
 rw [cS8] at g1
 have g2 : DataW.trod enc Tryz.prog W 0 (fun _ => true) true n 22 (List.take (Tryz.prog.cellsOf 22) (List.drop 2 cs)) = some y2 := hf 2 _ rfl
 rw [cU8] at g2
 rw [hx] at hlt hw
 unfold WB at hw
 simp only [DataW.weights, Tryz.underlying26] at hw
 have w0 : WB 9 y0.1 := fun n hn => hw n (DataW.weights_mem_each (j := 0) (t := 9) rfl rfl n hn)
 have w1 : WB 9 y1.1 := fun n hn => hw n (DataW.weights_mem_each (j := 1) (t := 9) rfl rfl n hn)
 obtain ⟨v0, e0⟩ := one_of (List.take 1 (List.drop 0 cs)) (by rw [List.length_take, List.length_drop, hl]; decide)
 rw [e0] at g0
 obtain ⟨d0, r0, rfl, _⟩ := DataW.trod_string Tryz.underlying9 g0
 simp at r0
 have z0 := reach_str (s := d0) w0
 obtain ⟨v1, e1⟩ := one_of (List.take 1 (List.drop 1 cs)) (by rw [List.length_take, List.length_drop, hl]; decide)
 rw [e1] at g1
 obtain ⟨d1, r1, rfl, _⟩ := DataW.trod_string Tryz.underlying9 g1
 simp at r1
 have z1 := reach_str (s := d1) w1
 obtain ⟨v2, e2⟩ := one_of (List.take 1 (List.drop 2 cs)) (by rw [List.length_take, List.length_drop, hl]; decide)
 rw [e2] at g2
 obtain ⟨q2, r2, rfl, i2⟩ := DataW.trod_int Tryz.underlying22 g2
 have z2 := wf64 i2
 simp at r2
 have f0 := stp cs 0 1 1 rfl
 have f1 := stp cs 1 1 2 rfl
 have f2 := stp cs 2 1 3 rfl
 have hz : List.drop 3 cs = [] := List.drop_of_length_le (by omega)
 have hc : List.drop 0 cs = List.take 1 (List.drop 0 cs) ++ (List.take 1 (List.drop 1 cs) ++ (List.take 1 (List.drop 2 cs) ++ (List.drop 3 cs))) := by
  rw [← f2, ← f1, ← f0]
 rw [e0, e1, e2, hz] at hc
 rw [List.drop_zero] at hc
 refine ⟨d0, d1, q2.toNat, ?_, (by unfold U6; omega), z0, z1⟩
 rw [hc]
 simp [r0, r1, r2, Int.toNat_of_nonneg z2.1]
set_option maxRecDepth 100000 in
set_option maxHeartbeats 1000000 in
theorem lt_openW {W : World} {fuel : Nat} {cs : List Value} {x : DataW H × List MemPlace} (h : DataW.trod enc Tryz.prog W 0 (fun _ => true) true fuel 29 cs = some x) (hlt : ∀ y ∈ x.2, y.block < W.heap.size) (hw : WB 29 x.1) :
  ∃ (d : LtD) (q : Pl), cs = ltV d q ∧ d.ok ∧ slS W.heap.size W q.a d.br ∧ szL d := by
 obtain ⟨xs, n, rfl, hx, hl, hxs, hf⟩ := DataW.trod_struct Tryz.underlying29 h
 rw [cLt] at hl
 obtain ⟨y0, y1, y2, rfl⟩ := of_three xs hxs
 have g0 : DataW.trod enc Tryz.prog W 0 (fun _ => true) true n 24 (List.take (Tryz.prog.cellsOf 24) (List.drop 0 cs)) = some y0 := hf 0 _ rfl
 rw [cHd] at g0
 have g1 : DataW.trod enc Tryz.prog W 0 (fun _ => true) true n 26 (List.take (Tryz.prog.cellsOf 26) (List.drop 5 cs)) = some y1 := hf 1 _ rfl
 rw [cEx] at g1
 have g2 : DataW.trod enc Tryz.prog W 0 (fun _ => true) true n 27 (List.take (Tryz.prog.cellsOf 27) (List.drop 8 cs)) = some y2 := hf 2 _ rfl
 rw [cL8] at g2
 rw [hx] at hlt hw
 unfold WB at hw
 simp only [DataW.weights, Tryz.underlying29] at hw
 have w0 : WB 24 y0.1 := fun n hn => hw n (DataW.weights_mem_each (j := 0) (t := 24) rfl rfl n hn)
 have w1 : WB 26 y1.1 := fun n hn => hw n (DataW.weights_mem_each (j := 1) (t := 26) rfl rfl n hn)
 have w2 : WB 27 y2.1 := fun n hn => hw n (DataW.weights_mem_each (j := 2) (t := 27) rfl rfl n hn)
 obtain ⟨s0, u0, p0, t0, b0, e0, is0, iu0, z0⟩ := hd_openW g0 (fun y hy => hlt y (by simp [hy])) w0
 obtain ⟨p1, t1, s1, e1, is1, z1⟩ := ex_openW g1 (fun y hy => hlt y (by simp [hy])) w1
 obtain ⟨v2, e2⟩ := one_of (List.take 1 (List.drop 8 cs)) (by rw [List.length_take, List.length_drop, hl]; decide)
 rw [e2] at g2
 obtain ⟨q2, d2, rfl, in2, z2⟩ := open_strsW g2 (fun y hy => hlt y (by simp [hy])) w2
 have f0 := stp cs 0 5 5 rfl
 have f1 := stp cs 5 3 8 rfl
 have f2 := stp cs 8 1 9 rfl
 have hz : List.drop 9 cs = [] := List.drop_of_length_le (by omega)
 have hc : List.drop 0 cs = List.take 5 (List.drop 0 cs) ++ (List.take 3 (List.drop 5 cs) ++ (List.take 1 (List.drop 8 cs) ++ (List.drop 9 cs))) := by
  rw [← f2, ← f1, ← f0]
 rw [e0, e1, e2, hz] at hc
 rw [List.drop_zero] at hc
 refine ⟨⟨s0, u0, p0, t0, b0, p1, t1, s1, d2⟩, q2, ?_, ⟨is0, iu0, is1⟩, in2, z0.1, z0.2.1, z0.2.2, z1.1, z1.2, z2⟩
 rw [hc]
 rfl
set_option maxRecDepth 100000 in
set_option maxHeartbeats 1000000 in
theorem cm_openW {W : World} {fuel : Nat} {cs : List Value} {x : DataW H × List MemPlace} (h : DataW.trod enc Tryz.prog W 0 (fun _ => true) true fuel 31 cs = some x) (hlt : ∀ y ∈ x.2, y.block < W.heap.size) (hw : WB 31 x.1) :
  ∃ (d : CmD) (q : Pl), cs = cmV d q ∧ slS W.heap.size W q.a d.ks ∧ szC d := by
 obtain ⟨xs, n, rfl, hx, hl, hxs, hf⟩ := DataW.trod_struct Tryz.underlying31 h
 rw [cCm] at hl
 obtain ⟨y0, y1, rfl⟩ := of_two xs hxs
 have g0 : DataW.trod enc Tryz.prog W 0 (fun _ => true) true n 27 (List.take (Tryz.prog.cellsOf 27) (List.drop 0 cs)) = some y0 := hf 0 _ rfl
 rw [cL8] at g0
 have g1 : DataW.trod enc Tryz.prog W 0 (fun _ => true) true n 9 (List.take (Tryz.prog.cellsOf 9) (List.drop 1 cs)) = some y1 := hf 1 _ rfl
 rw [cS8] at g1
 rw [hx] at hlt hw
 unfold WB at hw
 simp only [DataW.weights, Tryz.underlying31] at hw
 have w0 : WB 27 y0.1 := fun n hn => hw n (DataW.weights_mem_each (j := 0) (t := 27) rfl rfl n hn)
 have w1 : WB 9 y1.1 := fun n hn => hw n (DataW.weights_mem_each (j := 1) (t := 9) rfl rfl n hn)
 obtain ⟨v0, e0⟩ := one_of (List.take 1 (List.drop 0 cs)) (by rw [List.length_take, List.length_drop, hl]; decide)
 rw [e0] at g0
 obtain ⟨q0, d0, rfl, in0, z0⟩ := open_strsW g0 (fun y hy => hlt y (by simp [hy])) w0
 obtain ⟨v1, e1⟩ := one_of (List.take 1 (List.drop 1 cs)) (by rw [List.length_take, List.length_drop, hl]; decide)
 rw [e1] at g1
 obtain ⟨d1, r1, rfl, _⟩ := DataW.trod_string Tryz.underlying9 g1
 simp at r1
 have z1 := reach_str (s := d1) w1
 have f0 := stp cs 0 1 1 rfl
 have f1 := stp cs 1 1 2 rfl
 have hz : List.drop 2 cs = [] := List.drop_of_length_le (by omega)
 have hc : List.drop 0 cs = List.take 1 (List.drop 0 cs) ++ (List.take 1 (List.drop 1 cs) ++ (List.drop 2 cs)) := by
  rw [← f1, ← f0]
 rw [e0, e1, hz] at hc
 rw [List.drop_zero] at hc
 refine ⟨⟨d0, d1⟩, q0, ?_, in0, z0, z1⟩
 rw [hc]
 simp [r1, cmV, slV]
set_option maxRecDepth 100000 in
set_option maxHeartbeats 1000000 in
theorem bt_openW {W : World} {fuel : Nat} {cs : List Value} {x : DataW H × List MemPlace} (h : DataW.trod enc Tryz.prog W 0 (fun _ => true) true fuel 52 cs = some x) (hlt : ∀ y ∈ x.2, y.block < W.heap.size) (hw : WB 52 x.1) :
  ∃ (d : BtD) (q : BtP), cs = btV d q ∧ d.ok ∧ btIn W.heap.size W d q ∧ szB d := by
 obtain ⟨xs, n, rfl, hx, hl, hxs, hf⟩ := DataW.trod_struct Tryz.underlying52 h
 rw [cBt] at hl
 obtain ⟨y0, y1, y2, rfl⟩ := of_three xs hxs
 have g0 : DataW.trod enc Tryz.prog W 0 (fun _ => true) true n 29 (List.take (Tryz.prog.cellsOf 29) (List.drop 0 cs)) = some y0 := hf 0 _ rfl
 rw [cLt] at g0
 have g1 : DataW.trod enc Tryz.prog W 0 (fun _ => true) true n 31 (List.take (Tryz.prog.cellsOf 31) (List.drop 9 cs)) = some y1 := hf 1 _ rfl
 rw [cCm] at g1
 have g2 : DataW.trod enc Tryz.prog W 0 (fun _ => true) true n 27 (List.take (Tryz.prog.cellsOf 27) (List.drop 11 cs)) = some y2 := hf 2 _ rfl
 rw [cL8] at g2
 rw [hx] at hlt hw
 unfold WB at hw
 simp only [DataW.weights, Tryz.underlying52] at hw
 have w0 : WB 29 y0.1 := fun n hn => hw n (DataW.weights_mem_each (j := 0) (t := 29) rfl rfl n hn)
 have w1 : WB 31 y1.1 := fun n hn => hw n (DataW.weights_mem_each (j := 1) (t := 31) rfl rfl n hn)
 have w2 : WB 27 y2.1 := fun n hn => hw n (DataW.weights_mem_each (j := 2) (t := 27) rfl rfl n hn)
 obtain ⟨d0, q0, e0, ok0, in0, z0⟩ := lt_openW g0 (fun y hy => hlt y (by simp [hy])) w0
 obtain ⟨d1, q1, e1, in1, z1⟩ := cm_openW g1 (fun y hy => hlt y (by simp [hy])) w1
 obtain ⟨v2, e2⟩ := one_of (List.take 1 (List.drop 11 cs)) (by rw [List.length_take, List.length_drop, hl]; decide)
 rw [e2] at g2
 obtain ⟨q2, d2, rfl, in2, z2⟩ := open_strsW g2 (fun y hy => hlt y (by simp [hy])) w2
 have f0 := stp cs 0 9 9 rfl
 have f1 := stp cs 9 2 11 rfl
 have f2 := stp cs 11 1 12 rfl
 have hz : List.drop 12 cs = [] := List.drop_of_length_le (by omega)
 have hc : List.drop 0 cs = List.take 9 (List.drop 0 cs) ++ (List.take 2 (List.drop 9 cs) ++ (List.take 1 (List.drop 11 cs) ++ (List.drop 12 cs))) := by
  rw [← f2, ← f1, ← f0]
 rw [e0, e1, e2, hz] at hc
 rw [List.drop_zero] at hc
 refine ⟨⟨d0, d1, d2⟩, ⟨q0, q1, q2⟩, ?_, ok0, ⟨in0, in1, in2⟩, z0, z1, z2⟩
 rw [hc]
 simp [btV]
set_option maxRecDepth 100000 in
set_option maxHeartbeats 1000000 in
theorem up_openW {W : World} {fuel : Nat} {cs : List Value} {x : DataW H × List MemPlace} (h : DataW.trod enc Tryz.prog W 0 (fun _ => true) true fuel 33 cs = some x) (hlt : ∀ y ∈ x.2, y.block < W.heap.size) (hw : WB 33 x.1) :
  ∃ (d : UpD) (q : UpP), cs = upV d q ∧ d.ok ∧ upIn W.heap.size W d q ∧ szU d := by
 obtain ⟨xs, n, rfl, hx, hl, hxs, hf⟩ := DataW.trod_struct Tryz.underlying33 h
 rw [cUp] at hl
 obtain ⟨y0, y1, y2, y3, y4, y5, y6, y7, rfl⟩ := of_eight xs hxs
 have g0 : DataW.trod enc Tryz.prog W 0 (fun _ => true) true n 29 (List.take (Tryz.prog.cellsOf 29) (List.drop 0 cs)) = some y0 := hf 0 _ rfl
 rw [cLt] at g0
 have g1 : DataW.trod enc Tryz.prog W 0 (fun _ => true) true n 31 (List.take (Tryz.prog.cellsOf 31) (List.drop 9 cs)) = some y1 := hf 1 _ rfl
 rw [cCm] at g1
 have g2 : DataW.trod enc Tryz.prog W 0 (fun _ => true) true n 27 (List.take (Tryz.prog.cellsOf 27) (List.drop 11 cs)) = some y2 := hf 2 _ rfl
 rw [cL8] at g2
 have g3 : DataW.trod enc Tryz.prog W 0 (fun _ => true) true n 29 (List.take (Tryz.prog.cellsOf 29) (List.drop 12 cs)) = some y3 := hf 3 _ rfl
 rw [cLt] at g3
 have g4 : DataW.trod enc Tryz.prog W 0 (fun _ => true) true n 27 (List.take (Tryz.prog.cellsOf 27) (List.drop 21 cs)) = some y4 := hf 4 _ rfl
 rw [cL8] at g4
 have g5 : DataW.trod enc Tryz.prog W 0 (fun _ => true) true n 22 (List.take (Tryz.prog.cellsOf 22) (List.drop 22 cs)) = some y5 := hf 5 _ rfl
 rw [cU8] at g5
 have g6 : DataW.trod enc Tryz.prog W 0 (fun _ => true) true n 9 (List.take (Tryz.prog.cellsOf 9) (List.drop 23 cs)) = some y6 := hf 6 _ rfl
 rw [cS8] at g6
 have g7 : DataW.trod enc Tryz.prog W 0 (fun _ => true) true n 22 (List.take (Tryz.prog.cellsOf 22) (List.drop 24 cs)) = some y7 := hf 7 _ rfl
 rw [cU8] at g7
 rw [hx] at hlt hw
 unfold WB at hw
 simp only [DataW.weights, Tryz.underlying33] at hw
 have w0 : WB 29 y0.1 := fun n hn => hw n (DataW.weights_mem_each (j := 0) (t := 29) rfl rfl n hn)
 have w1 : WB 31 y1.1 := fun n hn => hw n (DataW.weights_mem_each (j := 1) (t := 31) rfl rfl n hn)
 have w2 : WB 27 y2.1 := fun n hn => hw n (DataW.weights_mem_each (j := 2) (t := 27) rfl rfl n hn)
 have w3 : WB 29 y3.1 := fun n hn => hw n (DataW.weights_mem_each (j := 3) (t := 29) rfl rfl n hn)
 have w4 : WB 27 y4.1 := fun n hn => hw n (DataW.weights_mem_each (j := 4) (t := 27) rfl rfl n hn)
 have w6 : WB 9 y6.1 := fun n hn => hw n (DataW.weights_mem_each (j := 6) (t := 9) rfl rfl n hn)
 obtain ⟨d0, q0, e0, ok0, in0, z0⟩ := lt_openW g0 (fun y hy => hlt y (by simp [hy])) w0
 obtain ⟨d1, q1, e1, in1, z1⟩ := cm_openW g1 (fun y hy => hlt y (by simp [hy])) w1
 obtain ⟨v2, e2⟩ := one_of (List.take 1 (List.drop 11 cs)) (by rw [List.length_take, List.length_drop, hl]; decide)
 rw [e2] at g2
 obtain ⟨q2, d2, rfl, in2, z2⟩ := open_strsW g2 (fun y hy => hlt y (by simp [hy])) w2
 obtain ⟨d3, q3, e3, ok3, in3, z3⟩ := lt_openW g3 (fun y hy => hlt y (by simp [hy])) w3
 obtain ⟨v4, e4⟩ := one_of (List.take 1 (List.drop 21 cs)) (by rw [List.length_take, List.length_drop, hl]; decide)
 rw [e4] at g4
 obtain ⟨q4, d4, rfl, in4, z4⟩ := open_strsW g4 (fun y hy => hlt y (by simp [hy])) w4
 obtain ⟨v5, e5⟩ := one_of (List.take 1 (List.drop 22 cs)) (by rw [List.length_take, List.length_drop, hl]; decide)
 rw [e5] at g5
 obtain ⟨q5, r5, rfl, i5⟩ := DataW.trod_int Tryz.underlying22 g5
 have z5 := wf64 i5
 simp at r5
 obtain ⟨v6, e6⟩ := one_of (List.take 1 (List.drop 23 cs)) (by rw [List.length_take, List.length_drop, hl]; decide)
 rw [e6] at g6
 obtain ⟨d6, r6, rfl, _⟩ := DataW.trod_string Tryz.underlying9 g6
 simp at r6
 have z6 := reach_str (s := d6) w6
 obtain ⟨v7, e7⟩ := one_of (List.take 1 (List.drop 24 cs)) (by rw [List.length_take, List.length_drop, hl]; decide)
 rw [e7] at g7
 obtain ⟨q7, r7, rfl, i7⟩ := DataW.trod_int Tryz.underlying22 g7
 have z7 := wf64 i7
 simp at r7
 have f0 := stp cs 0 9 9 rfl
 have f1 := stp cs 9 2 11 rfl
 have f2 := stp cs 11 1 12 rfl
 have f3 := stp cs 12 9 21 rfl
 have f4 := stp cs 21 1 22 rfl
 have f5 := stp cs 22 1 23 rfl
 have f6 := stp cs 23 1 24 rfl
 have f7 := stp cs 24 1 25 rfl
 have hz : List.drop 25 cs = [] := List.drop_of_length_le (by omega)
 have hc : List.drop 0 cs = List.take 9 (List.drop 0 cs) ++ (List.take 2 (List.drop 9 cs) ++ (List.take 1 (List.drop 11 cs) ++ (List.take 9 (List.drop 12 cs) ++ (List.take 1 (List.drop 21 cs) ++ (List.take 1 (List.drop 22 cs) ++ (List.take 1 (List.drop 23 cs) ++ (List.take 1 (List.drop 24 cs) ++ (List.drop 25 cs)))))))) := by
  rw [← f7, ← f6, ← f5, ← f4, ← f3, ← f2, ← f1, ← f0]
 rw [e0, e1, e2, e3, e4, e5, e6, e7, hz] at hc
 rw [List.drop_zero] at hc
 refine ⟨⟨d0, d1, d2, d3, d4, q5.toNat, d6, q7.toNat⟩, ⟨q0, q1, q2, q3, q4⟩, ?_, ⟨ok0, ok3, (by unfold U6; dsimp only; omega), (by unfold U6; dsimp only; omega)⟩, ⟨in0, in1, in2, in3, in4⟩, z0, z1, z2, z3, z4, z6⟩
 rw [hc]
 simp [upV, r5, r6, r7, Int.toNat_of_nonneg z5.1, Int.toNat_of_nonneg z7.1]
set_option maxRecDepth 100000 in
set_option maxHeartbeats 1000000 in
theorem st_openW {W : World} {fuel : Nat} {cs : List Value} {x : DataW H × List MemPlace} (h : DataW.trod enc Tryz.prog W 0 (fun _ => true) true fuel 38 cs = some x) (hlt : ∀ y ∈ x.2, y.block < W.heap.size) (hw : WB 38 x.1) :
  ∃ (d : StD) (q : StP), cs = stV d q ∧ d.ok ∧ stIn W.heap.size W d q ∧ szT d := by
 obtain ⟨xs, n, rfl, hx, hl, hxs, hf⟩ := DataW.trod_struct Tryz.underlying38 h
 rw [cSt] at hl
 obtain ⟨y0, y1, y2, y3, y4, y5, y6, y7, y8, rfl⟩ := of_nine xs hxs
 have g0 : DataW.trod enc Tryz.prog W 0 (fun _ => true) true n 29 (List.take (Tryz.prog.cellsOf 29) (List.drop 0 cs)) = some y0 := hf 0 _ rfl
 rw [cLt] at g0
 have g1 : DataW.trod enc Tryz.prog W 0 (fun _ => true) true n 29 (List.take (Tryz.prog.cellsOf 29) (List.drop 9 cs)) = some y1 := hf 1 _ rfl
 rw [cLt] at g1
 have g2 : DataW.trod enc Tryz.prog W 0 (fun _ => true) true n 31 (List.take (Tryz.prog.cellsOf 31) (List.drop 18 cs)) = some y2 := hf 2 _ rfl
 rw [cCm] at g2
 have g3 : DataW.trod enc Tryz.prog W 0 (fun _ => true) true n 31 (List.take (Tryz.prog.cellsOf 31) (List.drop 20 cs)) = some y3 := hf 3 _ rfl
 rw [cCm] at g3
 have g4 : DataW.trod enc Tryz.prog W 0 (fun _ => true) true n 33 (List.take (Tryz.prog.cellsOf 33) (List.drop 22 cs)) = some y4 := hf 4 _ rfl
 rw [cUp] at g4
 have g5 : DataW.trod enc Tryz.prog W 0 (fun _ => true) true n 4 (List.take (Tryz.prog.cellsOf 4) (List.drop 47 cs)) = some y5 := hf 5 _ rfl
 rw [cB8] at g5
 have g6 : DataW.trod enc Tryz.prog W 0 (fun _ => true) true n 3 (List.take (Tryz.prog.cellsOf 3) (List.drop 48 cs)) = some y6 := hf 6 _ rfl
 rw [cI8] at g6
 have g7 : DataW.trod enc Tryz.prog W 0 (fun _ => true) true n 3 (List.take (Tryz.prog.cellsOf 3) (List.drop 49 cs)) = some y7 := hf 7 _ rfl
 rw [cI8] at g7
 have g8 : DataW.trod enc Tryz.prog W 0 (fun _ => true) true n 4 (List.take (Tryz.prog.cellsOf 4) (List.drop 50 cs)) = some y8 := hf 8 _ rfl
 rw [cB8] at g8
 rw [hx] at hlt hw
 unfold WB at hw
 simp only [DataW.weights, Tryz.underlying38] at hw
 have w0 : WB 29 y0.1 := fun n hn => hw n (DataW.weights_mem_each (j := 0) (t := 29) rfl rfl n hn)
 have w1 : WB 29 y1.1 := fun n hn => hw n (DataW.weights_mem_each (j := 1) (t := 29) rfl rfl n hn)
 have w2 : WB 31 y2.1 := fun n hn => hw n (DataW.weights_mem_each (j := 2) (t := 31) rfl rfl n hn)
 have w3 : WB 31 y3.1 := fun n hn => hw n (DataW.weights_mem_each (j := 3) (t := 31) rfl rfl n hn)
 have w4 : WB 33 y4.1 := fun n hn => hw n (DataW.weights_mem_each (j := 4) (t := 33) rfl rfl n hn)
 obtain ⟨d0, q0, e0, ok0, in0, z0⟩ := lt_openW g0 (fun y hy => hlt y (by simp [hy])) w0
 obtain ⟨d1, q1, e1, ok1, in1, z1⟩ := lt_openW g1 (fun y hy => hlt y (by simp [hy])) w1
 obtain ⟨d2, q2, e2, in2, z2⟩ := cm_openW g2 (fun y hy => hlt y (by simp [hy])) w2
 obtain ⟨d3, q3, e3, in3, z3⟩ := cm_openW g3 (fun y hy => hlt y (by simp [hy])) w3
 obtain ⟨d4, q4, e4, ok4, in4, z4⟩ := up_openW g4 (fun y hy => hlt y (by simp [hy])) w4
 obtain ⟨v5, e5⟩ := one_of (List.take 1 (List.drop 47 cs)) (by rw [List.length_take, List.length_drop, hl]; decide)
 rw [e5] at g5
 obtain ⟨q5, r5, rfl⟩ := trod_boolL g5
 simp at r5
 obtain ⟨v6, e6⟩ := one_of (List.take 1 (List.drop 48 cs)) (by rw [List.length_take, List.length_drop, hl]; decide)
 rw [e6] at g6
 obtain ⟨q6, r6, rfl, i6⟩ := DataW.trod_int Tryz.underlying3 g6
 have z6 := wfiI i6
 simp at r6
 obtain ⟨v7, e7⟩ := one_of (List.take 1 (List.drop 49 cs)) (by rw [List.length_take, List.length_drop, hl]; decide)
 rw [e7] at g7
 obtain ⟨q7, r7, rfl, i7⟩ := DataW.trod_int Tryz.underlying3 g7
 have z7 := wfiI i7
 simp at r7
 obtain ⟨v8, e8⟩ := one_of (List.take 1 (List.drop 50 cs)) (by rw [List.length_take, List.length_drop, hl]; decide)
 rw [e8] at g8
 obtain ⟨q8, r8, rfl⟩ := trod_boolL g8
 simp at r8
 have f0 := stp cs 0 9 9 rfl
 have f1 := stp cs 9 9 18 rfl
 have f2 := stp cs 18 2 20 rfl
 have f3 := stp cs 20 2 22 rfl
 have f4 := stp cs 22 25 47 rfl
 have f5 := stp cs 47 1 48 rfl
 have f6 := stp cs 48 1 49 rfl
 have f7 := stp cs 49 1 50 rfl
 have f8 := stp cs 50 1 51 rfl
 have hz : List.drop 51 cs = [] := List.drop_of_length_le (by omega)
 have hc : List.drop 0 cs = List.take 9 (List.drop 0 cs) ++ (List.take 9 (List.drop 9 cs) ++ (List.take 2 (List.drop 18 cs) ++ (List.take 2 (List.drop 20 cs) ++ (List.take 25 (List.drop 22 cs) ++ (List.take 1 (List.drop 47 cs) ++ (List.take 1 (List.drop 48 cs) ++ (List.take 1 (List.drop 49 cs) ++ (List.take 1 (List.drop 50 cs) ++ (List.drop 51 cs))))))))) := by
  rw [← f8, ← f7, ← f6, ← f5, ← f4, ← f3, ← f2, ← f1, ← f0]
 rw [e0, e1, e2, e3, e4, e5, e6, e7, e8, hz] at hc
 rw [List.drop_zero] at hc
 refine ⟨⟨d0, d1, d2, d3, d4, q5, q6, q7, q8⟩, ⟨q0, q1, q2, q3, q4⟩, ?_, ⟨ok0, ok1, ok4, z6, z7⟩, ⟨in0, in1, in2, in3, in4⟩, z0, z1, z2, z3, z4⟩
 rw [hc]
 simp [stV, r5, r6, r7, r8]
set_option maxRecDepth 100000 in
theorem open_top {W : World} {b0 : Nat} {t : TypeId} {fs : Array Field} {v : Value} {d : DataW H} {ps : List MemPlace} (ht : Tryz.prog.underlying t = some (.struct fs)) (hval : Value.okWide Tryz.prog W .any b0 t v) (hd : DataW.Trod enc Tryz.prog W 0 (fun _ => true) true t v d ps) :
  ∃ (cs : List Value) (fuel : Nat), v = .agg cs.toArray ∧ DataW.trod enc Tryz.prog W 0 (fun _ => true) true fuel t cs = some (d, ps) := by
 obtain ⟨cs, rfl, hsz⟩ := okWide_struct ht hval
 obtain ⟨fuel, hf⟩ := hd
 refine ⟨cs.toList, fuel, by simp, ?_⟩
 exact hf
end
end Go.Proofs.YtoddangedbefgabGreatDoor
namespace Go.Proofs.YtoddangedbefgabGreatDoor
open Go.RowKit Go.Shelf Go.Sort

def st9 (A B C D E : List Value) (h : Bool) (l t : Int) (f : Bool) : List Value := A ++ B ++ C ++ D ++ E ++ [.bool h, .int .i64 l, .int .i64 t, .bool f]
theorem stV_st9 (d : StD) (q : StP) : stV d q = st9 (ltV d.fin q.fin) (ltV d.new q.new) (cmV d.now q.now) (cmV d.nxt q.nxt) (upV d.best q.best) d.has d.last d.this d.forced := rfl
structure L9 (A B C D E : List Value) : Prop where
 a : A.length = 9
 b : B.length = 9
 c : C.length = 2
 d : D.length = 2
 e : E.length = 25
theorem L9_of (d : StD) (q : StP) : L9 (ltV d.fin q.fin) (ltV d.new q.new) (cmV d.now q.now) (cmV d.nxt q.nxt) (upV d.best q.best) := ⟨rfl, rfl, rfl, rfl, rfl⟩
section
variable {A B C D E : List Value} {h : Bool} {l t : Int} {f : Bool}
theorem st9_len (H : L9 A B C D E) : (st9 A B C D E h l t f).length = 51 := by
 have := H.a; have := H.b; have := H.c; have := H.d; have := H.e
 simp only [st9, List.length_append, List.length_cons, List.length_nil]
 omega
theorem st9_A (j : Nat) (v : Value) (hv : A[j]? = some v) : (st9 A B C D E h l t f)[0 + j]? = some v := by
 have := get_mid (A := []) (B := A) (C := B ++ C ++ D ++ E ++ [.bool h, .int .i64 l, .int .i64 t, .bool f]) j v hv
 simpa [st9, List.append_assoc] using this
theorem st9_B (H : L9 A B C D E) (j : Nat) (v : Value) (hv : B[j]? = some v) : (st9 A B C D E h l t f)[9 + j]? = some v := by
 have := get_mid (A := A) (B := B) (C := C ++ D ++ E ++ [.bool h, .int .i64 l, .int .i64 t, .bool f]) j v hv
 rw [H.a] at this
 simpa only [st9, List.append_assoc] using this
theorem st9_D (H : L9 A B C D E) (j : Nat) (v : Value) (hv : D[j]? = some v) : (st9 A B C D E h l t f)[20 + j]? = some v := by
 have := get_mid (A := A ++ B ++ C) (B := D) (C := E ++ [.bool h, .int .i64 l, .int .i64 t, .bool f]) j v hv
 rw [List.length_append, List.length_append, H.a, H.b, H.c] at this
 simpa only [st9, List.append_assoc] using this
theorem st9_E (H : L9 A B C D E) (j : Nat) (v : Value) (hv : E[j]? = some v) : (st9 A B C D E h l t f)[22 + j]? = some v := by
 have := get_mid (A := A ++ B ++ C ++ D) (B := E) (C := [.bool h, .int .i64 l, .int .i64 t, .bool f]) j v hv
 rw [List.length_append, List.length_append, List.length_append, H.a, H.b, H.c, H.d] at this
 simpa only [st9, List.append_assoc] using this
theorem st9_tail (H : L9 A B C D E) (j : Nat) (v : Value) (hv : [Value.bool h, .int .i64 l, .int .i64 t, .bool f][j]? = some v) : (st9 A B C D E h l t f)[47 + j]? = some v := by
 have := get_mid (A := A ++ B ++ C ++ D ++ E) (B := [Value.bool h, .int .i64 l, .int .i64 t, .bool f]) (C := []) j v hv
 rw [List.length_append, List.length_append, List.length_append, List.length_append, H.a, H.b, H.c, H.d, H.e] at this
 simpa only [st9, List.append_assoc, List.append_nil] using this
theorem st9_h (H : L9 A B C D E) : (st9 A B C D E h l t f)[47]? = some (.bool h) := st9_tail H 0 _ rfl
theorem st9_l (H : L9 A B C D E) : (st9 A B C D E h l t f)[48]? = some (.int .i64 l) := st9_tail H 1 _ rfl
theorem st9_t (H : L9 A B C D E) : (st9 A B C D E h l t f)[49]? = some (.int .i64 t) := st9_tail H 2 _ rfl
theorem st9_f (H : L9 A B C D E) : (st9 A B C D E h l t f)[50]? = some (.bool f) := st9_tail H 3 _ rfl
variable {W : World} {z : Nat} {ty : TypeId}
theorem st9_putA (H : L9 A B C D E) {X : List Value} (hX : X.length = 9) (hb : Bq z ty (st9 A B C D E h l t f).toArray W) : Bq z ty (st9 X B C D E h l t f).toArray (W.setCells z 0 X) := by
 have := setCells_block (b := z) (t := ty) (f := (0, 0)) (B ++ C ++ D ++ E ++ [.bool h, .int .i64 l, .int .i64 t, .bool f]) X A [] W (by rw [hX, H.a]) (by
  have e : [] ++ A ++ (B ++ C ++ D ++ E ++ [Value.bool h, .int .i64 l, .int .i64 t, .bool f]) = st9 A B C D E h l t f := by simp only [st9, List.append_assoc, List.nil_append]
  rw [e]
  exact hb)
 have e : [] ++ X ++ (B ++ C ++ D ++ E ++ [Value.bool h, .int .i64 l, .int .i64 t, .bool f]) = st9 X B C D E h l t f := by simp only [st9, List.append_assoc, List.nil_append]
 rw [e] at this
 exact this
theorem st9_putB (H : L9 A B C D E) {X : List Value} (hX : X.length = 9) (hb : Bq z ty (st9 A B C D E h l t f).toArray W) : Bq z ty (st9 A X C D E h l t f).toArray (W.setCells z 9 X) := by
 have := setCells_block (b := z) (t := ty) (f := (0, 0)) (C ++ D ++ E ++ [.bool h, .int .i64 l, .int .i64 t, .bool f]) X B A W (by rw [hX, H.b]) (by
  have e : A ++ B ++ (C ++ D ++ E ++ [Value.bool h, .int .i64 l, .int .i64 t, .bool f]) = st9 A B C D E h l t f := by simp only [st9, List.append_assoc]
  rw [e]
  exact hb)
 have e : A ++ X ++ (C ++ D ++ E ++ [Value.bool h, .int .i64 l, .int .i64 t, .bool f]) = st9 A X C D E h l t f := by simp only [st9, List.append_assoc]
 rw [e, H.a] at this
 exact this
theorem st9_putC (H : L9 A B C D E) {X : List Value} (hX : X.length = 2) (hb : Bq z ty (st9 A B C D E h l t f).toArray W) : Bq z ty (st9 A B X D E h l t f).toArray (W.setCells z 18 X) := by
 have := setCells_block (b := z) (t := ty) (f := (0, 0)) (D ++ E ++ [.bool h, .int .i64 l, .int .i64 t, .bool f]) X C (A ++ B) W (by rw [hX, H.c]) (by
  have e : A ++ B ++ C ++ (D ++ E ++ [Value.bool h, .int .i64 l, .int .i64 t, .bool f]) = st9 A B C D E h l t f := by simp only [st9, List.append_assoc]
  rw [e]
  exact hb)
 have e : A ++ B ++ X ++ (D ++ E ++ [Value.bool h, .int .i64 l, .int .i64 t, .bool f]) = st9 A B X D E h l t f := by simp only [st9, List.append_assoc]
 rw [e, List.length_append, H.a, H.b] at this
 exact this
theorem st9_putD (H : L9 A B C D E) {X : List Value} (hX : X.length = 2) (hb : Bq z ty (st9 A B C D E h l t f).toArray W) : Bq z ty (st9 A B C X E h l t f).toArray (W.setCells z 20 X) := by
 have := setCells_block (b := z) (t := ty) (f := (0, 0)) (E ++ [.bool h, .int .i64 l, .int .i64 t, .bool f]) X D (A ++ B ++ C) W (by rw [hX, H.d]) (by
  have e : A ++ B ++ C ++ D ++ (E ++ [Value.bool h, .int .i64 l, .int .i64 t, .bool f]) = st9 A B C D E h l t f := by simp only [st9, List.append_assoc]
  rw [e]
  exact hb)
 have e : A ++ B ++ C ++ X ++ (E ++ [Value.bool h, .int .i64 l, .int .i64 t, .bool f]) = st9 A B C X E h l t f := by simp only [st9, List.append_assoc]
 rw [e, List.length_append, List.length_append, H.a, H.b, H.c] at this
 exact this
theorem st9_putE (H : L9 A B C D E) {X : List Value} (hX : X.length = 25) (hb : Bq z ty (st9 A B C D E h l t f).toArray W) : Bq z ty (st9 A B C D X h l t f).toArray (W.setCells z 22 X) := by
 have := setCells_block (b := z) (t := ty) (f := (0, 0)) [.bool h, .int .i64 l, .int .i64 t, .bool f] X E (A ++ B ++ C ++ D) W (by rw [hX, H.e]) (by
  have e : A ++ B ++ C ++ D ++ E ++ [Value.bool h, .int .i64 l, .int .i64 t, .bool f] = st9 A B C D E h l t f := by simp only [st9, List.append_assoc]
  rw [e]
  exact hb)
 have e : A ++ B ++ C ++ D ++ X ++ [Value.bool h, .int .i64 l, .int .i64 t, .bool f] = st9 A B C D X h l t f := by simp only [st9, List.append_assoc]
 rw [e, List.length_append, List.length_append, List.length_append, H.a, H.b, H.c, H.d] at this
 exact this
theorem st9_len5 (H : L9 A B C D E) : (A ++ B ++ C ++ D ++ E).length = 47 := by
 rw [List.length_append, List.length_append, List.length_append, List.length_append, H.a, H.b, H.c, H.d, H.e]
theorem st9_puth (H : L9 A B C D E) (x : Bool) (hb : Bq z ty (st9 A B C D E h l t f).toArray W) : Bq z ty (st9 A B C D E x l t f).toArray (W.setCell ⟨z, 47, none⟩ (.bool x)) := by
 have := setCells_block (b := z) (t := ty) (f := (0, 0)) [.int .i64 l, .int .i64 t, .bool f] [.bool x] [.bool h] (A ++ B ++ C ++ D ++ E) W rfl (by
  have e : A ++ B ++ C ++ D ++ E ++ [Value.bool h] ++ [.int .i64 l, .int .i64 t, .bool f] = st9 A B C D E h l t f := by simp [st9, List.append_assoc]
  rw [e]
  exact hb)
 have e : A ++ B ++ C ++ D ++ E ++ [Value.bool x] ++ [.int .i64 l, .int .i64 t, .bool f] = st9 A B C D E x l t f := by simp [st9, List.append_assoc]
 rw [e, st9_len5 H] at this
 exact this
theorem st9_putl (H : L9 A B C D E) (x : Int) (hb : Bq z ty (st9 A B C D E h l t f).toArray W) : Bq z ty (st9 A B C D E h x t f).toArray (W.setCell ⟨z, 48, none⟩ (.int .i64 x)) := by
 have := setCells_block (b := z) (t := ty) (f := (0, 0)) [.int .i64 t, .bool f] [.int .i64 x] [.int .i64 l] (A ++ B ++ C ++ D ++ E ++ [.bool h]) W rfl (by
  have e : A ++ B ++ C ++ D ++ E ++ [Value.bool h] ++ [.int .i64 l] ++ [.int .i64 t, .bool f] = st9 A B C D E h l t f := by simp [st9, List.append_assoc]
  rw [e]
  exact hb)
 have e : A ++ B ++ C ++ D ++ E ++ [Value.bool h] ++ [.int .i64 x] ++ [.int .i64 t, .bool f] = st9 A B C D E h x t f := by simp [st9, List.append_assoc]
 rw [e, List.length_append, st9_len5 H] at this
 exact this
theorem st9_putt (H : L9 A B C D E) (x : Int) (hb : Bq z ty (st9 A B C D E h l t f).toArray W) : Bq z ty (st9 A B C D E h l x f).toArray (W.setCell ⟨z, 49, none⟩ (.int .i64 x)) := by
 have := setCells_block (b := z) (t := ty) (f := (0, 0)) [.bool f] [.int .i64 x] [.int .i64 t] (A ++ B ++ C ++ D ++ E ++ [.bool h, .int .i64 l]) W rfl (by
  have e : A ++ B ++ C ++ D ++ E ++ [Value.bool h, .int .i64 l] ++ [.int .i64 t] ++ [.bool f] = st9 A B C D E h l t f := by simp [st9, List.append_assoc]
  rw [e]
  exact hb)
 have e : A ++ B ++ C ++ D ++ E ++ [Value.bool h, .int .i64 l] ++ [.int .i64 x] ++ [.bool f] = st9 A B C D E h l x f := by simp [st9, List.append_assoc]
 rw [e, List.length_append, st9_len5 H] at this
 exact this
theorem st9_putf (H : L9 A B C D E) (x : Bool) (hb : Bq z ty (st9 A B C D E h l t f).toArray W) : Bq z ty (st9 A B C D E h l t x).toArray (W.setCell ⟨z, 50, none⟩ (.bool x)) := by
 have := setCells_block (b := z) (t := ty) (f := (0, 0)) [] [.bool x] [.bool f] (A ++ B ++ C ++ D ++ E ++ [.bool h, .int .i64 l, .int .i64 t]) W rfl (by
  have e : A ++ B ++ C ++ D ++ E ++ [Value.bool h, .int .i64 l, .int .i64 t] ++ [.bool f] ++ [] = st9 A B C D E h l t f := by simp [st9, List.append_assoc]
  rw [e]
  exact hb)
 have e : A ++ B ++ C ++ D ++ E ++ [Value.bool h, .int .i64 l, .int .i64 t] ++ [.bool x] ++ [] = st9 A B C D E h l t x := by simp [st9, List.append_assoc]
 rw [e, List.length_append, st9_len5 H] at this
 exact this
end
theorem size_setCell' (W : World) (a : Addr) (v : Value) : (W.setCell a v).heap.size = W.heap.size := by simp [World.setCell]
theorem st9_one {A B C D E : List Value} (a : ∀ v ∈ A, v.oneCell' = true) (b : ∀ v ∈ B, v.oneCell' = true) (c : ∀ v ∈ C, v.oneCell' = true) (d : ∀ v ∈ D, v.oneCell' = true) (e : ∀ v ∈ E, v.oneCell' = true) (h : Bool) (l t : Int) (f : Bool) : ∀ v ∈ st9 A B C D E h l t f, v.oneCell' = true := by
 intro v hv
 unfold st9 at hv
 simp only [List.mem_append, List.mem_cons, List.mem_nil_iff, or_false] at hv
 rcases hv with ((((h | h) | h) | h) | h) | rfl | rfl | rfl | rfl
 ·exact a v h
 ·exact b v h
 ·exact c v h
 ·exact d v h
 ·exact e v h
 all_goals rfl
/-! ### A message, part by part -/
def up8 (L C : List Value) (n : Value) (F : List Value) (m b s t : Value) : List Value := L ++ C ++ [n] ++ F ++ [m, b, s, t]
theorem upV_up8 (d : UpD) (q : UpP) : upV d q = up8 (ltV d.l q.l) (cmV d.c q.c) (slV d.nb q.nb) (ltV d.f q.f) (slV d.fb q.fb) (.int .u64 (d.bits : Int)) (.string d.sig) (.int .u64 (d.slot : Int)) := rfl
theorem up8_len {L C : List Value} {n : Value} {F : List Value} {m b s t : Value} (hL : L.length = 9) (hC : C.length = 2) (hF : F.length = 9) : (up8 L C n F m b s t).length = 25 := by
 simp only [up8, List.length_append, List.length_cons, List.length_nil, hL, hC, hF]
theorem up8_L {L C : List Value} {n : Value} {F : List Value} {m b s t : Value} (j : Nat) (v : Value) (hv : L[j]? = some v) : (up8 L C n F m b s t)[0 + j]? = some v := by
 have := get_mid (A := []) (B := L) (C := C ++ [n] ++ F ++ [m, b, s, t]) j v hv
 simpa only [up8, List.append_assoc, List.nil_append, List.length_nil] using this
theorem up8_F {L C : List Value} {n : Value} {F : List Value} {m b s t : Value} (hL : L.length = 9) (hC : C.length = 2) (j : Nat) (v : Value) (hv : F[j]? = some v) : (up8 L C n F m b s t)[12 + j]? = some v := by
 have := get_mid (A := L ++ C ++ [n]) (B := F) (C := [m, b, s, t]) j v hv
 rw [List.length_append, List.length_append, hL, hC, show 9 + 2 + [n].length = 12 from rfl] at this
 simpa only [up8, List.append_assoc] using this
theorem up8_putF {L C : List Value} {n : Value} {F : List Value} {m b s t : Value} (hL : L.length = 9) (hC : C.length = 2) (hF : F.length = 9) {X : List Value} (hX : X.length = 9) {W : World} {z : Nat} {ty : TypeId}
  (hb : Bq z ty (up8 L C n F m b s t).toArray W) : Bq z ty (up8 L C n X m b s t).toArray (W.setCells z 12 X) := by
 have := setCells_block (b := z) (t := ty) (f := (0, 0)) [m, b, s, t] X F (L ++ C ++ [n]) W (by rw [hX, hF]) (by
  have e : L ++ C ++ [n] ++ F ++ [m, b, s, t] = up8 L C n F m b s t := rfl
  rw [e]
  exact hb)
 have e : L ++ C ++ [n] ++ X ++ [m, b, s, t] = up8 L C n X m b s t := rfl
 rw [e, List.length_append, List.length_append, hL, hC] at this
 exact this
/-! ### Taking over -/
def knB (s : StD) : Bool := decide (0 < s.nxt.ks.length)
def tkA (s : StD) (d : UpD) : Bool := !knB s && decide (d.f.s / 64 = s.fin.s / 64)
def tkB (s : StD) (d : UpD) : Bool := knB s && decide (d.f.s / 64 = s.fin.s / 64 + 1)
def tkU (s : StD) (d : UpD) : Bool := decide (s.fin.s < d.f.s)
def tkV (s : StD) (d : UpD) : Bool := tkU s d && decide (s.new.s < d.f.s)
def tkS (s : StD) (d : UpD) : StD where
 fin := if tkU s d = true then d.f else s.fin
 new := if tkV s d = true then d.f else s.new
 now := if tkB s d = true then s.nxt else s.now
 nxt := if (tkA s d || tkB s d) = true then d.c else s.nxt
 best := zUp
 has := false
 last := if tkB s d = true then s.this else s.last
 this := if tkB s d = true then 0 else s.this
 forced := s.forced
def tkP (s : StD) (d : UpD) (p : StP) (q : UpP) : StP where
 fin := if tkU s d = true then q.f else p.fin
 new := if tkV s d = true then q.f else p.new
 now := if tkB s d = true then p.nxt else p.now
 nxt := if (tkA s d || tkB s d) = true then q.c else p.nxt
 best := nU
theorem nU_in (n : Nat) (W : World) : upIn n W zUp nU := ⟨nil_in _ _, nil_in _ _, nil_in _ _, nil_in _ _, nil_in _ _⟩
theorem tk_in {n : Nat} {W : World} {s : StD} {d : UpD} {p : StP} {q : UpP} (h : stIn n W s p) (g : upIn n W d q) : stIn n W (tkS s d) (tkP s d p q) := by
 obtain ⟨h1, h2, h3, h4, h5⟩ := h
 obtain ⟨g1, g2, g3, g4, g5⟩ := g
 refine ⟨?_, ?_, ?_, ?_, nU_in _ _⟩
 ·show slS n W (if tkU s d = true then q.f else p.fin).a (if tkU s d = true then d.f else s.fin).br
  split <;> assumption
 ·show slS n W (if tkV s d = true then q.f else p.new).a (if tkV s d = true then d.f else s.new).br
  split <;> assumption
 ·show slS n W (if tkB s d = true then p.nxt else p.now).a (if tkB s d = true then s.nxt else s.now).ks
  split <;> assumption
 ·show slS n W (if (tkA s d || tkB s d) = true then q.c else p.nxt).a (if (tkA s d || tkB s d) = true then d.c else s.nxt).ks
  split <;> assumption
theorem tk_sz {s : StD} {d : UpD} (h : szT s) (g : szU d) : szT (tkS s d) := by
 obtain ⟨h1, h2, h3, h4, h5⟩ := h
 obtain ⟨g1, g2, g3, g4, g5⟩ := g
 refine ⟨?_, ?_, ?_, ?_, zT_sz.2.2.2.2⟩
 ·show szL (if tkU s d = true then d.f else s.fin)
  split <;> assumption
 ·show szL (if tkV s d = true then d.f else s.new)
  split <;> assumption
 ·show szC (if tkB s d = true then s.nxt else s.now)
  split <;> assumption
 ·show szC (if (tkA s d || tkB s d) = true then d.c else s.nxt)
  split <;> assumption
theorem tk_ok {s : StD} {d : UpD} (h : s.ok) (g : d.ok) : (tkS s d).ok := by
 obtain ⟨h1, h2, h3, h4, h5⟩ := h
 obtain ⟨g1, g2, g3⟩ := g
 refine ⟨?_, ?_, zUp_ok 0 (by decide), ?_, ?_⟩
 ·show LtD.ok (if tkU s d = true then d.f else s.fin)
  split <;> assumption
 ·show LtD.ok (if tkV s d = true then d.f else s.new)
  split <;> assumption
 ·show -9223372036854775808 ≤ (if tkB s d = true then s.this else s.last) ∧ (if tkB s d = true then s.this else s.last) < 9223372036854775808
  split <;> assumption
 ·show -9223372036854775808 ≤ (if tkB s d = true then 0 else s.this) ∧ (if tkB s d = true then 0 else s.this) < 9223372036854775808
  split
  ·omega
  ·assumption
theorem stV_tk (s : StD) (d : UpD) (p : StP) (q : UpP) : stV (tkS s d) (tkP s d p q) = st9 (if tkU s d = true then ltV d.f q.f else ltV s.fin p.fin) (if tkV s d = true then ltV d.f q.f else ltV s.new p.new) (if tkB s d = true then cmV s.nxt p.nxt else cmV s.now p.now) (if (tkA s d || tkB s d) = true then cmV d.c q.c else cmV s.nxt p.nxt) (upV zUp nU) false (if tkB s d = true then s.this else s.last) (if tkB s d = true then 0 else s.this) s.forced := by
 rw [stV_st9]
 unfold tkS tkP
 dsimp only
 congr 1
 all_goals (split <;> rfl)
/-! ### What is forced -/
def frL (s : StD) : LtD := if s.fin.s < s.best.f.s then s.best.f else s.best.l
def frU (s : StD) : UpD := { s.best with f := frL s }
def frS (s : StD) (now : Nat) : StD := if rfB s now = true then s else { tkS s (frU s) with forced := true }
def frE (s : StD) (now : Nat) : Int := if rfB s now = true then 148 else 0
def frQ (s : StD) (q : UpP) : UpP := { q with f := if s.fin.s < s.best.f.s then q.f else q.l }
theorem frU_in {n : Nat} {W : World} {s : StD} {q : UpP} (h : upIn n W s.best q) : upIn n W (frU s) (frQ s q) := by
 refine ⟨h.1, h.2.1, h.2.2.1, ?_, h.2.2.2.2⟩
 show slS n W (if s.fin.s < s.best.f.s then q.f else q.l).a (frL s).br
 unfold frL
 split
 ·exact h.2.2.2.1
 ·exact h.1
theorem frU_sz {s : StD} (h : szU s.best) : szU (frU s) := by
 refine ⟨h.1, h.2.1, h.2.2.1, ?_, h.2.2.2.2⟩
 show szL (frL s)
 unfold frL
 split
 ·exact h.2.2.2.1
 ·exact h.1
theorem frU_ok {s : StD} (h : s.best.ok) : (frU s).ok := by
 refine ⟨h.1, ?_, h.2.2⟩
 show (frL s).ok
 unfold frL
 split
 ·exact h.2.1
 ·exact h.1
end Go.Proofs.YtoddangedbefgabGreatDoor
