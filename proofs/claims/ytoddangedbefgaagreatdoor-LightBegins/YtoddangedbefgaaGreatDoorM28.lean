/- Lemmas: Lights, committees, Boots, messages, stores that a law gets, opened: what they hold, where their lists lie, and that no part is greater than memory. No condition. A leaf under a state; what begins with a Boot, by the document. No condition. What the package's Begin does. No condition but on sizes that no machine has. What the reference's Begin does. No condition but on sizes that no machine has. The law LightBegins, walked. No condition but on sizes that no machine has. -/
import Derived.Test.YtoddangedbefgaaGreatDoorM1
import Derived.Test.YtoddangedbefgaaGreatDoorM10
import Derived.Test.YtoddangedbefgaaGreatDoorM11
import Derived.Test.YtoddangedbefgaaGreatDoorM12
import Derived.Test.YtoddangedbefgaaGreatDoorM13
import Derived.Test.YtoddangedbefgaaGreatDoorM14
import Derived.Test.YtoddangedbefgaaGreatDoorM15
import Derived.Test.YtoddangedbefgaaGreatDoorM16
import Derived.Test.YtoddangedbefgaaGreatDoorM17
import Derived.Test.YtoddangedbefgaaGreatDoorM18
import Derived.Test.YtoddangedbefgaaGreatDoorM19
import Derived.Test.YtoddangedbefgaaGreatDoorM2
import Derived.Test.YtoddangedbefgaaGreatDoorM20
import Derived.Test.YtoddangedbefgaaGreatDoorM21
import Derived.Test.YtoddangedbefgaaGreatDoorM22
import Derived.Test.YtoddangedbefgaaGreatDoorM23
import Derived.Test.YtoddangedbefgaaGreatDoorM24
import Derived.Test.YtoddangedbefgaaGreatDoorM25
import Derived.Test.YtoddangedbefgaaGreatDoorM26
import Derived.Test.YtoddangedbefgaaGreatDoorM27
import Derived.Test.YtoddangedbefgaaGreatDoorM3
import Derived.Test.YtoddangedbefgaaGreatDoorM4
import Derived.Test.YtoddangedbefgaaGreatDoorM5
import Derived.Test.YtoddangedbefgaaGreatDoorM6
import Derived.Test.YtoddangedbefgaaGreatDoorM7
import Derived.Test.YtoddangedbefgaaGreatDoorM8
import Derived.Test.YtoddangedbefgaaGreatDoorM9
import Derived.Test.YtoddangedbefgaaGreatDoorRows
import Derived.ChangeArms
import Derived.ChangeMaps5
import Derived.ChangeSame
import Derived.JoinedCond
import Derived.OpenShut
import Derived.ProofKit
import Derived.SizedLaws
namespace Go.Proofs.YtoddangedbefgaaGreatDoor
open Go.ChangeShapes Go.WideShapes Go.ChangeAt Go.RowKit

structure BtD where
  l : LtD
  c : CmD
  br : List ByteArray
structure BtP where
  l : Pl
  c : Pl
  br : Pl
def btV (d : BtD) (q : BtP) : List Value := ltV d.l q.l ++ cmV d.c q.c ++ [slV d.br q.br]
def btIn (n : Nat) (W : World) (d : BtD) (q : BtP) : Prop := slS n W q.l.a d.l.br ∧ slS n W q.c.a d.c.ks ∧ slS n W q.br.a d.br
def szB (d : BtD) : Prop := szL d.l ∧ szC d.c ∧ szS d.br
def BtD.ok (d : BtD) : Prop := d.l.ok
def StD.ok (d : StD) : Prop := d.fin.ok ∧ d.new.ok ∧ d.best.ok ∧ (-9223372036854775808 ≤ d.last ∧ d.last < 9223372036854775808) ∧ (-9223372036854775808 ≤ d.this ∧ d.this < 9223372036854775808)
theorem wfiI {n : Int} (h : (Lit.int .i64 n).wf = true) : -9223372036854775808 ≤ n ∧ n < 9223372036854775808 := by
  simp [Lit.wf, IntKind.min, IntKind.max] at h
  have h1 := h.1
  have h2 := h.2
  simp [IntKind.bits, IntKind.signed] at h1 h2
  omega
theorem bytes_str : Tryz.prog.bytesOf 9 = 16 := by kernel_rfl
section
variable {H : Type} {enc : TypeId × Value → H}
def WB (t : TypeId) (x : DataW H) : Prop := ∀ n ∈ x.weights Tryz.prog t, n ≤ reachBytes
theorem strs_weight {e : TypeId} : ∀ (ys : List ByteArray) (x : ByteArray), x ∈ ys → x.data.toList.length ∈ DataW.weightsAll Tryz.prog e (strs (H := H) ys)
  | [], _, hx => by cases hx
  | y :: ys, x, hx => by
    have e4 : strs (H := H) (y :: ys) = .lit (.string y.data.toList) :: strs ys := rfl
    rw [e4]
    simp only [DataW.weightsAll, DataW.weights, List.mem_append]
    rcases List.mem_cons.1 hx with rfl | h
    · exact Or.inl (by simp)
    · exact Or.inr (strs_weight ys x h)
theorem strs_len : ∀ ys : List ByteArray, (strs (H := H) ys).length = ys.length
  | [] => rfl
  | y :: ys => by
    have e4 : strs (H := H) (y :: ys) = .lit (.string y.data.toList) :: strs ys := rfl
    rw [e4, List.length_cons, strs_len ys, List.length_cons]
theorem open_strsW {W : World} {fuel : Nat} {v : Value} {x : DataW H × List MemPlace} (h : DataW.trod enc Tryz.prog W 0 (fun _ => true) true fuel 27 [v] = some x) (hlt : ∀ y ∈ x.2, y.block < W.heap.size) (hw : WB 27 x.1) :
    ∃ (q : Pl) (es : List ByteArray), v = slV es q ∧ slS W.heap.size W q.a es ∧ szS es := by
  rcases open_strings Tryz.underlying27 Tryz.underlying9 cellsSt8 h with ⟨hcs, hx⟩ | ⟨a', len', cap', ss, hcs, _, hle, hm, hz, hx, hcell, hws⟩
  · injection hcs with hcs _
    exact ⟨⟨none, 0⟩, [], hcs, .inl rfl, by simp, fun x hx => by cases hx⟩
  · injection hcs with hcs _
    rw [if_pos rfl] at hz
    unfold maxLen at hm
    have hll : (ss.take len').length = len' := by rw [List.length_take]; omega
    refine ⟨⟨some a', cap'⟩, ss.take len', by unfold slV; rw [hll]; exact hcs, ?_, ?_⟩
    · by_cases h0 : len' = 0
      · subst h0
        exact .inl rfl
      · obtain ⟨b, off, spot⟩ := a'
        have hspot : spot = none := by simpa [Addr.add] using World.cell?_spot (hcell 0 (by omega))
        subst hspot
        have hbl : b < W.heap.size := by
          have h2 := hlt (.cell b off) (by rw [hx]; exact MemPlace.mem_row.2 ⟨0, by omega, by simp⟩)
          exact h2
        refine .inr ⟨b, off, rfl, hbl, fun j y hy => ?_⟩
        rw [List.getElem?_take] at hy
        split at hy
        · have h2 := hcell j (by omega)
          rw [add_plain] at h2
          rw [h2, List.getD_eq_getElem?_getD, hy]
          rfl
        · cases hy
    · rw [hx] at hw
      unfold WB at hw
      simp only [DataW.weights, Tryz.underlying27] at hw
      have w0 := hw _ (List.mem_cons_self ..)
      rw [strs_len, strs_len, bytes_str] at w0
      have hr : reachBytes = 140737488351232 := rfl
      refine ⟨by omega, fun x hx => ?_⟩
      have w1 := hw _ (List.mem_cons_of_mem _ (List.mem_append_left _ (strs_weight _ x hx)))
      have h3 : x.data.toList.length = x.size := by simp
      omega
theorem cU8 : Tryz.prog.cellsOf 22 = 1 := by kernel_rfl
theorem cS8 : Tryz.prog.cellsOf 9 = 1 := by kernel_rfl
theorem cL8 : Tryz.prog.cellsOf 27 = 1 := by kernel_rfl
theorem cHd : Tryz.prog.cellsOf 24 = 5 := by kernel_rfl
theorem cEx : Tryz.prog.cellsOf 26 = 3 := by kernel_rfl
theorem cLt : Tryz.prog.cellsOf 29 = 9 := by kernel_rfl
theorem cCm : Tryz.prog.cellsOf 31 = 2 := by kernel_rfl
theorem cBt : Tryz.prog.cellsOf 33 = 12 := by kernel_rfl
theorem cUp : Tryz.prog.cellsOf 36 = 25 := by kernel_rfl
theorem one_of {α : Type} (l : List α) (h : l.length = 1) : ∃ a, l = [a] := by
  match l, h with
  | [a], _ => exact ⟨a, rfl⟩
theorem of_two {α : Type} (l : List α) (h : l.length = 2) : ∃ a b, l = [a, b] := by
  match l, h with
  | [a, b], _ => exact ⟨a, b, rfl⟩
theorem of_three {α : Type} (l : List α) (h : l.length = 3) : ∃ a b c, l = [a, b, c] := by
  match l, h with
  | [a, b, c], _ => exact ⟨a, b, c, rfl⟩
theorem of_five {α : Type} (l : List α) (h : l.length = 5) : ∃ a b c d e, l = [a, b, c, d, e] := by
  match l, h with
  | [a, b, c, d, e], _ => exact ⟨a, b, c, d, e, rfl⟩
theorem cSt : Tryz.prog.cellsOf 38 = 51 := by kernel_rfl
theorem cB8 : Tryz.prog.cellsOf 4 = 1 := by kernel_rfl
theorem cI8 : Tryz.prog.cellsOf 3 = 1 := by kernel_rfl
theorem of_nine {α : Type} (l : List α) (h : l.length = 9) : ∃ a b c d e f g i j, l = [a, b, c, d, e, f, g, i, j] := by
  match l, h with
  | [a, b, c, d, e, f, g, i, j], _ => exact ⟨a, b, c, d, e, f, g, i, j, rfl⟩
theorem of_eight {α : Type} (l : List α) (h : l.length = 8) : ∃ a b c d e f g i, l = [a, b, c, d, e, f, g, i] := by
  match l, h with
  | [a, b, c, d, e, f, g, i], _ => exact ⟨a, b, c, d, e, f, g, i, rfl⟩
theorem stp {α : Type} (cs : List α) (o k m : Nat) (h : o + k = m) : List.drop o cs = List.take k (List.drop o cs) ++ List.drop m cs := by
  have := List.take_append_drop k (List.drop o cs)
  rw [List.drop_drop, h] at this
  exact this.symm
theorem reach_str {s : ByteArray} (h : WB (H := H) 9 (.lit (.string s.data.toList))) : s.size ≤ 281474976710656 := by
  have w := h s.data.toList.length (by simp [DataW.weights])
  have hr : reachBytes = 140737488351232 := rfl
  have h3 : s.data.toList.length = s.size := by simp
  omega
theorem trod_boolL {W : World} {fuel : Nat} {v : Value} {x : DataW H × List MemPlace} (h : DataW.trod enc Tryz.prog W 0 (fun _ => true) true fuel 4 [v] = some x) : ∃ b : Bool, [v] = [.bool b] ∧ x = (.lit (.bool b), []) := by
  obtain ⟨b, e, r⟩ := DataW.trod_bool Tryz.underlying4 h
  exact ⟨b, e, r⟩
set_option maxRecDepth 100000 in
set_option maxHeartbeats 1000000 in
theorem hd_openW {W : World} {fuel : Nat} {cs : List Value} {x : DataW H × List MemPlace} (h : DataW.trod enc Tryz.prog W 0 (fun _ => true) true fuel 24 cs = some x) (hlt : ∀ y ∈ x.2, y.block < W.heap.size) (hw : WB 24 x.1) :
    ∃ (s u : Nat) (p t b : ByteArray), cs = [.int .u64 s, .int .u64 u, .string p, .string t, .string b] ∧ U6 s ∧ U6 u ∧ (p.size ≤ 281474976710656 ∧ t.size ≤ 281474976710656 ∧ b.size ≤ 281474976710656) := by
  obtain ⟨xs, n, rfl, hx, hl, hxs, hf⟩ := DataW.trod_struct Tryz.underlying24 h
  rw [cHd] at hl
  obtain ⟨y0, y1, y2, y3, y4, rfl⟩ := of_five xs hxs
  have g0 : DataW.trod enc Tryz.prog W 0 (fun _ => true) true n 22 (List.take (Tryz.prog.cellsOf 22) (List.drop 0 cs)) = some y0 := hf 0 _ rfl
  rw [cU8] at g0
  have g1 : DataW.trod enc Tryz.prog W 0 (fun _ => true) true n 22 (List.take (Tryz.prog.cellsOf 22) (List.drop 1 cs)) = some y1 := hf 1 _ rfl
  rw [cU8] at g1
  have g2 : DataW.trod enc Tryz.prog W 0 (fun _ => true) true n 9 (List.take (Tryz.prog.cellsOf 9) (List.drop 2 cs)) = some y2 := hf 2 _ rfl
  rw [cS8] at g2
  have g3 : DataW.trod enc Tryz.prog W 0 (fun _ => true) true n 9 (List.take (Tryz.prog.cellsOf 9) (List.drop 3 cs)) = some y3 := hf 3 _ rfl
  rw [cS8] at g3
  have g4 : DataW.trod enc Tryz.prog W 0 (fun _ => true) true n 9 (List.take (Tryz.prog.cellsOf 9) (List.drop 4 cs)) = some y4 := hf 4 _ rfl
  rw [cS8] at g4
  rw [hx] at hlt hw
  unfold WB at hw
  simp only [DataW.weights, Tryz.underlying24] at hw
  have w2 : WB 9 y2.1 := fun n hn => hw n (DataW.weights_mem_each (j := 2) (t := 9) rfl rfl n hn)
  have w3 : WB 9 y3.1 := fun n hn => hw n (DataW.weights_mem_each (j := 3) (t := 9) rfl rfl n hn)
  have w4 : WB 9 y4.1 := fun n hn => hw n (DataW.weights_mem_each (j := 4) (t := 9) rfl rfl n hn)
  obtain ⟨v0, e0⟩ := one_of (List.take 1 (List.drop 0 cs)) (by rw [List.length_take, List.length_drop, hl]; decide)
  rw [e0] at g0
  obtain ⟨q0, r0, rfl, i0⟩ := DataW.trod_int Tryz.underlying22 g0
  have z0 := wf64 i0
  simp at r0
  obtain ⟨v1, e1⟩ := one_of (List.take 1 (List.drop 1 cs)) (by rw [List.length_take, List.length_drop, hl]; decide)
  rw [e1] at g1
  obtain ⟨q1, r1, rfl, i1⟩ := DataW.trod_int Tryz.underlying22 g1
  have z1 := wf64 i1
  simp at r1
  obtain ⟨v2, e2⟩ := one_of (List.take 1 (List.drop 2 cs)) (by rw [List.length_take, List.length_drop, hl]; decide)
  rw [e2] at g2
  obtain ⟨d2, r2, rfl, _⟩ := DataW.trod_string Tryz.underlying9 g2
  simp at r2
  have z2 := reach_str (s := d2) w2
  obtain ⟨v3, e3⟩ := one_of (List.take 1 (List.drop 3 cs)) (by rw [List.length_take, List.length_drop, hl]; decide)
  rw [e3] at g3
  obtain ⟨d3, r3, rfl, _⟩ := DataW.trod_string Tryz.underlying9 g3
  simp at r3
  have z3 := reach_str (s := d3) w3
  obtain ⟨v4, e4⟩ := one_of (List.take 1 (List.drop 4 cs)) (by rw [List.length_take, List.length_drop, hl]; decide)
  rw [e4] at g4
  obtain ⟨d4, r4, rfl, _⟩ := DataW.trod_string Tryz.underlying9 g4
  simp at r4
  have z4 := reach_str (s := d4) w4
  have f0 := stp cs 0 1 1 rfl
  have f1 := stp cs 1 1 2 rfl
  have f2 := stp cs 2 1 3 rfl
  have f3 := stp cs 3 1 4 rfl
  have f4 := stp cs 4 1 5 rfl
  have hz : List.drop 5 cs = [] := List.drop_of_length_le (by omega)
  have hc : List.drop 0 cs = List.take 1 (List.drop 0 cs) ++ (List.take 1 (List.drop 1 cs) ++ (List.take 1 (List.drop 2 cs) ++ (List.take 1 (List.drop 3 cs) ++ (List.take 1 (List.drop 4 cs) ++ (List.drop 5 cs))))) := by
    rw [← f4, ← f3, ← f2, ← f1, ← f0]
  rw [e0, e1, e2, e3, e4, hz] at hc
  rw [List.drop_zero] at hc
  refine ⟨q0.toNat, q1.toNat, d2, d3, d4, ?_, (by unfold U6; omega), (by unfold U6; omega), z2, z3, z4⟩
  rw [hc]
  simp [r0, r1, r2, r3, r4, Int.toNat_of_nonneg z0.1, Int.toNat_of_nonneg z1.1]
set_option maxRecDepth 100000 in
set_option maxHeartbeats 1000000 in
theorem ex_openW {W : World} {fuel : Nat} {cs : List Value} {x : DataW H × List MemPlace} (h : DataW.trod enc Tryz.prog W 0 (fun _ => true) true fuel 26 cs = some x) (hlt : ∀ y ∈ x.2, y.block < W.heap.size) (hw : WB 26 x.1) :
    ∃ (p t : ByteArray) (s : Nat), cs = [.string p, .string t, .int .u64 s] ∧ U6 s ∧ (p.size ≤ 281474976710656 ∧ t.size ≤ 281474976710656) := by
  obtain ⟨xs, n, rfl, hx, hl, hxs, hf⟩ := DataW.trod_struct Tryz.underlying26 h
  rw [cEx] at hl
  obtain ⟨y0, y1, y2, rfl⟩ := of_three xs hxs
  have g0 : DataW.trod enc Tryz.prog W 0 (fun _ => true) true n 9 (List.take (Tryz.prog.cellsOf 9) (List.drop 0 cs)) = some y0 := hf 0 _ rfl
  rw [cS8] at g0
  have g1 : DataW.trod enc Tryz.prog W 0 (fun _ => true) true n 9 (List.take (Tryz.prog.cellsOf 9) (List.drop 1 cs)) = some y1 := hf 1 _ rfl
  rw [cS8] at g1
  have g2 : DataW.trod enc Tryz.prog W 0 (fun _ => true) true n 22 (List.take (Tryz.prog.cellsOf 22) (List.drop 2 cs)) = some y2 := hf 2 _ rfl
  rw [cU8] at g2
  rw [hx] at hlt hw
  unfold WB at hw
  simp only [DataW.weights, Tryz.underlying26] at hw
  have w0 : WB 9 y0.1 := fun n hn => hw n (DataW.weights_mem_each (j := 0) (t := 9) rfl rfl n hn)
  have w1 : WB 9 y1.1 := fun n hn => hw n (DataW.weights_mem_each (j := 1) (t := 9) rfl rfl n hn)
  obtain ⟨v0, e0⟩ := one_of (List.take 1 (List.drop 0 cs)) (by rw [List.length_take, List.length_drop, hl]; decide)
  rw [e0] at g0
  obtain ⟨d0, r0, rfl, _⟩ := DataW.trod_string Tryz.underlying9 g0
  simp at r0
  have z0 := reach_str (s := d0) w0
  obtain ⟨v1, e1⟩ := one_of (List.take 1 (List.drop 1 cs)) (by rw [List.length_take, List.length_drop, hl]; decide)
  rw [e1] at g1
  obtain ⟨d1, r1, rfl, _⟩ := DataW.trod_string Tryz.underlying9 g1
  simp at r1
  have z1 := reach_str (s := d1) w1
  obtain ⟨v2, e2⟩ := one_of (List.take 1 (List.drop 2 cs)) (by rw [List.length_take, List.length_drop, hl]; decide)
  rw [e2] at g2
  obtain ⟨q2, r2, rfl, i2⟩ := DataW.trod_int Tryz.underlying22 g2
  have z2 := wf64 i2
  simp at r2
  have f0 := stp cs 0 1 1 rfl
  have f1 := stp cs 1 1 2 rfl
  have f2 := stp cs 2 1 3 rfl
  have hz : List.drop 3 cs = [] := List.drop_of_length_le (by omega)
  have hc : List.drop 0 cs = List.take 1 (List.drop 0 cs) ++ (List.take 1 (List.drop 1 cs) ++ (List.take 1 (List.drop 2 cs) ++ (List.drop 3 cs))) := by
    rw [← f2, ← f1, ← f0]
  rw [e0, e1, e2, hz] at hc
  rw [List.drop_zero] at hc
  refine ⟨d0, d1, q2.toNat, ?_, (by unfold U6; omega), z0, z1⟩
  rw [hc]
  simp [r0, r1, r2, Int.toNat_of_nonneg z2.1]
set_option maxRecDepth 100000 in
set_option maxHeartbeats 1000000 in
theorem lt_openW {W : World} {fuel : Nat} {cs : List Value} {x : DataW H × List MemPlace} (h : DataW.trod enc Tryz.prog W 0 (fun _ => true) true fuel 29 cs = some x) (hlt : ∀ y ∈ x.2, y.block < W.heap.size) (hw : WB 29 x.1) :
    ∃ (d : LtD) (q : Pl), cs = ltV d q ∧ d.ok ∧ slS W.heap.size W q.a d.br ∧ szL d := by
  obtain ⟨xs, n, rfl, hx, hl, hxs, hf⟩ := DataW.trod_struct Tryz.underlying29 h
  rw [cLt] at hl
  obtain ⟨y0, y1, y2, rfl⟩ := of_three xs hxs
  have g0 : DataW.trod enc Tryz.prog W 0 (fun _ => true) true n 24 (List.take (Tryz.prog.cellsOf 24) (List.drop 0 cs)) = some y0 := hf 0 _ rfl
  rw [cHd] at g0
  have g1 : DataW.trod enc Tryz.prog W 0 (fun _ => true) true n 26 (List.take (Tryz.prog.cellsOf 26) (List.drop 5 cs)) = some y1 := hf 1 _ rfl
  rw [cEx] at g1
  have g2 : DataW.trod enc Tryz.prog W 0 (fun _ => true) true n 27 (List.take (Tryz.prog.cellsOf 27) (List.drop 8 cs)) = some y2 := hf 2 _ rfl
  rw [cL8] at g2
  rw [hx] at hlt hw
  unfold WB at hw
  simp only [DataW.weights, Tryz.underlying29] at hw
  have w0 : WB 24 y0.1 := fun n hn => hw n (DataW.weights_mem_each (j := 0) (t := 24) rfl rfl n hn)
  have w1 : WB 26 y1.1 := fun n hn => hw n (DataW.weights_mem_each (j := 1) (t := 26) rfl rfl n hn)
  have w2 : WB 27 y2.1 := fun n hn => hw n (DataW.weights_mem_each (j := 2) (t := 27) rfl rfl n hn)
  obtain ⟨s0, u0, p0, t0, b0, e0, is0, iu0, z0⟩ := hd_openW g0 (fun y hy => hlt y (by simp [hy])) w0
  obtain ⟨p1, t1, s1, e1, is1, z1⟩ := ex_openW g1 (fun y hy => hlt y (by simp [hy])) w1
  obtain ⟨v2, e2⟩ := one_of (List.take 1 (List.drop 8 cs)) (by rw [List.length_take, List.length_drop, hl]; decide)
  rw [e2] at g2
  obtain ⟨q2, d2, rfl, in2, z2⟩ := open_strsW g2 (fun y hy => hlt y (by simp [hy])) w2
  have f0 := stp cs 0 5 5 rfl
  have f1 := stp cs 5 3 8 rfl
  have f2 := stp cs 8 1 9 rfl
  have hz : List.drop 9 cs = [] := List.drop_of_length_le (by omega)
  have hc : List.drop 0 cs = List.take 5 (List.drop 0 cs) ++ (List.take 3 (List.drop 5 cs) ++ (List.take 1 (List.drop 8 cs) ++ (List.drop 9 cs))) := by
    rw [← f2, ← f1, ← f0]
  rw [e0, e1, e2, hz] at hc
  rw [List.drop_zero] at hc
  refine ⟨⟨s0, u0, p0, t0, b0, p1, t1, s1, d2⟩, q2, ?_, ⟨is0, iu0, is1⟩, in2, z0.1, z0.2.1, z0.2.2, z1.1, z1.2, z2⟩
  rw [hc]
  rfl
set_option maxRecDepth 100000 in
set_option maxHeartbeats 1000000 in
theorem cm_openW {W : World} {fuel : Nat} {cs : List Value} {x : DataW H × List MemPlace} (h : DataW.trod enc Tryz.prog W 0 (fun _ => true) true fuel 31 cs = some x) (hlt : ∀ y ∈ x.2, y.block < W.heap.size) (hw : WB 31 x.1) :
    ∃ (d : CmD) (q : Pl), cs = cmV d q ∧ slS W.heap.size W q.a d.ks ∧ szC d := by
  obtain ⟨xs, n, rfl, hx, hl, hxs, hf⟩ := DataW.trod_struct Tryz.underlying31 h
  rw [cCm] at hl
  obtain ⟨y0, y1, rfl⟩ := of_two xs hxs
  have g0 : DataW.trod enc Tryz.prog W 0 (fun _ => true) true n 27 (List.take (Tryz.prog.cellsOf 27) (List.drop 0 cs)) = some y0 := hf 0 _ rfl
  rw [cL8] at g0
  have g1 : DataW.trod enc Tryz.prog W 0 (fun _ => true) true n 9 (List.take (Tryz.prog.cellsOf 9) (List.drop 1 cs)) = some y1 := hf 1 _ rfl
  rw [cS8] at g1
  rw [hx] at hlt hw
  unfold WB at hw
  simp only [DataW.weights, Tryz.underlying31] at hw
  have w0 : WB 27 y0.1 := fun n hn => hw n (DataW.weights_mem_each (j := 0) (t := 27) rfl rfl n hn)
  have w1 : WB 9 y1.1 := fun n hn => hw n (DataW.weights_mem_each (j := 1) (t := 9) rfl rfl n hn)
  obtain ⟨v0, e0⟩ := one_of (List.take 1 (List.drop 0 cs)) (by rw [List.length_take, List.length_drop, hl]; decide)
  rw [e0] at g0
  obtain ⟨q0, d0, rfl, in0, z0⟩ := open_strsW g0 (fun y hy => hlt y (by simp [hy])) w0
  obtain ⟨v1, e1⟩ := one_of (List.take 1 (List.drop 1 cs)) (by rw [List.length_take, List.length_drop, hl]; decide)
  rw [e1] at g1
  obtain ⟨d1, r1, rfl, _⟩ := DataW.trod_string Tryz.underlying9 g1
  simp at r1
  have z1 := reach_str (s := d1) w1
  have f0 := stp cs 0 1 1 rfl
  have f1 := stp cs 1 1 2 rfl
  have hz : List.drop 2 cs = [] := List.drop_of_length_le (by omega)
  have hc : List.drop 0 cs = List.take 1 (List.drop 0 cs) ++ (List.take 1 (List.drop 1 cs) ++ (List.drop 2 cs)) := by
    rw [← f1, ← f0]
  rw [e0, e1, hz] at hc
  rw [List.drop_zero] at hc
  refine ⟨⟨d0, d1⟩, q0, ?_, in0, z0, z1⟩
  rw [hc]
  simp [r1, cmV, slV]
set_option maxRecDepth 100000 in
set_option maxHeartbeats 1000000 in
theorem bt_openW {W : World} {fuel : Nat} {cs : List Value} {x : DataW H × List MemPlace} (h : DataW.trod enc Tryz.prog W 0 (fun _ => true) true fuel 33 cs = some x) (hlt : ∀ y ∈ x.2, y.block < W.heap.size) (hw : WB 33 x.1) :
    ∃ (d : BtD) (q : BtP), cs = btV d q ∧ d.ok ∧ btIn W.heap.size W d q ∧ szB d := by
  obtain ⟨xs, n, rfl, hx, hl, hxs, hf⟩ := DataW.trod_struct Tryz.underlying33 h
  rw [cBt] at hl
  obtain ⟨y0, y1, y2, rfl⟩ := of_three xs hxs
  have g0 : DataW.trod enc Tryz.prog W 0 (fun _ => true) true n 29 (List.take (Tryz.prog.cellsOf 29) (List.drop 0 cs)) = some y0 := hf 0 _ rfl
  rw [cLt] at g0
  have g1 : DataW.trod enc Tryz.prog W 0 (fun _ => true) true n 31 (List.take (Tryz.prog.cellsOf 31) (List.drop 9 cs)) = some y1 := hf 1 _ rfl
  rw [cCm] at g1
  have g2 : DataW.trod enc Tryz.prog W 0 (fun _ => true) true n 27 (List.take (Tryz.prog.cellsOf 27) (List.drop 11 cs)) = some y2 := hf 2 _ rfl
  rw [cL8] at g2
  rw [hx] at hlt hw
  unfold WB at hw
  simp only [DataW.weights, Tryz.underlying33] at hw
  have w0 : WB 29 y0.1 := fun n hn => hw n (DataW.weights_mem_each (j := 0) (t := 29) rfl rfl n hn)
  have w1 : WB 31 y1.1 := fun n hn => hw n (DataW.weights_mem_each (j := 1) (t := 31) rfl rfl n hn)
  have w2 : WB 27 y2.1 := fun n hn => hw n (DataW.weights_mem_each (j := 2) (t := 27) rfl rfl n hn)
  obtain ⟨d0, q0, e0, ok0, in0, z0⟩ := lt_openW g0 (fun y hy => hlt y (by simp [hy])) w0
  obtain ⟨d1, q1, e1, in1, z1⟩ := cm_openW g1 (fun y hy => hlt y (by simp [hy])) w1
  obtain ⟨v2, e2⟩ := one_of (List.take 1 (List.drop 11 cs)) (by rw [List.length_take, List.length_drop, hl]; decide)
  rw [e2] at g2
  obtain ⟨q2, d2, rfl, in2, z2⟩ := open_strsW g2 (fun y hy => hlt y (by simp [hy])) w2
  have f0 := stp cs 0 9 9 rfl
  have f1 := stp cs 9 2 11 rfl
  have f2 := stp cs 11 1 12 rfl
  have hz : List.drop 12 cs = [] := List.drop_of_length_le (by omega)
  have hc : List.drop 0 cs = List.take 9 (List.drop 0 cs) ++ (List.take 2 (List.drop 9 cs) ++ (List.take 1 (List.drop 11 cs) ++ (List.drop 12 cs))) := by
    rw [← f2, ← f1, ← f0]
  rw [e0, e1, e2, hz] at hc
  rw [List.drop_zero] at hc
  refine ⟨⟨d0, d1, d2⟩, ⟨q0, q1, q2⟩, ?_, ok0, ⟨in0, in1, in2⟩, z0, z1, z2⟩
  rw [hc]
  simp [btV]
set_option maxRecDepth 100000 in
set_option maxHeartbeats 1000000 in
theorem up_openW {W : World} {fuel : Nat} {cs : List Value} {x : DataW H × List MemPlace} (h : DataW.trod enc Tryz.prog W 0 (fun _ => true) true fuel 36 cs = some x) (hlt : ∀ y ∈ x.2, y.block < W.heap.size) (hw : WB 36 x.1) :
    ∃ (d : UpD) (q : UpP), cs = upV d q ∧ d.ok ∧ upIn W.heap.size W d q ∧ szU d := by
  obtain ⟨xs, n, rfl, hx, hl, hxs, hf⟩ := DataW.trod_struct Tryz.underlying36 h
  rw [cUp] at hl
  obtain ⟨y0, y1, y2, y3, y4, y5, y6, y7, rfl⟩ := of_eight xs hxs
  have g0 : DataW.trod enc Tryz.prog W 0 (fun _ => true) true n 29 (List.take (Tryz.prog.cellsOf 29) (List.drop 0 cs)) = some y0 := hf 0 _ rfl
  rw [cLt] at g0
  have g1 : DataW.trod enc Tryz.prog W 0 (fun _ => true) true n 31 (List.take (Tryz.prog.cellsOf 31) (List.drop 9 cs)) = some y1 := hf 1 _ rfl
  rw [cCm] at g1
  have g2 : DataW.trod enc Tryz.prog W 0 (fun _ => true) true n 27 (List.take (Tryz.prog.cellsOf 27) (List.drop 11 cs)) = some y2 := hf 2 _ rfl
  rw [cL8] at g2
  have g3 : DataW.trod enc Tryz.prog W 0 (fun _ => true) true n 29 (List.take (Tryz.prog.cellsOf 29) (List.drop 12 cs)) = some y3 := hf 3 _ rfl
  rw [cLt] at g3
  have g4 : DataW.trod enc Tryz.prog W 0 (fun _ => true) true n 27 (List.take (Tryz.prog.cellsOf 27) (List.drop 21 cs)) = some y4 := hf 4 _ rfl
  rw [cL8] at g4
  have g5 : DataW.trod enc Tryz.prog W 0 (fun _ => true) true n 22 (List.take (Tryz.prog.cellsOf 22) (List.drop 22 cs)) = some y5 := hf 5 _ rfl
  rw [cU8] at g5
  have g6 : DataW.trod enc Tryz.prog W 0 (fun _ => true) true n 9 (List.take (Tryz.prog.cellsOf 9) (List.drop 23 cs)) = some y6 := hf 6 _ rfl
  rw [cS8] at g6
  have g7 : DataW.trod enc Tryz.prog W 0 (fun _ => true) true n 22 (List.take (Tryz.prog.cellsOf 22) (List.drop 24 cs)) = some y7 := hf 7 _ rfl
  rw [cU8] at g7
  rw [hx] at hlt hw
  unfold WB at hw
  simp only [DataW.weights, Tryz.underlying36] at hw
  have w0 : WB 29 y0.1 := fun n hn => hw n (DataW.weights_mem_each (j := 0) (t := 29) rfl rfl n hn)
  have w1 : WB 31 y1.1 := fun n hn => hw n (DataW.weights_mem_each (j := 1) (t := 31) rfl rfl n hn)
  have w2 : WB 27 y2.1 := fun n hn => hw n (DataW.weights_mem_each (j := 2) (t := 27) rfl rfl n hn)
  have w3 : WB 29 y3.1 := fun n hn => hw n (DataW.weights_mem_each (j := 3) (t := 29) rfl rfl n hn)
  have w4 : WB 27 y4.1 := fun n hn => hw n (DataW.weights_mem_each (j := 4) (t := 27) rfl rfl n hn)
  have w6 : WB 9 y6.1 := fun n hn => hw n (DataW.weights_mem_each (j := 6) (t := 9) rfl rfl n hn)
  obtain ⟨d0, q0, e0, ok0, in0, z0⟩ := lt_openW g0 (fun y hy => hlt y (by simp [hy])) w0
  obtain ⟨d1, q1, e1, in1, z1⟩ := cm_openW g1 (fun y hy => hlt y (by simp [hy])) w1
  obtain ⟨v2, e2⟩ := one_of (List.take 1 (List.drop 11 cs)) (by rw [List.length_take, List.length_drop, hl]; decide)
  rw [e2] at g2
  obtain ⟨q2, d2, rfl, in2, z2⟩ := open_strsW g2 (fun y hy => hlt y (by simp [hy])) w2
  obtain ⟨d3, q3, e3, ok3, in3, z3⟩ := lt_openW g3 (fun y hy => hlt y (by simp [hy])) w3
  obtain ⟨v4, e4⟩ := one_of (List.take 1 (List.drop 21 cs)) (by rw [List.length_take, List.length_drop, hl]; decide)
  rw [e4] at g4
  obtain ⟨q4, d4, rfl, in4, z4⟩ := open_strsW g4 (fun y hy => hlt y (by simp [hy])) w4
  obtain ⟨v5, e5⟩ := one_of (List.take 1 (List.drop 22 cs)) (by rw [List.length_take, List.length_drop, hl]; decide)
  rw [e5] at g5
  obtain ⟨q5, r5, rfl, i5⟩ := DataW.trod_int Tryz.underlying22 g5
  have z5 := wf64 i5
  simp at r5
  obtain ⟨v6, e6⟩ := one_of (List.take 1 (List.drop 23 cs)) (by rw [List.length_take, List.length_drop, hl]; decide)
  rw [e6] at g6
  obtain ⟨d6, r6, rfl, _⟩ := DataW.trod_string Tryz.underlying9 g6
  simp at r6
  have z6 := reach_str (s := d6) w6
  obtain ⟨v7, e7⟩ := one_of (List.take 1 (List.drop 24 cs)) (by rw [List.length_take, List.length_drop, hl]; decide)
  rw [e7] at g7
  obtain ⟨q7, r7, rfl, i7⟩ := DataW.trod_int Tryz.underlying22 g7
  have z7 := wf64 i7
  simp at r7
  have f0 := stp cs 0 9 9 rfl
  have f1 := stp cs 9 2 11 rfl
  have f2 := stp cs 11 1 12 rfl
  have f3 := stp cs 12 9 21 rfl
  have f4 := stp cs 21 1 22 rfl
  have f5 := stp cs 22 1 23 rfl
  have f6 := stp cs 23 1 24 rfl
  have f7 := stp cs 24 1 25 rfl
  have hz : List.drop 25 cs = [] := List.drop_of_length_le (by omega)
  have hc : List.drop 0 cs = List.take 9 (List.drop 0 cs) ++ (List.take 2 (List.drop 9 cs) ++ (List.take 1 (List.drop 11 cs) ++ (List.take 9 (List.drop 12 cs) ++ (List.take 1 (List.drop 21 cs) ++ (List.take 1 (List.drop 22 cs) ++ (List.take 1 (List.drop 23 cs) ++ (List.take 1 (List.drop 24 cs) ++ (List.drop 25 cs)))))))) := by
    rw [← f7, ← f6, ← f5, ← f4, ← f3, ← f2, ← f1, ← f0]
  rw [e0, e1, e2, e3, e4, e5, e6, e7, hz] at hc
  rw [List.drop_zero] at hc
  refine ⟨⟨d0, d1, d2, d3, d4, q5.toNat, d6, q7.toNat⟩, ⟨q0, q1, q2, q3, q4⟩, ?_, ⟨ok0, ok3, (by unfold U6; dsimp only; omega), (by unfold U6; dsimp only; omega)⟩, ⟨in0, in1, in2, in3, in4⟩, z0, z1, z2, z3, z4, z6⟩
  rw [hc]
  simp [upV, r5, r6, r7, Int.toNat_of_nonneg z5.1, Int.toNat_of_nonneg z7.1]
set_option maxRecDepth 100000 in
set_option maxHeartbeats 1000000 in
theorem st_openW {W : World} {fuel : Nat} {cs : List Value} {x : DataW H × List MemPlace} (h : DataW.trod enc Tryz.prog W 0 (fun _ => true) true fuel 38 cs = some x) (hlt : ∀ y ∈ x.2, y.block < W.heap.size) (hw : WB 38 x.1) :
    ∃ (d : StD) (q : StP), cs = stV d q ∧ d.ok ∧ stIn W.heap.size W d q ∧ szT d := by
  obtain ⟨xs, n, rfl, hx, hl, hxs, hf⟩ := DataW.trod_struct Tryz.underlying38 h
  rw [cSt] at hl
  obtain ⟨y0, y1, y2, y3, y4, y5, y6, y7, y8, rfl⟩ := of_nine xs hxs
  have g0 : DataW.trod enc Tryz.prog W 0 (fun _ => true) true n 29 (List.take (Tryz.prog.cellsOf 29) (List.drop 0 cs)) = some y0 := hf 0 _ rfl
  rw [cLt] at g0
  have g1 : DataW.trod enc Tryz.prog W 0 (fun _ => true) true n 29 (List.take (Tryz.prog.cellsOf 29) (List.drop 9 cs)) = some y1 := hf 1 _ rfl
  rw [cLt] at g1
  have g2 : DataW.trod enc Tryz.prog W 0 (fun _ => true) true n 31 (List.take (Tryz.prog.cellsOf 31) (List.drop 18 cs)) = some y2 := hf 2 _ rfl
  rw [cCm] at g2
  have g3 : DataW.trod enc Tryz.prog W 0 (fun _ => true) true n 31 (List.take (Tryz.prog.cellsOf 31) (List.drop 20 cs)) = some y3 := hf 3 _ rfl
  rw [cCm] at g3
  have g4 : DataW.trod enc Tryz.prog W 0 (fun _ => true) true n 36 (List.take (Tryz.prog.cellsOf 36) (List.drop 22 cs)) = some y4 := hf 4 _ rfl
  rw [cUp] at g4
  have g5 : DataW.trod enc Tryz.prog W 0 (fun _ => true) true n 4 (List.take (Tryz.prog.cellsOf 4) (List.drop 47 cs)) = some y5 := hf 5 _ rfl
  rw [cB8] at g5
  have g6 : DataW.trod enc Tryz.prog W 0 (fun _ => true) true n 3 (List.take (Tryz.prog.cellsOf 3) (List.drop 48 cs)) = some y6 := hf 6 _ rfl
  rw [cI8] at g6
  have g7 : DataW.trod enc Tryz.prog W 0 (fun _ => true) true n 3 (List.take (Tryz.prog.cellsOf 3) (List.drop 49 cs)) = some y7 := hf 7 _ rfl
  rw [cI8] at g7
  have g8 : DataW.trod enc Tryz.prog W 0 (fun _ => true) true n 4 (List.take (Tryz.prog.cellsOf 4) (List.drop 50 cs)) = some y8 := hf 8 _ rfl
  rw [cB8] at g8
  rw [hx] at hlt hw
  unfold WB at hw
  simp only [DataW.weights, Tryz.underlying38] at hw
  have w0 : WB 29 y0.1 := fun n hn => hw n (DataW.weights_mem_each (j := 0) (t := 29) rfl rfl n hn)
  have w1 : WB 29 y1.1 := fun n hn => hw n (DataW.weights_mem_each (j := 1) (t := 29) rfl rfl n hn)
  have w2 : WB 31 y2.1 := fun n hn => hw n (DataW.weights_mem_each (j := 2) (t := 31) rfl rfl n hn)
  have w3 : WB 31 y3.1 := fun n hn => hw n (DataW.weights_mem_each (j := 3) (t := 31) rfl rfl n hn)
  have w4 : WB 36 y4.1 := fun n hn => hw n (DataW.weights_mem_each (j := 4) (t := 36) rfl rfl n hn)
  obtain ⟨d0, q0, e0, ok0, in0, z0⟩ := lt_openW g0 (fun y hy => hlt y (by simp [hy])) w0
  obtain ⟨d1, q1, e1, ok1, in1, z1⟩ := lt_openW g1 (fun y hy => hlt y (by simp [hy])) w1
  obtain ⟨d2, q2, e2, in2, z2⟩ := cm_openW g2 (fun y hy => hlt y (by simp [hy])) w2
  obtain ⟨d3, q3, e3, in3, z3⟩ := cm_openW g3 (fun y hy => hlt y (by simp [hy])) w3
  obtain ⟨d4, q4, e4, ok4, in4, z4⟩ := up_openW g4 (fun y hy => hlt y (by simp [hy])) w4
  obtain ⟨v5, e5⟩ := one_of (List.take 1 (List.drop 47 cs)) (by rw [List.length_take, List.length_drop, hl]; decide)
  rw [e5] at g5
  obtain ⟨q5, r5, rfl⟩ := trod_boolL g5
  simp at r5
  obtain ⟨v6, e6⟩ := one_of (List.take 1 (List.drop 48 cs)) (by rw [List.length_take, List.length_drop, hl]; decide)
  rw [e6] at g6
  obtain ⟨q6, r6, rfl, i6⟩ := DataW.trod_int Tryz.underlying3 g6
  have z6 := wfiI i6
  simp at r6
  obtain ⟨v7, e7⟩ := one_of (List.take 1 (List.drop 49 cs)) (by rw [List.length_take, List.length_drop, hl]; decide)
  rw [e7] at g7
  obtain ⟨q7, r7, rfl, i7⟩ := DataW.trod_int Tryz.underlying3 g7
  have z7 := wfiI i7
  simp at r7
  obtain ⟨v8, e8⟩ := one_of (List.take 1 (List.drop 50 cs)) (by rw [List.length_take, List.length_drop, hl]; decide)
  rw [e8] at g8
  obtain ⟨q8, r8, rfl⟩ := trod_boolL g8
  simp at r8
  have f0 := stp cs 0 9 9 rfl
  have f1 := stp cs 9 9 18 rfl
  have f2 := stp cs 18 2 20 rfl
  have f3 := stp cs 20 2 22 rfl
  have f4 := stp cs 22 25 47 rfl
  have f5 := stp cs 47 1 48 rfl
  have f6 := stp cs 48 1 49 rfl
  have f7 := stp cs 49 1 50 rfl
  have f8 := stp cs 50 1 51 rfl
  have hz : List.drop 51 cs = [] := List.drop_of_length_le (by omega)
  have hc : List.drop 0 cs = List.take 9 (List.drop 0 cs) ++ (List.take 9 (List.drop 9 cs) ++ (List.take 2 (List.drop 18 cs) ++ (List.take 2 (List.drop 20 cs) ++ (List.take 25 (List.drop 22 cs) ++ (List.take 1 (List.drop 47 cs) ++ (List.take 1 (List.drop 48 cs) ++ (List.take 1 (List.drop 49 cs) ++ (List.take 1 (List.drop 50 cs) ++ (List.drop 51 cs))))))))) := by
    rw [← f8, ← f7, ← f6, ← f5, ← f4, ← f3, ← f2, ← f1, ← f0]
  rw [e0, e1, e2, e3, e4, e5, e6, e7, e8, hz] at hc
  rw [List.drop_zero] at hc
  refine ⟨⟨d0, d1, d2, d3, d4, q5, q6, q7, q8⟩, ⟨q0, q1, q2, q3, q4⟩, ?_, ⟨ok0, ok1, ok4, z6, z7⟩, ⟨in0, in1, in2, in3, in4⟩, z0, z1, z2, z3, z4⟩
  rw [hc]
  simp [stV, r5, r6, r7, r8]
set_option maxRecDepth 100000 in
theorem open_top {W : World} {b0 : Nat} {t : TypeId} {fs : Array Field} {v : Value} {d : DataW H} {ps : List MemPlace} (ht : Tryz.prog.underlying t = some (.struct fs)) (hval : Value.okWide Tryz.prog W .any b0 t v) (hd : DataW.Trod enc Tryz.prog W 0 (fun _ => true) true t v d ps) :
    ∃ (cs : List Value) (fuel : Nat), v = .agg cs.toArray ∧ DataW.trod enc Tryz.prog W 0 (fun _ => true) true fuel t cs = some (d, ps) := by
  obtain ⟨cs, rfl, hsz⟩ := okWide_struct ht hval
  obtain ⟨fuel, hf⟩ := hd
  refine ⟨cs.toList, fuel, by simp, ?_⟩
  exact hf
end
end Go.Proofs.YtoddangedbefgaaGreatDoor
namespace Go.Proofs.YtoddangedbefgaaGreatDoor
open Go.RowKit Go.Shelf Go.Sort

def lfV (root : ByteArray) (br : List ByteArray) (leaf : Nat) (state : ByteArray) : Bool := decide (br.length = 3) && chk root br leaf state
set_option maxHeartbeats 1000000 in
theorem isLeaf_any (root : ByteArray) (br : List ByteArray) (q : Pl) (leaf : Nat) (hleaf : leaf < 18446744073709551616) (state : ByteArray) (n : Nat) (w : World) (hl : Laid w) (hn : n ≤ w.heap.size) (hp : slS n w q.a br) :
    Calls Tryz.prog 24 #[.string root, slV br q, .int .u64 (leaf : Int), .string state] w fun e w' => e = .returned (.bool (lfV root br leaf state)) ∧ Below w.heap.size w w' := by
  have KC := check_any root br leaf hleaf state q.a q.c n w hl hn hp
  unfold lfV slV
  obtain ⟨r, hr⟩ : ∃ r, chk root br leaf state = r := ⟨_, rfl⟩
  obtain ⟨N, hN⟩ : ∃ N, br.length = N := ⟨_, rfl⟩
  rw [hr, hN] at KC
  rw [hr, hN]
  clear hr hN hp hn hl
  go_enter Tryz.func24, Tryz.ntmps24
  by_cases h : N = 3
  · subst h
    go_wp2_with fail
    refine KC.mono ?_
    rintro e w2 ⟨rfl, B2⟩
    have HB : Hid _ := B2
    clear B2 KC
    go_wp2
    go_ret
    exact ⟨by simp, HB.out⟩
  · have h0 : ((N : Int) == 3) = false := by rw [beq_eq_false_iff_ne]; omega
    go_wp2
    go_ret
    exact ⟨by simp [h], Below.refl _ _⟩
set_option maxHeartbeats 1000000 in
theorem runder_any (root : ByteArray) (br : List ByteArray) (q : Pl) (leaf : Nat) (hleaf : leaf < 18446744073709551616) (state : ByteArray) (n : Nat) (w : World) (hn : n ≤ w.heap.size) (hp : slS n w q.a br) :
    Calls Tryz.prog 29 #[.string root, slV br q, .int .u64 (leaf : Int), .string state] w fun e w' => e = .returned (.bool (lfV root br leaf state)) ∧ Below w.heap.size w w' := by
  have KC := rcheck_any root br leaf hleaf state q.a q.c n w hn hp
  unfold lfV slV
  obtain ⟨r, hr⟩ : ∃ r, chk root br leaf state = r := ⟨_, rfl⟩
  obtain ⟨N, hN⟩ : ∃ N, br.length = N := ⟨_, rfl⟩
  rw [hr, hN] at KC
  rw [hr, hN]
  clear hr hN hp hn
  go_enter Tryz.func29, Tryz.ntmps29
  by_cases h : N = 3
  · subst h
    go_wp2_with fail
    refine KC.mono ?_
    rintro e w2 ⟨rfl, B2⟩
    have HB : Hid _ := B2
    clear B2 KC
    go_wp2
    go_ret
    exact ⟨by simp, HB.out⟩
  · have h0 : ((N : Int) == 3) = false := by rw [beq_eq_false_iff_ne]; omega
    go_wp2
    go_ret
    exact ⟨by simp [h], Below.refl _ _⟩
def hdV (d : LtD) : List Value := [.int .u64 (d.s : Int), .int .u64 (d.u : Int), .string d.p, .string d.t, .string d.b]
def hrV (d : LtD) : ByteArray := rtS (hdC d.s d.u d.p d.t d.b) 3
theorem hrootL_any (d : LtD) (w : World) (hl : Laid w) : Calls Tryz.prog 23 #[.agg (hdV d).toArray] w fun e w' => e = .returned (.tuple #[.string (hrV d), .int .i64 (rtE (hdC d.s d.u d.p d.t d.b) 3)]) ∧ Below w.heap.size w w' := hroot_any d.s d.u d.p d.t d.b w hl
theorem rhrootL_any (d : LtD) (w : World) : Calls Tryz.prog 28 #[.agg (hdV d).toArray] w fun e w' => e = .returned (.tuple #[.string (hrV d), .int .i64 (rtE (hdC d.s d.u d.p d.t d.b) 3)]) ∧ Below w.heap.size w w' := rhroot_any d.s d.u d.p d.t d.b w
theorem hcommC_any (d : CmD) (q : Pl) (n : Nat) (w : World) (hl : Laid w) (hn : n ≤ w.heap.size) (hp : slS n w q.a d.ks) : Calls Tryz.prog 21 #[.agg (cmV d q).toArray] w fun e w' => e = .returned (.tuple #[.string (cmS d.ks d.sm), .int .i64 (cmE d.ks d.sm)]) ∧ Below w.heap.size w w' := hcomm_any d.ks q.a q.c d.sm n w hl hn hp
theorem rholdsL_any (d : LtD) (q : Pl) (n : Nat) (w : World) (hn : n ≤ w.heap.size) (hp : slS n w q.a d.br) : Calls Tryz.prog 26 #[.agg (ltV d q).toArray] w fun e w' => e = .returned (.bool (ltHo d)) ∧ Below w.heap.size w w' := u_rholds_any d.s d.u d.m d.p d.t d.b d.ea d.ra d.br q.a q.c n w hn hp
theorem rhcommC_any (d : CmD) (q : Pl) (n : Nat) (w : World) (hn : n ≤ w.heap.size) (hp : slS n w q.a d.ks) : Calls Tryz.prog 27 #[.agg (cmV d q).toArray] w fun e w' => e = .returned (.tuple #[.string (cmS d.ks d.sm), .int .i64 (cmE d.ks d.sm)]) ∧ Below w.heap.size w w' := rhcomm_any d.ks q.a q.c d.sm n w hn hp
/-- What is wrong with a Boot, or nothing. -/
def bgE (root : ByteArray) (d : BtD) : Int := if (!cmB d.c.ks d.c.sm || !ltHo d.l) = true then 130 else if (!decide (root = hrV d.l)) = true then 140 else if (!lfV (cmS d.c.ks d.c.sm) d.br 4 d.l.t) = true then 145 else 0
def bgS (root : ByteArray) (d : BtD) : StD := if (!cmB d.c.ks d.c.sm || !ltHo d.l) = true then zSt else if (!decide (root = hrV d.l)) = true then zSt else if (!lfV (cmS d.c.ks d.c.sm) d.br 4 d.l.t) = true then zSt else ⟨d.l, d.l, d.c, zCm, zUp, false, 0, 0, false⟩
theorem btV_l (d : BtD) (q : BtP) (j : Nat) (v : Value) (h : (ltV d.l q.l)[j]? = some v) : (btV d q)[0 + j]? = some v := get_mid (A := []) (B := ltV d.l q.l) (C := cmV d.c q.c ++ [slV d.br q.br]) j v h
theorem btV_c (d : BtD) (q : BtP) (j : Nat) (v : Value) (h : (cmV d.c q.c)[j]? = some v) : (btV d q)[9 + j]? = some v := get_mid (A := ltV d.l q.l) (B := cmV d.c q.c) (C := [slV d.br q.br]) j v h
theorem btV_h (d : BtD) (q : BtP) (j : Nat) (v : Value) (h : (hdV d.l)[j]? = some v) : (btV d q)[0 + j]? = some v := get_mid (A := []) (B := hdV d.l) (C := [Value.string d.l.ea, .string d.l.ra, .int .u64 (d.l.m : Int), .slice q.l.a d.l.br.length q.l.c] ++ cmV d.c q.c ++ [slV d.br q.br]) j v h
end Go.Proofs.YtoddangedbefgaaGreatDoor
namespace Go.Proofs.YtoddangedbefgaaGreatDoor
open Go.RowKit Go.Shelf Go.Sort

set_option maxRecDepth 20000 in
set_option maxHeartbeats 8000000 in
theorem begin_any (root : ByteArray) (d : BtD) (hz : szB d) (q : BtP) (n : Nat) (w : World) (hl : Laid w) (hn : n ≤ w.heap.size) (hp : btIn n w d q) :
    Calls Tryz.prog 10 #[.string root, .agg (btV d q).toArray] w fun e w' => (∃ q', e = .returned (.tuple #[.agg (stV (bgS root d) q').toArray, .int .i64 (bgE root d)]) ∧ stIn w'.heap.size w' (bgS root d) q') ∧ Below w.heap.size w w' := by
  have KM := fun (W : World) (hB : Below w.heap.size w W) (hs : w.heap.size ≤ W.heap.size) => hcommC_any d.c q.c n W (hl.below hB) (Nat.le_trans hn hs) (slS_below (hB.mono hn) hp.2.1)
  have KH := fun (W : World) (hB : Below w.heap.size w W) (hs : w.heap.size ≤ W.heap.size) => holdsL_any d.l q.l n W (hl.below hB) (Nat.le_trans hn hs) (slS_below (hB.mono hn) hp.1)
  have KR := fun (W : World) (hB : Below w.heap.size w W) => hrootL_any d.l W (hl.below hB)
  have KL := fun (W : World) (hB : Below w.heap.size w W) (hs : w.heap.size ≤ W.heap.size) => isLeaf_any (cmS d.c.ks d.c.sm) d.br q.br 4 (by omega) d.l.t n W (hl.below hB) (Nat.le_trans hn hs) (slS_below (hB.mono hn) hp.2.2)
  have KC := fun (W : World) (hB : Below w.heap.size w W) (hs : w.heap.size ≤ W.heap.size) => copied_any ⟨d.l, d.l, d.c, zCm, zUp, false, 0, 0, false⟩ ⟨hz.1, hz.1, hz.2.1, zC_sz, zT_sz.2.2.2.2⟩ ⟨q.l, q.l, q.c, nP, nU⟩ n W (Nat.le_trans hn hs)
    ⟨slS_below (hB.mono hn) hp.1, slS_below (hB.mono hn) hp.1, slS_below (hB.mono hn) hp.2.1, nil_in _ _, nil_in _ _, nil_in _ _, nil_in _ _, nil_in _ _, nil_in _ _⟩
  have hS : bgS root d = if (!cmB d.c.ks d.c.sm || !ltHo d.l) = true then zSt else if (!decide (root = hrV d.l)) = true then zSt else if (!lfV (cmS d.c.ks d.c.sm) d.br 4 d.l.t) = true then zSt else ⟨d.l, d.l, d.c, zCm, zUp, false, 0, 0, false⟩ := rfl
  have hE : bgE root d = if (!cmB d.c.ks d.c.sm || !ltHo d.l) = true then 130 else if (!decide (root = hrV d.l)) = true then 140 else if (!lfV (cmS d.c.ks d.c.sm) d.br 4 d.l.t) = true then 145 else 0 := rfl
  have hmE : cmE d.c.ks d.c.sm = if cmB d.c.ks d.c.sm = true then 0 else 130 := rfl
  have aL := btV_l d q
  have aC := btV_c d q
  have aH := btV_h d q
  have a11 : (btV d q)[11]? = some (slV d.br q.br) := rfl
  have a3 : (btV d q)[3]? = some (.string d.l.t) := rfl
  have HLn : Hid ((btV d q).length = 12 ∧ (ltV d.l q.l).length = 9 ∧ (cmV d.c q.c).length = 2 ∧ (hdV d.l).length = 5) := show _ from ⟨rfl, rfl, rfl, rfl⟩
  obtain ⟨cb, hcb⟩ : ∃ x, cmB d.c.ks d.c.sm = x := ⟨_, rfl⟩
  obtain ⟨cs, hcs⟩ : ∃ x, cmS d.c.ks d.c.sm = x := ⟨_, rfl⟩
  obtain ⟨ce, hce⟩ : ∃ x, cmE d.c.ks d.c.sm = x := ⟨_, rfl⟩
  obtain ⟨ho, hho⟩ : ∃ x, ltHo d.l = x := ⟨_, rfl⟩
  obtain ⟨hr, hhr⟩ : ∃ x, hrV d.l = x := ⟨_, rfl⟩
  obtain ⟨re, hre⟩ : ∃ x, rtE (hdC (d.l.s : Int) (d.l.u : Int) d.l.p d.l.t d.l.b) 3 = x := ⟨_, rfl⟩
  rw [hce, hcb] at hmE
  rw [hcs, hce] at KM
  rw [hho] at KH
  rw [hhr, hre] at KR
  rw [hcs] at KL hS hE
  obtain ⟨lf, hlf⟩ : ∃ x, lfV cs d.br 4 d.l.t = x := ⟨_, rfl⟩
  rw [hlf] at KL
  rw [hcb, hho, hhr, hlf] at hS hE
  have HSE : Hid (_ ∧ _) := ⟨hS, hE⟩
  obtain ⟨LB, hLB⟩ : ∃ L, btV d q = L := ⟨_, rfl⟩
  obtain ⟨XL, hXL⟩ : ∃ L, ltV d.l q.l = L := ⟨_, rfl⟩
  obtain ⟨XC, hXC⟩ : ∃ L, cmV d.c q.c = L := ⟨_, rfl⟩
  obtain ⟨XH, hXH⟩ : ∃ L, hdV d.l = L := ⟨_, rfl⟩
  rw [hLB] at aL aC aH a11 a3 HLn ⊢
  rw [hXL] at aL HLn KH
  rw [hXC] at aC HLn KM
  rw [hXH] at aH HLn KR
  have HX : Hid (_ ∧ _) := ⟨hXL, hXC⟩
  clear hS hE hcb hcs hce hho hhr hre hlf hLB hXL hXC hXH hp hn hz hl
  obtain ⟨BV, hx, hy, hs⟩ := box2 w (.cells LB.toArray 33) (.cells #[.int .u64 0, .int .u64 0, .string ⟨#[]⟩, .string ⟨#[]⟩, .string ⟨#[]⟩, .string ⟨#[]⟩, .string ⟨#[]⟩, .int .u64 0, .slice none 0 0, .int .u64 0, .int .u64 0, .string ⟨#[]⟩, .string ⟨#[]⟩, .string ⟨#[]⟩, .string ⟨#[]⟩, .string ⟨#[]⟩, .int .u64 0, .slice none 0 0, .slice none 0 0, .string ⟨#[]⟩, .slice none 0 0, .string ⟨#[]⟩, .int .u64 0, .int .u64 0, .string ⟨#[]⟩, .string ⟨#[]⟩, .string ⟨#[]⟩, .string ⟨#[]⟩, .string ⟨#[]⟩, .int .u64 0, .slice none 0 0, .slice none 0 0, .string ⟨#[]⟩, .slice none 0 0, .int .u64 0, .int .u64 0, .string ⟨#[]⟩, .string ⟨#[]⟩, .string ⟨#[]⟩, .string ⟨#[]⟩, .string ⟨#[]⟩, .int .u64 0, .slice none 0 0, .slice none 0 0, .int .u64 0, .string ⟨#[]⟩, .int .u64 0, .bool false, .int .i64 0, .int .i64 0, .bool false] 38)
  obtain ⟨z, hzz⟩ : ∃ z, w.heap.size = z := ⟨_, rfl⟩
  have HZ : Hid (w.heap.size = z) := hzz
  rw [hzz] at BV hx hy hs KM KH KR KL KC
  have RC := range_of_block hx 9 XC aC
  go_enter Tryz.func10, Tryz.ntmps10
  go_wp2_with (refine wpList_load_mid rfl 31 _ rfl z 9 rfl _ _ RC Tryz.underlying31 rfl (by rw [HLn.out.2.2.1]; kernel_rfl) ?_)
  refine (KM _ BV (by omega)).mono ?_
  rintro e V1 ⟨rfl, C⟩
  have x1 : Bq z 33 LB.toArray V1 := (C.block z (by omega)).trans hx
  have y1 : Bq (z + 1) 38 #[.int .u64 0, .int .u64 0, .string ⟨#[]⟩, .string ⟨#[]⟩, .string ⟨#[]⟩, .string ⟨#[]⟩, .string ⟨#[]⟩, .int .u64 0, .slice none 0 0, .int .u64 0, .int .u64 0, .string ⟨#[]⟩, .string ⟨#[]⟩, .string ⟨#[]⟩, .string ⟨#[]⟩, .string ⟨#[]⟩, .int .u64 0, .slice none 0 0, .slice none 0 0, .string ⟨#[]⟩, .slice none 0 0, .string ⟨#[]⟩, .int .u64 0, .int .u64 0, .string ⟨#[]⟩, .string ⟨#[]⟩, .string ⟨#[]⟩, .string ⟨#[]⟩, .string ⟨#[]⟩, .int .u64 0, .slice none 0 0, .slice none 0 0, .string ⟨#[]⟩, .slice none 0 0, .int .u64 0, .int .u64 0, .string ⟨#[]⟩, .string ⟨#[]⟩, .string ⟨#[]⟩, .string ⟨#[]⟩, .string ⟨#[]⟩, .int .u64 0, .slice none 0 0, .slice none 0 0, .int .u64 0, .string ⟨#[]⟩, .int .u64 0, .bool false, .int .i64 0, .int .i64 0, .bool false] V1 := (C.block (z + 1) (by omega)).trans hy
  have BV1 := belowStep BV (by omega) C
  have s1 : z + 2 ≤ V1.heap.size := by have := C.size; omega
  clear C BV hx hy hs RC KM hzz
  have RL := range_of_block x1 0 XL aL
  cases cb with
  | false =>
    obtain rfl : ce = 130 := hmE
    go_wp2_with (refine store_row0 rfl rfl 38 _ _ rfl (z + 1) _ rfl rfl 38 _ y1 (by kernel_rfl) rfl (by simp [Value.oneCell']) ?_)
    refine bodyPost_ret (results_row2 rfl _ _ (z + 1) 38 _ (0, 0) _ rfl (y1.row _) Tryz.underlying38 rfl (by kernel_rfl) (.int .i64 130) rfl) rfl ?_
    have hS : bgS root d = zSt := by rw [HSE.out.1]; exact if_pos (by simp)
    have hE : bgE root d = 130 := by rw [HSE.out.2]; exact if_pos (by simp)
    refine ⟨⟨nS, by rw [hS, hE]; kernel_rfl, ?_⟩, ?_⟩
    · rw [hS]
      exact zT_in _ _
    · rw [HZ.out]
      exact below_row BV1 (by omega) _
  | true =>
    obtain rfl : ce = 0 := hmE
    go_wp2_with (first | (refine wpList_load_mid rfl 29 _ rfl z 0 rfl _ _ RL Tryz.underlying29 rfl (by rw [HLn.out.2.1]; kernel_rfl) ?_) | (refine load_mid_wanted (by kernel_rfl) 29 _ rfl z 0 rfl _ _ RL Tryz.underlying29 rfl (by rw [HLn.out.2.1]; kernel_rfl) ?_))
    refine (KH _ BV1 (by omega)).mono ?_
    rintro e V2 ⟨rfl, C⟩
    have x2 := (C.block z (by omega)).trans x1
    have y2 : Bq (z + 1) 38 _ V2 := (C.block (z + 1) (by omega)).trans y1
    have BV2 := belowStep BV1 (by omega) C
    have s2 : z + 2 ≤ V2.heap.size := by have := C.size; omega
    clear C KH RL
    have RH := range_of_block x2 0 XH aH
    cases ho with
    | false =>
      go_wp2_with (refine store_row0 rfl rfl 38 _ _ rfl (z + 1) _ rfl rfl 38 _ y2 (by kernel_rfl) rfl (by simp [Value.oneCell']) ?_)
      refine bodyPost_ret (results_row2 rfl _ _ (z + 1) 38 _ (0, 0) _ rfl (y2.row _) Tryz.underlying38 rfl (by kernel_rfl) (.int .i64 130) rfl) rfl ?_
      have hS : bgS root d = zSt := by rw [HSE.out.1]; exact if_pos (by simp)
      have hE : bgE root d = 130 := by rw [HSE.out.2]; exact if_pos (by simp)
      refine ⟨⟨nS, by rw [hS, hE]; kernel_rfl, ?_⟩, ?_⟩
      · rw [hS]
        exact zT_in _ _
      · rw [HZ.out]
        exact below_row BV2 (by omega) _
    | true =>
      go_wp2_with (first | (refine wpList_load_mid rfl 24 _ rfl z 0 rfl _ _ RH Tryz.underlying24 rfl (by rw [HLn.out.2.2.2]; kernel_rfl) ?_) | (refine load_mid_wanted (by kernel_rfl) 24 _ rfl z 0 rfl _ _ RH Tryz.underlying24 rfl (by rw [HLn.out.2.2.2]; kernel_rfl) ?_))
      refine (KR _ BV2).mono ?_
      rintro e V3 ⟨rfl, C⟩
      have x3 : Bq z 33 LB.toArray V3 := (C.block z (by omega)).trans x2
      have y3 : Bq (z + 1) 38 _ V3 := (C.block (z + 1) (by omega)).trans y2
      have BV3 := belowStep BV2 (by omega) C
      have s3 : z + 2 ≤ V3.heap.size := by have := C.size; omega
      clear C KR RH
      by_cases hrr : root = hr
      · have hr2 : (root.toList == hr.toList) = true := by rw [hrr]; exact beq_self_eq_true _
        have hd : (!decide (root = hr)) = false := by rw [decide_eq_true hrr]; rfl
        have c3 : V3.cell? ⟨z, 3, none⟩ = some (.string d.l.t) := cell_of_block x3 3 _ a3
        have c11 : V3.cell? ⟨z, 11, none⟩ = some (slV d.br q.br) := cell_of_block x3 11 _ a11
        go_wp2_with fail
        refine (KL V3 BV3 (by omega)).mono ?_
        rintro e V4 ⟨rfl, C⟩
        have x4 : Bq z 33 LB.toArray V4 := (C.block z (by omega)).trans x3
        have y4 : Bq (z + 1) 38 _ V4 := (C.block (z + 1) (by omega)).trans y3
        have BV4 := belowStep BV3 (by omega) C
        have s4 : z + 2 ≤ V4.heap.size := by have := C.size; omega
        clear C KL c3 c11
        cases lf with
        | false =>
          go_wp2_with (refine store_row0 rfl rfl 38 _ _ rfl (z + 1) _ rfl rfl 38 _ y4 (by kernel_rfl) rfl (by simp [Value.oneCell']) ?_)
          refine bodyPost_ret (results_row2 rfl _ _ (z + 1) 38 _ (0, 0) _ rfl (y4.row _) Tryz.underlying38 rfl (by kernel_rfl) (.int .i64 145) rfl) rfl ?_
          have hS : bgS root d = zSt := by rw [HSE.out.1]; rw [hd]; rfl
          have hE : bgE root d = 145 := by rw [HSE.out.2]; rw [hd]; rfl
          refine ⟨⟨nS, by rw [hS, hE]; kernel_rfl, ?_⟩, ?_⟩
          · rw [hS]
            exact zT_in _ _
          · rw [HZ.out]
            exact below_row BV4 (by omega) _
        | true =>
          have RL := range_of_block x4 0 XL aL
          have RC := range_of_block x4 9 XC aC
          rw [← HX.out.1] at RL
          rw [← HX.out.2] at RC
          simp only [ltV, cmV] at RL RC
          go_wp2_with (first | (refine wpList_load_mid rfl 29 _ rfl z 0 rfl _ _ RL Tryz.underlying29 rfl (by kernel_rfl) ?_) | (refine load_mid_wanted (by rfl) 29 _ rfl z 0 rfl _ _ RL Tryz.underlying29 rfl (by kernel_rfl) ?_) | (refine wpList_load_mid rfl 31 _ rfl z 9 rfl _ _ RC Tryz.underlying31 rfl (by kernel_rfl) ?_) | (refine load_mid_wanted (by rfl) 31 _ rfl z 9 rfl _ _ RC Tryz.underlying31 rfl (by kernel_rfl) ?_))
          refine (KC V4 BV4 (by omega)).mono ?_
          rintro e V5 ⟨⟨q5, rfl, g5⟩, C⟩
          have y5 : Bq (z + 1) 38 _ V5 := (C.block (z + 1) (by omega)).trans y4
          have BV5 := belowStep BV4 (by omega) C
          have hone := stV_one ⟨d.l, d.l, d.c, zCm, zUp, false, 0, 0, false⟩ q5
          have hQ : Hid ((stV ⟨d.l, d.l, d.c, zCm, zUp, false, 0, 0, false⟩ q5).toArray.size = 51) := show _ from rfl
          obtain ⟨F9, hF9⟩ : ∃ Y, (stV ⟨d.l, d.l, d.c, zCm, zUp, false, 0, 0, false⟩ q5).toArray = Y := ⟨_, rfl⟩
          have HF : Hid (_ ∧ _ ∧ _ ∧ _ ∧ _) := ⟨BV5, g5, hF9, one_arr hone, s4⟩
          rw [hF9] at hQ ⊢
          clear BV5 g5 hF9 hone s4 C KC RL RC BV4 BV3 BV2 BV1 s1 s2 s3
          go_wp2_with (refine store_row0 rfl rfl 38 _ _ rfl (z + 1) _ rfl rfl 38 _ y5 (by rw [hQ.out]; kernel_rfl) (by rw [hQ.out]; rfl) (by rw [← HF.out.2.2.1]; exact HF.out.2.2.2.1) ?_)
          obtain ⟨BV5, g5, hF9, -, s4⟩ := HF.out
          have hS : bgS root d = ⟨d.l, d.l, d.c, zCm, zUp, false, 0, 0, false⟩ := by rw [HSE.out.1]; rw [hd]; rfl
          have hE : bgE root d = 0 := by rw [HSE.out.2]; rw [hd]; rfl
          refine bodyPost_ret (results_row2 rfl _ _ (z + 1) 38 _ (0, 0) _ rfl (y5.row F9) Tryz.underlying38 rfl (by rw [hQ.out]; kernel_rfl) (.int .i64 0) rfl) rfl ⟨⟨q5, by rw [hS, hE, ← hF9], ?_⟩, ?_⟩
          · rw [hS]
            have g6 := g5.keep (W' := V5.setRow (z + 1) F9) (by rw [size_setRow]; exact Nat.le_refl _) fun b hb _ => setRow_other _ _ _ _ (by omega)
            exact g6.stIn
          · rw [HZ.out]
            exact below_row BV5 (by omega) F9
      · have hr2 : (root.toList == hr.toList) = false := by rw [beq_eq_false_iff_ne]; exact fun e => hrr (toList_inj e)
        have hd : (!decide (root = hr)) = true := by rw [decide_eq_false hrr]; rfl
        go_wp2_with (refine store_row0 rfl rfl 38 _ _ rfl (z + 1) _ rfl rfl 38 _ y3 (by kernel_rfl) rfl (by simp [Value.oneCell']) ?_)
        refine bodyPost_ret (results_row2 rfl _ _ (z + 1) 38 _ (0, 0) _ rfl (y3.row _) Tryz.underlying38 rfl (by kernel_rfl) (.int .i64 140) rfl) rfl ?_
        have hS : bgS root d = zSt := by rw [HSE.out.1]; rw [hd]; rfl
        have hE : bgE root d = 140 := by rw [HSE.out.2]; rw [hd]; rfl
        refine ⟨⟨nS, by rw [hS, hE]; kernel_rfl, ?_⟩, ?_⟩
        · rw [hS]
          exact zT_in _ _
        · rw [HZ.out]
          exact below_row BV3 (by omega) _
end Go.Proofs.YtoddangedbefgaaGreatDoor
namespace Go.Proofs.YtoddangedbefgaaGreatDoor
open Go.RowKit Go.Shelf Go.Sort

set_option maxRecDepth 20000 in
set_option maxHeartbeats 8000000 in
theorem rbegin_any (root : ByteArray) (d : BtD) (q : BtP) (n : Nat) (w : World) (hn : n ≤ w.heap.size) (hp : btIn n w d q) :
    Calls Tryz.prog 11 #[.string root, .agg (btV d q).toArray] w fun e w' => (∃ q', e = .returned (.tuple #[.agg (stV (bgS root d) q').toArray, .int .i64 (bgE root d)]) ∧ stIn w'.heap.size w' (bgS root d) q') ∧ Below w.heap.size w w' := by
  have KM := fun (W : World) (hB : Below w.heap.size w W) (hs : w.heap.size ≤ W.heap.size) => rhcommC_any d.c q.c n W (Nat.le_trans hn hs) (slS_below (hB.mono hn) hp.2.1)
  have KH := fun (W : World) (hB : Below w.heap.size w W) (hs : w.heap.size ≤ W.heap.size) => rholdsL_any d.l q.l n W (Nat.le_trans hn hs) (slS_below (hB.mono hn) hp.1)
  have KR := fun (W : World) => rhrootL_any d.l W
  have KL := fun (W : World) (hB : Below w.heap.size w W) (hs : w.heap.size ≤ W.heap.size) => runder_any (cmS d.c.ks d.c.sm) d.br q.br 4 (by omega) d.l.t n W (Nat.le_trans hn hs) (slS_below (hB.mono hn) hp.2.2)
  have hS : bgS root d = if (!cmB d.c.ks d.c.sm || !ltHo d.l) = true then zSt else if (!decide (root = hrV d.l)) = true then zSt else if (!lfV (cmS d.c.ks d.c.sm) d.br 4 d.l.t) = true then zSt else ⟨d.l, d.l, d.c, zCm, zUp, false, 0, 0, false⟩ := rfl
  have hE : bgE root d = if (!cmB d.c.ks d.c.sm || !ltHo d.l) = true then 130 else if (!decide (root = hrV d.l)) = true then 140 else if (!lfV (cmS d.c.ks d.c.sm) d.br 4 d.l.t) = true then 145 else 0 := rfl
  have hmE : cmE d.c.ks d.c.sm = if cmB d.c.ks d.c.sm = true then 0 else 130 := rfl
  have aL := btV_l d q
  have aC := btV_c d q
  have aH := btV_h d q
  have a11 : (btV d q)[11]? = some (slV d.br q.br) := rfl
  have a3 : (btV d q)[3]? = some (.string d.l.t) := rfl
  have HLn : Hid ((btV d q).length = 12 ∧ (ltV d.l q.l).length = 9 ∧ (cmV d.c q.c).length = 2 ∧ (hdV d.l).length = 5) := show _ from ⟨rfl, rfl, rfl, rfl⟩
  obtain ⟨cb, hcb⟩ : ∃ x, cmB d.c.ks d.c.sm = x := ⟨_, rfl⟩
  obtain ⟨cs, hcs⟩ : ∃ x, cmS d.c.ks d.c.sm = x := ⟨_, rfl⟩
  obtain ⟨ce, hce⟩ : ∃ x, cmE d.c.ks d.c.sm = x := ⟨_, rfl⟩
  obtain ⟨ho, hho⟩ : ∃ x, ltHo d.l = x := ⟨_, rfl⟩
  obtain ⟨hr, hhr⟩ : ∃ x, hrV d.l = x := ⟨_, rfl⟩
  obtain ⟨re, hre⟩ : ∃ x, rtE (hdC (d.l.s : Int) (d.l.u : Int) d.l.p d.l.t d.l.b) 3 = x := ⟨_, rfl⟩
  rw [hce, hcb] at hmE
  rw [hcs, hce] at KM
  rw [hho] at KH
  rw [hhr, hre] at KR
  rw [hcs] at KL hS hE
  obtain ⟨lf, hlf⟩ : ∃ x, lfV cs d.br 4 d.l.t = x := ⟨_, rfl⟩
  rw [hlf] at KL
  rw [hcb, hho, hhr, hlf] at hS hE
  have HSE : Hid (_ ∧ _) := ⟨hS, hE⟩
  obtain ⟨LB, hLB⟩ : ∃ L, btV d q = L := ⟨_, rfl⟩
  obtain ⟨XL, hXL⟩ : ∃ L, ltV d.l q.l = L := ⟨_, rfl⟩
  obtain ⟨XC, hXC⟩ : ∃ L, cmV d.c q.c = L := ⟨_, rfl⟩
  obtain ⟨XH, hXH⟩ : ∃ L, hdV d.l = L := ⟨_, rfl⟩
  rw [hLB] at aL aC aH a11 a3 HLn ⊢
  rw [hXL] at aL HLn KH
  rw [hXC] at aC HLn KM
  rw [hXH] at aH HLn KR
  have HX : Hid (_ ∧ _) := ⟨hXL, hXC⟩
  have HP : Hid (_ ∧ _) := ⟨hp, hn⟩
  clear hS hE hcb hcs hce hho hhr hre hlf hLB hXL hXC hXH hp hn
  obtain ⟨BV, hx, hy, hs⟩ := box2 w (.cells LB.toArray 33) (.cells #[.int .u64 0, .int .u64 0, .string ⟨#[]⟩, .string ⟨#[]⟩, .string ⟨#[]⟩, .string ⟨#[]⟩, .string ⟨#[]⟩, .int .u64 0, .slice none 0 0, .int .u64 0, .int .u64 0, .string ⟨#[]⟩, .string ⟨#[]⟩, .string ⟨#[]⟩, .string ⟨#[]⟩, .string ⟨#[]⟩, .int .u64 0, .slice none 0 0, .slice none 0 0, .string ⟨#[]⟩, .slice none 0 0, .string ⟨#[]⟩, .int .u64 0, .int .u64 0, .string ⟨#[]⟩, .string ⟨#[]⟩, .string ⟨#[]⟩, .string ⟨#[]⟩, .string ⟨#[]⟩, .int .u64 0, .slice none 0 0, .slice none 0 0, .string ⟨#[]⟩, .slice none 0 0, .int .u64 0, .int .u64 0, .string ⟨#[]⟩, .string ⟨#[]⟩, .string ⟨#[]⟩, .string ⟨#[]⟩, .string ⟨#[]⟩, .int .u64 0, .slice none 0 0, .slice none 0 0, .int .u64 0, .string ⟨#[]⟩, .int .u64 0, .bool false, .int .i64 0, .int .i64 0, .bool false] 38)
  obtain ⟨z, hzz⟩ : ∃ z, w.heap.size = z := ⟨_, rfl⟩
  have HZ : Hid (w.heap.size = z) := hzz
  rw [hzz] at BV hx hy hs KM KH KL
  have RL := range_of_block hx 0 XL aL
  go_enter Tryz.func11, Tryz.ntmps11
  go_wp2_with (first | (refine wpList_load_mid rfl 29 _ rfl z 0 rfl _ _ RL Tryz.underlying29 rfl (by rw [HLn.out.2.1]; kernel_rfl) ?_) | (refine load_mid_wanted (by rfl) 29 _ rfl z 0 rfl _ _ RL Tryz.underlying29 rfl (by rw [HLn.out.2.1]; kernel_rfl) ?_))
  refine (KH _ BV (by omega)).mono ?_
  rintro e V1 ⟨rfl, C⟩
  have x1 : Bq z 33 LB.toArray V1 := (C.block z (by omega)).trans hx
  have y1 : Bq (z + 1) 38 _ V1 := (C.block (z + 1) (by omega)).trans hy
  have BV1 := belowStep BV (by omega) C
  have s1 : z + 2 ≤ V1.heap.size := by have := C.size; omega
  have RC := range_of_block x1 9 XC aC
  clear C BV hx hy hs RL KH hzz
  go_wp2_with (first | (refine wpList_load_mid rfl 31 _ rfl z 9 rfl _ _ RC Tryz.underlying31 rfl (by rw [HLn.out.2.2.1]; kernel_rfl) ?_) | (refine load_mid_wanted (by rfl) 31 _ rfl z 9 rfl _ _ RC Tryz.underlying31 rfl (by rw [HLn.out.2.2.1]; kernel_rfl) ?_))
  refine (KM _ BV1 (by omega)).mono ?_
  rintro e V2 ⟨rfl, C⟩
  have x2 : Bq z 33 LB.toArray V2 := (C.block z (by omega)).trans x1
  have y2 : Bq (z + 1) 38 _ V2 := (C.block (z + 1) (by omega)).trans y1
  have BV2 := belowStep BV1 (by omega) C
  have s2 : z + 2 ≤ V2.heap.size := by have := C.size; omega
  have RH := range_of_block x2 0 XH aH
  clear C RC KM
  cases cb with
  | false =>
    obtain rfl : ce = 130 := hmE
    cases ho with
    | false =>
      go_wp2_with (refine store_row0 rfl rfl 38 _ _ rfl (z + 1) _ rfl rfl 38 _ y2 (by kernel_rfl) rfl (by simp [Value.oneCell']) ?_)
      refine bodyPost_ret (results_row2 rfl _ _ (z + 1) 38 _ (0, 0) _ rfl (y2.row _) Tryz.underlying38 rfl (by kernel_rfl) (.int .i64 130) rfl) rfl ?_
      have hS : bgS root d = zSt := by rw [HSE.out.1]; exact if_pos (by simp)
      have hE : bgE root d = 130 := by rw [HSE.out.2]; exact if_pos (by simp)
      refine ⟨⟨nS, by rw [hS, hE]; kernel_rfl, ?_⟩, ?_⟩
      · rw [hS]
        exact zT_in _ _
      · rw [HZ.out]
        exact below_row BV2 (by omega) _
    | true =>
      go_wp2_with (refine store_row0 rfl rfl 38 _ _ rfl (z + 1) _ rfl rfl 38 _ y2 (by kernel_rfl) rfl (by simp [Value.oneCell']) ?_)
      refine bodyPost_ret (results_row2 rfl _ _ (z + 1) 38 _ (0, 0) _ rfl (y2.row _) Tryz.underlying38 rfl (by kernel_rfl) (.int .i64 130) rfl) rfl ?_
      have hS : bgS root d = zSt := by rw [HSE.out.1]; exact if_pos (by simp)
      have hE : bgE root d = 130 := by rw [HSE.out.2]; exact if_pos (by simp)
      refine ⟨⟨nS, by rw [hS, hE]; kernel_rfl, ?_⟩, ?_⟩
      · rw [hS]
        exact zT_in _ _
      · rw [HZ.out]
        exact below_row BV2 (by omega) _
  | true =>
    obtain rfl : ce = 0 := hmE
    cases ho with
    | false =>
      go_wp2_with (refine store_row0 rfl rfl 38 _ _ rfl (z + 1) _ rfl rfl 38 _ y2 (by kernel_rfl) rfl (by simp [Value.oneCell']) ?_)
      refine bodyPost_ret (results_row2 rfl _ _ (z + 1) 38 _ (0, 0) _ rfl (y2.row _) Tryz.underlying38 rfl (by kernel_rfl) (.int .i64 130) rfl) rfl ?_
      have hS : bgS root d = zSt := by rw [HSE.out.1]; exact if_pos (by simp)
      have hE : bgE root d = 130 := by rw [HSE.out.2]; exact if_pos (by simp)
      refine ⟨⟨nS, by rw [hS, hE]; kernel_rfl, ?_⟩, ?_⟩
      · rw [hS]
        exact zT_in _ _
      · rw [HZ.out]
        exact below_row BV2 (by omega) _
    | true =>
      go_wp2_with (first | (refine wpList_load_mid rfl 24 _ rfl z 0 rfl _ _ RH Tryz.underlying24 rfl (by rw [HLn.out.2.2.2]; kernel_rfl) ?_) | (refine load_mid_wanted (by rfl) 24 _ rfl z 0 rfl _ _ RH Tryz.underlying24 rfl (by rw [HLn.out.2.2.2]; kernel_rfl) ?_))
      refine (KR _).mono ?_
      rintro e V3 ⟨rfl, C⟩
      have x3 : Bq z 33 LB.toArray V3 := (C.block z (by omega)).trans x2
      have y3 : Bq (z + 1) 38 _ V3 := (C.block (z + 1) (by omega)).trans y2
      have BV3 := belowStep BV2 (by omega) C
      have s3 : z + 2 ≤ V3.heap.size := by have := C.size; omega
      clear C KR RH
      by_cases hrr : root = hr
      · have hr2 : (hr.toList == root.toList) = true := by rw [hrr]; exact beq_self_eq_true _
        have hd : (!decide (root = hr)) = false := by rw [decide_eq_true hrr]; rfl
        have c3 : V3.cell? ⟨z, 3, none⟩ = some (.string d.l.t) := cell_of_block x3 3 _ a3
        have c11 : V3.cell? ⟨z, 11, none⟩ = some (slV d.br q.br) := cell_of_block x3 11 _ a11
        go_wp2_with fail
        refine (KL V3 BV3 (by omega)).mono ?_
        rintro e V4 ⟨rfl, C⟩
        have x4 : Bq z 33 LB.toArray V4 := (C.block z (by omega)).trans x3
        have y4 : Bq (z + 1) 38 _ V4 := (C.block (z + 1) (by omega)).trans y3
        have BV4 := belowStep BV3 (by omega) C
        have s4 : z + 2 ≤ V4.heap.size := by have := C.size; omega
        clear C KL c3 c11
        cases lf with
        | false =>
          go_wp2_with (refine store_row0 rfl rfl 38 _ _ rfl (z + 1) _ rfl rfl 38 _ y4 (by kernel_rfl) rfl (by simp [Value.oneCell']) ?_)
          refine bodyPost_ret (results_row2 rfl _ _ (z + 1) 38 _ (0, 0) _ rfl (y4.row _) Tryz.underlying38 rfl (by kernel_rfl) (.int .i64 145) rfl) rfl ?_
          have hS : bgS root d = zSt := by rw [HSE.out.1]; rw [hd]; rfl
          have hE : bgE root d = 145 := by rw [HSE.out.2]; rw [hd]; rfl
          refine ⟨⟨nS, by rw [hS, hE]; kernel_rfl, ?_⟩, ?_⟩
          · rw [hS]
            exact zT_in _ _
          · rw [HZ.out]
            exact below_row BV4 (by omega) _
        | true =>
          have RL := range_of_block x4 0 XL aL
          have RC := range_of_block x4 9 XC aC
          rw [← HX.out.1] at RL
          rw [← HX.out.2] at RC
          simp only [ltV, cmV] at RL RC
          go_wp2_with (first | (refine wpList_load_mid rfl 29 _ rfl z 0 rfl _ _ RL Tryz.underlying29 rfl (by kernel_rfl) ?_) | (refine load_mid_wanted (by rfl) 29 _ rfl z 0 rfl _ _ RL Tryz.underlying29 rfl (by kernel_rfl) ?_) | (refine wpList_load_mid rfl 31 _ rfl z 9 rfl _ _ RC Tryz.underlying31 rfl (by kernel_rfl) ?_) | (refine load_mid_wanted (by rfl) 31 _ rfl z 9 rfl _ _ RC Tryz.underlying31 rfl (by kernel_rfl) ?_) | (refine store_row0 rfl rfl 38 _ _ rfl (z + 1) _ rfl rfl 38 _ y4 (by kernel_rfl) rfl (by simp [Value.oneCell']) ?_))
          have hS : bgS root d = ⟨d.l, d.l, d.c, zCm, zUp, false, 0, 0, false⟩ := by rw [HSE.out.1]; rw [hd]; rfl
          have hE : bgE root d = 0 := by rw [HSE.out.2]; rw [hd]; rfl
          refine bodyPost_ret (results_row2 rfl _ _ (z + 1) 38 _ (0, 0) _ rfl (y4.row _) Tryz.underlying38 rfl (by kernel_rfl) (.int .i64 0) rfl) rfl ⟨⟨⟨q.l, q.l, q.c, nP, nU⟩, by rw [hS, hE]; kernel_rfl, ?_⟩, ?_⟩
          · rw [hS]
            obtain ⟨hp, hn⟩ := HP.out
            rw [HZ.out] at hn
            have hsz : ∀ cs, n ≤ (V4.setRow (z + 1) cs).heap.size := fun cs => by rw [size_setRow]; omega
            have bw := fun cs => (below_row (k := z + 1) BV4 (by omega) cs).mono hn
            exact ⟨slS_mono (slS_below (bw _) hp.1) (hsz _), slS_mono (slS_below (bw _) hp.1) (hsz _), slS_mono (slS_below (bw _) hp.2.1) (hsz _), nil_in _ _, nil_in _ _, nil_in _ _, nil_in _ _, nil_in _ _, nil_in _ _⟩
          · rw [HZ.out]
            exact below_row BV4 (by omega) _
      · have hr2 : (hr.toList == root.toList) = false := by rw [beq_eq_false_iff_ne]; exact fun e => hrr (toList_inj e).symm
        have hd : (!decide (root = hr)) = true := by rw [decide_eq_false hrr]; rfl
        go_wp2_with (refine store_row0 rfl rfl 38 _ _ rfl (z + 1) _ rfl rfl 38 _ y3 (by kernel_rfl) rfl (by simp [Value.oneCell']) ?_)
        refine bodyPost_ret (results_row2 rfl _ _ (z + 1) 38 _ (0, 0) _ rfl (y3.row _) Tryz.underlying38 rfl (by kernel_rfl) (.int .i64 140) rfl) rfl ?_
        have hS : bgS root d = zSt := by rw [HSE.out.1]; rw [hd]; rfl
        have hE : bgE root d = 140 := by rw [HSE.out.2]; rw [hd]; rfl
        refine ⟨⟨nS, by rw [hS, hE]; kernel_rfl, ?_⟩, ?_⟩
        · rw [hS]
          exact zT_in _ _
        · rw [HZ.out]
          exact below_row BV3 (by omega) _
end Go.Proofs.YtoddangedbefgaaGreatDoor
namespace Go.Proofs.YtoddangedbefgaaGreatDoor
open Go.RowKit Go.Shelf Go.Sort

theorem lgL_sz {d : LtD} (h : szL d) : Lg d.br := lg_sz h.2.2.2.2.2
theorem lgU_sz {d : UpD} (h : szU d) : LgU d := ⟨lgL_sz h.1, lg_sz h.2.1.1, lg_sz h.2.2.1, lgL_sz h.2.2.2.1, lg_sz h.2.2.2.2.1⟩
theorem lgT_sz {d : StD} (h : szT d) : LgT d := ⟨lgL_sz h.1, lgL_sz h.2.1, lg_sz h.2.2.1.1, lg_sz h.2.2.2.1.1, lgU_sz h.2.2.2.2⟩
theorem bgS_sz (root : ByteArray) (d : BtD) (hz : szB d) : szT (bgS root d) := by
  unfold bgS
  split
  · exact zT_sz
  split
  · exact zT_sz
  split
  · exact zT_sz
  exact ⟨hz.1, hz.1, hz.2.1, zC_sz, zT_sz.2.2.2.2⟩
theorem bgS_lg (root : ByteArray) (d : BtD) (hz : szB d) : LgT (bgS root d) := lgT_sz (bgS_sz root d hz)
theorem stIn.up {n m : Nat} {W : World} {d : StD} {q : StP} (h : stIn n W d q) (hm : n ≤ m) : stIn m W d q := ⟨slS_mono h.1 hm, slS_mono h.2.1 hm, slS_mono h.2.2.1 hm, slS_mono h.2.2.2.1 hm, slS_mono h.2.2.2.2.1 hm, slS_mono h.2.2.2.2.2.1 hm, slS_mono h.2.2.2.2.2.2.1 hm, slS_mono h.2.2.2.2.2.2.2.1 hm, slS_mono h.2.2.2.2.2.2.2.2 hm⟩
set_option maxRecDepth 20000 in
set_option maxHeartbeats 8000000 in
theorem lightbegins_any (root : ByteArray) (d : BtD) (_ok : d.ok) (hz : szB d) (q : BtP) (w : World) (hl : Laid w) (hp : btIn w.heap.size w d q) :
    Calls Tryz.prog 3 #[.string root, .agg (btV d q).toArray] w fun e w' => e = .returned (.bool true) ∧ Below w.heap.size w w' := by
  have KS := fun (W : World) (hB : Below w.heap.size w W) => shown14_any W (hl.below hB)
  have K1 := fun (W : World) (hB : Below w.heap.size w W) (hs : w.heap.size ≤ W.heap.size) => begin_any root d hz q w.heap.size W (hl.below hB) hs ⟨slS_below hB hp.1, slS_below hB hp.2.1, slS_below hB hp.2.2⟩
  have K2 := fun (W : World) (hB : Below w.heap.size w W) (hs : w.heap.size ≤ W.heap.size) => rbegin_any root d q w.heap.size W hs ⟨slS_below hB hp.1, slS_below hB hp.2.1, slS_below hB hp.2.2⟩
  have K3 := fun (W : World) (qa qb : StP) (ha : stIn W.heap.size W (bgS root d) qa) (hb : stIn W.heap.size W (bgS root d) qb) => sameSt_any (bgS root d) (bgS root d) (bgS_lg root d hz) (bgS_lg root d hz) qa qb W.heap.size W (Nat.le_refl _) ha hb
  rw [(eqSt_iff (bgS root d) (bgS root d)).2 rfl] at K3
  obtain ⟨FS, hFS⟩ : ∃ x, bgS root d = x := ⟨_, rfl⟩
  obtain ⟨FE, hFE⟩ : ∃ x, bgE root d = x := ⟨_, rfl⟩
  rw [hFS] at K1 K2 K3
  rw [hFE] at K1 K2
  have HL : Hid ((btV d q).length = 12) := show _ from rfl
  obtain ⟨LB, hLB⟩ : ∃ L, btV d q = L := ⟨_, rfl⟩
  rw [hLB] at K1 K2 HL ⊢
  clear hLB hFS hFE hz hp hl
  obtain ⟨B1, xA, hs⟩ := box1 w (.cells LB.toArray 33)
  obtain ⟨z, hz⟩ : ∃ z, w.heap.size = z := ⟨_, rfl⟩
  have HZ : Hid (w.heap.size = z) := hz
  rw [hz] at B1 xA hs K1 K2 KS
  go_enter Tryz.func3, Tryz.ntmps3
  go_wp2_with fail
  refine (KS _ B1).mono ?_
  rintro e V1 ⟨rfl, C⟩
  have x1 : Bq z 33 LB.toArray V1 := (C.block z (by omega)).trans xA
  have BV1 := belowStep B1 (by omega) C
  have s1 : z + 1 ≤ V1.heap.size := by have := C.size; omega
  clear C xA hs B1 KS hz
  have R1 := range_all x1
  go_wp2_with (first | (refine wpList_load_mid rfl 33 _ rfl z 0 rfl _ _ R1 Tryz.underlying33 rfl (by rw [HL.out]; kernel_rfl) ?_) | (refine load_mid_wanted (by rfl) 33 _ rfl z 0 rfl _ _ R1 Tryz.underlying33 rfl (by rw [HL.out]; kernel_rfl) ?_))
  refine (K1 _ BV1 (by omega)).mono ?_
  rintro e V2 ⟨⟨qa, rfl, ga⟩, C⟩
  have x2 : Bq z 33 LB.toArray V2 := (C.block z (by omega)).trans x1
  have BV2 := belowStep BV1 (by omega) C
  have s2 : z + 1 ≤ V2.heap.size := by have := C.size; omega
  clear C R1 K1
  have R2 := range_all x2
  have hQa : Hid ((stV FS qa).toArray.size = 51) := show _ from rfl
  have hOa : Hid ((stV FS qa).toArray.all (·.oneCell') = true) := show _ from one_arr (stV_one _ _)
  obtain ⟨FA, hFA⟩ : ∃ F, stV FS qa = F := ⟨_, rfl⟩
  have hNa : Hid (FA.length = 51) := show _ by rw [← hFA]; rfl
  rw [hFA] at hQa hOa
  rw [hFA]
  obtain ⟨BA, nA, hsA⟩ := box1 V2 (.cells #[.int .u64 0, .int .u64 0, .string ⟨#[]⟩, .string ⟨#[]⟩, .string ⟨#[]⟩, .string ⟨#[]⟩, .string ⟨#[]⟩, .int .u64 0, .slice none 0 0, .int .u64 0, .int .u64 0, .string ⟨#[]⟩, .string ⟨#[]⟩, .string ⟨#[]⟩, .string ⟨#[]⟩, .string ⟨#[]⟩, .int .u64 0, .slice none 0 0, .slice none 0 0, .string ⟨#[]⟩, .slice none 0 0, .string ⟨#[]⟩, .int .u64 0, .int .u64 0, .string ⟨#[]⟩, .string ⟨#[]⟩, .string ⟨#[]⟩, .string ⟨#[]⟩, .string ⟨#[]⟩, .int .u64 0, .slice none 0 0, .slice none 0 0, .string ⟨#[]⟩, .slice none 0 0, .int .u64 0, .int .u64 0, .string ⟨#[]⟩, .string ⟨#[]⟩, .string ⟨#[]⟩, .string ⟨#[]⟩, .string ⟨#[]⟩, .int .u64 0, .slice none 0 0, .slice none 0 0, .int .u64 0, .string ⟨#[]⟩, .int .u64 0, .bool false, .int .i64 0, .int .i64 0, .bool false] 38)
  have xA : Bq z 33 LB.toArray (V2.alloc (.cells #[.int .u64 0, .int .u64 0, .string ⟨#[]⟩, .string ⟨#[]⟩, .string ⟨#[]⟩, .string ⟨#[]⟩, .string ⟨#[]⟩, .int .u64 0, .slice none 0 0, .int .u64 0, .int .u64 0, .string ⟨#[]⟩, .string ⟨#[]⟩, .string ⟨#[]⟩, .string ⟨#[]⟩, .string ⟨#[]⟩, .int .u64 0, .slice none 0 0, .slice none 0 0, .string ⟨#[]⟩, .slice none 0 0, .string ⟨#[]⟩, .int .u64 0, .int .u64 0, .string ⟨#[]⟩, .string ⟨#[]⟩, .string ⟨#[]⟩, .string ⟨#[]⟩, .string ⟨#[]⟩, .int .u64 0, .slice none 0 0, .slice none 0 0, .string ⟨#[]⟩, .slice none 0 0, .int .u64 0, .int .u64 0, .string ⟨#[]⟩, .string ⟨#[]⟩, .string ⟨#[]⟩, .string ⟨#[]⟩, .string ⟨#[]⟩, .int .u64 0, .slice none 0 0, .slice none 0 0, .int .u64 0, .string ⟨#[]⟩, .int .u64 0, .bool false, .int .i64 0, .int .i64 0, .bool false] 38)) := (BA.block z (by omega)).trans x2
  have xB : Bq z 33 LB.toArray ((V2.alloc (.cells #[.int .u64 0, .int .u64 0, .string ⟨#[]⟩, .string ⟨#[]⟩, .string ⟨#[]⟩, .string ⟨#[]⟩, .string ⟨#[]⟩, .int .u64 0, .slice none 0 0, .int .u64 0, .int .u64 0, .string ⟨#[]⟩, .string ⟨#[]⟩, .string ⟨#[]⟩, .string ⟨#[]⟩, .string ⟨#[]⟩, .int .u64 0, .slice none 0 0, .slice none 0 0, .string ⟨#[]⟩, .slice none 0 0, .string ⟨#[]⟩, .int .u64 0, .int .u64 0, .string ⟨#[]⟩, .string ⟨#[]⟩, .string ⟨#[]⟩, .string ⟨#[]⟩, .string ⟨#[]⟩, .int .u64 0, .slice none 0 0, .slice none 0 0, .string ⟨#[]⟩, .slice none 0 0, .int .u64 0, .int .u64 0, .string ⟨#[]⟩, .string ⟨#[]⟩, .string ⟨#[]⟩, .string ⟨#[]⟩, .string ⟨#[]⟩, .int .u64 0, .slice none 0 0, .slice none 0 0, .int .u64 0, .string ⟨#[]⟩, .int .u64 0, .bool false, .int .i64 0, .int .i64 0, .bool false] 38)).setRow V2.heap.size FA.toArray) := (setRow_other _ _ _ _ (by omega)).trans xA
  have R2 := range_all xB
  have BVA := belowStep BV2 (by omega) BA
  have nB := Bq.row (show Bq V2.heap.size 38 _ _ from nA) FA.toArray
  have hsB : ((V2.alloc (.cells #[.int .u64 0, .int .u64 0, .string ⟨#[]⟩, .string ⟨#[]⟩, .string ⟨#[]⟩, .string ⟨#[]⟩, .string ⟨#[]⟩, .int .u64 0, .slice none 0 0, .int .u64 0, .int .u64 0, .string ⟨#[]⟩, .string ⟨#[]⟩, .string ⟨#[]⟩, .string ⟨#[]⟩, .string ⟨#[]⟩, .int .u64 0, .slice none 0 0, .slice none 0 0, .string ⟨#[]⟩, .slice none 0 0, .string ⟨#[]⟩, .int .u64 0, .int .u64 0, .string ⟨#[]⟩, .string ⟨#[]⟩, .string ⟨#[]⟩, .string ⟨#[]⟩, .string ⟨#[]⟩, .int .u64 0, .slice none 0 0, .slice none 0 0, .string ⟨#[]⟩, .slice none 0 0, .int .u64 0, .int .u64 0, .string ⟨#[]⟩, .string ⟨#[]⟩, .string ⟨#[]⟩, .string ⟨#[]⟩, .string ⟨#[]⟩, .int .u64 0, .slice none 0 0, .slice none 0 0, .int .u64 0, .string ⟨#[]⟩, .int .u64 0, .bool false, .int .i64 0, .int .i64 0, .bool false] 38)).setRow V2.heap.size FA.toArray).heap.size = V2.heap.size + 1 := by rw [size_setRow]; exact hsA
  have BVB := below_row BVA (show z ≤ V2.heap.size by omega) FA.toArray
  have ga2 : stIn V2.heap.size ((V2.alloc (.cells #[.int .u64 0, .int .u64 0, .string ⟨#[]⟩, .string ⟨#[]⟩, .string ⟨#[]⟩, .string ⟨#[]⟩, .string ⟨#[]⟩, .int .u64 0, .slice none 0 0, .int .u64 0, .int .u64 0, .string ⟨#[]⟩, .string ⟨#[]⟩, .string ⟨#[]⟩, .string ⟨#[]⟩, .string ⟨#[]⟩, .int .u64 0, .slice none 0 0, .slice none 0 0, .string ⟨#[]⟩, .slice none 0 0, .string ⟨#[]⟩, .int .u64 0, .int .u64 0, .string ⟨#[]⟩, .string ⟨#[]⟩, .string ⟨#[]⟩, .string ⟨#[]⟩, .string ⟨#[]⟩, .int .u64 0, .slice none 0 0, .slice none 0 0, .string ⟨#[]⟩, .slice none 0 0, .int .u64 0, .int .u64 0, .string ⟨#[]⟩, .string ⟨#[]⟩, .string ⟨#[]⟩, .string ⟨#[]⟩, .string ⟨#[]⟩, .int .u64 0, .slice none 0 0, .slice none 0 0, .int .u64 0, .string ⟨#[]⟩, .int .u64 0, .bool false, .int .i64 0, .int .i64 0, .bool false] 38)).setRow V2.heap.size FA.toArray) FS qa := ga.below (below_row BA (Nat.le_refl _) _)
  have K4 := K2 _ BVB (by omega)
  have HF : Hid (_ ∧ _ ∧ _ ∧ _ ∧ _) := ⟨hFA, ga2, hsB, nB, BVB⟩
  have HS : Hid (z + 1 ≤ V2.heap.size) := s2
  clear BA ga ga2 hFA BV2 x2 xA xB hsA hsB nB BVB BVA s2 BV1 s1 x1 K2
  go_wp2_with (first | (refine store_row0 rfl rfl 38 _ _ rfl V2.heap.size _ rfl rfl 38 _ nA (by rw [hQa.out]; kernel_rfl) (by rw [hQa.out]; rfl) hOa.out ?_) | (refine wpList_load_mid rfl 33 _ rfl z 0 rfl _ _ R2 Tryz.underlying33 rfl (by rw [HL.out]; kernel_rfl) ?_) | (refine load_mid_wanted (by rfl) 33 _ rfl z 0 rfl _ _ R2 Tryz.underlying33 rfl (by rw [HL.out]; kernel_rfl) ?_))
  refine K4.mono ?_
  rintro e V3 ⟨⟨qb, rfl, gb⟩, C⟩
  obtain ⟨hFA, ga2, hsB, nB, BVB⟩ := HF.out
  have s2 := HS.out
  have BV3 := belowStep BVB (by rw [hsB]; omega) C
  have ga3 : stIn V2.heap.size V3 FS qa := ga2.below (C.mono (by rw [hsB]; omega))
  have y3 : Bq V2.heap.size 38 FA.toArray V3 := (C.block V2.heap.size (by rw [hsB]; omega)).trans nB
  have s3 : V2.heap.size + 1 ≤ V3.heap.size := by have := C.size; rw [hsB] at this; exact this
  clear C nB BVB hsB nA R2 K4 HF HS ga2
  obtain ⟨y, hy⟩ : ∃ y, V2.heap.size = y := ⟨_, rfl⟩
  rw [hy] at ga3 y3 s3 s2 ⊢
  clear hy
  have hQb : Hid ((stV FS qb).toArray.size = 51) := show _ from rfl
  have hOb : Hid ((stV FS qb).toArray.all (·.oneCell') = true) := show _ from one_arr (stV_one _ _)
  obtain ⟨FB, hFB⟩ : ∃ F, stV FS qb = F := ⟨_, rfl⟩
  have hNb : Hid (FB.length = 51) := show _ by rw [← hFB]; rfl
  rw [hFB] at hQb hOb
  rw [hFB]
  obtain ⟨BA, nA, hsA⟩ := box1 V3 (.cells #[.int .u64 0, .int .u64 0, .string ⟨#[]⟩, .string ⟨#[]⟩, .string ⟨#[]⟩, .string ⟨#[]⟩, .string ⟨#[]⟩, .int .u64 0, .slice none 0 0, .int .u64 0, .int .u64 0, .string ⟨#[]⟩, .string ⟨#[]⟩, .string ⟨#[]⟩, .string ⟨#[]⟩, .string ⟨#[]⟩, .int .u64 0, .slice none 0 0, .slice none 0 0, .string ⟨#[]⟩, .slice none 0 0, .string ⟨#[]⟩, .int .u64 0, .int .u64 0, .string ⟨#[]⟩, .string ⟨#[]⟩, .string ⟨#[]⟩, .string ⟨#[]⟩, .string ⟨#[]⟩, .int .u64 0, .slice none 0 0, .slice none 0 0, .string ⟨#[]⟩, .slice none 0 0, .int .u64 0, .int .u64 0, .string ⟨#[]⟩, .string ⟨#[]⟩, .string ⟨#[]⟩, .string ⟨#[]⟩, .string ⟨#[]⟩, .int .u64 0, .slice none 0 0, .slice none 0 0, .int .u64 0, .string ⟨#[]⟩, .int .u64 0, .bool false, .int .i64 0, .int .i64 0, .bool false] 38)
  have xA : Bq y 38 FA.toArray (V3.alloc (.cells #[.int .u64 0, .int .u64 0, .string ⟨#[]⟩, .string ⟨#[]⟩, .string ⟨#[]⟩, .string ⟨#[]⟩, .string ⟨#[]⟩, .int .u64 0, .slice none 0 0, .int .u64 0, .int .u64 0, .string ⟨#[]⟩, .string ⟨#[]⟩, .string ⟨#[]⟩, .string ⟨#[]⟩, .string ⟨#[]⟩, .int .u64 0, .slice none 0 0, .slice none 0 0, .string ⟨#[]⟩, .slice none 0 0, .string ⟨#[]⟩, .int .u64 0, .int .u64 0, .string ⟨#[]⟩, .string ⟨#[]⟩, .string ⟨#[]⟩, .string ⟨#[]⟩, .string ⟨#[]⟩, .int .u64 0, .slice none 0 0, .slice none 0 0, .string ⟨#[]⟩, .slice none 0 0, .int .u64 0, .int .u64 0, .string ⟨#[]⟩, .string ⟨#[]⟩, .string ⟨#[]⟩, .string ⟨#[]⟩, .string ⟨#[]⟩, .int .u64 0, .slice none 0 0, .slice none 0 0, .int .u64 0, .string ⟨#[]⟩, .int .u64 0, .bool false, .int .i64 0, .int .i64 0, .bool false] 38)) := (BA.block y (by omega)).trans y3
  have xB : Bq y 38 FA.toArray ((V3.alloc (.cells #[.int .u64 0, .int .u64 0, .string ⟨#[]⟩, .string ⟨#[]⟩, .string ⟨#[]⟩, .string ⟨#[]⟩, .string ⟨#[]⟩, .int .u64 0, .slice none 0 0, .int .u64 0, .int .u64 0, .string ⟨#[]⟩, .string ⟨#[]⟩, .string ⟨#[]⟩, .string ⟨#[]⟩, .string ⟨#[]⟩, .int .u64 0, .slice none 0 0, .slice none 0 0, .string ⟨#[]⟩, .slice none 0 0, .string ⟨#[]⟩, .int .u64 0, .int .u64 0, .string ⟨#[]⟩, .string ⟨#[]⟩, .string ⟨#[]⟩, .string ⟨#[]⟩, .string ⟨#[]⟩, .int .u64 0, .slice none 0 0, .slice none 0 0, .string ⟨#[]⟩, .slice none 0 0, .int .u64 0, .int .u64 0, .string ⟨#[]⟩, .string ⟨#[]⟩, .string ⟨#[]⟩, .string ⟨#[]⟩, .string ⟨#[]⟩, .int .u64 0, .slice none 0 0, .slice none 0 0, .int .u64 0, .string ⟨#[]⟩, .int .u64 0, .bool false, .int .i64 0, .int .i64 0, .bool false] 38)).setRow V3.heap.size FB.toArray) := (setRow_other _ _ _ _ (by omega)).trans xA
  have BVA := belowStep BV3 (by omega) BA
  have nB : Bq V3.heap.size 38 FB.toArray ((V3.alloc (.cells #[.int .u64 0, .int .u64 0, .string ⟨#[]⟩, .string ⟨#[]⟩, .string ⟨#[]⟩, .string ⟨#[]⟩, .string ⟨#[]⟩, .int .u64 0, .slice none 0 0, .int .u64 0, .int .u64 0, .string ⟨#[]⟩, .string ⟨#[]⟩, .string ⟨#[]⟩, .string ⟨#[]⟩, .string ⟨#[]⟩, .int .u64 0, .slice none 0 0, .slice none 0 0, .string ⟨#[]⟩, .slice none 0 0, .string ⟨#[]⟩, .int .u64 0, .int .u64 0, .string ⟨#[]⟩, .string ⟨#[]⟩, .string ⟨#[]⟩, .string ⟨#[]⟩, .string ⟨#[]⟩, .int .u64 0, .slice none 0 0, .slice none 0 0, .string ⟨#[]⟩, .slice none 0 0, .int .u64 0, .int .u64 0, .string ⟨#[]⟩, .string ⟨#[]⟩, .string ⟨#[]⟩, .string ⟨#[]⟩, .string ⟨#[]⟩, .int .u64 0, .slice none 0 0, .slice none 0 0, .int .u64 0, .string ⟨#[]⟩, .int .u64 0, .bool false, .int .i64 0, .int .i64 0, .bool false] 38)).setRow V3.heap.size FB.toArray) := Bq.row (show Bq V3.heap.size 38 _ _ from nA) FB.toArray
  have hsB : ((V3.alloc (.cells #[.int .u64 0, .int .u64 0, .string ⟨#[]⟩, .string ⟨#[]⟩, .string ⟨#[]⟩, .string ⟨#[]⟩, .string ⟨#[]⟩, .int .u64 0, .slice none 0 0, .int .u64 0, .int .u64 0, .string ⟨#[]⟩, .string ⟨#[]⟩, .string ⟨#[]⟩, .string ⟨#[]⟩, .string ⟨#[]⟩, .int .u64 0, .slice none 0 0, .slice none 0 0, .string ⟨#[]⟩, .slice none 0 0, .string ⟨#[]⟩, .int .u64 0, .int .u64 0, .string ⟨#[]⟩, .string ⟨#[]⟩, .string ⟨#[]⟩, .string ⟨#[]⟩, .string ⟨#[]⟩, .int .u64 0, .slice none 0 0, .slice none 0 0, .string ⟨#[]⟩, .slice none 0 0, .int .u64 0, .int .u64 0, .string ⟨#[]⟩, .string ⟨#[]⟩, .string ⟨#[]⟩, .string ⟨#[]⟩, .string ⟨#[]⟩, .int .u64 0, .slice none 0 0, .slice none 0 0, .int .u64 0, .string ⟨#[]⟩, .int .u64 0, .bool false, .int .i64 0, .int .i64 0, .bool false] 38)).setRow V3.heap.size FB.toArray).heap.size = V3.heap.size + 1 := by rw [size_setRow]; exact hsA
  have BVB := below_row BVA (show z ≤ V3.heap.size by omega) FB.toArray
  have b3 : Below V3.heap.size V3 ((V3.alloc (.cells #[.int .u64 0, .int .u64 0, .string ⟨#[]⟩, .string ⟨#[]⟩, .string ⟨#[]⟩, .string ⟨#[]⟩, .string ⟨#[]⟩, .int .u64 0, .slice none 0 0, .int .u64 0, .int .u64 0, .string ⟨#[]⟩, .string ⟨#[]⟩, .string ⟨#[]⟩, .string ⟨#[]⟩, .string ⟨#[]⟩, .int .u64 0, .slice none 0 0, .slice none 0 0, .string ⟨#[]⟩, .slice none 0 0, .string ⟨#[]⟩, .int .u64 0, .int .u64 0, .string ⟨#[]⟩, .string ⟨#[]⟩, .string ⟨#[]⟩, .string ⟨#[]⟩, .string ⟨#[]⟩, .int .u64 0, .slice none 0 0, .slice none 0 0, .string ⟨#[]⟩, .slice none 0 0, .int .u64 0, .int .u64 0, .string ⟨#[]⟩, .string ⟨#[]⟩, .string ⟨#[]⟩, .string ⟨#[]⟩, .string ⟨#[]⟩, .int .u64 0, .slice none 0 0, .slice none 0 0, .int .u64 0, .string ⟨#[]⟩, .int .u64 0, .bool false, .int .i64 0, .int .i64 0, .bool false] 38)).setRow V3.heap.size FB.toArray) := below_row BA (Nat.le_refl _) _
  have ga4 : stIn y ((V3.alloc (.cells #[.int .u64 0, .int .u64 0, .string ⟨#[]⟩, .string ⟨#[]⟩, .string ⟨#[]⟩, .string ⟨#[]⟩, .string ⟨#[]⟩, .int .u64 0, .slice none 0 0, .int .u64 0, .int .u64 0, .string ⟨#[]⟩, .string ⟨#[]⟩, .string ⟨#[]⟩, .string ⟨#[]⟩, .string ⟨#[]⟩, .int .u64 0, .slice none 0 0, .slice none 0 0, .string ⟨#[]⟩, .slice none 0 0, .string ⟨#[]⟩, .int .u64 0, .int .u64 0, .string ⟨#[]⟩, .string ⟨#[]⟩, .string ⟨#[]⟩, .string ⟨#[]⟩, .string ⟨#[]⟩, .int .u64 0, .slice none 0 0, .slice none 0 0, .string ⟨#[]⟩, .slice none 0 0, .int .u64 0, .int .u64 0, .string ⟨#[]⟩, .string ⟨#[]⟩, .string ⟨#[]⟩, .string ⟨#[]⟩, .string ⟨#[]⟩, .int .u64 0, .slice none 0 0, .slice none 0 0, .int .u64 0, .string ⟨#[]⟩, .int .u64 0, .bool false, .int .i64 0, .int .i64 0, .bool false] 38)).setRow V3.heap.size FB.toArray) FS qa := ga3.below (b3.mono (by omega))
  have gb4 := gb.below b3
  have HF : Hid (_ ∧ _ ∧ _ ∧ _ ∧ _ ∧ _ ∧ _ ∧ _) := ⟨hFA, hFB, ga4, gb4, hsB, nB, BVB, xB⟩
  have HS : Hid (z + 1 ≤ y ∧ y + 1 ≤ V3.heap.size) := ⟨s2, s3⟩
  have RA := range_all xB
  have RB := range_all nB
  have hd : decide (FE = FE) = true := decide_eq_true rfl
  have K4 := K3 _ qa qb (ga4.up (by rw [hsB]; omega)) (gb4.up (by rw [hsB]; omega))
  rw [hFA, hFB] at K4
  clear BA ga3 gb ga4 gb4 hFA hFB b3 xA xB hsA hsB nB BVB BVA s2 s3 BV3 y3
  go_wp2_with (first | (refine store_row0 rfl rfl 38 _ _ rfl V3.heap.size _ rfl rfl 38 _ nA (by rw [hQb.out]; kernel_rfl) (by rw [hQb.out]; rfl) hOb.out ?_) | (refine load_mid_wanted (by kernel_rfl) 38 (.tmp 6) rfl y 0 rfl _ _ RA Tryz.underlying38 rfl (by rw [hNa.out]; kernel_rfl) ?_) | (refine load_mid_wanted (by kernel_rfl) 38 (.tmp 8) rfl V3.heap.size 0 rfl _ _ RB Tryz.underlying38 rfl (by rw [hNb.out]; kernel_rfl) ?_))
  refine K4.mono ?_
  rintro e V4 ⟨rfl, C⟩
  obtain ⟨-, -, -, -, hsB, -, BVB, -⟩ := HF.out
  have BV4 := belowStep BVB (by rw [hsB]; have := HS.out; omega) C
  have HB : Hid _ := BV4
  clear BV4 C BVB hsB RA RB nA K4 HF HS hQa hOa hQb hOb hNa hNb
  go_wp2
  go_ret
  rw [HZ.out]
  exact ⟨by simp, HB.out⟩
end Go.Proofs.YtoddangedbefgaaGreatDoor
