/- Lemmas: Boots and Updates that a law gets, opened: what they hold, and how much. -/
import Derived.Test.YtmefanagpkbjeaaDoorM1
import Derived.Test.YtmefanagpkbjeaaDoorM10
import Derived.Test.YtmefanagpkbjeaaDoorM11
import Derived.Test.YtmefanagpkbjeaaDoorM12
import Derived.Test.YtmefanagpkbjeaaDoorM13
import Derived.Test.YtmefanagpkbjeaaDoorM14
import Derived.Test.YtmefanagpkbjeaaDoorM15
import Derived.Test.YtmefanagpkbjeaaDoorM16
import Derived.Test.YtmefanagpkbjeaaDoorM17
import Derived.Test.YtmefanagpkbjeaaDoorM18
import Derived.Test.YtmefanagpkbjeaaDoorM19
import Derived.Test.YtmefanagpkbjeaaDoorM2
import Derived.Test.YtmefanagpkbjeaaDoorM20
import Derived.Test.YtmefanagpkbjeaaDoorM21
import Derived.Test.YtmefanagpkbjeaaDoorM22
import Derived.Test.YtmefanagpkbjeaaDoorM23
import Derived.Test.YtmefanagpkbjeaaDoorM24
import Derived.Test.YtmefanagpkbjeaaDoorM25
import Derived.Test.YtmefanagpkbjeaaDoorM26
import Derived.Test.YtmefanagpkbjeaaDoorM27
import Derived.Test.YtmefanagpkbjeaaDoorM28
import Derived.Test.YtmefanagpkbjeaaDoorM29
import Derived.Test.YtmefanagpkbjeaaDoorM3
import Derived.Test.YtmefanagpkbjeaaDoorM30
import Derived.Test.YtmefanagpkbjeaaDoorM31
import Derived.Test.YtmefanagpkbjeaaDoorM33
import Derived.Test.YtmefanagpkbjeaaDoorM34
import Derived.Test.YtmefanagpkbjeaaDoorM35
import Derived.Test.YtmefanagpkbjeaaDoorM36
import Derived.Test.YtmefanagpkbjeaaDoorM37
import Derived.Test.YtmefanagpkbjeaaDoorM38
import Derived.Test.YtmefanagpkbjeaaDoorM39
import Derived.Test.YtmefanagpkbjeaaDoorM4
import Derived.Test.YtmefanagpkbjeaaDoorM44
import Derived.Test.YtmefanagpkbjeaaDoorM45
import Derived.Test.YtmefanagpkbjeaaDoorM5
import Derived.Test.YtmefanagpkbjeaaDoorM6
import Derived.Test.YtmefanagpkbjeaaDoorM7
import Derived.Test.YtmefanagpkbjeaaDoorM8
import Derived.Test.YtmefanagpkbjeaaDoorM9
import Derived.Test.YtmefanagpkbjeaaDoorRows
namespace Go.Proofs.YtmefanagpkbjeaaDoor
open Go.ChangeShapes Go.WideShapes Go.ChangeAt Go.RowKit
theorem tb_ts : ∀ ts : List ByteArray, tbIs (ts.map tI) ≤ 9 * txB ts
  | [] => Nat.le_refl _
  | x :: r => by
    have := tb_ts r
    show (x.size + 9 + 0) + tbIs (r.map tI) ≤ 9 * (x.size + 1 + txB r)
    omega
theorem tb_tsI (ts : List ByteArray) : tbI (tsI ts) ≤ 9 + 9 * txB ts := by
  have := tb_ts ts
  unfold tsI; rw [tb_lsI]; omega
theorem num_le8 (n : Nat) (h : n < 18446744073709551616) : (numOf n).size ≤ 8 := by rw [num_size]; exact num_8 n h
theorem tb_ltI (d : LtD) (hd : d.ok) : tbI (ltI d) ≤ 9 * (d.p.size + d.t.size + d.b.size + d.ea.size + d.ra.size + txB d.br) + 200 := by
  obtain ⟨h1, h2, h3⟩ := hd
  have n1 := num_le8 d.s h1
  have n2 := num_le8 d.u h2
  have n3 := num_le8 d.m h3
  have h := tb_tsI d.br
  have e : tbI (ltI d) = 9 + (tbI (lsI [tI (numOf d.s), tI (numOf d.u), tI d.p, tI d.t, tI d.b]) + (tbI (lsI [tI d.ea, tI d.ra, tI (numOf d.m)]) + (tbI (tsI d.br) + 0))) := by unfold ltI; rw [tb_lsI]; rfl
  have e1 : tbI (lsI [tI (numOf d.s), tI (numOf d.u), tI d.p, tI d.t, tI d.b]) = 9 + (((numOf d.s).size + 9 + 0) + (((numOf d.u).size + 9 + 0) + ((d.p.size + 9 + 0) + ((d.t.size + 9 + 0) + ((d.b.size + 9 + 0) + 0))))) := by rw [tb_lsI]; rfl
  have e2 : tbI (lsI [tI d.ea, tI d.ra, tI (numOf d.m)]) = 9 + ((d.ea.size + 9 + 0) + ((d.ra.size + 9 + 0) + (((numOf d.m).size + 9 + 0) + 0))) := by rw [tb_lsI]; rfl
  omega
theorem tb_cmI (d : CmD) : tbI (cmI d) ≤ 9 * (txB d.ks + d.sm.size) + 30 := by
  have h := tb_tsI d.ks
  have e : tbI (cmI d) = 9 + (tbI (tsI d.ks) + ((d.sm.size + 9 + 0) + 0)) := by unfold cmI; rw [tb_lsI]; rfl
  omega
theorem stp {α : Type} (cs : List α) (o k m : Nat) (h : o + k = m) : List.drop o cs = List.take k (List.drop o cs) ++ List.drop m cs := by
  have := List.take_append_drop k (List.drop o cs)
  rw [List.drop_drop, h] at this
  exact this.symm
section
variable {H : Type} {enc : TypeId × Value → H}
set_option maxRecDepth 100000 in
set_option maxHeartbeats 1000000 in
theorem bt_open {W : World} {fuel : Nat} {cs : List Value} {x : DataW H × List MemPlace} (h : DataW.trod enc Tryd.prog W 0 (fun _ => true) true fuel 41 cs = some x) (hlt : ∀ y ∈ x.2, y.block < W.heap.size) :
    ∃ (d : BtD) (a0 a1 a2 : Option Addr) (c0 c1 c2 : Nat), cs = [.int .u64 (d.l.s : Int), .int .u64 (d.l.u : Int), .string d.l.p, .string d.l.t, .string d.l.b, .string d.l.ea, .string d.l.ra, .int .u64 (d.l.m : Int), .slice a0 d.l.br.length c0, .slice a1 d.c.ks.length c1, .string d.c.sm, .slice a2 d.br.length c2] ∧ d.l.ok ∧ slS W.heap.size W a0 d.l.br ∧ slS W.heap.size W a1 d.c.ks ∧ slS W.heap.size W a2 d.br ∧ tbI (btI d) ≤ 9 * Rows.uptoBulk x.1 + 1000 := by
  obtain ⟨xs, n, rfl, hx, hl, hxs, hf⟩ := DataW.trod_struct Tryd.underlying41 h
  rw [cBt] at hl
  obtain ⟨y0, y1, y2, rfl⟩ := of_three xs hxs
  have g0 : DataW.trod enc Tryd.prog W 0 (fun _ => true) true n 29 (List.take (Tryd.prog.cellsOf 29) (List.drop 0 cs)) = some y0 := hf 0 _ rfl
  rw [cLt] at g0
  have g1 : DataW.trod enc Tryd.prog W 0 (fun _ => true) true n 31 (List.take (Tryd.prog.cellsOf 31) (List.drop 9 cs)) = some y1 := hf 1 _ rfl
  rw [cCm] at g1
  have g2 : DataW.trod enc Tryd.prog W 0 (fun _ => true) true n 27 (List.take (Tryd.prog.cellsOf 27) (List.drop 11 cs)) = some y2 := hf 2 _ rfl
  rw [cL8] at g2
  rw [hx] at hlt
  obtain ⟨s0, u0, m0, p0, t0, b0, ea0, ra0, a0, br0, c0, e0, is0, iu0, im0, hs0, hb0⟩ := lt_open g0 (fun y hy => hlt y (by simp [hy]))
  obtain ⟨a1, ks1, c1, sm1, e1, hs1, hb1⟩ := cm_open g1 (fun y hy => hlt y (by simp [hy]))
  obtain ⟨v2, e2⟩ := one_of (List.take 1 (List.drop 11 cs)) (by rw [List.length_take, List.length_drop, hl]; decide)
  rw [e2] at g2
  obtain ⟨a2, ts2, c2, rfl, _, hs2, hb2⟩ := open_strsB g2 (fun y hy => hlt y (by simp [hy]))
  have f0 := stp cs 0 9 9 rfl
  have f1 := stp cs 9 2 11 rfl
  have f2 := stp cs 11 1 12 rfl
  have hz : List.drop 12 cs = [] := List.drop_of_length_le (by omega)
  have hc : List.drop 0 cs = List.take 9 (List.drop 0 cs) ++ (List.take 2 (List.drop 9 cs) ++ (List.take 1 (List.drop 11 cs) ++ (List.drop 12 cs))) := by
    rw [← f2, ← f1, ← f0]
  rw [e0, e1, e2, hz] at hc
  rw [List.drop_zero] at hc
  refine ⟨⟨⟨s0, u0, p0, t0, b0, ea0, ra0, m0, br0⟩, ⟨ks1, sm1⟩, ts2⟩, a0, a1, a2, c0, c1, c2, ?_, ⟨is0, iu0, im0⟩, hs0, hs1, hs2, ?_⟩
  · rw [hc]
    rfl
  · have k0 := tb_ltI ⟨s0, u0, p0, t0, b0, ea0, ra0, m0, br0⟩ ⟨is0, iu0, im0⟩
    dsimp only at k0
    have k1 := tb_cmI ⟨ks1, sm1⟩
    dsimp only at k1
    have k2 := tb_tsI ts2
    have e : tbI (btI ⟨⟨s0, u0, p0, t0, b0, ea0, ra0, m0, br0⟩, ⟨ks1, sm1⟩, ts2⟩) = 9 + (tbI (ltI ⟨s0, u0, p0, t0, b0, ea0, ra0, m0, br0⟩) + (tbI (cmI ⟨ks1, sm1⟩) + (tbI (tsI ts2) + 0))) := by unfold btI; rw [tb_lsI]; rfl
    rw [e, hx]
    simp [Rows.uptoBulkAll, Rows.uptoBulk]
    omega
set_option maxRecDepth 100000 in
set_option maxHeartbeats 1000000 in
theorem up_open {W : World} {fuel : Nat} {cs : List Value} {x : DataW H × List MemPlace} (h : DataW.trod enc Tryd.prog W 0 (fun _ => true) true fuel 43 cs = some x) (hlt : ∀ y ∈ x.2, y.block < W.heap.size) :
    ∃ (d : UpD) (a0 a1 a2 a3 a4 : Option Addr) (c0 c1 c2 c3 c4 : Nat), cs = [.int .u64 (d.l.s : Int), .int .u64 (d.l.u : Int), .string d.l.p, .string d.l.t, .string d.l.b, .string d.l.ea, .string d.l.ra, .int .u64 (d.l.m : Int), .slice a0 d.l.br.length c0, .slice a1 d.c.ks.length c1, .string d.c.sm, .slice a2 d.nb.length c2, .int .u64 (d.f.s : Int), .int .u64 (d.f.u : Int), .string d.f.p, .string d.f.t, .string d.f.b, .string d.f.ea, .string d.f.ra, .int .u64 (d.f.m : Int), .slice a3 d.f.br.length c3, .slice a4 d.fb.length c4, .int .u64 (d.bits : Int), .string d.sig, .int .u64 (d.slot : Int)] ∧ d.l.ok ∧ d.f.ok ∧ U6 d.bits ∧ U6 d.slot ∧ slS W.heap.size W a0 d.l.br ∧ slS W.heap.size W a1 d.c.ks ∧ slS W.heap.size W a2 d.nb ∧ slS W.heap.size W a3 d.f.br ∧ slS W.heap.size W a4 d.fb ∧ tbI (upI d) ≤ 9 * Rows.uptoBulk x.1 + 1000 := by
  obtain ⟨xs, n, rfl, hx, hl, hxs, hf⟩ := DataW.trod_struct Tryd.underlying43 h
  rw [cUp] at hl
  obtain ⟨y0, y1, y2, y3, y4, y5, y6, y7, rfl⟩ := of_eight xs hxs
  have g0 : DataW.trod enc Tryd.prog W 0 (fun _ => true) true n 29 (List.take (Tryd.prog.cellsOf 29) (List.drop 0 cs)) = some y0 := hf 0 _ rfl
  rw [cLt] at g0
  have g1 : DataW.trod enc Tryd.prog W 0 (fun _ => true) true n 31 (List.take (Tryd.prog.cellsOf 31) (List.drop 9 cs)) = some y1 := hf 1 _ rfl
  rw [cCm] at g1
  have g2 : DataW.trod enc Tryd.prog W 0 (fun _ => true) true n 27 (List.take (Tryd.prog.cellsOf 27) (List.drop 11 cs)) = some y2 := hf 2 _ rfl
  rw [cL8] at g2
  have g3 : DataW.trod enc Tryd.prog W 0 (fun _ => true) true n 29 (List.take (Tryd.prog.cellsOf 29) (List.drop 12 cs)) = some y3 := hf 3 _ rfl
  rw [cLt] at g3
  have g4 : DataW.trod enc Tryd.prog W 0 (fun _ => true) true n 27 (List.take (Tryd.prog.cellsOf 27) (List.drop 21 cs)) = some y4 := hf 4 _ rfl
  rw [cL8] at g4
  have g5 : DataW.trod enc Tryd.prog W 0 (fun _ => true) true n 22 (List.take (Tryd.prog.cellsOf 22) (List.drop 22 cs)) = some y5 := hf 5 _ rfl
  rw [cU8] at g5
  have g6 : DataW.trod enc Tryd.prog W 0 (fun _ => true) true n 9 (List.take (Tryd.prog.cellsOf 9) (List.drop 23 cs)) = some y6 := hf 6 _ rfl
  rw [cS8] at g6
  have g7 : DataW.trod enc Tryd.prog W 0 (fun _ => true) true n 22 (List.take (Tryd.prog.cellsOf 22) (List.drop 24 cs)) = some y7 := hf 7 _ rfl
  rw [cU8] at g7
  rw [hx] at hlt
  obtain ⟨s0, u0, m0, p0, t0, b0, ea0, ra0, a0, br0, c0, e0, is0, iu0, im0, hs0, hb0⟩ := lt_open g0 (fun y hy => hlt y (by simp [hy]))
  obtain ⟨a1, ks1, c1, sm1, e1, hs1, hb1⟩ := cm_open g1 (fun y hy => hlt y (by simp [hy]))
  obtain ⟨v2, e2⟩ := one_of (List.take 1 (List.drop 11 cs)) (by rw [List.length_take, List.length_drop, hl]; decide)
  rw [e2] at g2
  obtain ⟨a2, ts2, c2, rfl, _, hs2, hb2⟩ := open_strsB g2 (fun y hy => hlt y (by simp [hy]))
  obtain ⟨s3, u3, m3, p3, t3, b3, ea3, ra3, a3, br3, c3, e3, is3, iu3, im3, hs3, hb3⟩ := lt_open g3 (fun y hy => hlt y (by simp [hy]))
  obtain ⟨v4, e4⟩ := one_of (List.take 1 (List.drop 21 cs)) (by rw [List.length_take, List.length_drop, hl]; decide)
  rw [e4] at g4
  obtain ⟨a4, ts4, c4, rfl, _, hs4, hb4⟩ := open_strsB g4 (fun y hy => hlt y (by simp [hy]))
  obtain ⟨v5, e5⟩ := one_of (List.take 1 (List.drop 22 cs)) (by rw [List.length_take, List.length_drop, hl]; decide)
  rw [e5] at g5
  obtain ⟨q5, r5, rfl, w5⟩ := DataW.trod_int Tryd.underlying22 g5
  have z5 := wf64 w5
  simp at r5
  obtain ⟨v6, e6⟩ := one_of (List.take 1 (List.drop 23 cs)) (by rw [List.length_take, List.length_drop, hl]; decide)
  rw [e6] at g6
  obtain ⟨q6, r6, rfl, _⟩ := DataW.trod_string Tryd.underlying9 g6
  simp at r6
  obtain ⟨v7, e7⟩ := one_of (List.take 1 (List.drop 24 cs)) (by rw [List.length_take, List.length_drop, hl]; decide)
  rw [e7] at g7
  obtain ⟨q7, r7, rfl, w7⟩ := DataW.trod_int Tryd.underlying22 g7
  have z7 := wf64 w7
  simp at r7
  have f0 := stp cs 0 9 9 rfl
  have f1 := stp cs 9 2 11 rfl
  have f2 := stp cs 11 1 12 rfl
  have f3 := stp cs 12 9 21 rfl
  have f4 := stp cs 21 1 22 rfl
  have f5 := stp cs 22 1 23 rfl
  have f6 := stp cs 23 1 24 rfl
  have f7 := stp cs 24 1 25 rfl
  have hz : List.drop 25 cs = [] := List.drop_of_length_le (by omega)
  have hc : List.drop 0 cs = List.take 9 (List.drop 0 cs) ++ (List.take 2 (List.drop 9 cs) ++ (List.take 1 (List.drop 11 cs) ++ (List.take 9 (List.drop 12 cs) ++ (List.take 1 (List.drop 21 cs) ++ (List.take 1 (List.drop 22 cs) ++ (List.take 1 (List.drop 23 cs) ++ (List.take 1 (List.drop 24 cs) ++ (List.drop 25 cs)))))))) := by
    rw [← f7, ← f6, ← f5, ← f4, ← f3, ← f2, ← f1, ← f0]
  rw [e0, e1, e2, e3, e4, e5, e6, e7, hz] at hc
  rw [List.drop_zero] at hc
  refine ⟨⟨⟨s0, u0, p0, t0, b0, ea0, ra0, m0, br0⟩, ⟨ks1, sm1⟩, ts2, ⟨s3, u3, p3, t3, b3, ea3, ra3, m3, br3⟩, ts4, q5.toNat, q6, q7.toNat⟩, a0, a1, a2, a3, a4, c0, c1, c2, c3, c4, ?_, ⟨is0, iu0, im0⟩, ⟨is3, iu3, im3⟩, (by unfold U6; dsimp only; omega), (by unfold U6; dsimp only; omega), hs0, hs1, hs2, hs3, hs4, ?_⟩
  · rw [hc]
    simp [r5, r7, r6, Int.toNat_of_nonneg z5.1, Int.toNat_of_nonneg z7.1]
  · have k0 := tb_ltI ⟨s0, u0, p0, t0, b0, ea0, ra0, m0, br0⟩ ⟨is0, iu0, im0⟩
    dsimp only at k0
    have k1 := tb_cmI ⟨ks1, sm1⟩
    dsimp only at k1
    have k2 := tb_tsI ts2
    have k3 := tb_ltI ⟨s3, u3, p3, t3, b3, ea3, ra3, m3, br3⟩ ⟨is3, iu3, im3⟩
    dsimp only at k3
    have k4 := tb_tsI ts4
    have k5 := num_le8 q5.toNat (by omega)
    have k7 := num_le8 q7.toNat (by omega)
    have e : tbI (upI ⟨⟨s0, u0, p0, t0, b0, ea0, ra0, m0, br0⟩, ⟨ks1, sm1⟩, ts2, ⟨s3, u3, p3, t3, b3, ea3, ra3, m3, br3⟩, ts4, q5.toNat, q6, q7.toNat⟩) = 9 + (tbI (ltI ⟨s0, u0, p0, t0, b0, ea0, ra0, m0, br0⟩) + (tbI (cmI ⟨ks1, sm1⟩) + (tbI (tsI ts2) + (tbI (ltI ⟨s3, u3, p3, t3, b3, ea3, ra3, m3, br3⟩) + (tbI (tsI ts4) + (((numOf q5.toNat).size + 9 + 0) + ((q6.size + 9 + 0) + (((numOf q7.toNat).size + 9 + 0) + 0)))))))) := by unfold upI; rw [tb_lsI]; rfl
    rw [e, hx]
    simp [Rows.uptoBulkAll, Rows.uptoBulk]
    omega
end
end Go.Proofs.YtmefanagpkbjeaaDoor
