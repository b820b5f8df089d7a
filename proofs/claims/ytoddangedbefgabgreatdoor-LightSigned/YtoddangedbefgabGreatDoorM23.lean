/- Lemmas: What the packages' variables hold, out of what the row lists; lists of texts that a law gets, read. No condition. -/
import Derived.Test.YtoddangedbefgabGreatDoorM21
import Derived.Deep.Strs
import Derived.LaidMore
import Derived.Stop.Joined
set_option maxHeartbeats 2000000
namespace Go.Proofs.YtoddangedbefgabGreatDoor
open Go.ChangeShapes Go.WideShapes Go.ChangeAt Go.RowKit Go.Deep
theorem rowOwn : ownKnob Tryz.prog.godebug = none := by kernel_rfl
theorem jhf {P : Program} {W : World} {name : String} {g : Nat} {t e : TypeId} {n : Nat} {k : IntKind} {cs : Array Value} {fuel : Nat} {ds : List (DataW Unit)} {p : List MemPlace} (f : Nat → Int)
  (hg : P.globalNamed name = some g) (hu : P.underlying t = some (.array n e)) (he : P.underlying e = some (.int k)) (hc : P.cellsOf e = 1) (hv : W.var? P name = some cs)
  (hd : DataW.trod (fun _ => ()) P W 0 (fun _ => true) false fuel t cs.toList = some (.agg ds, p)) (hds : ∀ j, j < n → ds[j]? = some (.lit (.int k (f j)))) :
  ∀ j, j < n → W.cell? ⟨g, j, none⟩ = some (.int k (f j)) := by
 intro j hj
 obtain ⟨xs, m, rfl, hx, hlen, hn, hel⟩ := DataW.trod_array hu hd
 simp only [Prod.mk.injEq, DataW.agg.injEq] at hx
 have h1 := hel j hj
 rw [hc, Nat.mul_one] at h1
 obtain ⟨x, hxj⟩ : ∃ x, xs[j]? = some x := ⟨xs[j]'(by omega), by simp [hn, hj]⟩
 rw [hxj] at h1
 obtain ⟨q, e1, e2, _⟩ := DataW.trod_int he h1
 have h2 := hds j hj
 rw [hx.1, List.getElem?_map, hxj] at h2
 rw [e2] at h2
 simp at h2
 subst h2
 rw [World.var?_cell hg hv j]
 have h3 : (cs.toList.drop j)[0]? = some (.int k (f j)) := by
  cases hq : cs.toList.drop j with
  | nil => rw [hq] at e1; simp at e1
  | cons c r => rw [hq] at e1; simp at e1; rw [e1]; rfl
 rw [List.getElem?_drop] at h3
 simpa using h3
abbrev laid3 : List (String × DataW Unit) := [("pharos/curve.inf", Rows.laid_pharos_curve_inf), ("pharos/pair.inf", Rows.laid_pharos_pair_inf), ("pharos/pair.one", Rows.laid_pharos_pair_one), ("pharos/sha.cubeRoots", Rows.laid_pharos_sha_cubeRoots), ("pharos/sha.squareRoots", Rows.laid_pharos_sha_squareRoots), ("pharos/sign.generator", Rows.laid_pharos_sign_generator), ("pharos/sign.inf", Rows.laid_pharos_sign_inf)]
theorem ga0 : Tryz.prog.globalNamed "pharos/curve.inf" = some 4 := by kernel_rfl
theorem tg0 : (Tryz.prog.globals[4]?).map (·.type) = some 72 := by kernel_rfl
theorem ga1 : Tryz.prog.globalNamed "pharos/pair.inf" = some 5 := by kernel_rfl
theorem tg1 : (Tryz.prog.globals[5]?).map (·.type) = some 72 := by kernel_rfl
theorem ga2 : Tryz.prog.globalNamed "pharos/pair.one" = some 6 := by kernel_rfl
theorem tg2 : (Tryz.prog.globals[6]?).map (·.type) = some 111 := by kernel_rfl
theorem ga3 : Tryz.prog.globalNamed "pharos/sha.cubeRoots" = some 2 := by kernel_rfl
theorem tg3 : (Tryz.prog.globals[2]?).map (·.type) = some 144 := by kernel_rfl
theorem ga4 : Tryz.prog.globalNamed "pharos/sha.squareRoots" = some 0 := by kernel_rfl
theorem tg4 : (Tryz.prog.globals[0]?).map (·.type) = some 149 := by kernel_rfl
theorem ga5 : Tryz.prog.globalNamed "pharos/sign.generator" = some 3 := by kernel_rfl
theorem tg5 : (Tryz.prog.globals[3]?).map (·.type) = some 72 := by kernel_rfl
theorem ga6 : Tryz.prog.globalNamed "pharos/sign.inf" = some 1 := by kernel_rfl
theorem tg6 : (Tryz.prog.globals[1]?).map (·.type) = some 72 := by kernel_rfl
theorem cU : Tryz.prog.cellsOf 114 = 1 := by kernel_rfl
theorem cellsP2 : Tryz.prog.cellsOf 111 = 2 := by kernel_rfl
theorem cellsU : Tryz.prog.cellsOf 22 = 1 := by kernel_rfl
theorem cellsB : Tryz.prog.cellsOf 4 = 1 := by kernel_rfl
theorem cellsPt : Tryz.prog.cellsOf 72 = 3 := by kernel_rfl
theorem door_met (os : Os) (args : Array Value) : laidMetH Tryz.prog laid3 ((World.doorLaid Tryz.prog 400 os).forCall (fun _ _ => 0) ⟨#[], args, []⟩).memory :=
 laidMetH_of_parts3 (fuel := 8) (laidMet_of_run' 8 (by kernel_rfl) (by kernel_rfl)) (by kernel_rfl) (by kernel_rfl)
theorem list3 {α : Type} (l : List α) (h : l.length = 3) : ∃ a b c, l = [a, b, c] := by
 match l, h with
 | [a, b, c], _ => exact ⟨a, b, c, rfl⟩
theorem list2 {α : Type} (l : List α) (h : l.length = 2) : ∃ a b, l = [a, b] := by
 match l, h with
 | [a, b], _ => exact ⟨a, b, rfl⟩
theorem dsH (j : Nat) (h : j < 8) : (match (Rows.laid_pharos_sha_squareRoots : DataW Unit) with | .agg l => l | _ => [])[j]? = some (.lit (.int .u32 (hc j))) :=
 match j, h with
 | 0, _ | 1, _ | 2, _ | 3, _ | 4, _ | 5, _ | 6, _ | 7, _ => rfl
 | k + 8, h => absurd h (by omega)
theorem dsK (j : Nat) (h : j < 64) : (match (Rows.laid_pharos_sha_cubeRoots : DataW Unit) with | .agg l => l | _ => [])[j]? = some (.lit (.int .u32 (kc j))) :=
 match j, h with
 | 0, _ | 1, _ | 2, _ | 3, _ | 4, _ | 5, _ | 6, _ | 7, _ | 8, _ | 9, _ | 10, _ | 11, _ | 12, _ | 13, _ | 14, _ | 15, _ | 16, _ | 17, _ | 18, _ | 19, _ | 20, _ | 21, _ | 22, _ | 23, _ | 24, _ | 25, _ | 26, _ | 27, _ | 28, _ | 29, _ | 30, _ | 31, _ | 32, _ | 33, _ | 34, _ | 35, _ | 36, _ | 37, _ | 38, _ | 39, _ | 40, _ | 41, _ | 42, _ | 43, _ | 44, _ | 45, _ | 46, _ | 47, _ | 48, _ | 49, _ | 50, _ | 51, _ | 52, _ | 53, _ | 54, _ | 55, _ | 56, _ | 57, _ | 58, _ | 59, _ | 60, _ | 61, _ | 62, _ | 63, _ => rfl
 | k + 64, h => absurd h (by omega)
theorem fw_of {W : World} {g N : Nat} {f : Nat → Value} (hc : ∀ j, j < N → W.cell? ⟨g, j, none⟩ = some (f j)) (hb : ∃ c t, W.heap[g]? = some (.cells c t (0, 0))) : Fw g N f W := by
 obtain ⟨c, t, hb⟩ := hb
 refine ⟨?_, hc, fun o => ?_⟩
 ·exact (Array.getElem?_eq_some_iff.1 hb).1
 ·simp [World.frozen?, hb]
theorem of_laid {W : World} (h : laidMetH Tryz.prog laid3 W) : Ls W := by
 rw [MakeChecks.laidMetH_plain _ _ _ (by kernel_rfl)] at h
 obtain ⟨ps, ⟨g0, t0, cs0, f0, p0, q0, hg0, ht0, hv0, hd0, ⟨g1, t1, cs1, f1, p1, q1, hg1, ht1, hv1, hd1, ⟨g2, t2, cs2, f2, p2, q2, hg2, ht2, hv2, hd2, ⟨g3, t3, cs3, f3, p3, q3, hg3, ht3, hv3, hd3, ⟨g4, t4, cs4, f4, p4, q4, hg4, ht4, hv4, hd4, ⟨g5, t5, cs5, f5, p5, q5, hg5, ht5, hv5, hd5, ⟨g6, t6, cs6, f6, p6, q6, hg6, ht6, hv6, hd6, _, e6⟩, e5⟩, e4⟩, e3⟩, e2⟩, e1⟩, e0⟩, _, hh⟩ := h
 have z : ∀ (g : Nat) (cs : Array Value) (v : Value), W.cell? ⟨g, 0, none⟩ = cs[0]? → W.cell? ⟨g, 0, none⟩ = some v → MemPlace.cell g 0 ∈ MemPlace.row ⟨g, 0, none⟩ cs.size := fun g cs v h1 h2 => by
  rw [h1] at h2
  have : 0 < cs.size := (Array.getElem?_eq_some_iff.1 h2).1
  simp [MemPlace.row]; omega
 have r0 : 4 < W.heap.size ∧ W.cell? ⟨4, 0, none⟩ = some (.int .u64 0) ∧ W.cell? ⟨4, 1, none⟩ = some (.int .u64 0) ∧ W.cell? ⟨4, 2, none⟩ = some (.bool true) ∧ ∃ cs t, W.heap[4]? = some (.cells cs t (0, 0)) := by
  obtain rfl := Option.some.inj (ga0.symm.trans hg0)
  obtain rfl := Option.some.inj (tg0.symm.trans ht0)
  obtain ⟨y0, y1, y2, m, hx, hl, hy0, hy1, hy2⟩ := trod_struct3 Tryz.underlying72 hd0
  rw [cellsPt] at hl
  obtain ⟨l⟩ := cs0
  obtain ⟨c0, c1, c2, rfl⟩ := list3 l hl
  simp only [cellsU, cellsB, List.drop_zero, List.drop_succ_cons, List.take_succ_cons, List.take_zero] at hy0 hy1 hy2
  obtain ⟨x0, d0, rfl, _⟩ := DataW.trod_int Tryz.underlying22 hy0
  obtain ⟨x1, d1, rfl, _⟩ := DataW.trod_int Tryz.underlying22 hy1
  obtain ⟨x2, d2, rfl⟩ := DataW.trod_bool Tryz.underlying4 hy2
  simp [Rows.laid_pharos_curve_inf] at hx d0 d1 d2
  obtain ⟨⟨h0, h1, h2⟩, h3⟩ := hx
  have k0 := World.var?_cell ga0 hv0 0
  have k1 := World.var?_cell ga0 hv0 1
  have k2 := World.var?_cell ga0 hv0 2
  subst d0 d1 d2 h0 h1 h2
  have hb := (hh 4 0 (by rw [e0]; simp [MemPlace.row])).1
  obtain ⟨c, t, hb⟩ := hb
  exact ⟨(Array.getElem?_eq_some_iff.1 hb).1, k0, k1, k2, c, t, hb⟩
 have r1 : 5 < W.heap.size ∧ W.cell? ⟨5, 0, none⟩ = some (.int .u64 0) ∧ W.cell? ⟨5, 1, none⟩ = some (.int .u64 0) ∧ W.cell? ⟨5, 2, none⟩ = some (.bool true) ∧ ∃ cs t, W.heap[5]? = some (.cells cs t (0, 0)) := by
  obtain rfl := Option.some.inj (ga1.symm.trans hg1)
  obtain rfl := Option.some.inj (tg1.symm.trans ht1)
  obtain ⟨y0, y1, y2, m, hx, hl, hy0, hy1, hy2⟩ := trod_struct3 Tryz.underlying72 hd1
  rw [cellsPt] at hl
  obtain ⟨l⟩ := cs1
  obtain ⟨c0, c1, c2, rfl⟩ := list3 l hl
  simp only [cellsU, cellsB, List.drop_zero, List.drop_succ_cons, List.take_succ_cons, List.take_zero] at hy0 hy1 hy2
  obtain ⟨x0, d0, rfl, _⟩ := DataW.trod_int Tryz.underlying22 hy0
  obtain ⟨x1, d1, rfl, _⟩ := DataW.trod_int Tryz.underlying22 hy1
  obtain ⟨x2, d2, rfl⟩ := DataW.trod_bool Tryz.underlying4 hy2
  simp [Rows.laid_pharos_pair_inf] at hx d0 d1 d2
  obtain ⟨⟨h0, h1, h2⟩, h3⟩ := hx
  have k0 := World.var?_cell ga1 hv1 0
  have k1 := World.var?_cell ga1 hv1 1
  have k2 := World.var?_cell ga1 hv1 2
  subst d0 d1 d2 h0 h1 h2
  have hb := (hh 5 0 (by rw [e0, e1]; simp [MemPlace.row])).1
  obtain ⟨c, t, hb⟩ := hb
  exact ⟨(Array.getElem?_eq_some_iff.1 hb).1, k0, k1, k2, c, t, hb⟩
 have r2 : 6 < W.heap.size ∧ W.cell? ⟨6, 0, none⟩ = some (.int .u64 1) ∧ W.cell? ⟨6, 1, none⟩ = some (.int .u64 0) ∧ ∃ cs t, W.heap[6]? = some (.cells cs t (0, 0)) := by
  obtain rfl := Option.some.inj (ga2.symm.trans hg2)
  obtain rfl := Option.some.inj (tg2.symm.trans ht2)
  obtain ⟨y0, y1, m, hx, hl, hy0, hy1⟩ := trod_struct2 Tryz.underlying111 hd2
  rw [cellsP2] at hl
  obtain ⟨l⟩ := cs2
  obtain ⟨c0, c1, rfl⟩ := list2 l hl
  simp only [cellsU, List.drop_zero, List.drop_succ_cons, List.take_succ_cons, List.take_zero] at hy0 hy1
  obtain ⟨x0, d0, rfl, _⟩ := DataW.trod_int Tryz.underlying22 hy0
  obtain ⟨x1, d1, rfl, _⟩ := DataW.trod_int Tryz.underlying22 hy1
  simp [Rows.laid_pharos_pair_one] at hx d0 d1
  obtain ⟨⟨h0, h1⟩, h3⟩ := hx
  have k0 := World.var?_cell ga2 hv2 0
  have k1 := World.var?_cell ga2 hv2 1
  subst d0 d1 h0 h1
  have hb := (hh 6 0 (by rw [e0, e1, e2]; simp [MemPlace.row])).1
  obtain ⟨c, t, hb⟩ := hb
  exact ⟨(Array.getElem?_eq_some_iff.1 hb).1, k0, k1, c, t, hb⟩
 have r3 : Fw 2 64 (fun j => .int .u32 (kc j)) W := by
  obtain rfl := Option.some.inj (ga3.symm.trans hg3)
  obtain rfl := Option.some.inj (tg3.symm.trans ht3)
  have k0 := jhf kc ga3 Tryz.underlying144 Tryz.underlying114 cU hv3 hd3 dsK
  exact fw_of k0 (hh 2 0 (by rw [e0, e1, e2, e3]; simp [z 2 cs3 _ (World.var?_cell ga3 hv3 0) (k0 0 (by decide))])).1
 have r4 : Fw 0 8 (fun j => .int .u32 (hc j)) W := by
  obtain rfl := Option.some.inj (ga4.symm.trans hg4)
  obtain rfl := Option.some.inj (tg4.symm.trans ht4)
  have k0 := jhf hc ga4 Tryz.underlying149 Tryz.underlying114 cU hv4 hd4 dsH
  exact fw_of k0 (hh 0 0 (by rw [e0, e1, e2, e3, e4]; simp [z 0 cs4 _ (World.var?_cell ga4 hv4 0) (k0 0 (by decide))])).1
 have r5 : 3 < W.heap.size ∧ W.cell? ⟨3, 0, none⟩ = some (.int .u64 1846166884) ∧ W.cell? ⟨3, 1, none⟩ = some (.int .u64 1411018613) ∧ W.cell? ⟨3, 2, none⟩ = some (.bool false) ∧ ∃ cs t, W.heap[3]? = some (.cells cs t (0, 0)) := by
  obtain rfl := Option.some.inj (ga5.symm.trans hg5)
  obtain rfl := Option.some.inj (tg5.symm.trans ht5)
  obtain ⟨y0, y1, y2, m, hx, hl, hy0, hy1, hy2⟩ := trod_struct3 Tryz.underlying72 hd5
  rw [cellsPt] at hl
  obtain ⟨l⟩ := cs5
  obtain ⟨c0, c1, c2, rfl⟩ := list3 l hl
  simp only [cellsU, cellsB, List.drop_zero, List.drop_succ_cons, List.take_succ_cons, List.take_zero] at hy0 hy1 hy2
  obtain ⟨x0, d0, rfl, _⟩ := DataW.trod_int Tryz.underlying22 hy0
  obtain ⟨x1, d1, rfl, _⟩ := DataW.trod_int Tryz.underlying22 hy1
  obtain ⟨x2, d2, rfl⟩ := DataW.trod_bool Tryz.underlying4 hy2
  simp [Rows.laid_pharos_sign_generator] at hx d0 d1 d2
  obtain ⟨⟨h0, h1, h2⟩, h3⟩ := hx
  have k0 := World.var?_cell ga5 hv5 0
  have k1 := World.var?_cell ga5 hv5 1
  have k2 := World.var?_cell ga5 hv5 2
  subst d0 d1 d2 h0 h1 h2
  have hb := (hh 3 0 (by rw [e0, e1, e2, e3, e4, e5]; simp [MemPlace.row])).1
  obtain ⟨c, t, hb⟩ := hb
  exact ⟨(Array.getElem?_eq_some_iff.1 hb).1, k0, k1, k2, c, t, hb⟩
 have r6 : 1 < W.heap.size ∧ W.cell? ⟨1, 0, none⟩ = some (.int .u64 0) ∧ W.cell? ⟨1, 1, none⟩ = some (.int .u64 0) ∧ W.cell? ⟨1, 2, none⟩ = some (.bool true) ∧ ∃ cs t, W.heap[1]? = some (.cells cs t (0, 0)) := by
  obtain rfl := Option.some.inj (ga6.symm.trans hg6)
  obtain rfl := Option.some.inj (tg6.symm.trans ht6)
  obtain ⟨y0, y1, y2, m, hx, hl, hy0, hy1, hy2⟩ := trod_struct3 Tryz.underlying72 hd6
  rw [cellsPt] at hl
  obtain ⟨l⟩ := cs6
  obtain ⟨c0, c1, c2, rfl⟩ := list3 l hl
  simp only [cellsU, cellsB, List.drop_zero, List.drop_succ_cons, List.take_succ_cons, List.take_zero] at hy0 hy1 hy2
  obtain ⟨x0, d0, rfl, _⟩ := DataW.trod_int Tryz.underlying22 hy0
  obtain ⟨x1, d1, rfl, _⟩ := DataW.trod_int Tryz.underlying22 hy1
  obtain ⟨x2, d2, rfl⟩ := DataW.trod_bool Tryz.underlying4 hy2
  simp [Rows.laid_pharos_sign_inf] at hx d0 d1 d2
  obtain ⟨⟨h0, h1, h2⟩, h3⟩ := hx
  have k0 := World.var?_cell ga6 hv6 0
  have k1 := World.var?_cell ga6 hv6 1
  have k2 := World.var?_cell ga6 hv6 2
  subst d0 d1 d2 h0 h1 h2
  have hb := (hh 1 0 (by rw [e0, e1, e2, e3, e4, e5, e6]; simp [MemPlace.row])).1
  obtain ⟨c, t, hb⟩ := hb
  exact ⟨(Array.getElem?_eq_some_iff.1 hb).1, k0, k1, k2, c, t, hb⟩
 obtain ⟨a1, a2, a3, a4, a5⟩ := r0
 obtain ⟨b1, b2, b3, b4, b5⟩ := r1
 obtain ⟨c1, c2, c3, c4⟩ := r2
 obtain ⟨d1, d2, d3, d4, d5⟩ := r5
 obtain ⟨f1, f2, f3, f4, f5⟩ := r6
 exact ⟨⟨⟨a1, a2, a3, a4, a5⟩, b1, b2, b3, b4, b5, c1, c2, c3, c4⟩, ⟨r3, r4⟩, d1, d2, d3, d4, d5, f1, f2, f3, f4, f5⟩
theorem cellsSt8 : Tryz.prog.cellsOf 9 = 1 := by kernel_rfl
theorem wf64 {n : Int} (h : (Lit.int .u64 n).wf = true) : 0 ≤ n ∧ n < 18446744073709551616 := by
 simp [Lit.wf, IntKind.min, IntKind.max] at h
 have h1 := h.1
 have h2 := h.2
 simp [IntKind.bits, IntKind.signed] at h1 h2
 omega
end Go.Proofs.YtoddangedbefgabGreatDoor
