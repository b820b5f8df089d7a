/- What the packages' variables hold, out of what the row lists; points and numbers that a law gets, read and given back as they were. No condition. -/
import Derived.Test.YteknhghmliihhaaDoorJ1
import Derived.Test.YteknhghmliihhaaDoorRows
import Derived.ProofKit
import Derived.LaidMore
import Derived.OpenShut
import Derived.ChangeMaps5
import Derived.ChangeSame
import Derived.Stop.Joined
import Derived.Deep.Strs
import Derived.Carry
namespace Go.Proofs.YteknhghmliihhaaDoor
open Go.ChangeShapes Go.WideShapes Go.ChangeAt Go.RowKit Go.Deep

theorem rowOwn : ownKnob Tryd.prog.godebug = none := by kernel_rfl
abbrev laid3 : List (String × DataW Unit) := [("pharos/curve.inf", Rows.laid_pharos_curve_inf), ("pharos/pair.inf", Rows.laid_pharos_pair_inf), ("pharos/pair.one", Rows.laid_pharos_pair_one)]
theorem gI : Tryd.prog.globalNamed "pharos/curve.inf" = some 2 := by kernel_rfl
theorem tI : (Tryd.prog.globals[2]?).map (·.type) = some 24 := by kernel_rfl
theorem gJ : Tryd.prog.globalNamed "pharos/pair.inf" = some 0 := by kernel_rfl
theorem tJ : (Tryd.prog.globals[0]?).map (·.type) = some 24 := by kernel_rfl
theorem gO : Tryd.prog.globalNamed "pharos/pair.one" = some 1 := by kernel_rfl
theorem tO : (Tryd.prog.globals[1]?).map (·.type) = some 27 := by kernel_rfl
theorem cellsP2 : Tryd.prog.cellsOf 27 = 2 := by kernel_rfl
theorem cellsU : Tryd.prog.cellsOf 22 = 1 := by kernel_rfl
theorem cellsB : Tryd.prog.cellsOf 4 = 1 := by kernel_rfl
theorem cellsPt : Tryd.prog.cellsOf 24 = 3 := by kernel_rfl
theorem door_met (os : Os) (args : Array Value) : laidMetH Tryd.prog laid3 ((World.doorLaid Tryd.prog 400 os).forCall (fun _ _ => 0) ⟨#[], args, []⟩).memory :=
  laidMetH_of_parts3 (fuel := 8) (laidMet_of_run' 8 (by kernel_rfl) (by kernel_rfl)) (by kernel_rfl) (by kernel_rfl)
theorem list3 {α : Type} (l : List α) (h : l.length = 3) : ∃ a b c, l = [a, b, c] := by
  match l, h with
  | [a, b, c], _ => exact ⟨a, b, c, rfl⟩

theorem list2 {α : Type} (l : List α) (h : l.length = 2) : ∃ a b, l = [a, b] := by
  match l, h with
  | [a, b], _ => exact ⟨a, b, rfl⟩

set_option maxHeartbeats 1000000 in
/-- WHAT THE CONDITION GIVES THE WALKS: Inf, twice, and one. -/
theorem of_laid {W : World} (h : laidMetH Tryd.prog laid3 W) : Lp W := by
  rw [MakeChecks.laidMetH_plain _ _ _ (by kernel_rfl)] at h
  obtain ⟨ps, ⟨g0, t0, cs0, f0, p0, q0, hg0, ht0, hv0, hd0, ⟨g1, t1, cs1, f1, p1, q1, hg1, ht1, hv1, hd1, ⟨g2, t2, cs2, f2, p2, q2, hg2, ht2, hv2, hd2, _, e2⟩, e1⟩, e0⟩, _, hh⟩ := h
  have r0 : Li W := by
    obtain rfl := Option.some.inj (gI.symm.trans hg0)
    obtain rfl := Option.some.inj (tI.symm.trans ht0)
    obtain ⟨y0, y1, y2, m, hx, hl, hy0, hy1, hy2⟩ := trod_struct3 Tryd.underlying24 hd0
    rw [cellsPt] at hl
    obtain ⟨l⟩ := cs0
    obtain ⟨c0, c1, c2, rfl⟩ := list3 l hl
    simp only [cellsU, cellsB, List.drop_zero, List.drop_succ_cons, List.take_succ_cons, List.take_zero] at hy0 hy1 hy2
    obtain ⟨x0, d0, rfl, _⟩ := DataW.trod_int Tryd.underlying22 hy0
    obtain ⟨x1, d1, rfl, _⟩ := DataW.trod_int Tryd.underlying22 hy1
    obtain ⟨x2, d2, rfl⟩ := DataW.trod_bool Tryd.underlying4 hy2
    simp [Rows.laid_pharos_curve_inf] at hx d0 d1 d2
    obtain ⟨⟨h0, h1, h2⟩, h3⟩ := hx
    have k0 := World.var?_cell gI hv0 0
    have k1 := World.var?_cell gI hv0 1
    have k2 := World.var?_cell gI hv0 2
    subst d0 d1 d2 h0 h1 h2
    have hb := (hh 2 0 (by rw [e0]; simp [MemPlace.row])).1
    obtain ⟨c, t, hb⟩ := hb
    exact ⟨(Array.getElem?_eq_some_iff.1 hb).1, k0, k1, k2, c, t, hb⟩
  have r1 : 0 < W.heap.size ∧ W.cell? ⟨0, 0, none⟩ = some (.int .u64 0) ∧ W.cell? ⟨0, 1, none⟩ = some (.int .u64 0) ∧ W.cell? ⟨0, 2, none⟩ = some (.bool true) ∧ ∃ cs t, W.heap[0]? = some (.cells cs t (0, 0)) := by
    obtain rfl := Option.some.inj (gJ.symm.trans hg1)
    obtain rfl := Option.some.inj (tJ.symm.trans ht1)
    obtain ⟨y0, y1, y2, m, hx, hl, hy0, hy1, hy2⟩ := trod_struct3 Tryd.underlying24 hd1
    rw [cellsPt] at hl
    obtain ⟨l⟩ := cs1
    obtain ⟨c0, c1, c2, rfl⟩ := list3 l hl
    simp only [cellsU, cellsB, List.drop_zero, List.drop_succ_cons, List.take_succ_cons, List.take_zero] at hy0 hy1 hy2
    obtain ⟨x0, d0, rfl, _⟩ := DataW.trod_int Tryd.underlying22 hy0
    obtain ⟨x1, d1, rfl, _⟩ := DataW.trod_int Tryd.underlying22 hy1
    obtain ⟨x2, d2, rfl⟩ := DataW.trod_bool Tryd.underlying4 hy2
    simp [Rows.laid_pharos_pair_inf] at hx d0 d1 d2
    obtain ⟨⟨h0, h1, h2⟩, h3⟩ := hx
    have k0 := World.var?_cell gJ hv1 0
    have k1 := World.var?_cell gJ hv1 1
    have k2 := World.var?_cell gJ hv1 2
    subst d0 d1 d2 h0 h1 h2
    have hb := (hh 0 0 (by rw [e0, e1]; simp [MemPlace.row])).1
    obtain ⟨c, t, hb⟩ := hb
    exact ⟨(Array.getElem?_eq_some_iff.1 hb).1, k0, k1, k2, c, t, hb⟩
  have r2 : 1 < W.heap.size ∧ W.cell? ⟨1, 0, none⟩ = some (.int .u64 1) ∧ W.cell? ⟨1, 1, none⟩ = some (.int .u64 0) ∧ ∃ cs t, W.heap[1]? = some (.cells cs t (0, 0)) := by
    obtain rfl := Option.some.inj (gO.symm.trans hg2)
    obtain rfl := Option.some.inj (tO.symm.trans ht2)
    obtain ⟨y0, y1, m, hx, hl, hy0, hy1⟩ := trod_struct2 Tryd.underlying27 hd2
    rw [cellsP2] at hl
    obtain ⟨l⟩ := cs2
    obtain ⟨c0, c1, rfl⟩ := list2 l hl
    simp only [cellsU, List.drop_zero, List.drop_succ_cons, List.take_succ_cons, List.take_zero] at hy0 hy1
    obtain ⟨x0, d0, rfl, _⟩ := DataW.trod_int Tryd.underlying22 hy0
    obtain ⟨x1, d1, rfl, _⟩ := DataW.trod_int Tryd.underlying22 hy1
    simp [Rows.laid_pharos_pair_one] at hx d0 d1
    obtain ⟨⟨h0, h1⟩, h3⟩ := hx
    have k0 := World.var?_cell gO hv2 0
    have k1 := World.var?_cell gO hv2 1
    subst d0 d1 h0 h1
    have hb := (hh 1 0 (by rw [e0, e1, e2]; simp [MemPlace.row])).1
    obtain ⟨c, t, hb⟩ := hb
    exact ⟨(Array.getElem?_eq_some_iff.1 hb).1, k0, k1, c, t, hb⟩
  exact ⟨r0, r1.1, r1.2.1, r1.2.2.1, r1.2.2.2.1, r1.2.2.2.2, r2.1, r2.2.1, r2.2.2.1, r2.2.2.2⟩
theorem num_of_wf {x : Int} (h : (Lit.int .u64 x).wf = true) : ∃ n : Nat, x = n ∧ U64 n := by
  simp only [Lit.wf, Bool.and_eq_true, decide_eq_true_eq] at h
  have e0 : IntKind.u64.min = 0 := rfl
  have e1 : IntKind.u64.max = 18446744073709551615 := rfl
  rw [e0, e1] at h
  exact ⟨x.toNat, by omega, by unfold U64; omega⟩
theorem wf_of_num {n : Nat} (h : U64 n) : (Lit.int .u64 (n : Int)).wf = true := by
  unfold U64 at h
  simp only [Lit.wf, Bool.and_eq_true, decide_eq_true_eq]
  have e0 : IntKind.u64.min = 0 := rfl
  have e1 : IntKind.u64.max = 18446744073709551615 := rfl
  rw [e0, e1]
  omega
section
variable {H : Type} {enc : TypeId × Value → H}
theorem trodb_mk {W : World} {b : Nat} {sp : Nat → Bool} {hd : Bool} (m : Nat) (x : Bool) : DataW.trod enc Tryd.prog W b sp hd (m + 1) 4 [.bool x] = some (.lit (.bool x), []) := by
  simp [DataW.trod, Tryd.underlying4]
set_option maxHeartbeats 400000 in
theorem open_point {W : World} {b0 : Nat} {v : Value} {d : DataW H} {ps : List MemPlace} (hval : Value.okWide Tryd.prog W .any b0 24 v) (hd : DataW.Trod enc Tryd.prog W 0 (fun _ => true) true 24 v d ps) :
    ∃ a : Pt, v = vT a ∧ d = .agg [.lit (.int .u64 (a.X : Int)), .lit (.int .u64 (a.Y : Int)), .lit (.bool a.I)] ∧ ps = [] ∧ UT a := by
  obtain ⟨cs, rfl, hsz, _⟩ : ∃ cs, v = .agg cs ∧ cs.size = Tryd.prog.cellsOf 24 ∧ Row.okWide Tryd.prog W .any b0 24 cs := by
    simpa [Value.okWide, Tryd.underlying24] using hval
  rw [cellsPt] at hsz
  obtain ⟨l⟩ := cs
  obtain ⟨c0, c1, c2, rfl⟩ := list3 l hsz
  obtain ⟨fuel, hf⟩ := hd
  obtain ⟨y0, y1, y2, m, hx, _, hy0, hy1, hy2⟩ := trod_struct3 Tryd.underlying24 hf
  simp only [cellsU, cellsB, Value.cells, List.drop_zero, List.drop_succ_cons, List.take_succ_cons, List.take_zero, List.toList_toArray] at hy0 hy1 hy2
  obtain ⟨x0, e0, rfl, w0⟩ := DataW.trod_int Tryd.underlying22 hy0
  obtain ⟨x1, e1, rfl, w1⟩ := DataW.trod_int Tryd.underlying22 hy1
  obtain ⟨x2, e2, rfl⟩ := DataW.trod_bool Tryd.underlying4 hy2
  simp at e0 e1 e2
  subst e0 e1 e2
  obtain ⟨n0, rfl, k0⟩ := num_of_wf w0
  obtain ⟨n1, rfl, k1⟩ := num_of_wf w1
  simp only [Prod.mk.injEq] at hx
  obtain ⟨rfl, rfl⟩ := hx
  exact ⟨⟨n0, n1, x2⟩, rfl, rfl, rfl, k0, k1⟩
theorem shut_point {a : Pt} (ha : UT a) {W : World} {b : Nat} {sp : Nat → Bool} {hd : Bool} : DataW.Trod enc Tryd.prog W b sp hd 24 (vT a) (.agg [.lit (.int .u64 (a.X : Int)), .lit (.int .u64 (a.Y : Int)), .lit (.bool a.I)]) [] :=
  ⟨2, by
    have := trod_struct3_mk (enc := enc) (w := W) (base := b) (spare := sp) (held := hd) (n := 1) (cs := [.int .u64 (a.X : Int), .int .u64 (a.Y : Int), .bool a.I]) (y0 := (.lit (.int .u64 (a.X : Int)), [])) (y1 := (.lit (.int .u64 (a.Y : Int)), [])) (y2 := (.lit (.bool a.I), [])) Tryd.underlying24 (by rw [cellsPt]; rfl)
      (by simp only [cellsU]; exact trod_int_mk 0 Tryd.underlying22 (wf_of_num ha.1))
      (by simp only [cellsU]; exact trod_int_mk 0 Tryd.underlying22 (wf_of_num ha.2))
      (by simp only [cellsB]; exact trodb_mk 0 _)
    exact this⟩
end
end Go.Proofs.YteknhghmliihhaaDoor
