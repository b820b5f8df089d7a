/- Lemmas: What the package's tables hold, out of what the row lists; a world in which they lie so. No condition. -/
import Derived.Test.YtbmapdkcccdmfaaDoorM1
import Derived.Test.YtbmapdkcccdmfaaDoorM2
import Derived.Test.YtbmapdkcccdmfaaDoorM3
import Derived.Test.YtbmapdkcccdmfaaDoorM4
import Derived.Test.YtbmapdkcccdmfaaDoorRows
import Derived.ChangeMaps5
import Derived.ChangeSame
import Derived.LaidMore
import Derived.OpenShut
import Derived.ProofKit
import Derived.Stop.Joined
namespace Go.Proofs.YtbmapdkcccdmfaaDoor
open Go.ChangeShapes Go.WideShapes Go.ChangeAt Go.RowKit

theorem rowOwn : ownKnob Tryd.prog.godebug = none := by kernel_rfl

theorem ints_of_laid {P : Program} {W : World} {name : String} {g : Nat} {t e : TypeId} {n : Nat} {k : IntKind} {cs : Array Value} {fuel : Nat} {ds : List (DataW Unit)} {p : List MemPlace} (f : Nat → Int)
  (hg : P.globalNamed name = some g) (hu : P.underlying t = some (.array n e)) (he : P.underlying e = some (.int k)) (hc : P.cellsOf e = 1) (hv : W.var? P name = some cs)
  (hd : DataW.trod (fun _ => ()) P W 0 (fun _ => true) false fuel t cs.toList = some (.agg ds, p)) (hds : ∀ j, j < n → ds[j]? = some (.lit (.int k (f j)))) :
  ∀ j, j < n → W.cell? ⟨g, j, none⟩ = some (.int k (f j)) := by
 intro j hj
 obtain ⟨xs, m, rfl, hx, hlen, hn, hel⟩ := DataW.trod_array hu hd
 simp only [Prod.mk.injEq, DataW.agg.injEq] at hx
 have h1 := hel j hj
 rw [hc, Nat.mul_one] at h1
 obtain ⟨x, hxj⟩ : ∃ x, xs[j]? = some x := ⟨xs[j]'(by omega), by simp [hn, hj]⟩
 rw [hxj] at h1
 obtain ⟨q, e1, e2, _⟩ := DataW.trod_int he h1
 have h2 := hds j hj
 rw [hx.1, List.getElem?_map, hxj] at h2
 rw [e2] at h2
 simp at h2
 subst h2
 rw [World.var?_cell hg hv j]
 have h3 : (cs.toList.drop j)[0]? = some (.int k (f j)) := by
  cases hq : cs.toList.drop j with
  | nil => rw [hq] at e1; simp at e1
  | cons c r => rw [hq] at e1; simp at e1; rw [e1]; rfl
 rw [List.getElem?_drop] at h3
 simpa using h3

abbrev laid3 : List (String × DataW Unit) := [("pharos/keccak.constants", Rows.laid_pharos_keccak_constants), ("pharos/keccak.turns", Rows.laid_pharos_keccak_turns), ("pharos/keccak.places", Rows.laid_pharos_keccak_places)]

theorem gC : Tryd.prog.globalNamed "pharos/keccak.constants" = some 0 := by kernel_rfl
theorem gT : Tryd.prog.globalNamed "pharos/keccak.turns" = some 1 := by kernel_rfl
theorem gP : Tryd.prog.globalNamed "pharos/keccak.places" = some 2 := by kernel_rfl
theorem tC : (Tryd.prog.globals[0]?).map (·.type) = some 130 := by kernel_rfl
theorem tT : (Tryd.prog.globals[1]?).map (·.type) = some 92 := by kernel_rfl
theorem tP : (Tryd.prog.globals[2]?).map (·.type) = some 92 := by kernel_rfl
theorem cU : Tryd.prog.cellsOf 64 = 1 := by kernel_rfl
theorem cI : Tryd.prog.cellsOf 3 = 1 := by kernel_rfl

theorem door_met (os : Os) (args : Array Value) : laidMetH Tryd.prog laid3 ((World.doorLaid Tryd.prog 400 os).forCall (fun _ _ => 0) ⟨#[], args, []⟩).memory :=
 laidMetH_of_parts3 (fuel := 8) (laidMet_of_run' 8 (by kernel_rfl) (by kernel_rfl)) (by kernel_rfl) (by kernel_rfl)

theorem dsC (j : Nat) (h : j < 24) : (match (Rows.laid_pharos_keccak_constants : DataW Unit) with | .agg l => l | _ => [])[j]? = some (.lit (.int .u64 (cn j))) :=
 match j, h with
 | 0, _ | 1, _ | 2, _ | 3, _ | 4, _ | 5, _ | 6, _ | 7, _ | 8, _ | 9, _ | 10, _ | 11, _ | 12, _ | 13, _ | 14, _ | 15, _ | 16, _ | 17, _ | 18, _ | 19, _ | 20, _ | 21, _ | 22, _ | 23, _ => rfl
 | k + 24, h => absurd h (by omega)
theorem dsT (j : Nat) (h : j < 25) : (match (Rows.laid_pharos_keccak_turns : DataW Unit) with | .agg l => l | _ => [])[j]? = some (.lit (.int .i64 (tn j))) :=
 match j, h with
 | 0, _ | 1, _ | 2, _ | 3, _ | 4, _ | 5, _ | 6, _ | 7, _ | 8, _ | 9, _ | 10, _ | 11, _ | 12, _ | 13, _ | 14, _ | 15, _ | 16, _ | 17, _ | 18, _ | 19, _ | 20, _ | 21, _ | 22, _ | 23, _ | 24, _ => rfl
 | k + 25, h => absurd h (by omega)
theorem dsP (j : Nat) (h : j < 25) : (match (Rows.laid_pharos_keccak_places : DataW Unit) with | .agg l => l | _ => [])[j]? = some (.lit (.int .i64 (pl j))) :=
 match j, h with
 | 0, _ | 1, _ | 2, _ | 3, _ | 4, _ | 5, _ | 6, _ | 7, _ | 8, _ | 9, _ | 10, _ | 11, _ | 12, _ | 13, _ | 14, _ | 15, _ | 16, _ | 17, _ | 18, _ | 19, _ | 20, _ | 21, _ | 22, _ | 23, _ | 24, _ => rfl
 | k + 25, h => absurd h (by omega)

theorem fw_of {W : World} {g N : Nat} {f : Nat → Value} (hc : ∀ j, j < N → W.cell? ⟨g, j, none⟩ = some (f j)) (hb : ∃ c t, W.heap[g]? = some (.cells c t (0, 0))) : Fw g N f W := by
 obtain ⟨c, t, hb⟩ := hb
 refine ⟨?_, hc, fun o => ?_⟩
 ·exact (Array.getElem?_eq_some_iff.1 hb).1
 ·simp [World.frozen?, hb]

theorem of_laid {W : World} (h : laidMetH Tryd.prog laid3 W) : Laid W := by
 rw [MakeChecks.laidMetH_plain _ _ _ (by kernel_rfl)] at h
 obtain ⟨ps, ⟨g0, t0, cs0, f0, p0, q0, hg0, ht0, hv0, hd0, ⟨g1, t1, cs1, f1, p1, q1, hg1, ht1, hv1, hd1, ⟨g2, t2, cs2, f2, p2, q2, hg2, ht2, hv2, hd2, _, e2⟩, e1⟩, e0⟩, _, hh⟩ := h
 obtain rfl := Option.some.inj (gC.symm.trans hg0)
 obtain rfl := Option.some.inj (gT.symm.trans hg1)
 obtain rfl := Option.some.inj (gP.symm.trans hg2)
 obtain rfl := Option.some.inj (tC.symm.trans ht0)
 obtain rfl := Option.some.inj (tT.symm.trans ht1)
 obtain rfl := Option.some.inj (tP.symm.trans ht2)
 have k0 := ints_of_laid cn gC Tryd.underlying130 Tryd.underlying64 cU hv0 hd0 dsC
 have k1 := ints_of_laid (fun j => (tn j : Int)) gT Tryd.underlying92 Tryd.underlying3 cI hv1 hd1 dsT
 have k2 := ints_of_laid (fun j => (pl j : Int)) gP Tryd.underlying92 Tryd.underlying3 cI hv2 hd2 dsP
 have z : ∀ (g : Nat) (cs : Array Value) (v : Value), W.cell? ⟨g, 0, none⟩ = cs[0]? → W.cell? ⟨g, 0, none⟩ = some v → MemPlace.cell g 0 ∈ MemPlace.row ⟨g, 0, none⟩ cs.size := fun g cs v h1 h2 => by
  rw [h1] at h2
  have : 0 < cs.size := (Array.getElem?_eq_some_iff.1 h2).1
  simp [MemPlace.row]; omega
 refine ⟨⟨?_, ?_⟩, ?_⟩
 ·exact fw_of k1 (hh 1 0 (by rw [e0, e1]; simp [z 1 cs1 _ (World.var?_cell gT hv1 0) (k1 0 (by decide))])).1
 ·exact fw_of k2 (hh 2 0 (by rw [e0, e1, e2]; simp [z 2 cs2 _ (World.var?_cell gP hv2 0) (k2 0 (by decide))])).1
 ·exact fw_of k0 (hh 0 0 (by rw [e0]; simp [z 0 cs0 _ (World.var?_cell gC hv0 0) (k0 0 (by decide))])).1
end Go.Proofs.YtbmapdkcccdmfaaDoor
