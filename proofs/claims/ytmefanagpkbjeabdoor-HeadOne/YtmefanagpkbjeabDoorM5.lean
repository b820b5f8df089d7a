/- Lemmas: What the package's tables hold, out of what the row lists; a world in which they lie so. No condition. -/
import Derived.Test.YtmefanagpkbjeabDoorM1
import Derived.Test.YtmefanagpkbjeabDoorM2
import Derived.Test.YtmefanagpkbjeabDoorM3
import Derived.Test.YtmefanagpkbjeabDoorM4
import Derived.Test.YtmefanagpkbjeabDoorRows
import Derived.ChangeMaps5
import Derived.ChangeSame
import Derived.LaidMore
import Derived.OpenShut
import Derived.ProofKit
import Derived.Stop.Joined
namespace Go.Proofs.YtmefanagpkbjeabDoor
open Go.ChangeShapes Go.WideShapes Go.ChangeAt Go.RowKit

theorem rowOwn : ownKnob Tryd.prog.godebug = none := by kernel_rfl

/-- A listed array of integers: its cells. -/
theorem ints_of_laid {P : Program} {W : World} {name : String} {g : Nat} {t e : TypeId} {n : Nat} {k : IntKind} {cs : Array Value} {fuel : Nat} {ds : List (DataW Unit)} {p : List MemPlace} (f : Nat → Int)
    (hg : P.globalNamed name = some g) (hu : P.underlying t = some (.array n e)) (he : P.underlying e = some (.int k)) (hc : P.cellsOf e = 1) (hv : W.var? P name = some cs)
    (hd : DataW.trod (fun _ => ()) P W 0 (fun _ => true) false fuel t cs.toList = some (.agg ds, p)) (hds : ∀ j, j < n → ds[j]? = some (.lit (.int k (f j)))) :
    ∀ j, j < n → W.cell? ⟨g, j, none⟩ = some (.int k (f j)) := by
  intro j hj
  obtain ⟨xs, m, rfl, hx, hlen, hn, hel⟩ := DataW.trod_array hu hd
  simp only [Prod.mk.injEq, DataW.agg.injEq] at hx
  have h1 := hel j hj
  rw [hc, Nat.mul_one] at h1
  obtain ⟨x, hxj⟩ : ∃ x, xs[j]? = some x := ⟨xs[j]'(by omega), by simp [hn, hj]⟩
  rw [hxj] at h1
  obtain ⟨q, e1, e2, _⟩ := DataW.trod_int he h1
  have h2 := hds j hj
  rw [hx.1, List.getElem?_map, hxj] at h2
  rw [e2] at h2
  simp at h2
  subst h2
  rw [World.var?_cell hg hv j]
  have h3 : (cs.toList.drop j)[0]? = some (.int k (f j)) := by
    cases hq : cs.toList.drop j with
    | nil => rw [hq] at e1; simp at e1
    | cons c r => rw [hq] at e1; simp at e1; rw [e1]; rfl
  rw [List.getElem?_drop] at h3
  simpa using h3

abbrev laid3 : List (String × DataW Unit) := [("pharos/sha.cubeRoots", Rows.laid_pharos_sha_cubeRoots), ("pharos/sha.squareRoots", Rows.laid_pharos_sha_squareRoots)]

theorem gH : Tryd.prog.globalNamed "pharos/sha.squareRoots" = some 0 := by kernel_rfl
theorem gK : Tryd.prog.globalNamed "pharos/sha.cubeRoots" = some 1 := by kernel_rfl
theorem tH : (Tryd.prog.globals[0]?).map (·.type) = some 71 := by kernel_rfl
theorem tK : (Tryd.prog.globals[1]?).map (·.type) = some 79 := by kernel_rfl
theorem cU : Tryd.prog.cellsOf 62 = 1 := by kernel_rfl

theorem door_met (os : Os) (args : Array Value) : laidMetH Tryd.prog laid3 ((World.doorLaid Tryd.prog 400 os).forCall (fun _ _ => 0) ⟨#[], args, []⟩).memory :=
  laidMetH_of_parts3 (fuel := 8) (laidMet_of_run' 8 (by kernel_rfl) (by kernel_rfl)) (by kernel_rfl) (by kernel_rfl)

theorem dsH (j : Nat) (h : j < 8) : (match (Rows.laid_pharos_sha_squareRoots : DataW Unit) with | .agg l => l | _ => [])[j]? = some (.lit (.int .u32 (hc j))) :=
  match j, h with
  | 0, _ | 1, _ | 2, _ | 3, _ | 4, _ | 5, _ | 6, _ | 7, _ => rfl
  | k + 8, h => absurd h (by omega)
theorem dsK (j : Nat) (h : j < 64) : (match (Rows.laid_pharos_sha_cubeRoots : DataW Unit) with | .agg l => l | _ => [])[j]? = some (.lit (.int .u32 (kc j))) :=
  match j, h with
  | 0, _ | 1, _ | 2, _ | 3, _ | 4, _ | 5, _ | 6, _ | 7, _ | 8, _ | 9, _ | 10, _ | 11, _ | 12, _ | 13, _ | 14, _ | 15, _ | 16, _ | 17, _ | 18, _ | 19, _ | 20, _ | 21, _ | 22, _ | 23, _ | 24, _ | 25, _ | 26, _ | 27, _ | 28, _ | 29, _ | 30, _ | 31, _ | 32, _ | 33, _ | 34, _ | 35, _ | 36, _ | 37, _ | 38, _ | 39, _ | 40, _ | 41, _ | 42, _ | 43, _ | 44, _ | 45, _ | 46, _ | 47, _ | 48, _ | 49, _ | 50, _ | 51, _ | 52, _ | 53, _ | 54, _ | 55, _ | 56, _ | 57, _ | 58, _ | 59, _ | 60, _ | 61, _ | 62, _ | 63, _ => rfl
  | k + 64, h => absurd h (by omega)

theorem fw_of {W : World} {g N : Nat} {f : Nat → Value} (hc : ∀ j, j < N → W.cell? ⟨g, j, none⟩ = some (f j)) (hb : ∃ c t, W.heap[g]? = some (.cells c t (0, 0))) : Fw g N f W := by
  obtain ⟨c, t, hb⟩ := hb
  refine ⟨?_, hc, fun o => ?_⟩
  · exact (Array.getElem?_eq_some_iff.1 hb).1
  · simp [World.frozen?, hb]

/-- WHAT THE CONDITION GIVES THE WALKS: the two tables. -/
theorem of_laid {W : World} (h : laidMetH Tryd.prog laid3 W) : Laid W := by
  rw [MakeChecks.laidMetH_plain _ _ _ (by kernel_rfl)] at h
  obtain ⟨ps, ⟨g0, t0, cs0, f0, p0, q0, hg0, ht0, hv0, hd0, ⟨g1, t1, cs1, f1, p1, q1, hg1, ht1, hv1, hd1, _, e1⟩, e0⟩, _, hh⟩ := h
  obtain rfl := Option.some.inj (gK.symm.trans hg0)
  obtain rfl := Option.some.inj (gH.symm.trans hg1)
  obtain rfl := Option.some.inj (tK.symm.trans ht0)
  obtain rfl := Option.some.inj (tH.symm.trans ht1)
  have k0 := ints_of_laid kc gK Tryd.underlying79 Tryd.underlying62 cU hv0 hd0 dsK
  have k1 := ints_of_laid hc gH Tryd.underlying71 Tryd.underlying62 cU hv1 hd1 dsH
  have z : ∀ (g : Nat) (cs : Array Value) (v : Value), W.cell? ⟨g, 0, none⟩ = cs[0]? → W.cell? ⟨g, 0, none⟩ = some v → MemPlace.cell g 0 ∈ MemPlace.row ⟨g, 0, none⟩ cs.size := fun g cs v h1 h2 => by
    rw [h1] at h2
    have : 0 < cs.size := (Array.getElem?_eq_some_iff.1 h2).1
    simp [MemPlace.row]; omega
  refine ⟨?_, ?_⟩
  · exact fw_of k0 (hh 1 0 (by rw [e0]; simp [z 1 cs0 _ (World.var?_cell gK hv0 0) (k0 0 (by decide))])).1
  · exact fw_of k1 (hh 0 0 (by rw [e0, e1]; simp [z 0 cs1 _ (World.var?_cell gH hv1 0) (k1 0 (by decide))])).1
end Go.Proofs.YtmefanagpkbjeabDoor
