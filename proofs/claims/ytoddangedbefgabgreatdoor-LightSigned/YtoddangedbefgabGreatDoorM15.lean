/- Lemmas: Arrays that lie in memory, told by a function of the place. No condition. -/
import Derived.Test.YtoddangedbefgabGreatDoorM1
import Derived.Deep.MidRow
import Derived.Deep.WholeRow
namespace Go.Proofs.YtoddangedbefgabGreatDoor
open Go.RowKit
def fl (N : Nat) (g : Nat → Value) : List Value := (List.range N).map g
theorem jcb (N : Nat) (g : Nat → Value) : (fl N g).length = N := by simp [fl]
theorem fl_at (N : Nat) (g : Nat → Value) (j : Nat) (h : j < N) : (fl N g)[j]? = some (g j) := by simp [fl, h]
theorem fl_ext (N : Nat) (g h : Nat → Value) (e : ∀ j, j < N → g j = h j) : fl N g = fl N h := by
 unfold fl
 exact List.map_congr_left fun j hj => e j (by simpa using hj)
theorem fl_get (N : Nat) (g : Nat → Value) (j : Nat) (v : Value) (h : (fl N g)[j]? = some v) : j < N ∧ v = g j := by
 by_cases hj : j < N
 ·rw [fl_at N g j hj] at h
  exact ⟨hj, (Option.some.inj h).symm⟩
 ·have : (fl N g)[j]? = none := List.getElem?_eq_none (by rw [jcb]; omega)
  rw [this] at h; cases h
structure Fw (n N : Nat) (g : Nat → Value) (W : World) : Prop where
 z : n < W.heap.size
 c : ∀ j, j < N → W.cell? ⟨n, j, none⟩ = some (g j)
 f : ∀ o, W.frozen? ⟨n, o, none⟩ = false
section
variable {n N : Nat} {g h : Nat → Value} {W W' : World}
theorem Fw.below (k : Fw n N g W) (hb : Below W.heap.size W W') : Fw n N g W' :=
 ⟨Nat.lt_of_lt_of_le k.z hb.size, fun j hj => (hb.cell (p := ⟨n, j, none⟩) k.z).trans (k.c j hj), fun o => (hb.frozen (p := ⟨n, o, none⟩) k.z).trans (k.f o)⟩
theorem Fw.new (W : World) (N : Nat) (g : Nat → Value) (t : TypeId) : Fw W.heap.size N g (W.alloc (.cells (fl N g).toArray t)) :=
 ⟨by simp, fun j hj => by simp [go_sem, fl_at N g j hj], fun o => by simp [go_sem]⟩
theorem Fw.alloc (k : Fw n N g W) (o : Obj) : Fw n N g (W.alloc o) := k.below ((Below.refl _ W).alloc (Nat.le_refl _) o)
theorem Fw.drew (k : Fw n N g W) : Fw n N g W.drew := ⟨k.z, k.c, k.f⟩
theorem Fw.ext (k : Fw n N g W) (e : ∀ j, j < N → h j = g j) : Fw n N h W := ⟨k.z, fun j hj => by rw [e j hj]; exact k.c j hj, k.f⟩
theorem Fw.put (k : Fw n N g W) (i : Nat) (hi : i < N) (v : Value) (e : ∀ j, j < N → h j = if j = i then v else g j) : Fw n N h (W.setCell ⟨n, i, none⟩ v) := by
 refine ⟨by simpa [go_sem] using k.z, fun j hj => ?_, fun o => by simp [go_sem, k.f]⟩
 rw [e j hj]
 by_cases q : j = i
 ·subst q
  have := k.c j hj
  simp [go_sem, *]
 ·have := k.c j hj
  simp [go_sem, *]
theorem Fw.setCell (k : Fw n N g W) (p : Addr) (hp : p.block ≠ n) (v : Value) : Fw n N g (W.setCell p v) := by
 have hp' : n ≠ p.block := fun e => hp e.symm
 obtain ⟨pb, po, pm⟩ := p
 simp only at hp hp'
 exact ⟨by simpa [go_sem] using k.z, fun j hj => by have := k.c j hj; simp [go_sem, *], fun o => by simp [go_sem, k.f]⟩
theorem Fw.range (k : Fw n N g W) : W.rangeAt n 0 (fl N g) := fun j v hv => by
 obtain ⟨hj, rfl⟩ := fl_get N g j v hv
 rw [Nat.zero_add]; exact k.c j hj
theorem Fw.there (k : Fw n N g W) : W.there n 0 N := fun j hj => ⟨by rw [Nat.zero_add, k.c j hj]; rfl, by rw [Nat.zero_add]; exact k.f j⟩
theorem jbv (b : Nat) : ∀ (vs : List Value) (o : Nat) (W : World), (W.setCells b o vs).heap.size = W.heap.size
 | [], _, _ => rfl
 | v :: r, o, W => by rw [World.setCells, jbv b r (o + 1)]; simp [go_sem]
theorem Fw.store (k : Fw n N g W) (h : Nat → Value) : Fw n N h (W.setCells n 0 (fl N h)) := by
 have hr := World.rangeAt_setCells_same W n 0 (fl N h) (by rw [jcb]; exact k.there)
 refine ⟨by rw [jbv]; exact k.z, fun j hj => ?_, fun o => by rw [World.frozen?_setCells]; exact k.f o⟩
 have := hr j (h j) (fl_at N h j hj)
 rwa [Nat.zero_add] at this
theorem Fw.storeOther (k : Fw n N g W) (b : Nat) (hb : b ≠ n) (vs : List Value) : Fw n N g (W.setCells b 0 vs) := by
 refine ⟨by rw [jbv]; exact k.z, fun j hj => ?_, fun o => by rw [World.frozen?_setCells]; exact k.f o⟩
 rw [World.cell?_setCells_out b vs 0 W ⟨n, j, none⟩ (fun e => absurd e (fun q => hb q.symm))]
 exact k.c j hj
theorem Fw.run {P : Program} (k : Fw n N g W) (h : Nat → Value) (h1 : ∀ j, (h j).oneCell' = true) : (storeCells ⟨n, 0, none⟩ (fl N h) 0).run P W = .ok () (W.setCells n 0 (fl N h)) := by
 refine run_storeCells_cells (P := P) n 0 (fl N h) 0 W (fun j hj => ?_) (fun j hj => ?_) ?_
 ·rw [jcb] at hj
  simpa using (k.there j hj).1
 ·rw [jcb] at hj
  simpa using (k.there j hj).2
 ·intro v hv
  unfold fl at hv
  obtain ⟨j, _, rfl⟩ := List.mem_map.1 hv
  exact h1 j
end
theorem jap {B b : Nat} {a : World} (hb : B ≤ b) : ∀ (vs : List Value) (o : Nat) (w : World), Below B a w → Below B a (w.setCells b o vs)
 | [], _, _, h => h
 | v :: r, o, w, h => by
  rw [World.setCells]
  exact jap hb r (o + 1) _ (h.setCell (p := ⟨b, o, none⟩) hb v)
theorem jcs {P : Program} {fn : Func} {p : Tmp} {ty : TypeId} (h : fn.results = #[.cell p ty]) (tmps : Array Value) (w : World) (b : Nat) (cs : List Value) (d : TypeDesc)
  (hp : tmps.getD p undef = .pointer (some ⟨b, 0, none⟩)) (hc : w.rangeAt b 0 cs)
  (hu : P.underlying ty = some d) (hd : d.isRow = true) (hi : (P.info? ty).map (·.size) = some cs.length) :
  (results fn tmps).run P w = .ok (.agg cs.toArray) w := by
 have hp' : tmps[p]?.getD undef = .pointer (some ⟨b, 0, none⟩) := by simpa using hp
 simp [results, h, hp', asAddr, run_loadVar_mid w b 0 ty cs d hc hu hd hi]
end Go.Proofs.YtoddangedbefgabGreatDoor
