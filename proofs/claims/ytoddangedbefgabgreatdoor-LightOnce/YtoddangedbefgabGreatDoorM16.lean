/- Lemmas: A slice of cells that may be written, with room behind it: what append makes of it. No condition but that it is of at most a million cells. -/
import Derived.Test.YtoddangedbefgabGreatDoorM1
import Derived.Test.YtoddangedbefgabGreatDoorM8
import Derived.Test.YtoddangedbefgabGreatDoorRows
import Derived.Laws.IdiomCopy
import Derived.Laws.IdiomStrings
namespace Go.Proofs.YtoddangedbefgabGreatDoor
open Go.RowKit Go.Sort

structure Bs (g n cap : Nat) (f : Nat → Value) (W : World) : Prop where
 z : g < W.heap.size
 nc : n ≤ cap
 c : ∀ j, j < n → W.cell? ⟨g, j, none⟩ = some (f j)
 s : ∀ j, j < cap → (W.cell? ⟨g, j, none⟩).isSome = true
 fr : ∀ j, j < cap → W.frozen? ⟨g, j, none⟩ = false

theorem Bs.below {g n cap : Nat} {f : Nat → Value} {W W' : World} (k : Bs g n cap f W) (hb : Below W.heap.size W W') : Bs g n cap f W' :=
 ⟨Nat.lt_of_lt_of_le k.z hb.size, k.nc, fun j hj => (hb.cell (p := ⟨g, j, none⟩) k.z).trans (k.c j hj), fun j hj => by rw [hb.cell (p := ⟨g, j, none⟩) k.z]; exact k.s j hj, fun j hj => (hb.frozen (p := ⟨g, j, none⟩) k.z).trans (k.fr j hj)⟩
theorem Bs.ext {g n cap : Nat} {f h : Nat → Value} {W : World} (k : Bs g n cap f W) (e : ∀ j, j < n → f j = h j) : Bs g n cap h W := ⟨k.z, k.nc, fun j hj => by rw [← e j hj]; exact k.c j hj, k.s, k.fr⟩

theorem grown_setCells {g : Nat} : ∀ (vs : List Value) (o : Nat) (W : World), W.grownBy (W.setCells g o vs) (some g)
 | [], _, W => ⟨rfl, rfl, rfl, Nat.le_refl _, fun _ _ _ => rfl⟩
 | v :: r, o, W => by
  have h := grown_setCells (g := g) r (o + 1) (W.setCell ⟨g, o, none⟩ v)
  rw [World.setCells]
  refine ⟨h.os.trans rfl, h.tape.trans rfl, h.output.trans rfl, Nat.le_trans (by simp [go_sem]) h.size, fun k hk hne => (h.block k (by simpa [go_sem] using hk) hne).trans ?_⟩
  have hne' : g ≠ k := fun e => hne (by rw [e])
  simp [World.setCell, Array.getElem?_modify, hne']


end Go.Proofs.YtoddangedbefgabGreatDoor
