/- Lemmas: What the packages' variables of sign hold; a text's tries and point, pure. No condition. What slices.Contains of points, the package's handOn and total do. No condition. What the package's handOn hands on. No condition. -/
import Derived.Test.YtoddangedbefgabGreatDoorM1
import Derived.Test.YtoddangedbefgabGreatDoorM10
import Derived.Test.YtoddangedbefgabGreatDoorM11
import Derived.Test.YtoddangedbefgabGreatDoorM12
import Derived.Test.YtoddangedbefgabGreatDoorM13
import Derived.Test.YtoddangedbefgabGreatDoorM2
import Derived.Test.YtoddangedbefgabGreatDoorM3
import Derived.Test.YtoddangedbefgabGreatDoorM4
import Derived.Test.YtoddangedbefgabGreatDoorM5
import Derived.Test.YtoddangedbefgabGreatDoorM6
import Derived.Test.YtoddangedbefgabGreatDoorM7
import Derived.Test.YtoddangedbefgabGreatDoorM8
import Derived.Test.YtoddangedbefgabGreatDoorM9
import Derived.Test.YtoddangedbefgabGreatDoorRows
namespace Go.Proofs.YtoddangedbefgabGreatDoor
open Go.RowKit Go.Shelf Go.Sort

structure Ls (w : World) : Prop where
 p : Lp w
 s : Laid w
 zg : 3 < w.heap.size
 g0 : w.cell? ⟨3, 0, none⟩ = some (.int .u64 1846166884)
 g1 : w.cell? ⟨3, 1, none⟩ = some (.int .u64 1411018613)
 g2 : w.cell? ⟨3, 2, none⟩ = some (.bool false)
 og : ∃ cs t, w.heap[3]? = some (.cells cs t (0, 0))
 zi : 1 < w.heap.size
 i0 : w.cell? ⟨1, 0, none⟩ = some (.int .u64 0)
 i1 : w.cell? ⟨1, 1, none⟩ = some (.int .u64 0)
 i2 : w.cell? ⟨1, 2, none⟩ = some (.bool true)
 oi : ∃ cs t, w.heap[1]? = some (.cells cs t (0, 0))
theorem Ls.mk' {w W : World} (h : Ls w) (hp : Lp W) (hs : Laid W) (e1 : W.heap[3]? = w.heap[3]?) (e2 : W.heap[1]? = w.heap[1]?) : Ls W := by
 obtain ⟨_, _, za, a0, a1, a2, ⟨cs, t, o⟩, zb, b0, b1, b2, ⟨cs', t', o'⟩⟩ := h
 have k1 := e1.trans o
 have k2 := e2.trans o'
 exact ⟨hp, hs, (Array.getElem?_eq_some_iff.1 k1).1, (Lib.cell_of_heap k1 0).trans ((Lib.cell_of_heap o 0).symm.trans a0), (Lib.cell_of_heap k1 1).trans ((Lib.cell_of_heap o 1).symm.trans a1), (Lib.cell_of_heap k1 2).trans ((Lib.cell_of_heap o 2).symm.trans a2), ⟨cs, t, k1⟩,
  (Array.getElem?_eq_some_iff.1 k2).1, (Lib.cell_of_heap k2 0).trans ((Lib.cell_of_heap o' 0).symm.trans b0), (Lib.cell_of_heap k2 1).trans ((Lib.cell_of_heap o' 1).symm.trans b1), (Lib.cell_of_heap k2 2).trans ((Lib.cell_of_heap o' 2).symm.trans b2), ⟨cs', t', k2⟩⟩
theorem Ls.below {w W : World} (h : Ls w) (hb : Below w.heap.size w W) : Ls W := h.mk' (h.p.below hb) (h.s.below hb) (hb.block 3 h.zg) (hb.block 1 h.zi)
theorem Ls.alloc {w : World} (h : Ls w) (o : Obj) : Ls (w.alloc o) := h.below ((Below.refl _ _).alloc (Nat.le_refl _) _)
theorem Ls.own {A C : World} {row : Option Nat} (h : Ls A) (hg : A.grownBy C row) (hr : ∀ r, row = some r → ∃ o : Obj, A.heap[r]? = some o ∧ o.isCells = false) : Ls C := by
 refine h.mk' (h.p.own hg hr) (h.s.own hg hr) (hg.block 3 h.zg (fun e => ?_)) (hg.block 1 h.zi (fun e => ?_))
 ·obtain ⟨o, ho, hc⟩ := hr 3 e.symm
  obtain ⟨cs, t, k⟩ := h.og
  rw [k] at ho
  cases ho
  cases hc
 ·obtain ⟨o, ho, hc⟩ := hr 1 e.symm
  obtain ⟨cs, t, k⟩ := h.oi
  rw [k] at ho
  cases ho
  cases hc
theorem Ls.other {W : World} (h : Ls W) {k : Nat} (hk : 4 < k ∧ 5 < k ∧ 6 < k ∧ 3 < k ∧ 1 < k ∧ 0 < k ∧ 2 < k) (o : Nat) (u : Value) : Ls (W.setCell ⟨k, o, none⟩ u) := by
 obtain ⟨k1, k2, k3, k4, k5, k6, k7⟩ := hk
 refine h.mk' (h.p.other k1 k2 k3 o u) ⟨?_, ?_⟩ (Below.heap_setCell _ _ _ _ (Nat.ne_of_lt k4)) (Below.heap_setCell _ _ _ _ (Nat.ne_of_lt k5))
 ·have e := Below.heap_setCell W ⟨k, o, none⟩ u 2 (Nat.ne_of_lt k7)
  exact ⟨by have := h.s.k.z; simpa [World.setCell] using this, fun j hj => by rw [← h.s.k.c j hj]; simp only [World.cell?, e], fun q => by rw [← h.s.k.f q]; simp only [World.frozen?, e]⟩
 ·have e := Below.heap_setCell W ⟨k, o, none⟩ u 0 (Nat.ne_of_lt k6)
  exact ⟨by have := h.s.h.z; simpa [World.setCell] using this, fun j hj => by rw [← h.s.h.c j hj]; simp only [World.cell?, e], fun q => by rw [← h.s.h.f q]; simp only [World.frozen?, e]⟩

/- Pure. -/
end Go.Proofs.YtoddangedbefgabGreatDoor
namespace Go.Proofs.YtoddangedbefgabGreatDoor
open Go.RowKit Go.Shelf Go.Sort
attribute [local go_sem] Oper.semAt_some

def barV (b : Bool) (g : Nat) : Value := if b then .slice (some ⟨g, 0, none⟩) 1 1 else .slice none 0 0

def BarIn (b : Bool) (g : Nat) (W : World) : Prop := b = true → Tb g iN W
theorem BarIn.below {b : Bool} {g : Nat} {W W' : World} (h : BarIn b g W) (hb : Below W.heap.size W W') : BarIn b g W' := fun e => (h e).below hb

end Go.Proofs.YtoddangedbefgabGreatDoor
namespace Go.Proofs.YtoddangedbefgabGreatDoor
open Go.RowKit Go.Shelf Go.Sort
attribute [local go_sem] Oper.semAt_some

def txS (l : List ByteArray) (a : Option Addr) (W : World) : Prop := l = [] ∨ ∃ B o, a = some ⟨B, o, none⟩ ∧ B < W.heap.size ∧ ∀ (j : Nat) x, l[j]? = some x → W.cell? ⟨B, o + j, none⟩ = some (.string x)
theorem txS.below {l : List ByteArray} {a : Option Addr} {W W' : World} (h : txS l a W) (hb : Below W.heap.size W W') : txS l a W' := by
 rcases h with h | ⟨B, o, e, hB, hc⟩
 ·exact .inl h
 ·exact .inr ⟨B, o, e, Nat.lt_of_lt_of_le hB hb.size, fun j x hx => (hb.cell (p := ⟨B, o + j, none⟩) hB).trans (hc j x hx)⟩
structure HdIn (bP bB : Nat) (b : Bool) (g : Nat) (l : List ByteArray) (a : Option Addr) (c : Nat) (W : World) : Prop where
 p : Bq bP 27 #[.slice a l.length c] W
 q : Bq bB 189 #[barV b g] W
 t : txS l a W
 g : BarIn b g W
 s : Ls W
theorem HdIn.below {bP bB : Nat} {b : Bool} {g : Nat} {l : List ByteArray} {a : Option Addr} {c : Nat} {W W' : World} (h : HdIn bP bB b g l a c W) (hb : Below W.heap.size W W') : HdIn bP bB b g l a c W' := ⟨h.p.below hb, h.q.below hb, h.t.below hb, h.g.below hb, h.s.below hb⟩
def HdK (bP bB : Nat) (b : Bool) (g : Nat) (l : List ByteArray) (a : Option Addr) (c : Nat) (W W' : World) : Prop := HdIn bP bB b g l a c W → HdIn bP bB b g l a c W'
theorem HdK.trans {bP bB : Nat} {b : Bool} {g : Nat} {l : List ByteArray} {a : Option Addr} {c : Nat} {W W' V : World} (h : HdK bP bB b g l a c W W') (k : HdK bP bB b g l a c W' V) : HdK bP bB b g l a c W V := fun x => k (h x)


end Go.Proofs.YtoddangedbefgabGreatDoor
