/- Lemmas: What the program's Mul2, digits do. No condition. What the program's square, negative, over do. No condition. What the program's digits do (of curve); a multiple behind bits. No condition. What the program's Pow2, Inv2 do. No condition. -/
import Derived.Test.YtoddangedbefgabGreatDoorM1
import Derived.Test.YtoddangedbefgabGreatDoorM3
import Derived.Test.YtoddangedbefgabGreatDoorM4
import Derived.Test.YtoddangedbefgabGreatDoorM5
import Derived.Test.YtoddangedbefgabGreatDoorRows
import Derived.Test.YtoddangedbefgabGreatDoorM2
import Derived.Lib.Builder
import Derived.LoopIn
import Derived.LoopNIn
import Derived.OwnWalkIn
import Derived.RangeFuncBound
import Derived.RangeFuncCalls
import Derived.RangeFuncLeaves
import Derived.RangeFuncNested
import Derived.Shelf.Abstract
import Derived.TacticsInMore
namespace Go.Proofs.YtoddangedbefgabGreatDoor
open Go.RowKit Go.Shelf Go.Sort


attribute [local go_sem] Oper.semAt_some

def Bq (b : Nat) (T : TypeId) (cs : Array Value) (W : World) : Prop := W.heap[b]? = some (.cells cs T (0, 0))
theorem Bq.cell {b : Nat} {T : TypeId} {cs : Array Value} {W : World} (h : Bq b T cs W) (j : Nat) : W.cell? ⟨b, j, none⟩ = cs[j]? := Lib.cell_of_heap h j
theorem Bq.fr {b : Nat} {T : TypeId} {cs : Array Value} {W : World} (h : Bq b T cs W) (o : Nat) : W.frozen? ⟨b, o, none⟩ = false := Lib.frozen_of_heap h o
theorem Bq.lt {b : Nat} {T : TypeId} {cs : Array Value} {W : World} (h : Bq b T cs W) : b < W.heap.size := (Array.getElem?_eq_some_iff.1 h).1
theorem Bq.below {b : Nat} {T : TypeId} {cs : Array Value} {W W' : World} (h : Bq b T cs W) (hb : Below W.heap.size W W') : Bq b T cs W' := (hb.block b h.lt).trans h
theorem Bq.put {b : Nat} {T : TypeId} {v : Value} {W : World} (h : Bq b T #[v] W) (u : Value) : Bq b T #[u] (W.setCell ⟨b, 0, none⟩ u) := by
 have h' : W.heap[b]? = _ := h
 show (W.setCell ⟨b, 0, none⟩ u).heap[b]? = _
 simp [World.setCell, Array.getElem?_modify, h']
theorem Bq.put2 {b : Nat} {T : TypeId} {v0 v1 : Value} {W : World} (h : Bq b T #[v0, v1] W) (u0 u1 : Value) : Bq b T #[u0, u1] ((W.setCell ⟨b, 0, none⟩ u0).setCell ⟨b, 1, none⟩ u1) := by
 have h' : W.heap[b]? = _ := h
 show ((W.setCell ⟨b, 0, none⟩ u0).setCell ⟨b, 1, none⟩ u1).heap[b]? = _
 simp [World.setCell, Array.getElem?_modify, h']
theorem Bq.other {b k : Nat} {T : TypeId} {cs : Array Value} {W : World} (h : Bq b T cs W) (hk : b ≠ k) (o : Nat) (u : Value) : Bq b T cs (W.setCell ⟨k, o, none⟩ u) := (Below.heap_setCell _ _ _ _ hk).trans h
theorem Bq.own {b : Nat} {T : TypeId} {cs : Array Value} {A C : World} {row : Option Nat} (h : Bq b T cs A) (hg : A.grownBy C row) (hr : ∀ r, row = some r → ∃ o : Obj, A.heap[r]? = some o ∧ o.isCells = false) : Bq b T cs C := by
 refine (hg.block b h.lt (fun e => ?_)).trans h
 obtain ⟨o, ho, hc⟩ := hr b e.symm
 rw [show A.heap[b]? = _ from h] at ho
 cases ho
 cases hc
theorem ko_set (W : World) (p : Addr) (u : Value) (B : Nat) : KeepsFrom B W (W.setCell p u) := (KeepsOthers.setCell W p u).from B
abbrev NumIn (bX n : Nat) (W : World) : Prop := Bq bX 22 #[.int .u64 (n : Int)] W
def NumK (bX n : Nat) (W W' : World) : Prop := NumIn bX n W → NumIn bX n W'
theorem NumK.of_below {bX n : Nat} {W W' : World} (h : Below W.heap.size W W') : NumK bX n W W' := fun hc => hc.below h
theorem NumK.trans {bX n : Nat} {W W' V : World} (h : NumK bX n W W') (g : NumK bX n W' V) : NumK bX n W V := fun hc => g (h hc)
theorem room_of_none' {FN : Fence} (hd : FN.depth = none) (k : Nat) : FN.room k := fun d h => by rw [hd] at h; cases h
theorem yieldAny {m : Nat} (m' : Nat) {P : Program} {l : Nat} {args : Array Value} {W : World} {R : Ending → World → Prop} (h : YieldAt Fence.wide m P l args W R) : YieldAt Fence.wide m' P l args W R := by
 obtain ⟨fn, tmps, assign, body, hy, hR⟩ := h
 exact ⟨fn, tmps, assign, body, hy, hR.1, fun c cs _ => hR.2 c cs (room_of_none' rfl _)⟩



end Go.Proofs.YtoddangedbefgabGreatDoor
namespace Go.Proofs.YtoddangedbefgabGreatDoor
open Go.RowKit Go.Shelf Go.Sort

abbrev vT (p : Pt) : Value := .agg #[.int .u64 (p.X : Int), .int .u64 (p.Y : Int), .bool p.I]
structure Li (w : World) : Prop where
 z : 4 < w.heap.size
 a : w.cell? ⟨4, 0, none⟩ = some (.int .u64 0)
 b : w.cell? ⟨4, 1, none⟩ = some (.int .u64 0)
 c : w.cell? ⟨4, 2, none⟩ = some (.bool true)
 o : ∃ cs t, w.heap[4]? = some (.cells cs t (0, 0))
theorem Li.same {w W : World} (h : Li w) (e : W.heap[4]? = w.heap[4]?) : Li W := by
 obtain ⟨z, a, b, c, cs, t, o⟩ := h
 have o' := e.trans o
 exact ⟨(Array.getElem?_eq_some_iff.1 o').1, (Lib.cell_of_heap o' 0).trans ((Lib.cell_of_heap o 0).symm.trans a), (Lib.cell_of_heap o' 1).trans ((Lib.cell_of_heap o 1).symm.trans b), (Lib.cell_of_heap o' 2).trans ((Lib.cell_of_heap o 2).symm.trans c), cs, t, o'⟩
theorem Li.below {w W : World} (h : Li w) (hb : Below w.heap.size w W) : Li W := h.same (hb.block 4 h.z)
theorem Li.own {A C : World} {row : Option Nat} (h : Li A) (hg : A.grownBy C row) (hr : ∀ r, row = some r → ∃ o : Obj, A.heap[r]? = some o ∧ o.isCells = false) : Li C := by
 refine h.same (hg.block 4 h.z (fun e => ?_))
 obtain ⟨o, ho, hc⟩ := hr 4 e.symm
 obtain ⟨cs, t, k⟩ := h.o
 rw [k] at ho
 cases ho
 cases hc
theorem Li.other {W : World} (h : Li W) {k : Nat} (hk : 4 ≠ k) (o : Nat) (u : Value) : Li (W.setCell ⟨k, o, none⟩ u) := h.same (Below.heap_setCell _ _ _ _ hk)



structure Tb (n : Nat) (x : Pt) (W : World) : Prop where
 z : n < W.heap.size
 a : W.cell? ⟨n, 0, none⟩ = some (.int .u64 (x.X : Int))
 b : W.cell? ⟨n, 1, none⟩ = some (.int .u64 (x.Y : Int))
 c : W.cell? ⟨n, 2, none⟩ = some (.bool x.I)
 f : ∀ o, W.frozen? ⟨n, o, none⟩ = false
abbrev put3 (n : Nat) (x : Pt) (W : World) : World := ((W.setCell ⟨n, 0, none⟩ (.int .u64 (x.X : Int))).setCell ⟨n, 1, none⟩ (.int .u64 (x.Y : Int))).setCell ⟨n, 2, none⟩ (.bool x.I)
theorem Tb.below {n : Nat} {x : Pt} {W W' : World} (h : Tb n x W) (hb : Below W.heap.size W W') : Tb n x W' :=
 ⟨Nat.lt_of_lt_of_le h.z hb.size, (hb.cell (p := ⟨n, 0, none⟩) h.z).trans h.a, (hb.cell (p := ⟨n, 1, none⟩) h.z).trans h.b, (hb.cell (p := ⟨n, 2, none⟩) h.z).trans h.c, fun o => by rw [← h.f o]; simp only [World.frozen?, hb.block _ h.z]⟩
theorem Tb.alloc {n : Nat} {x : Pt} {W : World} (h : Tb n x W) (o : Obj) : Tb n x (W.alloc o) := h.below ((Below.refl _ _).alloc (Nat.le_refl _) _)
theorem Tb.over {n : Nat} {x : Pt} {W : World} (h : Tb n x W) (y : Pt) : Tb n y (put3 n y W) := by
 obtain ⟨z, a, b, c, f⟩ := h
 exact ⟨by simp [go_sem, *], by simp [go_sem, *], by simp [go_sem, *], by simp [go_sem, *], by simp [go_sem, *]⟩
theorem Tb.other {n g : Nat} {x : Pt} {W : World} (h : Tb n x W) (y : Pt) (hg : g ≠ n) : Tb n x (put3 g y W) := by
 obtain ⟨z, a, b, c, f⟩ := h
 have hg' : n ≠ g := fun e => hg e.symm
 exact ⟨by simp [go_sem, *], by simp [go_sem, *], by simp [go_sem, *], by simp [go_sem, *], by simp [go_sem, *]⟩



end Go.Proofs.YtoddangedbefgabGreatDoor
namespace Go.Proofs.YtoddangedbefgabGreatDoor
open Go.RowKit Go.Shelf Go.Sort

attribute [local go_sem] Oper.semAt_some





theorem Bq.put3 {b : Nat} {T : TypeId} {v0 v1 v2 : Value} {W : World} (h : Bq b T #[v0, v1, v2] W) (u0 u1 u2 : Value) : Bq b T #[u0, u1, u2] (((W.setCell ⟨b, 0, none⟩ u0).setCell ⟨b, 1, none⟩ u1).setCell ⟨b, 2, none⟩ u2) := by
 have h' : W.heap[b]? = _ := h
 show (((W.setCell ⟨b, 0, none⟩ u0).setCell ⟨b, 1, none⟩ u1).setCell ⟨b, 2, none⟩ u2).heap[b]? = _
 simp [World.setCell, Array.getElem?_modify, h']
abbrev PtB (b : Nat) (p : Pt) (W : World) : Prop := Bq b 72 #[.int .u64 (p.X : Int), .int .u64 (p.Y : Int), .bool p.I] W
theorem PtB.put {b : Nat} {p : Pt} {W : World} (h : PtB b p W) (q : Pt) : PtB b q (Go.Proofs.YtoddangedbefgabGreatDoor.put3 b q W) := Bq.put3 h _ _ _
theorem PtB.other {b k : Nat} {p : Pt} {W : World} (h : PtB b p W) (hk : b ≠ k) (q : Pt) : PtB b p (Go.Proofs.YtoddangedbefgabGreatDoor.put3 k q W) := ((Bq.other h hk _ _).other hk _ _).other hk _ _

end Go.Proofs.YtoddangedbefgabGreatDoor
namespace Go.Proofs.YtoddangedbefgabGreatDoor
open Go.RowKit Go.Shelf Go.Sort
attribute [local go_sem] Oper.semAt_some

abbrev cP (a : P2) : Array Value := #[.int .u64 (a.A : Int), .int .u64 (a.B : Int)]
abbrev sP (n : Nat) (a : P2) (W : World) : World := (W.setCell ⟨n, 0, none⟩ (.int .u64 (a.A : Int))).setCell ⟨n, 1, none⟩ (.int .u64 (a.B : Int))

end Go.Proofs.YtoddangedbefgabGreatDoor
