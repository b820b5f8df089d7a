/- Lemmas: What the law's shown does; the walks of CurveAdds, CurveTimes, CurveLaws, CurveFew. No condition. What the package pair's over, slope, negative, sum do; its variables. No condition. What the package pair's gathered does. No condition. What the program's named does. No condition. -/
import Derived.Test.YtoddangedbefgabGreatDoorM1
import Derived.Test.YtoddangedbefgabGreatDoorM2
import Derived.Test.YtoddangedbefgabGreatDoorM3
import Derived.Test.YtoddangedbefgabGreatDoorM4
import Derived.Test.YtoddangedbefgabGreatDoorM5
import Derived.Test.YtoddangedbefgabGreatDoorM6
import Derived.Test.YtoddangedbefgabGreatDoorRows
import Derived.BigQuiet
import Derived.Laws.IdiomStrings
namespace Go.Proofs.YtoddangedbefgabGreatDoor
open Go.RowKit Go.Shelf Go.Sort


theorem Li.alloc {w : World} (h : Li w) (o : Obj) : Li (w.alloc o) := h.below ((Below.refl _ _).alloc (Nat.le_refl _) _)

end Go.Proofs.YtoddangedbefgabGreatDoor
namespace Go.Proofs.YtoddangedbefgabGreatDoor
open Go.RowKit Go.Shelf Go.Sort

structure Lp (w : World) : Prop where
 l : Li w
 za : 5 < w.heap.size
 a0 : w.cell? ⟨5, 0, none⟩ = some (.int .u64 0)
 a1 : w.cell? ⟨5, 1, none⟩ = some (.int .u64 0)
 a2 : w.cell? ⟨5, 2, none⟩ = some (.bool true)
 oa : ∃ cs t, w.heap[5]? = some (.cells cs t (0, 0))
 zb : 6 < w.heap.size
 b0 : w.cell? ⟨6, 0, none⟩ = some (.int .u64 1)
 b1 : w.cell? ⟨6, 1, none⟩ = some (.int .u64 0)
 ob : ∃ cs t, w.heap[6]? = some (.cells cs t (0, 0))
theorem Lp.same {w W : World} (h : Lp w) (e : W.heap[4]? = w.heap[4]?) (e1 : W.heap[5]? = w.heap[5]?) (e2 : W.heap[6]? = w.heap[6]?) : Lp W := by
 obtain ⟨l, za, a0, a1, a2, ⟨cs, t, o⟩, zb, b0, b1, ⟨cs', t', o'⟩⟩ := h
 have k1 := e1.trans o
 have k2 := e2.trans o'
 exact ⟨l.same e, (Array.getElem?_eq_some_iff.1 k1).1, (Lib.cell_of_heap k1 0).trans ((Lib.cell_of_heap o 0).symm.trans a0), (Lib.cell_of_heap k1 1).trans ((Lib.cell_of_heap o 1).symm.trans a1), (Lib.cell_of_heap k1 2).trans ((Lib.cell_of_heap o 2).symm.trans a2), ⟨cs, t, k1⟩,
  (Array.getElem?_eq_some_iff.1 k2).1, (Lib.cell_of_heap k2 0).trans ((Lib.cell_of_heap o' 0).symm.trans b0), (Lib.cell_of_heap k2 1).trans ((Lib.cell_of_heap o' 1).symm.trans b1), ⟨cs', t', k2⟩⟩
theorem Lp.below {w W : World} (h : Lp w) (hb : Below w.heap.size w W) : Lp W := h.same (hb.block 4 h.l.z) (hb.block 5 h.za) (hb.block 6 h.zb)
theorem Lp.alloc {w : World} (h : Lp w) (o : Obj) : Lp (w.alloc o) := h.below ((Below.refl _ _).alloc (Nat.le_refl _) _)
theorem Lp.own {A C : World} {row : Option Nat} (h : Lp A) (hg : A.grownBy C row) (hr : ∀ r, row = some r → ∃ o : Obj, A.heap[r]? = some o ∧ o.isCells = false) : Lp C := by
 refine h.same (hg.block 4 h.l.z (fun e => ?_)) (hg.block 5 h.za (fun e => ?_)) (hg.block 6 h.zb (fun e => ?_))
 ·obtain ⟨o, ho, hc⟩ := hr 4 e.symm
  obtain ⟨cs, t, k⟩ := h.l.o
  rw [k] at ho
  cases ho
  cases hc
 ·obtain ⟨o, ho, hc⟩ := hr 5 e.symm
  obtain ⟨cs, t, k⟩ := h.oa
  rw [k] at ho
  cases ho
  cases hc
 ·obtain ⟨o, ho, hc⟩ := hr 6 e.symm
  obtain ⟨cs, t, k⟩ := h.ob
  rw [k] at ho
  cases ho
  cases hc
theorem Lp.other {W : World} (h : Lp W) {k : Nat} (hk : 4 < k) (hk1 : 5 < k) (hk2 : 6 < k) (o : Nat) (u : Value) : Lp (W.setCell ⟨k, o, none⟩ u) := h.same (Below.heap_setCell _ _ _ _ (Nat.ne_of_lt hk)) (Below.heap_setCell _ _ _ _ (Nat.ne_of_lt hk1)) (Below.heap_setCell _ _ _ _ (Nat.ne_of_lt hk2))




end Go.Proofs.YtoddangedbefgabGreatDoor
namespace Go.Proofs.YtoddangedbefgabGreatDoor
open Go.RowKit Go.Shelf Go.Sort
attribute [local go_sem] Oper.semAt_some

structure GaJ (V : World) (p : Pt) (S : Nat → Bool) (x5 x6 x8 x9 : Value) (W : World) : Prop where
 e : Below V.heap.size V W
 f0 : S 0 = true → x8 = vP o2
 f1 : S 1 = true → x9 = vT p
 f2 : S 2 = true → ∃ b, x5 = .pointer (some ⟨b, 0, none⟩) ∧ V.heap.size ≤ b ∧ ∃ y, Bq b 111 (cP y) W ∧ (S 4 = true → y = o2)
 f3 : S 3 = true → ∃ b, x6 = .pointer (some ⟨b, 0, none⟩) ∧ V.heap.size ≤ b ∧ ∃ y, PtB b y W ∧ (S 5 = true → y = p)
 g4 : S 4 = true → S 2 = true
 g5 : S 5 = true → S 3 = true
theorem GaJ.grow {V : World} {p : Pt} {S : Nat → Bool} {x5 x6 x8 x9 : Value} {W W' : World} (h : GaJ V p S x5 x6 x8 x9 W) (hb : Below W.heap.size W W') : GaJ V p S x5 x6 x8 x9 W' :=
 ⟨belowStep h.e h.e.size hb, h.f0, h.f1, fun s => (let ⟨b, e, hz, y, t, u⟩ := h.f2 s; ⟨b, e, hz, y, t.below hb, u⟩), fun s => (let ⟨b, e, hz, y, t, u⟩ := h.f3 s; ⟨b, e, hz, y, Bq.below t hb, u⟩), h.g4, h.g5⟩

theorem Lp.o2 {W : World} {k : Nat} (h : Lp W) (hk : 4 < k) (hk1 : 5 < k) (hk2 : 6 < k) (y : P2) : Lp (sP k y W) := (h.other hk hk1 hk2 _ _).other hk hk1 hk2 _ _

end Go.Proofs.YtoddangedbefgabGreatDoor
namespace Go.Proofs.YtoddangedbefgabGreatDoor
open Go.RowKit Go.Shelf Go.Sort

structure NmD (V : World) (s : ByteArray) (y1 y2 y3 y4 m1 m2 m3 n1 n2 x : Nat) (S : Nat → Bool) (x3 x8 x9 x10 x11 x12 x13 x14 x15 x16 x17 x18 x19 x20 x21 x22 x23 x24 x25 x26 : Value) (W : World) : Prop where
 e : Below V.heap.size V W
 f0 : S 0 = true → x8 = .string s
 f1 : S 1 = true → x9 = .int .u8 (y1 : Int)
 f2 : S 2 = true → x10 = .int .u64 (y1 : Int)
 f3 : S 3 = true → x11 = .int .u64 (m1 : Int)
 f4 : S 4 = true → x12 = .string s
 f5 : S 5 = true → x13 = .int .u8 (y2 : Int)
 f6 : S 6 = true → x14 = .int .u64 (y2 : Int)
 f7 : S 7 = true → x15 = .int .u64 (m2 : Int)
 f8 : S 8 = true → x16 = .int .u64 (n1 : Int)
 f9 : S 9 = true → x17 = .string s
 f10 : S 10 = true → x18 = .int .u8 (y3 : Int)
 f11 : S 11 = true → x19 = .int .u64 (y3 : Int)
 f12 : S 12 = true → x20 = .int .u64 (m3 : Int)
 f13 : S 13 = true → x21 = .int .u64 (n2 : Int)
 f14 : S 14 = true → x22 = .string s
 f15 : S 15 = true → x23 = .int .u8 (y4 : Int)
 f16 : S 16 = true → x24 = .int .u64 (y4 : Int)
 f17 : S 17 = true → x25 = .int .u64 (x : Int)
 f18 : S 18 = true → x26 = .agg #[.int .u64 (x : Int), .int .u64 0, .bool false]
 f19 : S 19 = true → ∃ b, x3 = .pointer (some ⟨b, 0, none⟩) ∧ V.heap.size ≤ b ∧ Tb b oP W
theorem NmD.grow {V : World} {s : ByteArray} {y1 y2 y3 y4 m1 m2 m3 n1 n2 x : Nat} {S : Nat → Bool} {x3 x8 x9 x10 x11 x12 x13 x14 x15 x16 x17 x18 x19 x20 x21 x22 x23 x24 x25 x26 : Value} {W W' : World} (h : NmD V s y1 y2 y3 y4 m1 m2 m3 n1 n2 x S x3 x8 x9 x10 x11 x12 x13 x14 x15 x16 x17 x18 x19 x20 x21 x22 x23 x24 x25 x26 W) (hb : Below W.heap.size W W') : NmD V s y1 y2 y3 y4 m1 m2 m3 n1 n2 x S x3 x8 x9 x10 x11 x12 x13 x14 x15 x16 x17 x18 x19 x20 x21 x22 x23 x24 x25 x26 W' :=
 ⟨belowStep h.e h.e.size hb, h.f0, h.f1, h.f2, h.f3, h.f4, h.f5, h.f6, h.f7, h.f8, h.f9, h.f10, h.f11, h.f12, h.f13, h.f14, h.f15, h.f16, h.f17, h.f18, fun s => (let ⟨b, e, hz, t⟩ := (h.f19 s); ⟨b, e, hz, t.below hb⟩)⟩
end Go.Proofs.YtoddangedbefgabGreatDoor
