/- Lemmas: What the reference's Inv, Root, Mul2, Pow2, Inv2 do. No condition. What the reference's Root, Pow2, Inv2 do. No condition. -/
import Derived.Test.YtoddangedbefgabGreatDoorM1
import Derived.Test.YtoddangedbefgabGreatDoorM3
import Derived.Test.YtoddangedbefgabGreatDoorRows
import Derived.Deep.MidRow
import Derived.Laws.IdiomStrings
namespace Go.Proofs.YtoddangedbefgabGreatDoor
open Go.RowKit Go.Sort


abbrev vP (a : P2) : Value := .agg #[.int .u64 (a.A : Int), .int .u64 (a.B : Int)]

end Go.Proofs.YtoddangedbefgabGreatDoor
namespace Go.Proofs.YtoddangedbefgabGreatDoor
open Go.RowKit Go.Sort

structure Pb (n : Nat) (x : P2) (W : World) : Prop where
 z : n < W.heap.size
 a : W.cell? ⟨n, 0, none⟩ = some (.int .u64 (x.A : Int))
 b : W.cell? ⟨n, 1, none⟩ = some (.int .u64 (x.B : Int))
 f : ∀ o, W.frozen? ⟨n, o, none⟩ = false
abbrev put2 (n : Nat) (x : P2) (W : World) : World := (W.setCell ⟨n, 0, none⟩ (.int .u64 (x.A : Int))).setCell ⟨n, 1, none⟩ (.int .u64 (x.B : Int))
theorem Pb.new (W : World) (x : P2) (t : Nat) : Pb W.heap.size x (W.alloc (.cells #[.int .u64 (x.A : Int), .int .u64 (x.B : Int)] t)) := ⟨by simp, by simp [go_sem], by simp [go_sem], by simp [go_sem]⟩
theorem Pb.below {n : Nat} {x : P2} {W W' : World} (h : Pb n x W) (hb : Below W.heap.size W W') : Pb n x W' :=
 ⟨Nat.lt_of_lt_of_le h.z hb.size, (hb.cell (p := ⟨n, 0, none⟩) h.z).trans h.a, (hb.cell (p := ⟨n, 1, none⟩) h.z).trans h.b, fun o => by rw [← h.f o]; simp only [World.frozen?, hb.block _ h.z]⟩
theorem Pb.over {n : Nat} {x : P2} {W : World} (h : Pb n x W) (y : P2) : Pb n y (put2 n y W) := by
 obtain ⟨z, a, b, f⟩ := h
 exact ⟨by simp [go_sem, *], by simp [go_sem, *], by simp [go_sem, *], by simp [go_sem, *]⟩
theorem Pb.other {n g : Nat} {x : P2} {W : World} (h : Pb n x W) (y : P2) (hg : g ≠ n) : Pb n x (put2 g y W) := by
 obtain ⟨z, a, b, f⟩ := h
 have hg' : n ≠ g := fun e => hg e.symm
 exact ⟨by simp [go_sem, *], by simp [go_sem, *], by simp [go_sem, *], by simp [go_sem, *]⟩



end Go.Proofs.YtoddangedbefgabGreatDoor
