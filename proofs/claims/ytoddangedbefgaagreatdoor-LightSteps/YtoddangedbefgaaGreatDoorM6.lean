/- Lemmas: What the reference's Inv, Root, Mul2, Pow2, Inv2 do. No condition. What the reference's Root, Pow2, Inv2 do. No condition. -/
import Derived.Test.YtoddangedbefgaaGreatDoorM1
import Derived.Test.YtoddangedbefgaaGreatDoorM2
import Derived.Test.YtoddangedbefgaaGreatDoorM3
import Derived.Test.YtoddangedbefgaaGreatDoorM5
import Derived.Test.YtoddangedbefgaaGreatDoorRows
namespace Go.Proofs.YtoddangedbefgaaGreatDoor
open Go.RowKit Go.Sort


abbrev vP (a : P2) : Value := .agg #[.int .u64 (a.A : Int), .int .u64 (a.B : Int)]
abbrev UP (a : P2) : Prop := U64 a.A ∧ U64 a.B
theorem m2_u (a b : P2) : UP (m2 a b) := ⟨pm_u _ (m2_lt a b).1, pm_u _ (m2_lt a b).2⟩

end Go.Proofs.YtoddangedbefgaaGreatDoor
namespace Go.Proofs.YtoddangedbefgaaGreatDoor
open Go.RowKit Go.Sort

structure Pb (n : Nat) (x : P2) (W : World) : Prop where
 z : n < W.heap.size
 a : W.cell? ⟨n, 0, none⟩ = some (.int .u64 (x.A : Int))
 b : W.cell? ⟨n, 1, none⟩ = some (.int .u64 (x.B : Int))
 f : ∀ o, W.frozen? ⟨n, o, none⟩ = false
abbrev put2 (n : Nat) (x : P2) (W : World) : World := (W.setCell ⟨n, 0, none⟩ (.int .u64 (x.A : Int))).setCell ⟨n, 1, none⟩ (.int .u64 (x.B : Int))
theorem Pb.new (W : World) (x : P2) (t : Nat) : Pb W.heap.size x (W.alloc (.cells #[.int .u64 (x.A : Int), .int .u64 (x.B : Int)] t)) := ⟨by simp, by simp [go_sem], by simp [go_sem], by simp [go_sem]⟩
theorem Pb.new' (W : World) (x : P2) (t n : Nat) (h : W.heap.size = n) : Pb n x (W.alloc (.cells #[.int .u64 (x.A : Int), .int .u64 (x.B : Int)] t)) := by subst h; exact Pb.new W x t
theorem Pb.below {n : Nat} {x : P2} {W W' : World} (h : Pb n x W) (hb : Below W.heap.size W W') : Pb n x W' :=
 ⟨Nat.lt_of_lt_of_le h.z hb.size, (hb.cell (p := ⟨n, 0, none⟩) h.z).trans h.a, (hb.cell (p := ⟨n, 1, none⟩) h.z).trans h.b, fun o => by rw [← h.f o]; simp only [World.frozen?, hb.block _ h.z]⟩
theorem Pb.over {n : Nat} {x : P2} {W : World} (h : Pb n x W) (y : P2) : Pb n y (put2 n y W) := by
 obtain ⟨z, a, b, f⟩ := h
 exact ⟨by simp [go_sem, *], by simp [go_sem, *], by simp [go_sem, *], by simp [go_sem, *]⟩
theorem Pb.other {n g : Nat} {x : P2} {W : World} (h : Pb n x W) (y : P2) (hg : g ≠ n) : Pb n x (put2 g y W) := by
 obtain ⟨z, a, b, f⟩ := h
 have hg' : n ≠ g := fun e => hg e.symm
 exact ⟨by simp [go_sem, *], by simp [go_sem, *], by simp [go_sem, *], by simp [go_sem, *]⟩



end Go.Proofs.YtoddangedbefgaaGreatDoor
