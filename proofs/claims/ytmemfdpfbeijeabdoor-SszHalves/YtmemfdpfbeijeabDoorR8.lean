/- The reference's Sum, at this translation. -/
import Derived.Test.YtmemfdpfbeijeabDoorR6
import Derived.Test.YtmemfdpfbeijeabDoorR7
import Derived.Test.YtmemfdpfbeijeabDoorTail3
namespace Go.Proofs.YtmemfdpfbeijeabDoor
open Go.RowKit Go.Sort

theorem pAt_bd (t : ByteArray) (k : Nat) : 0 ≤ pAt t k ∧ pAt t k < 256 := by
  unfold pAt
  split
  · exact bt_bd t k
  · split
    · decide
    · split
      · decide
      · exact lb_bd _ _

theorem fl_succ' (k : Nat) (f : Nat → Value) : fl (k + 1) f = fl k f ++ [f k] := by simp [fl, List.range_succ]
theorem four_new (w : World) (x y z u : Value) (t : TypeId) : ∀ j v, [x, y, z, u][j]? = some v → (w.alloc (.cells #[x, y, z, u] t)).cell? ((⟨w.heap.size, 0, none⟩ : Addr).add j) = some v := by
  intro j v hj
  match j, hj with
  | 0, hj => simp at hj; subst hj; simp [Addr.add]
  | 1, hj => simp at hj; subst hj; simp [Addr.add]
  | 2, hj => simp at hj; subst hj; simp [Addr.add]
  | 3, hj => simp at hj; subst hj; simp [Addr.add]
theorem owns_below' {w w' : World} {b : Nat} {e : TypeId} {size : Nat} {v : Value} {n : Nat} {xs : List Value} (h : w.ownsRow b e size v n xs) (hb : Below w.heap.size w w') : w'.ownsRow b e size v n xs :=
  h.kept (row := none) ⟨hb.os, hb.tape, hb.output, hb.size, fun k hk _ => hb.block k hk⟩ (by cases v.ownBlock <;> simp)
theorem Fw.grown' {n N : Nat} {g : Nat → Value} {W W' : World} {row : Option Nat} (k : Fw n N g W) (hg : W.grownBy W' row) (hne : some n ≠ row) : Fw n N g W' := by
  have hb : W'.heap[n]? = W.heap[n]? := hg.block n k.z hne
  refine ⟨Nat.lt_of_lt_of_le k.z hg.size, fun j hj => ?_, fun o => ?_⟩
  · rw [← k.c j hj]; simp only [World.cell?, hb]
  · rw [← k.f o]; simp only [World.frozen?, hb]
/-- What holds while a statement runs. -/
structure JS (V : World) (z m : Nat) (y d0 d1 d2 d3 : Int) (u6 : Value) (S : Nat → Bool) (x28 x29 x30 x31 x32 x33 x34 x35 x36 x37 x38 x39 x40 x41 x42 x43 x44 x45 x46 x47 x48 : Value) (W : World) : Prop where
  e : Below V.heap.size V W
  f0 : S 0 = true → x28 = u6
  f1 : S 1 = true → x29 = .int .i64 (m : Int)
  f2 : S 2 = true → x30 = .pointer (some ⟨z, m, none⟩)
  f3 : S 3 = true → x31 = .int .u32 y
  f4 : S 4 = true → x32 = .int .u32 (y / 16777216)
  f5 : S 5 = true → x33 = .int .u8 d0
  f6 : S 6 = true → x34 = .int .i64 (m : Int)
  f7 : S 7 = true → x35 = .pointer (some ⟨z, m, none⟩)
  f8 : S 8 = true → x36 = .int .u32 y
  f9 : S 9 = true → x37 = .int .u32 (y / 65536)
  f10 : S 10 = true → x38 = .int .u8 d1
  f11 : S 11 = true → x39 = .int .i64 (m : Int)
  f12 : S 12 = true → x40 = .pointer (some ⟨z, m, none⟩)
  f13 : S 13 = true → x41 = .int .u32 y
  f14 : S 14 = true → x42 = .int .u32 (y / 256)
  f15 : S 15 = true → x43 = .int .u8 d2
  f16 : S 16 = true → x44 = .int .i64 (m : Int)
  f17 : S 17 = true → x45 = .pointer (some ⟨z, m, none⟩)
  f18 : S 18 = true → x46 = .int .u32 y
  f19 : S 19 = true → x47 = .int .u8 d3
  f20 : S 20 = true → ∃ q, x48 = .slice (some ⟨q, 0, none⟩) 4 4 ∧ V.heap.size ≤ q ∧ q < W.heap.size ∧ ∀ j u, [Value.int .u8 d0, .int .u8 d1, .int .u8 d2, .int .u8 d3][j]? = some u → W.cell? ((⟨q, 0, none⟩ : Addr).add j) = some u
theorem JS.grow {V : World} {z m : Nat} {y d0 d1 d2 d3 : Int} {u6 : Value} {S : Nat → Bool} {x28 x29 x30 x31 x32 x33 x34 x35 x36 x37 x38 x39 x40 x41 x42 x43 x44 x45 x46 x47 x48 : Value} {W W' : World} (h : JS V z m y d0 d1 d2 d3 u6 S x28 x29 x30 x31 x32 x33 x34 x35 x36 x37 x38 x39 x40 x41 x42 x43 x44 x45 x46 x47 x48 W) (hb : Below W.heap.size W W') : JS V z m y d0 d1 d2 d3 u6 S x28 x29 x30 x31 x32 x33 x34 x35 x36 x37 x38 x39 x40 x41 x42 x43 x44 x45 x46 x47 x48 W' :=
  ⟨belowStep h.e h.e.size hb, h.f0, h.f1, h.f2, h.f3, h.f4, h.f5, h.f6, h.f7, h.f8, h.f9, h.f10, h.f11, h.f12, h.f13, h.f14, h.f15, h.f16, h.f17, h.f18, h.f19, fun s => (h.f20 s).imp fun _ ⟨j1, j0, j2, j3⟩ => ⟨j1, j0, Nat.lt_of_lt_of_le j2 hb.size, fun j u hj => (hb.cell (p := Addr.add ⟨_, 0, none⟩ j) (by rw [Addr.add_mid]; exact j2)).trans (j3 j u hj)⟩⟩

end Go.Proofs.YtmemfdpfbeijeabDoor
