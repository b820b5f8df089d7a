/- Lemmas: Bytes as chunks: the program's filledUp and Pack, the reference's Pack. Levels of a tree: at, above. Which chunks have a tree: ContainsFunc, haveTree; the reference's right. A range over a function whose rounds are told what lies in memory: the loop's record is kept by hand. The levels of a tree, gone through: levels. -/
import Derived.Test.YtoddangedbefgaaGreatDoorM1
import Derived.Test.YtoddangedbefgaaGreatDoorM10
import Derived.Test.YtoddangedbefgaaGreatDoorM11
import Derived.Test.YtoddangedbefgaaGreatDoorM12
import Derived.Test.YtoddangedbefgaaGreatDoorM13
import Derived.Test.YtoddangedbefgaaGreatDoorM16
import Derived.Test.YtoddangedbefgaaGreatDoorM17
import Derived.Test.YtoddangedbefgaaGreatDoorM18
import Derived.Test.YtoddangedbefgaaGreatDoorM19
import Derived.Test.YtoddangedbefgaaGreatDoorM3
import Derived.Test.YtoddangedbefgaaGreatDoorM5
import Derived.Test.YtoddangedbefgaaGreatDoorM8
import Derived.Test.YtoddangedbefgaaGreatDoorM9
import Derived.Test.YtoddangedbefgaaGreatDoorRows
import Derived.Lib.AppendStr
import Derived.OwnWalkIn
import Derived.RangeFuncBound
import Derived.RangeFuncCalls
import Derived.RangeFuncLeaves
import Derived.RangeFuncNested
namespace Go.Proofs.YtoddangedbefgaaGreatDoor
open Go.RowKit Go.Shelf Go.Sort Go.Lib

theorem info_str8 : (Tryz.prog.info? 9).map (fun i => (i.zero, i.size, i.bytes)) = some (some (.string ⟨#[]⟩), 1, 16) := by kernel_rfl
theorem map_snoc {α : Type} (f : Nat → α) (k : Nat) : (List.range (k + 1)).map f = (List.range k).map f ++ [f k] := by simp [List.range_succ]


end Go.Proofs.YtoddangedbefgaaGreatDoor
namespace Go.Proofs.YtoddangedbefgaaGreatDoor
open Go.RowKit Go.Shelf Go.Sort

set_option maxRecDepth 20000 in
set_option maxHeartbeats 1000000 in
theorem at_any (xs : List ByteArray) (a : Option Addr) (c : Nat) (y : ByteArray) (i : Nat) (n : Nat) (w : World) (hn : n ≤ w.heap.size) (hp : slS n w a xs) :
  Calls Tryz.prog 133 #[.agg #[.slice a xs.length c, .string y], .int .i64 i] w fun e w' => e = .returned (.string (xs.getD i y)) ∧ Below w.heap.size w w' := by
 obtain ⟨N, hN⟩ : ∃ N, xs.length = N := ⟨_, rfl⟩
 have HN : Hid (xs.length = N) := hN
 rw [hN]
 have A1 : Below w.heap.size w (w.alloc (.cells #[.slice a N c, .string y] 161)) := (Below.refl _ w).alloc (Nat.le_refl _) _
 rw [List.getD_eq_getElem?_getD]
 by_cases hlt : i < N
 ·obtain ⟨x, hx⟩ : ∃ x, xs[i]? = some x := ⟨xs[i]'(by omega), List.getElem?_eq_getElem (by omega)⟩
  obtain ⟨b, o, rfl, hb, c0⟩ := slS_at hp i x hx
  have hbw : b < w.heap.size := by omega
  have l0 : (i : Int) < N := by omega
  rw [hx]
  go_enter Tryz.func133, Tryz.ntmps133
  go_wp2
  go_ret
  exact ⟨rfl, A1⟩
 ·have l0 : ¬ (i : Int) < N := by omega
  rw [List.getElem?_eq_none (by omega)]
  go_enter Tryz.func133, Tryz.ntmps133
  go_wp2
  go_ret
  exact ⟨rfl, A1⟩

def upL (xs : List ByteArray) (y : ByteArray) : List ByteArray := (List.range ((xs.length + 1) / 2)).map fun j => hs (xs.getD (2 * j) y) (xs.getD (2 * j + 1) y)
def slF (m : Nat) (W : World) (a : Option Addr) (xs : List ByteArray) : Prop := xs = [] ∨ ∃ b o, a = some ⟨b, o, none⟩ ∧ m ≤ b ∧ b < W.heap.size ∧ ∀ j x, xs[j]? = some x → W.cell? ⟨b, o + j, none⟩ = some (.string x)
theorem slF_owns {z : Nat} {v : Value} {xs : List ByteArray} {W : World} (h : W.ownsRow z 9 1 v xs.length (xs.map .string)) : ∃ a c, v = .slice a xs.length c ∧ slF z W a xs := by
 rcases h.2 with ⟨h1, h2⟩ | ⟨g, c, cur, h1, h2, h3, h4, h5, h6, h7⟩
 ·exact ⟨none, 0, by rw [h1, h2], .inl (List.length_eq_zero_iff.1 h2)⟩
 ·refine ⟨_, c, h1, .inr ⟨g, 0, rfl, h2, (Array.getElem?_eq_some_iff.1 h3).1, fun j x hx => ?_⟩⟩
  have hj : j < xs.length := (List.getElem?_eq_some_iff.1 hx).1
  subst h1
  rw [h.cellAt (0 + j) (by omega), Nat.zero_add, List.getElem?_map, hx]
  rfl
theorem slF_mono {m m' : Nat} {W : World} {a : Option Addr} {xs : List ByteArray} (h : slF m W a xs) (hm : m' ≤ m) : slF m' W a xs := by
 rcases h with h | ⟨b, o, h1, h2, h3⟩
 ·exact .inl h
 ·exact .inr ⟨b, o, h1, Nat.le_trans hm h2, h3⟩
def AbR (m : Nat) (xs : List ByteArray) (y : ByteArray) (e : Ending) (w' : World) : Prop := ∃ a c, e = .returned (.agg #[.slice a (upL xs y).length c, .string (hs y y)]) ∧ slF m w' a (upL xs y)
theorem make_str (W : World) (M : Nat) (hM : M ≤ 1000) (B : Nat) (hB : B ≤ W.heap.size) : ∃ w', (Instr.makeSlice 27 (.int .i64 0) (.int .i64 (M : Int))).run Tryz.prog W = .ok (.slice (some ⟨W.heap.size, 0, none⟩) 0 M) w' ∧ w'.ownsRow B 9 1 (.slice (some ⟨W.heap.size, 0, none⟩) 0 M) 0 [] ∧ Below W.heap.size W w' := by
 obtain ⟨i0, hi0, hz0, hz1, hz2⟩ := info_parts info_str8
 obtain ⟨w', h1, h2, h3⟩ := run_make_own (P := Tryz.prog) W B 27 9 i0 _ 1 Tryz.underlying27 hi0 hz0 hz1 .i64 .i64 M (by rw [hz2]; omega) (by unfold maxLen; omega) hB
 exact ⟨w', h1, h2, (Below.refl _ W).grown h3 (Nat.le_refl _) (fun _ e => by cases e)⟩
theorem z_alloc_two (w : World) (o1 o2 : Obj) : ((w.alloc o1).alloc o2).heap[w.heap.size]? = some o1 ∧ ((w.alloc o1).alloc o2).heap[w.heap.size + 1]? = some o2 := by
 constructor
 ·rw [((Below.refl _ (w.alloc o1)).alloc (Nat.le_refl _) o2).block w.heap.size (by simp)]
  exact World.alloc_heap_new w o1
 ·have h := World.alloc_heap_new (w.alloc o1) o2
  simpa using h
theorem heap_setCell_self {W : World} {b : Nat} {cs : Array Value} {t : TypeId} {f : Nat × Nat} (h : W.heap[b]? = some (.cells cs t f)) (o : Nat) (v : Value) : (W.setCell ⟨b, o, none⟩ v).heap[b]? = some (.cells (cs.setIfInBounds o v) t f) := by
 simp [World.setCell, Array.getElem?_modify, h]
theorem owns_apart {W : World} {z n : Nat} {v : Value} {xs : List Value} (h : W.ownsRow z 9 1 v n xs) {g : Nat} {cs : Array Value} (hg : W.heap[g]? = some (.cells cs 161 (0, 0))) : v.ownBlock ≠ some g := by
 rcases h.2 with ⟨h1, _⟩ | ⟨b, cap, cur, h1, _, h3, _⟩
 ·rw [h1]
  intro e
  cases e
 ·rw [h1]
  intro e
  cases e
  rw [hg] at h3
  cases h3
theorem getD_size (xs : List ByteArray) (y : ByteArray) (h : ∀ x ∈ xs, x.size = 32) (hy : y.size = 32) (i : Nat) : (xs.getD i y).size = 32 := by
 rw [List.getD_eq_getElem?_getD]
 cases hx : xs[i]? with
 | none => exact hy
 | some x => exact h x (List.mem_of_getElem? hx)
theorem owns_sl2 {W : World} {z p c : Nat} {a : Option Addr} {xs : List ByteArray} (h : W.ownsRow z 9 1 (.slice a xs.length c) xs.length (xs.map .string)) {cs : Array Value} (hp : W.heap[p]? = some (.cells cs 161 (0, 0))) (v1 v2 : Value) :
  slF z ((W.setCell ⟨p, 0, none⟩ v1).setCell ⟨p, 1, none⟩ v2) a xs := by
 have ho := (h.kept (grown_setCells [v1] 0 W) (.inr (owns_apart h hp))).kept (grown_setCells [v2] 1 _) (.inr (owns_apart h hp))
 obtain ⟨a', c', e, hs⟩ := slF_owns ho
 cases e
 exact hs
theorem owns_slice {W : World} {z e n : Nat} {v : Value} {xs : List Value} (h : W.ownsRow z e 1 v n xs) : ∃ a c, v = .slice a n c := by
 rcases h.2 with ⟨h1, h2⟩ | ⟨g, c, cur, h1, _⟩
 ·exact ⟨none, 0, by rw [h1, h2]⟩
 ·exact ⟨_, c, h1⟩

structure AbK (V : World) (a : Option Addr) (p N c M : Nat) (y h2 : ByteArray) (S : Nat → Bool) (x3 x5 x6 x7 x8 x9 x10 x11 x12 x13 x14 x15 x16 x17 : Value) (W : World) : Prop where
 e : Below V.heap.size V W
 f0 : S 0 = true → x5 = Value.pointer (some ⟨p, 0, none⟩)
 f1 : S 1 = true → x6 = Value.slice a N c
 f2 : S 2 = true → x7 = Value.int .i64 (N : Int)
 f3 : S 3 = true → x8 = Value.int .i64 ((N : Int) + 1)
 f4 : S 4 = true → x9 = Value.int .i64 (M : Int)
 f5 : S 5 = true → ∃ g, x10 = .slice (some ⟨g, 0, none⟩) 0 M ∧ V.heap.size ≤ g ∧ W.ownsRow V.heap.size 9 1 (.slice (some ⟨g, 0, none⟩) 0 M) 0 []
 f6 : S 6 = true → x11 = Value.pointer (some ⟨p, 1, none⟩)
 f7 : S 7 = true → x12 = Value.string y
 f8 : S 8 = true → x13 = Value.pointer (some ⟨p, 1, none⟩)
 f9 : S 9 = true → x14 = Value.string y
 f10 : S 10 = true → ∃ g, x15 = .slice (some ⟨g, 0, none⟩) 2 2 ∧ V.heap.size ≤ g ∧ g < W.heap.size ∧ W.heap[g]? = some (.cells #[.string y, .string y] 9 (0, 0))
 f11 : S 11 = true → x16 = Value.string h2
 f12 : S 12 = true → ∃ g, x17 = .agg #[.slice (some ⟨g, 0, none⟩) 0 M, .string h2] ∧ V.heap.size ≤ g ∧ W.ownsRow V.heap.size 9 1 (.slice (some ⟨g, 0, none⟩) 0 M) 0 []
 f13 : S 13 = true → ∃ g, x3 = .pointer (some ⟨g, 0, none⟩) ∧ V.heap.size ≤ g ∧ g < W.heap.size ∧ W.heap[g]? = some (.cells #[.slice none 0 0, .string ⟨#[]⟩] 161 (0, 0))
theorem AbK.grow {V : World} {a : Option Addr} {p N c M : Nat} {y h2 : ByteArray} {S : Nat → Bool} {x3 x5 x6 x7 x8 x9 x10 x11 x12 x13 x14 x15 x16 x17 : Value} {W W' : World} (h : AbK V a p N c M y h2 S x3 x5 x6 x7 x8 x9 x10 x11 x12 x13 x14 x15 x16 x17 W) (hb : Below W.heap.size W W') : AbK V a p N c M y h2 S x3 x5 x6 x7 x8 x9 x10 x11 x12 x13 x14 x15 x16 x17 W' :=
 ⟨belowStep h.e h.e.size hb, h.f0, h.f1, h.f2, h.f3, h.f4, fun s => (h.f5 s).imp fun _ ⟨j1, j0, j2⟩ => ⟨j1, j0, owns_below8 j2 hb⟩, h.f6, h.f7, h.f8, h.f9, fun s => (h.f10 s).imp fun _ ⟨j1, j0, j2, j3⟩ => ⟨j1, j0, Nat.lt_of_lt_of_le j2 hb.size, (hb.block _ j2).trans j3⟩, h.f11, fun s => (h.f12 s).imp fun _ ⟨j1, j0, j2⟩ => ⟨j1, j0, owns_below8 j2 hb⟩, fun s => (h.f13 s).imp fun _ ⟨j1, j0, j2, j3⟩ => ⟨j1, j0, Nat.lt_of_lt_of_le j2 hb.size, (hb.block _ j2).trans j3⟩⟩
structure AbL (V : World) (a : Option Addr) (p g13 N c q : Nat) (y X1 X2 X3 : ByteArray) (v : Value) (S : Nat → Bool) (x25 x26 x27 x28 x29 x30 x31 x32 x33 x34 x35 x36 : Value) (W : World) : Prop where
 e : Below V.heap.size V W
 f0 : S 0 = true → x25 = Value.pointer (some ⟨g13, 0, none⟩)
 f1 : S 1 = true → x26 = v
 f2 : S 2 = true → x27 = Value.agg #[.slice a N c, .string y]
 f3 : S 3 = true → x28 = Value.int .i64 (q : Int)
 f4 : S 4 = true → x29 = Value.string X1
 f5 : S 5 = true → x30 = Value.agg #[.slice a N c, .string y]
 f6 : S 6 = true → x31 = Value.int .i64 (q : Int)
 f7 : S 7 = true → x32 = Value.int .i64 (((q + 1 : Nat)) : Int)
 f8 : S 8 = true → x33 = Value.string X2
 f9 : S 9 = true → ∃ g, x34 = .slice (some ⟨g, 0, none⟩) 2 2 ∧ V.heap.size ≤ g ∧ g < W.heap.size ∧ W.heap[g]? = some (.cells #[.string X1, .string X2] 9 (0, 0))
 f10 : S 10 = true → x35 = Value.string X3
 f11 : S 11 = true → ∃ g, x36 = .slice (some ⟨g, 0, none⟩) 1 1 ∧ V.heap.size ≤ g ∧ g < W.heap.size ∧ W.heap[g]? = some (.cells #[.string X3] 9 (0, 0))
theorem AbL.grow {V : World} {a : Option Addr} {p g13 N c q : Nat} {y X1 X2 X3 : ByteArray} {v : Value} {S : Nat → Bool} {x25 x26 x27 x28 x29 x30 x31 x32 x33 x34 x35 x36 : Value} {W W' : World} (h : AbL V a p g13 N c q y X1 X2 X3 v S x25 x26 x27 x28 x29 x30 x31 x32 x33 x34 x35 x36 W) (hb : Below W.heap.size W W') : AbL V a p g13 N c q y X1 X2 X3 v S x25 x26 x27 x28 x29 x30 x31 x32 x33 x34 x35 x36 W' :=
 ⟨belowStep h.e h.e.size hb, h.f0, h.f1, h.f2, h.f3, h.f4, h.f5, h.f6, h.f7, h.f8, fun s => (h.f9 s).imp fun _ ⟨j1, j0, j2, j3⟩ => ⟨j1, j0, Nat.lt_of_lt_of_le j2 hb.size, (hb.block _ j2).trans j3⟩, h.f10, fun s => (h.f11 s).imp fun _ ⟨j1, j0, j2, j3⟩ => ⟨j1, j0, Nat.lt_of_lt_of_le j2 hb.size, (hb.block _ j2).trans j3⟩⟩
set_option maxRecDepth 20000 in
set_option maxHeartbeats 4000000 in
theorem above_any (xs : List ByteArray) (a : Option Addr) (c : Nat) (y : ByteArray) (n : Nat) (w : World) (hl : Laid w) (hn : n ≤ w.heap.size) (hp : slS n w a xs) (hx : xs.length ≤ 1000) (hy : y.size = 32) (hz : ∀ x ∈ xs, x.size = 32) :
  Calls Tryz.prog 169 #[.agg #[.slice a xs.length c, .string y]] w fun e w' => AbR w.heap.size xs y e w' ∧ Below w.heap.size w w' := by
 obtain ⟨i0, hi0, hz0, hz1, hz2⟩ := info_parts info_str8
 obtain ⟨N, hN⟩ : ∃ N, xs.length = N := ⟨_, rfl⟩
 have HN : Hid (xs.length = N) := hN
 have HZ : Hid (∀ x ∈ xs, x.size = 32) := hz
 rw [hN] at hx ⊢
 clear hN hz
 have HS : Hid (∀ (g : Nat) (w : World), _) := fun (g : Nat) (w : World) (hl : Laid w) (hg : g < w.heap.size) h0 h1 => sum_two y y _ (join_pair _ _) (by omega) (by omega) g w hl hg h0 h1
 obtain ⟨h2, hh2⟩ : ∃ h, sumOf (y ++ y) = h := ⟨_, rfl⟩
 have HH : Hid _ := hh2
 rw [hh2] at HS
 clear hh2
 have q1 : IntKind.i64.wrap ((N : Int) + 1) = (N : Int) + 1 := by rw [IntKind.wrap_i64]; omega
 obtain ⟨M, hM⟩ : ∃ M, (N + 1) / 2 = M := ⟨_, rfl⟩
 have q2 : ((N : Int) + 1) / 2 = (M : Int) := by omega
 have q3 : ((N : Int) + 1).tdiv 2 = (M : Int) := by rw [Int.tdiv_eq_ediv_of_nonneg (by omega)]; exact q2
 have q4 : IntKind.i64.wrap (M : Int) = M := by rw [IntKind.wrap_i64]; omega
 go_enter Tryz.func169, Tryz.ntmps169
 go_wp2_with fail
 refine wpOf (fun W => Below w.heap.size w W ∧ W.heap[w.heap.size]? = some (.cells #[.slice a N c, .string y] 161 (0, 0)) ∧ W.heap[w.heap.size + 1]? = some (.cells #[.slice none 0 0, .string ⟨#[]⟩] 161 (0, 0))) ⟨((Below.refl _ w).alloc (Nat.le_refl _) _).alloc (by simp) _, (z_alloc_two _ _ _).1, (z_alloc_two _ _ _).2⟩ ?_
 rintro V ⟨BV, hb0, hb1⟩
 obtain ⟨p, hp0⟩ : ∃ p, w.heap.size = p := ⟨_, rfl⟩
 rw [hp0] at BV hb0 hb1 ⊢
 have HP : Hid _ := hp0
 have hpv : p < V.heap.size := (Array.getElem?_eq_some_iff.1 hb0).1
 have hpv1 : p + 1 < V.heap.size := (Array.getElem?_eq_some_iff.1 hb1).1
 have cl0 : V.cell? ⟨p, 0, none⟩ = some (.slice a N c) := by rw [Lib.cell_of_heap hb0]; rfl
 have cl1 : V.cell? ⟨p, 1, none⟩ = some (.string y) := by rw [Lib.cell_of_heap hb0]; rfl
 have lV : Laid V := hl.below (by rw [hp0]; exact BV)
 have sV : slS n V a xs := slS_below (BV.mono (by omega)) hp
 clear hp hb0
 have hM2 : M ≤ 1000 := by omega
 refine region_inv_tail 14 (fun S aa W => ∃ x3 x5 x6 x7 x8 x9 x10 x11 x12 x13 x14 x15 x16 x17 : Value, aa = { tmps := #[Value.agg #[Value.slice a N c, Value.string y], Value.pointer (some { block := p, off := 0 }), Value.pointer (some { block := p + 1, off := 0 }), x3, undef, x5, x6, x7, x8, x9, x10, x11, x12, x13, x14, x15, x16, x17, undef, undef, undef, undef, undef, undef, undef, undef, undef, undef, undef, undef, undef, undef, undef, undef, undef, undef, undef, undef, undef, undef], defers := [] } ∧ AbK V a p N c M y h2 S x3 x5 x6 x7 x8 x9 x10 x11 x12 x13 x14 x15 x16 x17 W) (by kernel_rfl) (by kernel_rfl) ?_ ?_ ?_
 ·exact ⟨undef, undef, undef, undef, undef, undef, undef, undef, undef, undef, undef, undef, undef, undef, rfl, ⟨(Below.refl _ V).drew, nofun, nofun, nofun, nofun, nofun, nofun, nofun, nofun, nofun, nofun, nofun, nofun, nofun, nofun⟩⟩
 ·intro i o S aa W hin hi hun hJ hall K hK
  obtain ⟨x3, x5, x6, x7, x8, x9, x10, x11, x12, x13, x14, x15, x16, x17, rfl, h⟩ := hJ
  have hlt : i < 14 := hin
  have hcase : i = 0 ∨ i = 1 ∨ i = 2 ∨ i = 3 ∨ i = 4 ∨ i = 5 ∨ i = 6 ∨ i = 7 ∨ i = 8 ∨ i = 9 ∨ i = 10 ∨ i = 11 ∨ i = 12 ∨ i = 13 := by omega
  rcases hcase with rfl | rfl | rfl | rfl | rfl | rfl | rfl | rfl | rfl | rfl | rfl | rfl | rfl | rfl
  all_goals (have ho := (Option.some.inj hi).symm; subst ho; clear hi hlt hin)
  ·go_simp
   exact hK _ _ ⟨_, _, _, _, _, _, _, _, _, _, _, _, _, _, rfl, { h with f0 := fun _ => rfl }⟩
  ·have s_0 : S 0 = true := hall ⟨0, .data⟩ (by simp) rfl
   obtain rfl := h.f0 s_0
   have cW := (h.e.cell (p := ⟨p, 0, none⟩) hpv).trans cl0
   go_simp
   exact hK _ _ ⟨_, _, _, _, _, _, _, _, _, _, _, _, _, _, rfl, { h with f1 := fun _ => rfl }⟩
  ·have s_1 : S 1 = true := hall ⟨1, .data⟩ (by simp) rfl
   obtain rfl := h.f1 s_1
   go_simp
   exact hK _ _ ⟨_, _, _, _, _, _, _, _, _, _, _, _, _, _, rfl, { h with f2 := fun _ => rfl }⟩
  ·have s_2 : S 2 = true := hall ⟨2, .data⟩ (by simp) rfl
   obtain rfl := h.f2 s_2
   go_simp
   exact hK _ _ ⟨_, _, _, _, _, _, _, _, _, _, _, _, _, _, rfl, { h with f3 := fun _ => rfl }⟩
  ·have s_3 : S 3 = true := hall ⟨3, .data⟩ (by simp) rfl
   obtain rfl := h.f3 s_3
   go_simp
   exact hK _ _ ⟨_, _, _, _, _, _, _, _, _, _, _, _, _, _, rfl, { h with f4 := fun _ => rfl }⟩
  ·have s_4 : S 4 = true := hall ⟨4, .data⟩ (by simp) rfl
   obtain rfl := h.f4 s_4
   obtain ⟨w5, hr5, ho5, hb5⟩ := make_str W M hM2 V.heap.size h.e.size; go_simp
   have h1 := h.grow hb5
   exact hK _ _ ⟨_, _, _, _, _, _, _, _, _, _, _, _, _, _, rfl, { h1 with f5 := fun _ => ⟨W.heap.size, rfl, h.e.size, ho5⟩ }⟩
  ·go_simp
   exact hK _ _ ⟨_, _, _, _, _, _, _, _, _, _, _, _, _, _, rfl, { h with f6 := fun _ => rfl }⟩
  ·have s_6 : S 6 = true := hall ⟨6, .data⟩ (by simp) rfl
   obtain rfl := h.f6 s_6
   have cW := (h.e.cell (p := ⟨p, 1, none⟩) hpv).trans cl1
   go_simp
   exact hK _ _ ⟨_, _, _, _, _, _, _, _, _, _, _, _, _, _, rfl, { h with f7 := fun _ => rfl }⟩
  ·go_simp
   exact hK _ _ ⟨_, _, _, _, _, _, _, _, _, _, _, _, _, _, rfl, { h with f8 := fun _ => rfl }⟩
  ·have s_8 : S 8 = true := hall ⟨8, .data⟩ (by simp) rfl
   obtain rfl := h.f8 s_8
   have cW := (h.e.cell (p := ⟨p, 1, none⟩) hpv).trans cl1
   go_simp
   exact hK _ _ ⟨_, _, _, _, _, _, _, _, _, _, _, _, _, _, rfl, { h with f9 := fun _ => rfl }⟩
  ·have s_7 : S 7 = true := hall ⟨7, .data⟩ (by simp) rfl
   obtain rfl := h.f7 s_7
   have s_9 : S 9 = true := hall ⟨9, .data⟩ (by simp) rfl
   obtain rfl := h.f9 s_9
   go_simp
   have h1 := h.grow ((Below.refl _ W).alloc (Nat.le_refl _) (.cells #[.string y, .string y] 9))
   exact hK _ _ ⟨_, _, _, _, _, _, _, _, _, _, _, _, _, _, rfl, { h1 with f10 := fun _ => ⟨W.heap.size, rfl, h.e.size, by simp, World.alloc_heap_new W _⟩ }⟩
  ·have s_10 : S 10 = true := hall ⟨10, .data⟩ (by simp) rfl
   obtain ⟨g10, rfl, hg10, hh10, hc10⟩ := h.f10 s_10
   go_simp
   refine (HS.out g10 W (lV.below h.e) hh10 (by rw [Lib.cell_of_heap hc10]; rfl) (by rw [Lib.cell_of_heap hc10]; rfl)).mono ?_
   rintro e w5 ⟨rfl, hb5⟩
   have h1 := h.grow hb5
   go_simp
   exact hK _ _ ⟨_, _, _, _, _, _, _, _, _, _, _, _, _, _, rfl, { h1 with f11 := fun _ => rfl }⟩
  ·have s_5 : S 5 = true := hall ⟨5, .data⟩ (by simp) rfl
   obtain ⟨g5, rfl, hg5, ho5⟩ := h.f5 s_5
   have s_11 : S 11 = true := hall ⟨11, .data⟩ (by simp) rfl
   obtain rfl := h.f11 s_11
   go_simp
   exact hK _ _ ⟨_, _, _, _, _, _, _, _, _, _, _, _, _, _, rfl, { h with f12 := fun _ => ⟨g5, rfl, hg5, ho5⟩ }⟩
  ·go_simp
   have h1 := h.grow ((Below.refl _ W).alloc (Nat.le_refl _) (.cells #[.slice none 0 0, .string ⟨#[]⟩] 161))
   exact hK _ _ ⟨_, _, _, _, _, _, _, _, _, _, _, _, _, _, rfl, { h1 with f13 := fun _ => ⟨W.heap.size, rfl, h.e.size, by simp, World.alloc_heap_new W _⟩ }⟩
 ·rintro S aa W hall ⟨x3, x5, x6, x7, x8, x9, x10, x11, x12, x13, x14, x15, x16, x17, rfl, h⟩
  obtain rfl := h.f0 (hall 0 (by decide))
  obtain rfl := h.f1 (hall 1 (by decide))
  obtain rfl := h.f2 (hall 2 (by decide))
  obtain rfl := h.f3 (hall 3 (by decide))
  obtain rfl := h.f4 (hall 4 (by decide))
  obtain ⟨g5, rfl, hg5, ho5⟩ := h.f5 (hall 5 (by decide))
  obtain rfl := h.f6 (hall 6 (by decide))
  obtain rfl := h.f7 (hall 7 (by decide))
  obtain rfl := h.f8 (hall 8 (by decide))
  obtain rfl := h.f9 (hall 9 (by decide))
  obtain ⟨g10, rfl, hg10, hh10, hc10⟩ := h.f10 (hall 10 (by decide))
  obtain rfl := h.f11 (hall 11 (by decide))
  obtain ⟨g12, rfl, hg12, ho12⟩ := h.f12 (hall 12 (by decide))
  obtain ⟨g13, rfl, hg13, hh13, hc13⟩ := h.f13 (hall 13 (by decide))
  have BWD := h.e
  clear h hall
  simp only [List.drop_succ_cons, List.drop_zero]
  have fz : ∀ o, W.frozen? ⟨g13, o, none⟩ = false := fun o => by simp [World.frozen?, hc13]
  have d0 : W.cell? ⟨g13, 0, none⟩ = some (.slice none 0 0) := by rw [Lib.cell_of_heap hc13]; rfl
  have d1 : W.cell? ⟨g13, 1, none⟩ = some (.string ⟨#[]⟩) := by rw [Lib.cell_of_heap hc13]; rfl
  have e13 := heap_setCell_self (heap_setCell_self hc13 0 (.slice (some ⟨g12, 0, none⟩) 0 M)) 1 (.string h2)
  have ho := ((ho12.kept (grown_setCells [.slice (some ⟨g12, 0, none⟩) 0 M] 0 W) (.inr (owns_apart ho12 hc13))).kept (grown_setCells [.string h2] 1 _) (.inr (owns_apart ho12 hc13)))
  have BU : Below V.heap.size V ((W.setCell ⟨g13, 0, none⟩ (.slice (some ⟨g12, 0, none⟩) 0 M)).setCell ⟨g13, 1, none⟩ (.string h2)) := below_setCells' hg13 [.string h2] 1 _ (below_setCells' hg13 [.slice (some ⟨g12, 0, none⟩) 0 M] 0 _ BWD)
  go_wp2_with fail
  refine wpOf (fun U => Below V.heap.size V U ∧ U.heap[g13]? = some (.cells #[.slice (some ⟨g12, 0, none⟩) 0 M, .string h2] 161 (0, 0)) ∧ U.ownsRow V.heap.size 9 1 (.slice (some ⟨g12, 0, none⟩) 0 M) 0 []) ⟨BU, e13, ho⟩ ?_
  rintro U ⟨BU, hc13, ho⟩
  clear e13 fz d0 d1 hh13 hh10 hc10 ho12 ho5 BWD hg5 hg12 hg10 HS q1 q2 q3 q4
  obtain ⟨z, hz⟩ : ∃ z, V.heap.size = z := ⟨_, rfl⟩
  rw [hz] at BU ho hpv hpv1 hg13
  have lU : Laid U := lV.below (by rw [hz]; exact BU)
  have sU : slS n U a xs := slS_below (BU.mono (by have := HP.out; omega)) sV
  replace cl0 := (BU.cell (p := ⟨p, 0, none⟩) hpv).trans cl0
  replace cl1 := (BU.cell (p := ⟨p, 1, none⟩) hpv).trans cl1
  have hzU : z ≤ U.heap.size := by rw [← hz]; exact BU.size
  go_loopg [4] M (fun gk i wr => ∃ (k : Nat) (v : Value), k + gk = M ∧ i = .int .i64 ((2 * k : Nat) : Int) ∧ Below z U wr ∧ z ≤ wr.heap.size ∧ wr.heap[g13]? = some (.cells #[v, .string h2] 161 (0, 0)) ∧ wr.ownsRow z 9 1 v k ((List.range k).map fun j => .string (hs (xs.getD (2 * j) y) (xs.getD (2 * j + 1) y))))
  case atStart => exact ⟨0, _, by omega, rfl, Below.refl _ _, hzU, hc13, ho⟩
  case round =>
   clear hc13 ho
   obtain ⟨k, v, hk, rfl, BW, hzw, hc13, hown⟩ := hrel
   have hr3 : ∀ b, v.ownBlock = some b → z ≤ b := fun b hb => (hown.lt b hb).1
   have m0 := (BW.cell (p := ⟨p, 0, none⟩) hpv).trans cl0
   have m1 := (BW.cell (p := ⟨p, 1, none⟩) hpv).trans cl1
   obtain ⟨q, hq⟩ : ∃ q, 2 * k = q := ⟨_, rfl⟩
   rw [hq]
   by_cases hlt : k < M
   ·have l0 : (q : Int) < N := by omega
    have wq : IntKind.i64.wrap ((q : Int) + 1) = ((q + 1 : Nat) : Int) := by rw [IntKind.wrap_i64]; omega
    have wq2 : IntKind.i64.wrap ((q : Int) + 2) = ((q + 2 : Nat) : Int) := by rw [IntKind.wrap_i64]; omega
    have d0 : wr.cell? ⟨g13, 0, none⟩ = some v := by rw [Lib.cell_of_heap hc13]; rfl
    have lW : Laid wr := hl.below (by rw [HP.out]; exact (BV.trans (BU.mono (by omega))).trans (BW.mono (by omega)))
    have sW : slS n wr a xs := slS_below (BW.mono (by have := HP.out; omega)) sU
    have hpw : p < wr.heap.size := by omega
    have hgw : g13 < wr.heap.size := (Array.getElem?_eq_some_iff.1 hc13).1
    have s1 : (xs.getD q y).size = 32 := getD_size xs y HZ.out hy q
    have s2 : (xs.getD (q + 1) y).size = 32 := getD_size xs y HZ.out hy (q + 1)
    have KA1 : ∀ W : World, Below wr.heap.size wr W → _ := fun W hB => at_any xs a c y q n W (by have := HP.out; have := hB.size; omega) (slS_below (hB.mono (by have := HP.out; omega)) sW)
    have KA2 : ∀ W : World, Below wr.heap.size wr W → _ := fun W hB => at_any xs a c y (q + 1) n W (by have := HP.out; have := hB.size; omega) (slS_below (hB.mono (by have := HP.out; omega)) sW)
    rw [HN.out] at KA1 KA2
    have KS2 : ∀ (g : Nat) (W : World), Below wr.heap.size wr W → _ := fun (g : Nat) (W : World) (hB : Below wr.heap.size wr W) (hg : g < W.heap.size) h0 h1 => sum_two (xs.getD q y) (xs.getD (q + 1) y) _ (join_pair _ _) (by omega) (by omega) g W (lW.below hB) hg h0 h1
    obtain ⟨X1, hX1⟩ : ∃ x, xs.getD q y = x := ⟨_, rfl⟩
    obtain ⟨X2, hX2⟩ : ∃ x, xs.getD (q + 1) y = x := ⟨_, rfl⟩
    obtain ⟨X3, hX3⟩ : ∃ x, sumOf (X1 ++ X2) = x := ⟨_, rfl⟩
    rw [hX1, hX2, hX3] at KS2
    rw [hX1] at KA1
    rw [hX2] at KA2
    have HX : Hid (_ ∧ _ ∧ _) := ⟨hX1, hX2, hX3⟩
    have HA : Hid (_ ∧ _ ∧ _) := ⟨KA1, KA2, KS2⟩
    clear hX1 hX2 hX3 s1 s2 KA1 KA2 KS2
    go_wp2_with fail
    refine region_inv_tail 12 (fun S aa W => ∃ x25 x26 x27 x28 x29 x30 x31 x32 x33 x34 x35 x36 : Value, aa = { tmps := #[Value.agg #[Value.slice a N c, Value.string y], Value.pointer (some { block := p, off := 0 }), Value.pointer (some { block := p + 1, off := 0 }), Value.pointer (some { block := g13, off := 0 }), Value.int IntKind.i64 ↑q, Value.pointer (some { block := p, off := 0 }), Value.slice a N c, Value.int IntKind.i64 ↑N, Value.int IntKind.i64 (↑N + 1), Value.int IntKind.i64 ↑M, Value.slice (some { block := g5, off := 0 }) 0 M, Value.pointer (some { block := p, off := 1 }), Value.string y, Value.pointer (some { block := p, off := 1 }), Value.string y, Value.slice (some { block := g10, off := 0 }) 2 2, Value.string h2, Value.agg #[Value.slice (some { block := g12, off := 0 }) 0 M, Value.string h2], Value.int IntKind.i64 ↑q, Value.pointer (some { block := p, off := 0 }), Value.slice a N c, Value.int IntKind.i64 ↑N, Value.bool true, u23, u24, x25, x26, x27, x28, x29, x30, x31, x32, x33, x34, x35, x36, u37, u38, undef], defers := [] } ∧ AbL wr a p g13 N c q y X1 X2 X3 v S x25 x26 x27 x28 x29 x30 x31 x32 x33 x34 x35 x36 W) (by kernel_rfl) (by kernel_rfl) ?_ ?_ ?_
    ·exact ⟨u25, u26, u27, u28, u29, u30, u31, u32, u33, u34, u35, u36, rfl, ⟨(Below.refl _ wr).drew, nofun, nofun, nofun, nofun, nofun, nofun, nofun, nofun, nofun, nofun, nofun, nofun⟩⟩
    ·intro i o S aa W hin hi hun hJ hall K hK
     obtain ⟨x25, x26, x27, x28, x29, x30, x31, x32, x33, x34, x35, x36, rfl, h⟩ := hJ
     have hlt : i < 12 := hin
     have hcase : i = 0 ∨ i = 1 ∨ i = 2 ∨ i = 3 ∨ i = 4 ∨ i = 5 ∨ i = 6 ∨ i = 7 ∨ i = 8 ∨ i = 9 ∨ i = 10 ∨ i = 11 := by omega
     rcases hcase with rfl | rfl | rfl | rfl | rfl | rfl | rfl | rfl | rfl | rfl | rfl | rfl
     all_goals (have ho := (Option.some.inj hi).symm; subst ho; clear hi hlt hin)
     ·go_simp
      exact hK _ _ ⟨_, _, _, _, _, _, _, _, _, _, _, _, rfl, { h with f0 := fun _ => rfl }⟩
     ·have s_0 : S 0 = true := hall ⟨0, .data⟩ (by simp) rfl
      obtain rfl := h.f0 s_0
      have cW := (h.e.cell (p := ⟨g13, 0, none⟩) hgw).trans d0
      go_simp
      exact hK _ _ ⟨_, _, _, _, _, _, _, _, _, _, _, _, rfl, { h with f1 := fun _ => rfl }⟩
     ·have cW := (h.e.cell (p := ⟨p, 0, none⟩) hpw).trans m0
      have cW1 := (h.e.cell (p := ⟨p, 1, none⟩) hpw).trans m1
      go_simp
      exact hK _ _ ⟨_, _, _, _, _, _, _, _, _, _, _, _, rfl, { h with f2 := fun _ => rfl }⟩
     ·go_simp
      exact hK _ _ ⟨_, _, _, _, _, _, _, _, _, _, _, _, rfl, { h with f3 := fun _ => rfl }⟩
     ·have s_2 : S 2 = true := hall ⟨2, .data⟩ (by simp) rfl
      obtain rfl := h.f2 s_2
      have s_3 : S 3 = true := hall ⟨3, .data⟩ (by simp) rfl
      obtain rfl := h.f3 s_3
      go_simp
      refine (HA.out.1 W h.e).mono ?_
      rintro e w5 ⟨rfl, hb5⟩
      have h1 := h.grow hb5
      go_simp
      exact hK _ _ ⟨_, _, _, _, _, _, _, _, _, _, _, _, rfl, { h1 with f4 := fun _ => rfl }⟩
     ·have cW := (h.e.cell (p := ⟨p, 0, none⟩) hpw).trans m0
      have cW1 := (h.e.cell (p := ⟨p, 1, none⟩) hpw).trans m1
      go_simp
      exact hK _ _ ⟨_, _, _, _, _, _, _, _, _, _, _, _, rfl, { h with f5 := fun _ => rfl }⟩
     ·go_simp
      exact hK _ _ ⟨_, _, _, _, _, _, _, _, _, _, _, _, rfl, { h with f6 := fun _ => rfl }⟩
     ·have s_6 : S 6 = true := hall ⟨6, .data⟩ (by simp) rfl
      obtain rfl := h.f6 s_6
      go_simp
      exact hK _ _ ⟨_, _, _, _, _, _, _, _, _, _, _, _, rfl, { h with f7 := fun _ => rfl }⟩
     ·have s_5 : S 5 = true := hall ⟨5, .data⟩ (by simp) rfl
      obtain rfl := h.f5 s_5
      have s_7 : S 7 = true := hall ⟨7, .data⟩ (by simp) rfl
      obtain rfl := h.f7 s_7
      go_simp
      refine (HA.out.2.1 W h.e).mono ?_
      rintro e w5 ⟨rfl, hb5⟩
      have h1 := h.grow hb5
      go_simp
      exact hK _ _ ⟨_, _, _, _, _, _, _, _, _, _, _, _, rfl, { h1 with f8 := fun _ => rfl }⟩
     ·have s_4 : S 4 = true := hall ⟨4, .data⟩ (by simp) rfl
      obtain rfl := h.f4 s_4
      have s_8 : S 8 = true := hall ⟨8, .data⟩ (by simp) rfl
      obtain rfl := h.f8 s_8
      go_simp
      have h1 := h.grow ((Below.refl _ W).alloc (Nat.le_refl _) (.cells #[.string X1, .string X2] 9))
      exact hK _ _ ⟨_, _, _, _, _, _, _, _, _, _, _, _, rfl, { h1 with f9 := fun _ => ⟨W.heap.size, rfl, h.e.size, by simp, World.alloc_heap_new W _⟩ }⟩
     ·have s_9 : S 9 = true := hall ⟨9, .data⟩ (by simp) rfl
      obtain ⟨g9, rfl, hg9, hh9, hc9⟩ := h.f9 s_9
      go_simp
      refine (HA.out.2.2 g9 W h.e hh9 (by rw [Lib.cell_of_heap hc9]; rfl) (by rw [Lib.cell_of_heap hc9]; rfl)).mono ?_
      rintro e w5 ⟨rfl, hb5⟩
      have h1 := h.grow hb5
      go_simp
      exact hK _ _ ⟨_, _, _, _, _, _, _, _, _, _, _, _, rfl, { h1 with f10 := fun _ => rfl }⟩
     ·have s_10 : S 10 = true := hall ⟨10, .data⟩ (by simp) rfl
      obtain rfl := h.f10 s_10
      go_simp
      have h1 := h.grow ((Below.refl _ W).alloc (Nat.le_refl _) (.cells #[.string X3] 9))
      exact hK _ _ ⟨_, _, _, _, _, _, _, _, _, _, _, _, rfl, { h1 with f11 := fun _ => ⟨W.heap.size, rfl, h.e.size, by simp, World.alloc_heap_new W _⟩ }⟩
    ·rintro S aa W hall ⟨x25, x26, x27, x28, x29, x30, x31, x32, x33, x34, x35, x36, rfl, h⟩
     obtain rfl := h.f0 (hall 0 (by decide))
     obtain rfl := h.f1 (hall 1 (by decide))
     obtain rfl := h.f2 (hall 2 (by decide))
     obtain rfl := h.f3 (hall 3 (by decide))
     obtain rfl := h.f4 (hall 4 (by decide))
     obtain rfl := h.f5 (hall 5 (by decide))
     obtain rfl := h.f6 (hall 6 (by decide))
     obtain rfl := h.f7 (hall 7 (by decide))
     obtain rfl := h.f8 (hall 8 (by decide))
     obtain ⟨g9, rfl, hg9, hh9, hc9⟩ := h.f9 (hall 9 (by decide))
     obtain rfl := h.f10 (hall 10 (by decide))
     obtain ⟨gg, rfl, hgg, hhg, hcg⟩ := h.f11 (hall 11 (by decide))
     have BWD := h.e
     clear h hall
     simp only [List.drop_succ_cons, List.drop_zero]
     have hown2 := owns_below8 hown BWD
     have hzW : z ≤ W.heap.size := Nat.le_trans hzw BWD.size
     have BW2 := belowStep BW hzw BWD
     have hc2 := (BWD.block g13 hgw).trans hc13
     have HV : Hid (_ ∧ _ ∧ _) := ⟨hown2, hcg, hc2⟩
     clear hown BW BWD hown2 hcg hc2 d0 m0 m1 lW sW
     go_wp2_with (at_builtin; refine wpList_append_own _ rfl _ _ 27 rfl z 9 i0 (.string ⟨#[]⟩) 1 16 Tryz.underlying27 hi0 hz0 hz1 hz2 rfl (by decide) _ _ _ rfl HV.out.1 ⟨gg, 0, none⟩ 1 1 [.string X3] rfl rfl ?c1 (by intro u hu; simp at hu; subst hu; rfl) (by unfold maxLen; omega) (by omega) hzW ?_)
     case c1 =>
      intro j u hj
      rw [Addr.add_lit, Lib.cell_of_heap HV.out.2.1, Nat.zero_add]
      simpa using hj
     intro v' w6 hown' hgrow hiff
     obtain ⟨a1, c1, rfl⟩ := owns_slice hown'
     have hc3 : w6.heap[g13]? = some (.cells #[x26, .string h2] 161 (0, 0)) := (hgrow.block g13 (Array.getElem?_eq_some_iff.1 HV.out.2.2).1 (fun e => owns_apart HV.out.1 HV.out.2.2 e.symm)).trans HV.out.2.2
     have fz : ∀ o, w6.frozen? ⟨g13, o, none⟩ = false := fun o => by simp [World.frozen?, hc3]
     have d0 : w6.cell? ⟨g13, 0, none⟩ = some x26 := by rw [Lib.cell_of_heap hc3]; rfl
     have e13 := heap_setCell_self hc3 0 (Value.slice a1 (k + 1) c1)
     have ho := hown'.kept (grown_setCells [.slice a1 (k + 1) c1] 0 w6) (.inr (owns_apart hown' hc3))
     have BU6 : Below z U (w6.setCell ⟨g13, 0, none⟩ (.slice a1 (k + 1) c1)) := below_setCells' (b := g13) hg13 [.slice a1 (k + 1) c1] 0 _ (BW2.grown hgrow hzW (fun b hb => hr3 b hb))
     have hsz6 : z ≤ (w6.setCell ⟨g13, 0, none⟩ (.slice a1 (k + 1) c1)).heap.size := Nat.le_trans (Nat.le_trans hzW hgrow.size) (Nat.le_of_eq (setCells_size g13 [.slice a1 (k + 1) c1] 0 w6).symm)
     have HW : Hid (_ ∧ _ ∧ _ ∧ _) := ⟨e13, ho, BU6, hsz6⟩
     clear hown' hgrow hiff hc3 e13 ho BU6 hsz6
     go_wp2
     go_roundg (gk - 1)
     case measure => omega
     case rel =>
      obtain ⟨e13, ho, BU6, hsz6⟩ := HW.out
      refine ⟨k + 1, .slice a1 (k + 1) c1, by omega, by first | rfl | (congr 1; omega), BU6, hsz6, e13, ?_⟩
      rw [map_snoc, hq, HX.out.1, HX.out.2.1]
      unfold hs
      rw [HX.out.2.2]
      exact ho
   ·have l0 : ¬ (q : Int) < N := by omega
    have hk2 : k = M := by omega
    have hlen : (upL xs y).length = k := by unfold upL; rw [List.length_map, List.length_range, HN.out, hM, hk2]
    have hup : ((List.range k).map fun j => Value.string (hs (xs.getD (2 * j) y) (xs.getD (2 * j + 1) y))) = (upL xs y).map .string := by
     unfold upL
     rw [HN.out, hM, hk2, List.map_map]
     rfl
    rw [hup, ← hlen] at hown
    obtain ⟨a', c', rfl, hsl⟩ := slS_owns hown
    have BF := (BV.trans (BU.mono (by omega))).trans (BW.mono (by omega))
    rw [hlen] at hc13
    have d0 : wr.cell? ⟨g13, 0, none⟩ = some (.slice a' k c') := by rw [Lib.cell_of_heap hc13]; rfl
    have d1 : wr.cell? ⟨g13, 1, none⟩ = some (.string h2) := by rw [Lib.cell_of_heap hc13]; rfl
    have hbp := (BW.block (p + 1) hpv1).trans ((BU.block (p + 1) hpv1).trans hb1)
    have fz : ∀ o, wr.frozen? ⟨p + 1, o, none⟩ = false := fun o => by simp [World.frozen?, hbp]
    have r0 : wr.cell? ⟨p + 1, 0, none⟩ = some (.slice none 0 0) := by rw [Lib.cell_of_heap hbp]; rfl
    have r1 : wr.cell? ⟨p + 1, 1, none⟩ = some (.string ⟨#[]⟩) := by rw [Lib.cell_of_heap hbp]; rfl
    have e13 := heap_setCell_self (heap_setCell_self hbp 0 (.slice a' k c')) 1 (.string h2)
    have BF2 : Below p w ((wr.setCell ⟨p + 1, 0, none⟩ (.slice a' k c')).setCell ⟨p + 1, 1, none⟩ (.string h2)) := below_setCells' (b := p + 1) (by omega) [.string h2] 1 _ (below_setCells' (b := p + 1) (by omega) [.slice a' k c'] 0 _ BF)
    have hs2 := owns_sl2 hown (cs := #[.slice none 0 0, .string ⟨#[]⟩]) hbp (.slice a' k c') (.string h2)
    have HF : Hid (_ ∧ _ ∧ _ ∧ _) := ⟨hs2, hlen, BF2, e13⟩
    clear hown hsl BW BU hc13 hup hbp hs2 BF BF2 e13
    subst hk2
    go_wp2
    obtain ⟨hs2, hlen, BF2, e13⟩ := HF.out
    have t0 : ((wr.setCell ⟨p + 1, 0, none⟩ (.slice a' k c')).setCell ⟨p + 1, 1, none⟩ (.string h2)).cell? ⟨p + 1, 0, none⟩ = some (.slice a' k c') := by rw [Lib.cell_of_heap e13]; rfl
    have t1 : ((wr.setCell ⟨p + 1, 0, none⟩ (.slice a' k c')).setCell ⟨p + 1, 1, none⟩ (.string h2)).cell? ⟨p + 1, 1, none⟩ = some (.string h2) := by rw [Lib.cell_of_heap e13]; rfl
    refine bodyPost_ret (v := .agg #[.slice a' k c', .string h2]) (by simp [results, Tryz.results169, go_sem, t0, t1]) rfl ⟨⟨a', c', ?_, slF_mono hs2 (by omega)⟩, BF2⟩
    rw [hlen]
    unfold hs
    rw [HH.out]
end Go.Proofs.YtoddangedbefgaaGreatDoor
namespace Go.Proofs.YtoddangedbefgaaGreatDoor
open Go.RowKit Go.Shelf Go.Sort

def cOk (x : ByteArray) : Bool := decide (x.size = 32)
set_option maxRecDepth 20000 in
set_option maxHeartbeats 1000000 in
theorem notChunk_any (x : ByteArray) (w : World) :
  Calls Tryz.prog 167 #[.string x] w fun r w' => r = .returned (.bool (!cOk x)) ∧ Below w.heap.size w w' := by
 have K := isChunk_any x
 have e : decide (x.size = 32) = cOk x := rfl
 rw [e] at K
 obtain ⟨ok, hok⟩ : ∃ q, cOk x = q := ⟨_, rfl⟩
 rw [hok] at K ⊢
 clear hok e
 go_enter Tryz.func167, Tryz.ntmps167
 go_wp2_with fail
 refine (K _).mono ?_
 rintro e w1 ⟨rfl, rfl⟩
 clear K
 go_wp2
 go_ret
 exact ⟨rfl, Below.refl _ _⟩

def IxC (es : List ByteArray) (r : Ending) : Prop := ∃ i : Int, r = .returned (.int .i64 i) ∧ decide (0 ≤ i) = !es.all cOk
theorem IxC.at {es : List ByteArray} {k : Nat} {e : ByteArray} (he : es[k]? = some e) (h : cOk e = false) : IxC es (.returned (.int .i64 (k : Int))) := by
 refine ⟨k, rfl, ?_⟩
 have : es.all cOk = false := List.all_eq_false.2 ⟨e, List.mem_of_getElem? he, by rw [h]; decide⟩
 rw [this]
 exact decide_eq_true (by omega)
theorem IxC.none {es : List ByteArray} (h : ∀ (j : Nat) (e : ByteArray), es[j]? = some e → cOk e = true) : IxC es (.returned (.int .i64 (-1))) := by
 refine ⟨-1, rfl, ?_⟩
 have : es.all cOk = true := List.all_eq_true.2 fun e he => by
  obtain ⟨j, hj⟩ := List.mem_iff_getElem?.1 he
  exact h j e hj
 rw [this]
 rfl

set_option maxRecDepth 20000 in
set_option maxHeartbeats 1000000 in
theorem indexFunc_any (es : List ByteArray) (hl : es.length < 1000000) (a : Option Addr) (c n : Nat) (w : World) (hn : n ≤ w.heap.size) (hp : slS n w a es) :
  Calls Tryz.prog 185 #[.slice a es.length c, .func (.func 167) #[] #[]] w fun r w' => IxC es r ∧ Below w.heap.size w w' := by
 obtain ⟨N, hN⟩ : ∃ N, es.length = N := ⟨_, rfl⟩
 have HN : Hid (es.length = N) := hN
 rw [hN] at hl ⊢
 clear hN
 obtain ⟨z, hz⟩ : ∃ z, w.heap.size = z := ⟨_, rfl⟩
 rw [hz] at hn ⊢
 have B0 : Below z w w := by rw [← hz]; exact Below.refl _ _
 have HZ : Hid _ := hz
 clear hz
 go_enter Tryz.func185, Tryz.ntmps185
 go_wp2_with fail
 go_loopg [8] N (fun gk i wr => ∃ k : Nat, k + gk = N ∧ i = .int .i64 k ∧ (∀ (j : Nat) (e : ByteArray), j < k → es[j]? = some e → cOk e = true) ∧ Below z w wr)
 case atStart => exact ⟨0, by omega, rfl, fun j e h => by omega, B0⟩
 case round =>
  obtain ⟨k, hk, rfl, hA, BW⟩ := hrel
  have HA : Hid _ := hA
  clear hA
  have hwz : z ≤ wr.heap.size := by have := BW.size; have := HZ.out; omega
  by_cases hlt : k < N
  ·have l1 : (k : Int) < N := by omega
   obtain ⟨f, hf⟩ : ∃ f, es[k]? = some f := ⟨es[k]'(by have := HN.out; omega), List.getElem?_eq_getElem (by have := HN.out; omega)⟩
   obtain ⟨b, o, rfl, hb, c0⟩ := slS_at hp k f hf
   replace c0 := (BW.cell (p := ⟨b, _, none⟩) (by show b < z; omega)).trans c0
   obtain ⟨r, hr⟩ : ∃ p, o + k = p := ⟨_, rfl⟩
   rw [hr] at c0
   have wk : IntKind.i64.wrap ((k : Int) + 1) = ((k + 1 : Nat) : Int) := by rw [IntKind.wrap_i64]; omega
   have KW := notChunk_any f
   obtain ⟨ok, hok⟩ : ∃ q, cOk f = q := ⟨_, rfl⟩
   rw [hok] at KW
   have HF : Hid (_ ∧ _) := ⟨hf, hok⟩
   clear hf hok
   go_wp2_with fail
   refine (KW _).mono ?_
   rintro e w3 ⟨rfl, B3⟩
   clear KW c0
   cases ok with
   | false =>
    go_wp2
    go_ret
    exact ⟨IxC.at HF.out.1 HF.out.2, belowStep BW hwz B3⟩
   | true =>
    go_wp2
    go_roundg (gk - 1)
    case measure => omega
    case rel =>
     refine ⟨k + 1, by omega, by first | rfl | (congr 1; omega), fun j e hj he => ?_, belowStep BW hwz B3⟩
     by_cases hjk : j = k
     ·subst hjk
      rw [HF.out.1] at he
      cases he
      exact HF.out.2
     ·exact HA.out j e (by omega) he
  ·have l1 : ¬ (k : Int) < N := by omega
   go_wp2
   go_ret
   exact ⟨IxC.none fun j e he => HA.out j e (by have := (List.getElem?_eq_some_iff.1 he).1; have := HN.out; omega) he, BW⟩

set_option maxRecDepth 20000 in
set_option maxHeartbeats 1000000 in
theorem containsFunc_any (es : List ByteArray) (hl : es.length < 1000000) (a : Option Addr) (c n : Nat) (w : World) (hn : n ≤ w.heap.size) (hp : slS n w a es) :
  Calls Tryz.prog 166 #[.slice a es.length c, .func (.func 167) #[] #[]] w fun r w' => r = .returned (.bool (!es.all cOk)) ∧ Below w.heap.size w w' := by
 have KI := indexFunc_any es hl a c n w hn hp
 obtain ⟨N, hN⟩ : ∃ N, es.length = N := ⟨_, rfl⟩
 rw [hN] at KI ⊢
 go_enter Tryz.func166, Tryz.ntmps166
 go_wp2_with fail
 refine KI.mono ?_
 rintro e w1 ⟨⟨i, rfl, hi⟩, B1⟩
 have HI : Hid _ := hi
 clear hi KI
 go_wp2
 go_ret
 exact ⟨by rw [← HI.out]; rfl, B1⟩

theorem all_cOk (xs : List ByteArray) : xs.all cOk = true ↔ ∀ x ∈ xs, x.size = 32 := by
 rw [List.all_eq_true]
 constructor
 ·intro h x hx
  exact of_decide_eq_true (h x hx)
 ·intro h x hx
  exact decide_eq_true (h x hx)
theorem rt8_no {xs : List ByteArray} {d : Int} (h : ¬ (0 ≤ d ∧ d ≤ 10 ∧ xs.length ≤ 2 ^ d.toNat ∧ xs.length ≤ 256)) : rt8 xs d = false := decide_eq_false fun hh => h ⟨hh.1, hh.2.1, hh.2.2.1, hh.2.2.2.1⟩
theorem rt8_all {xs : List ByteArray} {d : Int} (h : 0 ≤ d ∧ d ≤ 10 ∧ xs.length ≤ 2 ^ d.toNat ∧ xs.length ≤ 256) : rt8 xs d = xs.all cOk := by
 rw [Bool.eq_iff_iff, rt8_iff, all_cOk]
 exact ⟨fun hh => hh.2.2.2.2, fun hh => ⟨h.1, h.2.1, h.2.2.1, h.2.2.2, hh⟩⟩

set_option maxRecDepth 20000 in
set_option maxHeartbeats 1000000 in
theorem haveTree_any (xs : List ByteArray) (d : Int) (a : Option Addr) (c n : Nat) (w : World) (hn : n ≤ w.heap.size) (hp : slS n w a xs) :
  Calls Tryz.prog 131 #[.slice a xs.length c, .int .i64 d] w fun r w' => r = .returned (.bool (rt8 xs d)) ∧ Below w.heap.size w w' := by
 obtain ⟨N, hN⟩ : ∃ N, xs.length = N := ⟨_, rfl⟩
 by_cases h0 : d < 0
 ·rw [rt8_no (by omega), hN]
  go_enter Tryz.func131, Tryz.ntmps131
  go_wp2
  go_ret
  exact ⟨rfl, Below.refl _ _⟩
 ·by_cases h1 : 10 < d
  ·rw [rt8_no (by omega), hN]
   go_enter Tryz.func131, Tryz.ntmps131
   go_wp2
   go_ret
   exact ⟨rfl, Below.refl _ _⟩
  ·obtain ⟨k, rfl⟩ : ∃ k : Nat, d = (k : Int) := ⟨d.toNat, by omega⟩
   have hk : k ≤ 10 := by omega
   have hpow : 2 ^ k ≤ 1024 := Nat.pow_le_pow_right (by decide) hk
   have hmin : min k 64 = k := by omega
   obtain ⟨q, hq⟩ : ∃ q, 2 ^ k = q := ⟨_, rfl⟩
   have hqi : (2 : Int) ^ k = (q : Int) := by rw [← hq]; simp
   have wq : IntKind.i64.wrap (q : Int) = q := by rw [IntKind.wrap_i64]; omega
   obtain ⟨m, hm⟩ : ∃ m, min q 256 = m := ⟨_, rfl⟩
   have hmi : min (q : Int) 256 = m := by omega
   by_cases h2 : m < N
   ·rw [rt8_no (by rw [Int.toNat_natCast, hq, hN]; omega), hN]
    have l2 : (m : Int) < N := by omega
    go_enter Tryz.func131, Tryz.ntmps131
    go_wp2
    go_ret
    exact ⟨rfl, Below.refl _ _⟩
   ·have KC := containsFunc_any xs (by omega) a c n w hn hp
    rw [rt8_all (by rw [Int.toNat_natCast, hq, hN]; omega)]
    have l2 : ¬ (m : Int) < N := by omega
    rw [hN] at KC ⊢
    obtain ⟨ok, hok⟩ : ∃ q, xs.all cOk = q := ⟨_, rfl⟩
    rw [hok] at KC ⊢
    clear hok
    go_enter Tryz.func131, Tryz.ntmps131
    go_wp2_with fail
    refine KC.mono ?_
    rintro e w1 ⟨rfl, B1⟩
    clear KC
    go_wp2
    go_ret
    exact ⟨by simp, B1⟩
end Go.Proofs.YtoddangedbefgaaGreatDoor
namespace Go.Proofs.YtoddangedbefgaaGreatDoor
open Go.RowKit Go.Shelf

abbrev Lr (fn : FuncId) (tmps : Array Value) (ps : Array Tmp) (assign body : Code) (B : Nat) (st : LoopState) (pe : Option Code) : Loop := { state := st, pending := pe, fn := fn, tmps := tmps, params := ps, assign := assign, body := body, defers := B }
def Rc (B : Nat) (r : Loop) (W : World) : Prop := W.heap[B + 1]? = some (.loop r) ∧ W.heap[B]? = some (.deferred (some []))
theorem Rc.lt {B : Nat} {r : Loop} {W : World} (h : Rc B r W) : B + 1 < W.heap.size := (Array.getElem?_eq_some_iff.1 h.1).1
theorem Rc.put {B : Nat} {r : Loop} {W : World} (h : Rc B r W) (r' : Loop) : Rc B r' (W.putObj (B + 1) (.loop r')) := ⟨World.putObj_heap_same h.lt, (World.putObj_heap_other (by omega)).trans h.2⟩
theorem Rc.below {B : Nat} {r : Loop} {W W' : World} (h : Rc B r W) (hb : Below W.heap.size W W') : Rc B r W' := ⟨(hb.block _ h.lt).trans h.1, (hb.block _ (by have := h.lt; omega)).trans h.2⟩
def rdP (B : Nat) (mk : LoopState → Option Code → Loop) (R : Ending → World → Prop) : Exit → Act → World → Prop
 | .normal, _, W => Rc B (mk .busy none) W ∧ R (.returned (.bool true)) (W.putObj (B + 1) (.loop (mk .ready none)))
 | .exit id, _, W => Rc B (mk .busy none) W ∧ R (.returned (.bool false)) (W.putObj (B + 1) (.loop (mk .done (some (.exit id)))))
 | _, _, _ => False
theorem yield_of {m : Nat} {P : Program} {fn : FuncId} {tmps : Array Value} {ps : Array Tmp} {assign body : Code} {B : Nat} {args : Array Value} {W : World} {R : Ending → World → Prop} (hr : Rc B (Lr fn tmps ps assign body B .ready none) W) (hz : args.size = ps.size)
  (h : assign.wpIn (Fence.wide.inRound (B + 1)) m P (Exit.then (fun a1 W1 => Rc B (Lr fn tmps ps assign body B .ready none) W1 ∧ body.wpIn (Fence.wide.inRound (B + 1)) m P (rdP B (Lr fn tmps ps assign body B) R) a1 (W1.putObj (B + 1) (.loop (Lr fn tmps ps assign body B .busy none)))) (fun _ _ _ => False)) { tmps := (ps.zip args).foldl (fun t (p, v) => t.setIfInBounds p v) tmps, defers := [] } W) :
  YieldAt Fence.wide m P (B + 1) args W R := by
 refine ⟨fn, _, assign, body, run_yield hr.1 hz, roundIn_of_wpIn trivial (wpIn_mono h ?_)⟩
 intro e a1 W1 he
 cases e with
 | normal =>
  obtain ⟨h1, h2⟩ := he
  refine ⟨_, run_beginRound h1.1 rfl, wpIn_mono h2 ?_⟩
  intro e2 a2 W2 he2
  cases e2 with
  | normal => exact ⟨_, _, run_endRound none he2.1.1, he2.2⟩
  | exit id => exact ⟨_, _, run_endRound (some (.exit id)) he2.1.1, he2.2⟩
  | ret => exact he2.elim
  | goto t => exact he2.elim
  | panic c => exact he2.elim
  | outgrown => exact he2.elim
 | ret => exact he.elim
 | exit id => exact he.elim
 | goto t => exact he.elim
 | panic c => exact he.elim
 | outgrown => exact he.elim
theorem range_of {n : Nat} {P : Program} {g : Operand} {ps : Array Tmp} {assign body : Code} {Q : Exit → Act → World → Prop} {a : Act} {w : World} (h1 : 1 ≤ n) {gf : Nat} {lb : Array Value} (hg : a.eval g = .func (.func gf) #[] lb) (eg : ∀ args w, (callFunc gf args).run P w = .ok (.enter gf args) w)
  (h : ∀ fn W1, Below w.heap.size w W1 → W1.heap.size = w.heap.size + 2 → Rc w.heap.size (Lr fn a.tmps ps assign body w.heap.size .ready none) W1 →
   CallsIn Fence.wide (n - 1) P gf (#[.func (.yield (w.heap.size + 1)) #[] #[]] ++ lb) W1 fun e W2 => (∃ v, e = .returned v) ∧
    ((Rc w.heap.size (Lr fn a.tmps ps assign body w.heap.size .ready none) W2 ∧ Q .normal { a with defers := { target := .collected w.heap.size, args := #[] } :: a.defers } (W2.putObj (w.heap.size + 1) (.loop (Lr fn a.tmps ps assign body w.heap.size .exhausted none)))) ∨
    (∃ c, Rc w.heap.size (Lr fn a.tmps ps assign body w.heap.size .done (some c)) W2 ∧ c.wpIn Fence.wide n P Q { a with defers := { target := .collected w.heap.size, args := #[] } :: a.defers } (W2.putObj (w.heap.size + 1) (.loop (Lr fn a.tmps ps assign body w.heap.size .exhausted (some c))))))) :
  (Code.rangeFunc g ps assign body).wpIn Fence.wide n P Q a w := by
 refine wpIn_rangeFunc ?_
 intro fn _
 rw [show Fence.wide.round = none from rfl]
 have two := z_alloc_two w (.deferred (some [])) (.loop (Lr fn a.tmps ps assign body w.heap.size .ready none))
 have hB : Below w.heap.size w ((w.alloc (.deferred (some []))).alloc (.loop (Lr fn a.tmps ps assign body w.heap.size .ready none))) := ((Below.refl _ w).alloc (Nat.le_refl _) _).alloc (by simp) _
 have hN : ((w.alloc (.deferred (some []))).alloc (.loop (Lr fn a.tmps ps assign body w.heap.size .ready none))).heap.size = w.heap.size + 2 := by simp
 have hE := run_enterLoop_outer (P := P) (w := w) fn a.tmps ps assign body
 obtain ⟨W1, hW⟩ : ∃ W1, (w.alloc (.deferred (some []))).alloc (.loop (Lr fn a.tmps ps assign body w.heap.size .ready none)) = W1 := ⟨_, rfl⟩
 rw [hW] at two hB hN
 have hE2 : (Instr.enterLoop fn a.tmps ps assign body none).run P w = .ok (w.heap.size + 1, [{ target := .collected w.heap.size, args := #[] }]) W1 := by rw [← hW]; exact hE
 refine ⟨w.heap.size + 1, [{ target := .collected w.heap.size, args := #[] }], W1, { target := .fn (.func gf) lb, args := #[.func (.yield (w.heap.size + 1)) #[] #[]] }, W1, gf, #[.func (.yield (w.heap.size + 1)) #[] #[]] ++ lb, W1, hE2, ?_, fun _ _ => trivial, ?_, fun _ => h1, ?_⟩
 ·simp only [resolve, hg]
  simp [go_sem]
 ·simp [invoke, go_sem, eg]
 refine (h fn W1 hB hN ⟨two.2, two.1⟩).mono ?_
 rintro e W2 ⟨⟨v, rfl⟩, ⟨hr, hq⟩ | ⟨c, hr, hq⟩⟩
 ·exact ⟨none, _, run_endLoop hr.1 (by simp), hq⟩
 ·exact ⟨some c, _, run_endLoop hr.1 (by simp), hq⟩
def Kq (q : Nat) (A C : World) : Prop := A.grownBy C (some q)
theorem Kq.below {q : Nat} {A C : World} (h : Below A.heap.size A C) : Kq q A C := ⟨h.os, h.tape, h.output, h.size, fun k hk _ => h.block k hk⟩
theorem Kq.trans {q : Nat} {A B C : World} (h : Kq q A B) (g : Kq q B C) : Kq q A C := ⟨g.os.trans h.os, g.tape.trans h.tape, g.output.trans h.output, Nat.le_trans h.size g.size, fun k hk h1 => (g.block k (Nat.lt_of_lt_of_le hk h.size) h1).trans (h.block k hk h1)⟩
theorem Kq.put (W : World) (q o : Nat) (v : Value) : Kq q W (W.setCell ⟨q, o, none⟩ v) := grown_setCells (g := q) [v] o W
theorem Kq.at {q : Nat} {A C : World} (h : Kq q A C) {k : Nat} (hk : k < A.heap.size) (hn : k ≠ q) : C.heap[k]? = A.heap[k]? := h.block k hk (fun e => hn (by cases e; rfl))
theorem Kq.obj (W : World) (q : Nat) (o : Obj) : Kq q W (W.putObj q o) := grownBy_putObj' W q o
theorem Kq.low {p q : Nat} {w A C : World} (h : Below p w A) (hp : p ≤ A.heap.size) (hq : p ≤ q) (k : Kq q A C) : Below p w C := h.grown k hp (fun b e => by cases e; exact hq)
def rdQ (B : Nat) (mk : LoopState → Option Code → Loop) (R : Ending → World → Prop) : Exit → Act → World → Prop
 | .normal, _, W => Rc B (mk .busy none) W ∧ ∀ U, Rc B (mk .ready none) U → Kq (B + 1) W U → R (.returned (.bool true)) U
 | .exit id, _, W => Rc B (mk .busy none) W ∧ ∀ U, Rc B (mk .done (some (.exit id))) U → Kq (B + 1) W U → R (.returned (.bool false)) U
 | _, _, _ => False
theorem yield_to {m : Nat} {P : Program} {fn : FuncId} {tmps : Array Value} {ps : Array Tmp} {assign body : Code} {B : Nat} {args : Array Value} {W : World} {R : Ending → World → Prop} (mk : LoopState → Option Code → Loop) (hmk : Lr fn tmps ps assign body B = mk) (hr : Rc B (mk .ready none) W) (hz : args.size = ps.size)
  (h : assign.wpIn (Fence.wide.inRound (B + 1)) m P (Exit.then (fun a1 W1 => Rc B (mk .ready none) W1 ∧ ∀ U, Rc B (mk .busy none) U → Kq (B + 1) W1 U → body.wpIn (Fence.wide.inRound (B + 1)) m P (rdQ B mk R) a1 U) (fun _ _ _ => False)) { tmps := (ps.zip args).foldl (fun t (p, v) => t.setIfInBounds p v) tmps, defers := [] } W) :
  YieldAt Fence.wide m P (B + 1) args W R := by
 subst hmk
 refine yield_of hr hz (wpIn_mono h ?_)
 intro e a1 W1 he
 cases e with
 | normal =>
  obtain ⟨h1, h2⟩ := he
  refine ⟨h1, wpIn_mono (h2 _ (h1.put _) (Kq.obj _ _ _)) ?_⟩
  intro e2 a2 W2 he2
  cases e2 with
  | normal => exact ⟨he2.1, he2.2 _ (he2.1.put _) (Kq.obj _ _ _)⟩
  | exit id => exact ⟨he2.1, he2.2 _ (he2.1.put _) (Kq.obj _ _ _)⟩
  | ret => exact he2.elim
  | goto t => exact he2.elim
  | panic c => exact he2.elim
  | outgrown => exact he2.elim
 | ret => exact he.elim
 | exit id => exact he.elim
 | goto t => exact he.elim
 | panic c => exact he.elim
 | outgrown => exact he.elim
theorem range_to {n : Nat} {P : Program} {g : Operand} {ps : Array Tmp} {assign body : Code} {Q : Exit → Act → World → Prop} {a : Act} {w : World} (h1 : 1 ≤ n) {gf : Nat} {lb : Array Value} (hg : a.eval g = .func (.func gf) #[] lb) (eg : ∀ args w, (callFunc gf args).run P w = .ok (.enter gf args) w)
  (h : ∀ fn mk W1, Lr fn a.tmps ps assign body w.heap.size = mk → Below w.heap.size w W1 → W1.heap.size = w.heap.size + 2 → Rc w.heap.size (mk .ready none) W1 →
   CallsIn Fence.wide (n - 1) P gf (#[.func (.yield (w.heap.size + 1)) #[] #[]] ++ lb) W1 fun e W2 => (∃ v, e = .returned v) ∧
    ((Rc w.heap.size (mk .ready none) W2 ∧ ∀ U, U.heap[w.heap.size]? = some (.deferred (some [])) → Kq (w.heap.size + 1) W2 U → Q .normal { a with defers := { target := .collected w.heap.size, args := #[] } :: a.defers } U) ∨
    (∃ c, Rc w.heap.size (mk .done (some c)) W2 ∧ ∀ U, U.heap[w.heap.size]? = some (.deferred (some [])) → Kq (w.heap.size + 1) W2 U → c.wpIn Fence.wide n P Q { a with defers := { target := .collected w.heap.size, args := #[] } :: a.defers } U))) :
  (Code.rangeFunc g ps assign body).wpIn Fence.wide n P Q a w := by
 refine range_of h1 hg eg fun fn W1 hB hs hr => (h fn _ W1 rfl hB hs hr).mono ?_
 rintro e W2 ⟨he, ⟨hr, hq⟩ | ⟨c, hr, hq⟩⟩
 ·exact ⟨he, .inl ⟨hr, hq _ (hr.put _).2 (Kq.obj _ _ _)⟩⟩
 ·exact ⟨he, .inr ⟨c, hr, hq _ (hr.put (Lr fn a.tmps ps assign body w.heap.size .exhausted (some c))).2 (Kq.obj _ _ _)⟩⟩
end Go.Proofs.YtoddangedbefgaaGreatDoor
namespace Go.Proofs.YtoddangedbefgaaGreatDoor
open Go.RowKit Go.Shelf
attribute [local go_sem] Oper.semAt_some

def lvl (xs : List ByteArray) : Nat → List ByteArray
 | 0 => xs
 | k + 1 => upL (lvl xs k) (zr k)
theorem upL_getD (ys : List ByteArray) (y : ByteArray) (i : Nat) : (upL ys y).getD i (hs y y) = hs (ys.getD (2 * i) y) (ys.getD (2 * i + 1) y) := by
 unfold upL
 rw [List.getD_eq_getElem?_getD, List.getElem?_map]
 by_cases h : i < (ys.length + 1) / 2
 ·rw [List.getElem?_range h]
  rfl
 ·rw [List.getElem?_eq_none (by rw [List.length_range]; omega)]
  show hs y y = _
  rw [List.getD_eq_getElem?_getD, List.getD_eq_getElem?_getD, List.getElem?_eq_none (by omega), List.getElem?_eq_none (by omega)]
  rfl
theorem lvl_at (xs : List ByteArray) : ∀ k i, (lvl xs k).getD i (zr k) = lf (lvs xs) k i
 | 0, _ => rfl
 | k + 1, i => by
  show (upL (lvl xs k) (zr k)).getD i (hs (zr k) (zr k)) = hs _ _
  rw [upL_getD, lvl_at xs k, lvl_at xs k]
theorem lvl_len (xs : List ByteArray) : ∀ k, (lvl xs k).length = ln xs.length k
 | 0 => rfl
 | k + 1 => by
  show (upL (lvl xs k) (zr k)).length = (ln xs.length k + 1) / 2
  unfold upL
  rw [List.length_map, List.length_range, lvl_len xs k]
theorem lvl_size (xs : List ByteArray) (h : ∀ x ∈ xs, x.size = 32) : ∀ k, ∀ x ∈ lvl xs k, x.size = 32
 | 0 => h
 | k + 1 => fun x hx => by
  obtain ⟨j, _, rfl⟩ := List.mem_map.1 hx
  exact hs_size _ _

set_option maxHeartbeats 1000000 in
theorem levels_any (a : Option Addr) (m c : Nat) (d : Int) (w : World) :
  Calls Tryz.prog 132 #[.slice a m c, .int .i64 d] w fun e w' => e = .returned (.func (.func 168) #[] #[.pointer (some ⟨w.heap.size, 0, none⟩), .pointer (some ⟨w.heap.size + 1, 0, none⟩)]) ∧ w' = (w.alloc (.cells #[.slice a m c] 27)).alloc (.cells #[.int .i64 d] 3) := by
 go_enter Tryz.func132, Tryz.ntmps132
 go_wp2
 go_ret
 exact ⟨rfl, rfl⟩

def Kz (n0 n1 l : Nat) (A C : World) : Prop := A.heap.size ≤ C.heap.size ∧ ∀ k, k < A.heap.size → ¬ (n0 ≤ k ∧ k < n1) → k ≠ l → C.heap[k]? = A.heap[k]?
theorem Kz.refl (n0 n1 l : Nat) (A : World) : Kz n0 n1 l A A := ⟨Nat.le_refl _, fun _ _ _ _ => rfl⟩
theorem Kz.trans {n0 n1 l : Nat} {A B C : World} (h : Kz n0 n1 l A B) (g : Kz n0 n1 l B C) : Kz n0 n1 l A C := ⟨Nat.le_trans h.1 g.1, fun k hk h1 h2 => (g.2 k (Nat.lt_of_lt_of_le hk h.1) h1 h2).trans (h.2 k hk h1 h2)⟩
theorem Kz.below {n0 n1 l : Nat} {A C : World} (h : Below A.heap.size A C) : Kz n0 n1 l A C := ⟨h.size, fun k hk _ _ => h.block k hk⟩
theorem Kz.cell {n0 n1 l : Nat} {A C : World} (h : Kz n0 n1 l A C) {b : Nat} (hb : b < A.heap.size) (h1 : ¬ (n0 ≤ b ∧ b < n1)) (h2 : b ≠ l) (o : Nat) : C.cell? ⟨b, o, none⟩ = A.cell? ⟨b, o, none⟩ := World.cell?_of_block (w := A) (a := ⟨b, o, none⟩) (h.2 b hb h1 h2)
def slZ (n0 n1 l q : Nat) (W : World) (a : Option Addr) (xs : List ByteArray) : Prop := xs = [] ∨ ∃ b o, a = some ⟨b, o, none⟩ ∧ b < W.heap.size ∧ ¬ (n0 ≤ b ∧ b < n1) ∧ (b ≠ l ∧ b ≠ q) ∧ ∀ j x, xs[j]? = some x → W.cell? ⟨b, o + j, none⟩ = some (.string x)
theorem slZ.kz {n0 n1 l q : Nat} {A C : World} (h : Kz n0 n1 l A C) {a : Option Addr} {xs : List ByteArray} (hs : slZ n0 n1 l q A a xs) : slZ n0 n1 l q C a xs := by
 rcases hs with e | ⟨b, o, h1, h2, h3, h4, h5⟩
 ·exact .inl e
 ·exact .inr ⟨b, o, h1, Nat.lt_of_lt_of_le h2 h.1, h3, h4, fun j x hx => (h.cell h2 h3 h4.1 _).trans (h5 j x hx)⟩
theorem slZ.slS {n0 n1 l q : Nat} {A : World} {a : Option Addr} {xs : List ByteArray} (hs : slZ n0 n1 l q A a xs) : slS A.heap.size A a xs := by
 rcases hs with e | ⟨b, o, h1, h2, h3, h4, h5⟩
 ·exact .inl e
 ·exact .inr ⟨b, o, h1, h2, h5⟩
theorem slZ.ofF {n0 n1 l q m : Nat} {A : World} {a : Option Addr} {xs : List ByteArray} (hs : slF m A a xs) (h1 : n1 ≤ m) (h2 : l < m) (h3 : q < m) : slZ n0 n1 l q A a xs := by
 rcases hs with e | ⟨b, o, k1, k2, k3, k4⟩
 ·exact .inl e
 ·exact .inr ⟨b, o, k1, k3, by omega, ⟨by omega, by omega⟩, k4⟩
theorem slZ.kq {n0 n1 l q : Nat} {A C : World} (h : Kq q A C) {a : Option Addr} {xs : List ByteArray} (hs : slZ n0 n1 l q A a xs) : slZ n0 n1 l q C a xs := by
 rcases hs with e | ⟨b, o, h1, h2, h3, h4, h5⟩
 ·exact .inl e
 ·exact .inr ⟨b, o, h1, Nat.lt_of_lt_of_le h2 h.size, h3, h4, fun j x hx => (World.cell?_of_block (w := A) (a := ⟨b, o + j, none⟩) (h.at h2 h4.2)).trans (h5 j x hx)⟩
theorem Fw.kz {n N n0 n1 l : Nat} {g : Nat → Value} {A C : World} (h : Fw n N g A) (hk : Kz n0 n1 l A C) (h1 : n < n0) (h2 : n ≠ l) : Fw n N g C :=
 ⟨Nat.lt_of_lt_of_le h.z hk.1, fun j hj => (hk.cell h.z (by omega) h2 j).trans (h.c j hj), fun o => by rw [← h.f o]; simp only [World.frozen?, hk.2 n h.z (by omega) h2]⟩
theorem Laid.kz {n0 n1 l : Nat} {A C : World} (h : Laid A) (hk : Kz n0 n1 l A C) (h1 : 2 < n0) (h2 : 2 < l) : Laid C := ⟨h.k.kz hk (by omega) (by omega), h.h.kz hk (by omega) (by omega)⟩
theorem Kz.put {n0 n1 l : Nat} (W : World) (o : Obj) : Kz n0 n1 l W (W.putObj l o) := ⟨(grownBy_putObj' W l o).size, fun k hk _ h => (grownBy_putObj' W l o).block k hk (fun e => h (by cases e; rfl))⟩
theorem Kz.set {n0 n1 l b : Nat} (W : World) (o : Nat) (v : Value) (h0 : n0 ≤ b) (h1 : b < n1) : Kz n0 n1 l W (W.setCell ⟨b, o, none⟩ v) := ⟨(grown_setCells (g := b) [v] o W).size, fun k hk h _ => (grown_setCells (g := b) [v] o W).block k hk (fun e => by cases e; exact h ⟨h0, h1⟩)⟩
theorem below_put {p l : Nat} {w W : World} (h : Below p w W) (hp : p ≤ W.heap.size) (hl : p ≤ l) (o : Obj) : Below p w (W.putObj l o) := h.grown (grownBy_putObj' W l o) hp (fun k e => by cases e; exact hl)

set_option maxRecDepth 100000 in
set_option maxHeartbeats 2000000 in
theorem levels1_in (n l n0 n1 bX bY : Nat) (xs : List ByteArray) (hxs : xs.length ≤ 256) (h32 : ∀ x ∈ xs, x.size = 32) (d : Nat) (hd : d ≤ 10) (a : Option Addr) (c : Nat) (h1n : 2 < n0) (h01 : n0 ≤ n1) (hnl : n1 < l) (hY1 : ¬ (n0 ≤ bY ∧ bY < n1)) (hY2 : bY ≠ l)
  (J Jx : Nat → World → Prop) (q : Nat) (hJ : ∀ k A C, J k A → Kq q A C → J k C)
  (hY : ∀ m k a c W, J k W → k ≤ d → slZ n0 n1 l q W a (lvl xs k) → YieldAt Fence.wide m Tryz.prog l #[.int .i64 (k : Int), .agg #[.slice a (lvl xs k).length c, .string (zr k)]] W fun e W' =>
   (e = .returned (.bool true) ∧ J (k + 1) W' ∧ Kz n0 n1 l W W') ∨ (e = .returned (.bool false) ∧ Jx k W'))
  (W : World) (hl : Laid W) (hlW : l < W.heap.size) (hbY : bY < W.heap.size) (hcX : W.cell? ⟨bX, 0, none⟩ = some (.slice a xs.length c)) (hcY : W.cell? ⟨bY, 0, none⟩ = some (.int .i64 (d : Int))) (hs : slZ n0 n1 l q W a xs) (hq : W.heap.size = q) (h0 : J 0 W) :
  CallsIn Fence.wide n Tryz.prog 168 #[.func (.yield l) #[] #[], .pointer (some ⟨bX, 0, none⟩), .pointer (some ⟨bY, 0, none⟩)] W fun e W' => (∃ v, e = .returned v) ∧ (J (d + 1) W' ∨ ∃ k, k ≤ d ∧ Jx k W') := by
 refine callsIn_of_wp Tryz.func168 rfl trivial ?_ rfl
 simp only [Tryz.ntmps168, List.size_toArray, List.length_cons, List.length_nil, Nat.reduceAdd, Nat.reduceSub, Array.replicate_succ, Array.replicate_zero, List.push_toArray, List.append_toArray, List.nil_append, List.cons_append]
 gi_wp2
 have hA : Below W.heap.size W (W.alloc (.cells #[.slice a xs.length c, .string z32] 161)) := (Below.refl _ W).alloc (Nat.le_refl _) _
 have hn := World.alloc_heap_new W (.cells #[.slice a xs.length c, .string z32] 161)
 have HW : Hid (_ ∧ _ ∧ _) := ⟨hJ 0 _ _ h0 (Kq.below hA), hn, (Kz.below hA : Kz n0 n1 l W _)⟩
 rw [hq] at HW
 clear hA hn h0
 gi_loopw [5] (fun i wr => ∃ (k : Nat) (a : Option Addr) (c : Nat), k ≤ d ∧ i = .int .i64 (k : Int) ∧ J k wr ∧ wr.heap[q]? = some (.cells #[.slice a (lvl xs k).length c, .string (zr k)] 161 (0, 0)) ∧ slZ n0 n1 l q wr a (lvl xs k) ∧ Kz n0 n1 l W wr)
  (fun i _ => (d - (intOf i).toNat))
 case atStart => exact ⟨0, a, c, by omega, rfl, HW.out.1, HW.out.2.1, hs.kz HW.out.2.2, HW.out.2.2⟩
 case round =>
  clear HW hs
  obtain ⟨k, a, c, hk, rfl, hJs, hbL, hsl, hkz⟩ := hrel
  have hqw : q < wr.heap.size := (Array.getElem?_eq_some_iff.1 hbL).1
  have c0 : wr.cell? ⟨q, 0, none⟩ = some (.slice a (lvl xs k).length c) := by rw [Lib.cell_of_heap hbL]; rfl
  have c1 : wr.cell? ⟨q, 1, none⟩ = some (.string (zr k)) := by rw [Lib.cell_of_heap hbL]; rfl
  obtain ⟨fn, tmps, assign, body, hy, hR⟩ := hY (n - 1) k a c wr hJs hk hsl
  have hln : (lvl xs k).length ≤ 256 := by rw [lvl_len]; exact Nat.le_trans (ln_le _ _) hxs
  obtain ⟨N, hN⟩ : ∃ N, (lvl xs k).length = N := ⟨_, rfl⟩
  obtain ⟨y, hyy⟩ : ∃ y, zr k = y := ⟨_, rfl⟩
  rw [hN, hyy] at hy
  rw [hN] at c0 hln
  rw [hyy] at c1
  have HH : Hid (_ ∧ _ ∧ _ ∧ _ ∧ _) := ⟨hbL, hsl, hkz, hN, hyy⟩
  clear hJs hbL hsl hkz hN hyy
  gi_wp2
  refine ⟨fun h => (by cases h), hR.mono ?_⟩
  rintro e W3 (⟨rfl, hJ3, hk3⟩ | ⟨rfl, hJx3⟩)
  ·clear hy hR
   obtain ⟨hbL, hsl, hkz, hN, hyy⟩ := HH.out
   have hb3 := (hk3.2 q hqw (by omega) (by omega)).trans hbL
   have d0 : W3.cell? ⟨q, 0, none⟩ = some (.slice a N c) := by rw [Lib.cell_of_heap hb3, ← hN]; rfl
   have d1 : W3.cell? ⟨q, 1, none⟩ = some (.string y) := by rw [Lib.cell_of_heap hb3, ← hyy]; rfl
   have fz : ∀ o, W3.frozen? ⟨q, o, none⟩ = false := fun o => by simp [World.frozen?, hb3]
   have hkz3 := hkz.trans hk3
   have hcY3 := (hkz3.cell hbY hY1 hY2 0).trans hcY
   have hs3 := hsl.kz hk3
   have hq3 : q < W3.heap.size := (Array.getElem?_eq_some_iff.1 hb3).1
   have hKA := above_any (lvl xs k) a c (zr k) W3.heap.size W3 (hl.kz hkz3 h1n (by omega)) (Nat.le_refl _) hs3.slS (by omega) (zr_size k) (lvl_size xs h32 k)
   rw [hN, hyy] at hKA
   by_cases hlt : k < d
   ·have l0 : (k : Int) < d := by omega
    have wk : IntKind.i64.wrap ((k : Int) + 1) = ((k + 1 : Nat) : Int) := by rw [IntKind.wrap_i64]; omega
    have HK : Hid (_ ∧ _ ∧ _ ∧ _) := ⟨hb3, hkz3, hs3, hJ3⟩
    clear hb3 hkz hbL hsl hkz3 hs3 hJ3 hk3
    gi_wp2
    refine ⟨trivial, fun h => (by cases h), (callsIn_wide.2 hKA).mono ?_⟩
    rintro e w4 ⟨⟨a', c', rfl, hF⟩, B4⟩
    obtain ⟨hb3, hkz3, hs3, hJ3⟩ := HK.out
    have hb4 := (B4.block q hq3).trans hb3
    have g0 : w4.cell? ⟨q, 0, none⟩ = some (.slice a N c) := by rw [Lib.cell_of_heap hb4, ← hN]; rfl
    have g1 : w4.cell? ⟨q, 1, none⟩ = some (.string y) := by rw [Lib.cell_of_heap hb4, ← hyy]; rfl
    have gz : ∀ o, w4.frozen? ⟨q, o, none⟩ = false := fun o => by simp [World.frozen?, hb4]
    have e4 := heap_setCell_self (heap_setCell_self hb4 0 (.slice a' (upL (lvl xs k) y).length c')) 1 (.string (hs y y))
    have hq4 := (((Kq.below B4).trans (Kq.put w4 q 0 (.slice a' (upL (lvl xs k) y).length c'))).trans (Kq.put _ q 1 (.string (hs y y))) : Kq q W3 _)
    have hJ4 := hJ _ _ _ hJ3 hq4
    have hs4 : slZ n0 n1 l q w4 a' (upL (lvl xs k) y) := slZ.ofF hF (by omega) (by omega) hq3
    have hs5 := (hs4.kq (Kq.put w4 q 0 (.slice a' (upL (lvl xs k) y).length c'))).kq (Kq.put _ q 1 (.string (hs y y)))
    have hk4 : Kz n0 n1 l W ((w4.setCell ⟨q, 0, none⟩ (.slice a' (upL (lvl xs k) y).length c')).setCell ⟨q, 1, none⟩ (.string (hs y y))) := ⟨Nat.le_trans hkz3.1 hq4.size, fun b hb h1 h2 => (hq4.at (Nat.lt_of_lt_of_le hb hkz3.1) (by omega)).trans (hkz3.2 b hb h1 h2)⟩
    have HF : Hid (_ ∧ _ ∧ _ ∧ _) := ⟨e4, hJ4, hs5, hk4⟩
    clear e4 hJ4 hs4 hs5 hk4 hq4 hF B4 hb4 hb3 hkz3 hs3 hJ3 hKA HK
    have HL : Hid (upL (lvl xs k) y = lvl xs (k + 1) ∧ hs y y = zr (k + 1)) := by rw [← hyy]; exact ⟨rfl, rfl⟩
    obtain ⟨M, hM⟩ : ∃ M, (upL (lvl xs k) y).length = M := ⟨_, rfl⟩
    obtain ⟨y2, hy2⟩ : ∃ x, hs y y = x := ⟨_, rfl⟩
    have HM : Hid (_ ∧ _) := ⟨hM, hy2⟩
    rw [hM, hy2] at HF ⊢
    clear hM hy2
    gi_wp2
    go_roundw
    case rel =>
     obtain ⟨e4, hJ4, hs5, hk4⟩ := HF.out
     refine ⟨k + 1, a', c', hlt, by first | rfl | (congr 1; omega), hJ4, ?_, ?_, hk4⟩
     ·rw [← HL.out.1, ← HL.out.2, HM.out.1, HM.out.2]
      exact e4
     ·rw [← HL.out.1]
      exact hs5
    case measure => simp [intOf]; omega
   ·obtain rfl : k = d := by omega
    have l0 : ¬ (k : Int) < k := by omega
    gi_wp2
    go_end0
    exact ⟨⟨_, rfl⟩, .inl hJ3⟩
  ·clear hy hR
   gi_wp2
   go_end0
   exact ⟨⟨_, rfl⟩, .inr ⟨k, hk, hJx3⟩⟩
end Go.Proofs.YtoddangedbefgaaGreatDoor
