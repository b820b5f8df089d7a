/- Lemmas: What the package's copiedLight does. No condition but on sizes that no machine has. What the package's copiedUpdate does. No condition but on sizes that no machine has. -/
import Derived.Test.YtoddangedbefgabGreatDoorM35
set_option maxRecDepth 20000
set_option maxHeartbeats 4000000
namespace Go.Proofs.YtoddangedbefgabGreatDoor
open Go.RowKit Go.Shelf Go.Sort
structure Mu_li (V : World) (z : Nat) (S : Nat → Bool) (x9 x10 x11 x12 x13 x14 x15 x16 x17 x18 x19 x20 x21 x22 x23 x24 x25 x26 : Value) (W : World) : Prop where
 e : Below V.heap.size V W
 f0 : S 0 = true → x9 = .pointer (some ⟨z, 0, none⟩)
 f1 : S 1 = true → x10 = .pointer (some ⟨z, 0, none⟩)
 f2 : S 2 = true → x11 = .pointer (some ⟨z, 2, none⟩)
 f3 : S 3 = true → x12 = .pointer (some ⟨z, 0, none⟩)
 f4 : S 4 = true → x13 = .pointer (some ⟨z, 0, none⟩)
 f5 : S 5 = true → x14 = .pointer (some ⟨z, 3, none⟩)
 f6 : S 6 = true → x15 = .pointer (some ⟨z, 0, none⟩)
 f7 : S 7 = true → x16 = .pointer (some ⟨z, 0, none⟩)
 f8 : S 8 = true → x17 = .pointer (some ⟨z, 4, none⟩)
 f9 : S 9 = true → x18 = .pointer (some ⟨z, 5, none⟩)
 f10 : S 10 = true → x19 = .pointer (some ⟨z, 5, none⟩)
 f11 : S 11 = true → x20 = .pointer (some ⟨z, 5, none⟩)
 f12 : S 12 = true → x21 = .pointer (some ⟨z, 5, none⟩)
 f13 : S 13 = true → x22 = .pointer (some ⟨z, 5, none⟩)
 f14 : S 14 = true → x23 = .pointer (some ⟨z, 6, none⟩)
 f15 : S 15 = true → ∃ g, x24 = .slice (some ⟨g, 0, none⟩) 5 5 ∧ V.heap.size ≤ g ∧ W.heap[g]? = some (.cells #[.pointer (some ⟨z, 2, none⟩), .pointer (some ⟨z, 3, none⟩), .pointer (some ⟨z, 4, none⟩), .pointer (some ⟨z, 5, none⟩), .pointer (some ⟨z, 6, none⟩)] 133 (0, 0))
 f16 : S 16 = true → x25 = .int .i64 5
 f17 : S 17 = true → x26 = .int .i64 0
theorem Mu_li.grow {V : World} {z : Nat} {S : Nat → Bool} {x9 x10 x11 x12 x13 x14 x15 x16 x17 x18 x19 x20 x21 x22 x23 x24 x25 x26 : Value} {W W' : World} (h : Mu_li V z S x9 x10 x11 x12 x13 x14 x15 x16 x17 x18 x19 x20 x21 x22 x23 x24 x25 x26 W) (hb : Below W.heap.size W W') : Mu_li V z S x9 x10 x11 x12 x13 x14 x15 x16 x17 x18 x19 x20 x21 x22 x23 x24 x25 x26 W' :=
 ⟨jaa h.e h.e.size hb, h.f0, h.f1, h.f2, h.f3, h.f4, h.f5, h.f6, h.f7, h.f8, h.f9, h.f10, h.f11, h.f12, h.f13, h.f14, fun s => (h.f15 s).imp fun _ ⟨j0, j1, j2⟩ => ⟨j0, j1, (hb.block _ (Array.getElem?_eq_some_iff.1 j2).1).trans j2⟩, h.f16, h.f17⟩
def szL (d : LtD) : Prop := d.p.size ≤ 281474976710656 ∧ d.t.size ≤ 281474976710656 ∧ d.b.size ≤ 281474976710656 ∧ d.ea.size ≤ 281474976710656 ∧ d.ra.size ≤ 281474976710656 ∧ szS d.br
theorem jcq (d : LtD) (hz : szL d) (q : Pl) (n : Nat) (w : World) (hn : n ≤ w.heap.size) (hp : slS n w q.a d.br) :
  Calls Tryz.prog 53 #[.agg (ltV d q).toArray] w fun e w' => (∃ q', e = .returned (.agg (ltV d q').toArray) ∧ slG w.heap.size w' q'.a d.br) ∧ Below w.heap.size w w' := by
 obtain ⟨s, u, p, t, b, ea, ra, m, br⟩ := d
 obtain ⟨a, c⟩ := q
 obtain ⟨hz1, hz2, hz3, hz4, hz5, hz6⟩ := hz
 simp only [ltV]
 have KT := fun (W : World) (hB : Below w.heap.size w W) => jdn br hz6 a c n W (Nat.le_trans hn hB.size) (jan (hB.mono hn) hp)
 have K1 := fun W : World => jbu p W hz1
 have K2 := fun W : World => jbu t W hz2
 have K3 := fun W : World => jbu b W hz3
 have K4 := fun W : World => jbu ea W hz4
 have K5 := fun W : World => jbu ra W hz5
 clear hz1 hz2 hz3 hz4 hz5 hz6 hn hp
 obtain ⟨N, hN⟩ : ∃ N, br.length = N := ⟨_, rfl⟩
 rw [hN] at KT
 have HN : Hid (br.length = N) := hN
 rw [hN]
 clear hN
 go_enter Tryz.func53, Tryz.ntmps53
 go_wp2_with fail
 obtain ⟨BV, hx, hy, hs⟩ := box2 w (.cells #[.int .u64 (s : Int), .int .u64 (u : Int), .string p, .string t, .string b, .string ea, .string ra, .int .u64 (m : Int), .slice a N c] 29) (.cells #[.int .u64 0, .int .u64 0, .string ⟨#[]⟩, .string ⟨#[]⟩, .string ⟨#[]⟩, .string ⟨#[]⟩, .string ⟨#[]⟩, .int .u64 0, .slice none 0 0] 29)
 obtain ⟨V, hV⟩ : ∃ V, (w.alloc (.cells #[.int .u64 (s : Int), .int .u64 (u : Int), .string p, .string t, .string b, .string ea, .string ra, .int .u64 (m : Int), .slice a N c] 29)).alloc (.cells #[.int .u64 0, .int .u64 0, .string ⟨#[]⟩, .string ⟨#[]⟩, .string ⟨#[]⟩, .string ⟨#[]⟩, .string ⟨#[]⟩, .int .u64 0, .slice none 0 0] 29) = V := ⟨_, rfl⟩
 obtain ⟨z, hz⟩ : ∃ z, w.heap.size = z := ⟨_, rfl⟩
 have HZ : Hid (w.heap.size = z) := hz
 rw [hV] at BV hx hy hs ⊢
 rw [hz] at BV hx hy hs KT ⊢
 have HV : Hid (_ ∧ _ ∧ _ ∧ _) := ⟨BV, hx, hy, hs⟩
 clear hV hz BV hx hy hs
 refine jgr (fun S aa W => ∃ x9 x10 x11 x12 x13 x14 x15 x16 x17 x18 x19 x20 x21 x22 x23 x24 x25 x26 : Value, aa = { tmps := #[Value.agg #[Value.int IntKind.u64 ↑s, Value.int IntKind.u64 ↑u, Value.string p, Value.string t, Value.string b, Value.string ea, Value.string ra, Value.int IntKind.u64 ↑m, Value.slice a N c], Value.pointer (some { block := z, off := 0 }), Value.pointer (some { block := z + 1, off := 0 }), Value.pointer (some { block := z, off := 0 }), Value.pointer (some { block := z, off := 5 }), undef, undef, Value.pointer (some { block := z, off := 0 }), Value.pointer (some { block := z, off := 5 }), x9, x10, x11, x12, x13, x14, x15, x16, x17, x18, x19, x20, x21, x22, x23, x24, x25, x26, undef, undef, undef, undef, undef, undef, undef, undef, undef, undef, undef, undef, undef, undef, undef], defers := [] } ∧ Mu_li V z S x9 x10 x11 x12 x13 x14 x15 x16 x17 x18 x19 x20 x21 x22 x23 x24 x25 x26 W) (by kernel_rfl) (by kernel_rfl) ?_ ?_ ?_
 ·exact ⟨undef, undef, undef, undef, undef, undef, undef, undef, undef, undef, undef, undef, undef, undef, undef, undef, undef, undef, rfl, ⟨(Below.refl _ V).drew, nofun, nofun, nofun, nofun, nofun, nofun, nofun, nofun, nofun, nofun, nofun, nofun, nofun, nofun, nofun, nofun, nofun, nofun⟩⟩
 ·intro i o S aa W hi hun hJ hall K hK
  obtain ⟨x9, x10, x11, x12, x13, x14, x15, x16, x17, x18, x19, x20, x21, x22, x23, x24, x25, x26, rfl, h⟩ := hJ
  have hlt : i < 18 := (List.getElem?_eq_some_iff.1 hi).1
  have hcase : i = 0 ∨ i = 1 ∨ i = 2 ∨ i = 3 ∨ i = 4 ∨ i = 5 ∨ i = 6 ∨ i = 7 ∨ i = 8 ∨ i = 9 ∨ i = 10 ∨ i = 11 ∨ i = 12 ∨ i = 13 ∨ i = 14 ∨ i = 15 ∨ i = 16 ∨ i = 17 := by omega
  rcases hcase with rfl | rfl | rfl | rfl | rfl | rfl | rfl | rfl | rfl | rfl | rfl | rfl | rfl | rfl | rfl | rfl | rfl | rfl
  all_goals (have ho := (Option.some.inj hi).symm; subst ho; clear hi hlt)
  ·go_simp
   exact hK _ _ ⟨_, _, _, _, _, _, _, _, _, _, _, _, _, _, _, _, _, _, rfl, { h with f0 := fun _ => rfl }⟩
  ·have s_0 : S 0 = true := hall ⟨0, .data⟩ (by simp) rfl
   obtain rfl := h.f0 s_0
   go_simp
   exact hK _ _ ⟨_, _, _, _, _, _, _, _, _, _, _, _, _, _, _, _, _, _, rfl, { h with f1 := fun _ => rfl }⟩
  ·have s_1 : S 1 = true := hall ⟨1, .data⟩ (by simp) rfl
   obtain rfl := h.f1 s_1
   go_simp
   exact hK _ _ ⟨_, _, _, _, _, _, _, _, _, _, _, _, _, _, _, _, _, _, rfl, { h with f2 := fun _ => rfl }⟩
  ·go_simp
   exact hK _ _ ⟨_, _, _, _, _, _, _, _, _, _, _, _, _, _, _, _, _, _, rfl, { h with f3 := fun _ => rfl }⟩
  ·have s_3 : S 3 = true := hall ⟨3, .data⟩ (by simp) rfl
   obtain rfl := h.f3 s_3
   go_simp
   exact hK _ _ ⟨_, _, _, _, _, _, _, _, _, _, _, _, _, _, _, _, _, _, rfl, { h with f4 := fun _ => rfl }⟩
  ·have s_4 : S 4 = true := hall ⟨4, .data⟩ (by simp) rfl
   obtain rfl := h.f4 s_4
   go_simp
   exact hK _ _ ⟨_, _, _, _, _, _, _, _, _, _, _, _, _, _, _, _, _, _, rfl, { h with f5 := fun _ => rfl }⟩
  ·go_simp
   exact hK _ _ ⟨_, _, _, _, _, _, _, _, _, _, _, _, _, _, _, _, _, _, rfl, { h with f6 := fun _ => rfl }⟩
  ·have s_6 : S 6 = true := hall ⟨6, .data⟩ (by simp) rfl
   obtain rfl := h.f6 s_6
   go_simp
   exact hK _ _ ⟨_, _, _, _, _, _, _, _, _, _, _, _, _, _, _, _, _, _, rfl, { h with f7 := fun _ => rfl }⟩
  ·have s_7 : S 7 = true := hall ⟨7, .data⟩ (by simp) rfl
   obtain rfl := h.f7 s_7
   go_simp
   exact hK _ _ ⟨_, _, _, _, _, _, _, _, _, _, _, _, _, _, _, _, _, _, rfl, { h with f8 := fun _ => rfl }⟩
  ·go_simp
   exact hK _ _ ⟨_, _, _, _, _, _, _, _, _, _, _, _, _, _, _, _, _, _, rfl, { h with f9 := fun _ => rfl }⟩
  ·have s_9 : S 9 = true := hall ⟨9, .data⟩ (by simp) rfl
   obtain rfl := h.f9 s_9
   go_simp
   exact hK _ _ ⟨_, _, _, _, _, _, _, _, _, _, _, _, _, _, _, _, _, _, rfl, { h with f10 := fun _ => rfl }⟩
  ·have s_10 : S 10 = true := hall ⟨10, .data⟩ (by simp) rfl
   obtain rfl := h.f10 s_10
   go_simp
   exact hK _ _ ⟨_, _, _, _, _, _, _, _, _, _, _, _, _, _, _, _, _, _, rfl, { h with f11 := fun _ => rfl }⟩
  ·go_simp
   exact hK _ _ ⟨_, _, _, _, _, _, _, _, _, _, _, _, _, _, _, _, _, _, rfl, { h with f12 := fun _ => rfl }⟩
  ·have s_12 : S 12 = true := hall ⟨12, .data⟩ (by simp) rfl
   obtain rfl := h.f12 s_12
   go_simp
   exact hK _ _ ⟨_, _, _, _, _, _, _, _, _, _, _, _, _, _, _, _, _, _, rfl, { h with f13 := fun _ => rfl }⟩
  ·have s_13 : S 13 = true := hall ⟨13, .data⟩ (by simp) rfl
   obtain rfl := h.f13 s_13
   go_simp
   exact hK _ _ ⟨_, _, _, _, _, _, _, _, _, _, _, _, _, _, _, _, _, _, rfl, { h with f14 := fun _ => rfl }⟩
  ·have s_2 : S 2 = true := hall ⟨2, .data⟩ (by simp) rfl
   obtain rfl := h.f2 s_2
   have s_5 : S 5 = true := hall ⟨5, .data⟩ (by simp) rfl
   obtain rfl := h.f5 s_5
   have s_8 : S 8 = true := hall ⟨8, .data⟩ (by simp) rfl
   obtain rfl := h.f8 s_8
   have s_11 : S 11 = true := hall ⟨11, .data⟩ (by simp) rfl
   obtain rfl := h.f11 s_11
   have s_14 : S 14 = true := hall ⟨14, .data⟩ (by simp) rfl
   obtain rfl := h.f14 s_14
   go_simp
   have hb5 : Below W.heap.size W (W.alloc (.cells #[.pointer (some ⟨z, 2, none⟩), .pointer (some ⟨z, 3, none⟩), .pointer (some ⟨z, 4, none⟩), .pointer (some ⟨z, 5, none⟩), .pointer (some ⟨z, 6, none⟩)] 133)) := (Below.refl _ _).alloc (Nat.le_refl _) _
   have h1 := h.grow hb5
   exact hK _ _ ⟨_, _, _, _, _, _, _, _, _, _, _, _, _, _, _, _, _, _, rfl, { h1 with f15 := fun _ => ⟨_, rfl, h.e.size, World.alloc_heap_new W _⟩ }⟩
  ·have s_15 : S 15 = true := hall ⟨15, .data⟩ (by simp) rfl
   obtain ⟨g15, rfl, j15, k15⟩ := h.f15 s_15
   go_simp
   exact hK _ _ ⟨_, _, _, _, _, _, _, _, _, _, _, _, _, _, _, _, _, _, rfl, { h with f16 := fun _ => rfl }⟩
  ·go_simp
   exact hK _ _ ⟨_, _, _, _, _, _, _, _, _, _, _, _, _, _, _, _, _, _, rfl, { h with f17 := fun _ => rfl }⟩
 ·rintro S aa W hall ⟨x9, x10, x11, x12, x13, x14, x15, x16, x17, x18, x19, x20, x21, x22, x23, x24, x25, x26, rfl, h⟩
  obtain rfl := h.f0 (hall 0 (by decide))
  obtain rfl := h.f1 (hall 1 (by decide))
  obtain rfl := h.f2 (hall 2 (by decide))
  obtain rfl := h.f3 (hall 3 (by decide))
  obtain rfl := h.f4 (hall 4 (by decide))
  obtain rfl := h.f5 (hall 5 (by decide))
  obtain rfl := h.f6 (hall 6 (by decide))
  obtain rfl := h.f7 (hall 7 (by decide))
  obtain rfl := h.f8 (hall 8 (by decide))
  obtain rfl := h.f9 (hall 9 (by decide))
  obtain rfl := h.f10 (hall 10 (by decide))
  obtain rfl := h.f11 (hall 11 (by decide))
  obtain rfl := h.f12 (hall 12 (by decide))
  obtain rfl := h.f13 (hall 13 (by decide))
  obtain rfl := h.f14 (hall 14 (by decide))
  obtain ⟨g, rfl, j1, j2⟩ := h.f15 (hall 15 (by decide))
  obtain rfl := h.f16 (hall 16 (by decide))
  obtain rfl := h.f17 (hall 17 (by decide))
  have BW := h.e
  clear h hall
  obtain ⟨BV, hx, hy, hs⟩ := HV.out
  have xW : Bq z 29 #[.int .u64 (s : Int), .int .u64 (u : Int), .string p, .string t, .string b, .string ea, .string ra, .int .u64 (m : Int), .slice a N c] W := (BW.block z (by omega)).trans hx
  have yW : Bq (z + 1) 29 #[.int .u64 0, .int .u64 0, .string ⟨#[]⟩, .string ⟨#[]⟩, .string ⟨#[]⟩, .string ⟨#[]⟩, .string ⟨#[]⟩, .int .u64 0, .slice none 0 0] W := (BW.block (z + 1) (by omega)).trans hy
  have BzW : Below z w W := BV.trans (BW.mono (by omega))
  have hg : z + 2 ≤ g := by omega
  clear BW BV hx hy hs j1
  go_wp2_with fail
  go_loopg [26] 5 (fun gk i wr => ∃ k : Nat, k + gk = 5 ∧ i = .int .i64 k ∧ Bq z 29 #[.int .u64 (s : Int), .int .u64 (u : Int), .string p, .string t, .string b, .string ea, .string ra, .int .u64 (m : Int), .slice a N c] wr ∧ Bq (z + 1) 29 #[.int .u64 0, .int .u64 0, .string ⟨#[]⟩, .string ⟨#[]⟩, .string ⟨#[]⟩, .string ⟨#[]⟩, .string ⟨#[]⟩, .int .u64 0, .slice none 0 0] wr ∧ wr.heap[g]? = some (.cells #[.pointer (some ⟨z, 2, none⟩), .pointer (some ⟨z, 3, none⟩), .pointer (some ⟨z, 4, none⟩), .pointer (some ⟨z, 5, none⟩), .pointer (some ⟨z, 6, none⟩)] 133 (0, 0)) ∧ Below z w wr)
  case atStart => exact ⟨0, by omega, rfl, xW, yW, j2, BzW⟩
  case round =>
   clear xW yW j2 BzW
   obtain ⟨k, hk, rfl, hx, hy, hj, hB⟩ := hrel
   have hlt := hx.lt
   have hgt := (Array.getElem?_eq_some_iff.1 hj).1
   by_cases hlt5 : k < 5
   ·have hcase : k = 0 ∨ k = 1 ∨ k = 2 ∨ k = 3 ∨ k = 4 := by omega
    rcases hcase with rfl | rfl | rfl | rfl | rfl
    ·have c1 : wr.cell? ⟨g, 0, none⟩ = some (.pointer (some ⟨z, 2, none⟩)) := by rw [Lib.cell_of_heap hj]; rfl
     have c2 : wr.cell? ⟨z, 2, none⟩ = some (.string p) := by rw [hx.cell 2]; rfl
     have l0 : (((0 : Nat) : Int) < 5) = True := by simp
     have HX : Hid (_ ∧ _ ∧ _ ∧ _) := ⟨hx, hy, hj, hB⟩
     clear hx hy hj hB
     go_wp2_with fail
     refine (K1 _).mono ?_
     rintro e w3 ⟨rfl, B3⟩
     obtain ⟨hx, hy, hj, hB⟩ := HX.out
     have x3 := hx.below B3
     have f3 := x3.fr 2
     have c3 : w3.cell? ⟨z, 2, none⟩ = some (.string p) := by rw [x3.cell 2]; rfl
     have x4 : Bq z 29 #[.int .u64 (s : Int), .int .u64 (u : Int), .string p, .string t, .string b, .string ea, .string ra, .int .u64 (m : Int), .slice a N c] (w3.setCell ⟨z, 2, none⟩ (.string p)) := jam x3 2 (.string p)
     have y4 := (hy.below B3).other (k := z) (by omega) 2 (.string p)
     have j4 : (w3.setCell ⟨z, 2, none⟩ (.string p)).heap[g]? = some (.cells #[.pointer (some ⟨z, 2, none⟩), .pointer (some ⟨z, 3, none⟩), .pointer (some ⟨z, 4, none⟩), .pointer (some ⟨z, 5, none⟩), .pointer (some ⟨z, 6, none⟩)] 133 (0, 0)) := (Below.heap_setCell _ _ _ _ (show g ≠ z by omega)).trans ((B3.block _ hgt).trans hj)
     have b4 : Below z w (w3.setCell ⟨z, 2, none⟩ (.string p)) := (jaa hB (by omega) B3).setCell (p := ⟨z, 2, none⟩) (Nat.le_refl _) _
     have HY : Hid (_ ∧ _ ∧ _ ∧ _) := ⟨x4, y4, j4, b4⟩
     clear x3 x4 y4 j4 b4 hx hy hj hB B3 HX
     go_wp2
     go_roundg (gk - 1)
     case measure => omega
     case rel => exact ⟨1, by omega, rfl, HY.out.1, HY.out.2.1, HY.out.2.2.1, HY.out.2.2.2⟩
    ·have c1 : wr.cell? ⟨g, 1, none⟩ = some (.pointer (some ⟨z, 3, none⟩)) := by rw [Lib.cell_of_heap hj]; rfl
     have c2 : wr.cell? ⟨z, 3, none⟩ = some (.string t) := by rw [hx.cell 3]; rfl
     have l0 : (((1 : Nat) : Int) < 5) = True := by simp
     have HX : Hid (_ ∧ _ ∧ _ ∧ _) := ⟨hx, hy, hj, hB⟩
     clear hx hy hj hB
     go_wp2_with fail
     refine (K2 _).mono ?_
     rintro e w3 ⟨rfl, B3⟩
     obtain ⟨hx, hy, hj, hB⟩ := HX.out
     have x3 := hx.below B3
     have f3 := x3.fr 3
     have c3 : w3.cell? ⟨z, 3, none⟩ = some (.string t) := by rw [x3.cell 3]; rfl
     have x4 : Bq z 29 #[.int .u64 (s : Int), .int .u64 (u : Int), .string p, .string t, .string b, .string ea, .string ra, .int .u64 (m : Int), .slice a N c] (w3.setCell ⟨z, 3, none⟩ (.string t)) := jam x3 3 (.string t)
     have y4 := (hy.below B3).other (k := z) (by omega) 3 (.string t)
     have j4 : (w3.setCell ⟨z, 3, none⟩ (.string t)).heap[g]? = some (.cells #[.pointer (some ⟨z, 2, none⟩), .pointer (some ⟨z, 3, none⟩), .pointer (some ⟨z, 4, none⟩), .pointer (some ⟨z, 5, none⟩), .pointer (some ⟨z, 6, none⟩)] 133 (0, 0)) := (Below.heap_setCell _ _ _ _ (show g ≠ z by omega)).trans ((B3.block _ hgt).trans hj)
     have b4 : Below z w (w3.setCell ⟨z, 3, none⟩ (.string t)) := (jaa hB (by omega) B3).setCell (p := ⟨z, 3, none⟩) (Nat.le_refl _) _
     have HY : Hid (_ ∧ _ ∧ _ ∧ _) := ⟨x4, y4, j4, b4⟩
     clear x3 x4 y4 j4 b4 hx hy hj hB B3 HX
     go_wp2
     go_roundg (gk - 1)
     case measure => omega
     case rel => exact ⟨2, by omega, rfl, HY.out.1, HY.out.2.1, HY.out.2.2.1, HY.out.2.2.2⟩
    ·have c1 : wr.cell? ⟨g, 2, none⟩ = some (.pointer (some ⟨z, 4, none⟩)) := by rw [Lib.cell_of_heap hj]; rfl
     have c2 : wr.cell? ⟨z, 4, none⟩ = some (.string b) := by rw [hx.cell 4]; rfl
     have l0 : (((2 : Nat) : Int) < 5) = True := by simp
     have HX : Hid (_ ∧ _ ∧ _ ∧ _) := ⟨hx, hy, hj, hB⟩
     clear hx hy hj hB
     go_wp2_with fail
     refine (K3 _).mono ?_
     rintro e w3 ⟨rfl, B3⟩
     obtain ⟨hx, hy, hj, hB⟩ := HX.out
     have x3 := hx.below B3
     have f3 := x3.fr 4
     have c3 : w3.cell? ⟨z, 4, none⟩ = some (.string b) := by rw [x3.cell 4]; rfl
     have x4 : Bq z 29 #[.int .u64 (s : Int), .int .u64 (u : Int), .string p, .string t, .string b, .string ea, .string ra, .int .u64 (m : Int), .slice a N c] (w3.setCell ⟨z, 4, none⟩ (.string b)) := jam x3 4 (.string b)
     have y4 := (hy.below B3).other (k := z) (by omega) 4 (.string b)
     have j4 : (w3.setCell ⟨z, 4, none⟩ (.string b)).heap[g]? = some (.cells #[.pointer (some ⟨z, 2, none⟩), .pointer (some ⟨z, 3, none⟩), .pointer (some ⟨z, 4, none⟩), .pointer (some ⟨z, 5, none⟩), .pointer (some ⟨z, 6, none⟩)] 133 (0, 0)) := (Below.heap_setCell _ _ _ _ (show g ≠ z by omega)).trans ((B3.block _ hgt).trans hj)
     have b4 : Below z w (w3.setCell ⟨z, 4, none⟩ (.string b)) := (jaa hB (by omega) B3).setCell (p := ⟨z, 4, none⟩) (Nat.le_refl _) _
     have HY : Hid (_ ∧ _ ∧ _ ∧ _) := ⟨x4, y4, j4, b4⟩
     clear x3 x4 y4 j4 b4 hx hy hj hB B3 HX
     go_wp2
     go_roundg (gk - 1)
     case measure => omega
     case rel => exact ⟨3, by omega, rfl, HY.out.1, HY.out.2.1, HY.out.2.2.1, HY.out.2.2.2⟩
    ·have c1 : wr.cell? ⟨g, 3, none⟩ = some (.pointer (some ⟨z, 5, none⟩)) := by rw [Lib.cell_of_heap hj]; rfl
     have c2 : wr.cell? ⟨z, 5, none⟩ = some (.string ea) := by rw [hx.cell 5]; rfl
     have l0 : (((3 : Nat) : Int) < 5) = True := by simp
     have HX : Hid (_ ∧ _ ∧ _ ∧ _) := ⟨hx, hy, hj, hB⟩
     clear hx hy hj hB
     go_wp2_with fail
     refine (K4 _).mono ?_
     rintro e w3 ⟨rfl, B3⟩
     obtain ⟨hx, hy, hj, hB⟩ := HX.out
     have x3 := hx.below B3
     have f3 := x3.fr 5
     have c3 : w3.cell? ⟨z, 5, none⟩ = some (.string ea) := by rw [x3.cell 5]; rfl
     have x4 : Bq z 29 #[.int .u64 (s : Int), .int .u64 (u : Int), .string p, .string t, .string b, .string ea, .string ra, .int .u64 (m : Int), .slice a N c] (w3.setCell ⟨z, 5, none⟩ (.string ea)) := jam x3 5 (.string ea)
     have y4 := (hy.below B3).other (k := z) (by omega) 5 (.string ea)
     have j4 : (w3.setCell ⟨z, 5, none⟩ (.string ea)).heap[g]? = some (.cells #[.pointer (some ⟨z, 2, none⟩), .pointer (some ⟨z, 3, none⟩), .pointer (some ⟨z, 4, none⟩), .pointer (some ⟨z, 5, none⟩), .pointer (some ⟨z, 6, none⟩)] 133 (0, 0)) := (Below.heap_setCell _ _ _ _ (show g ≠ z by omega)).trans ((B3.block _ hgt).trans hj)
     have b4 : Below z w (w3.setCell ⟨z, 5, none⟩ (.string ea)) := (jaa hB (by omega) B3).setCell (p := ⟨z, 5, none⟩) (Nat.le_refl _) _
     have HY : Hid (_ ∧ _ ∧ _ ∧ _) := ⟨x4, y4, j4, b4⟩
     clear x3 x4 y4 j4 b4 hx hy hj hB B3 HX
     go_wp2
     go_roundg (gk - 1)
     case measure => omega
     case rel => exact ⟨4, by omega, rfl, HY.out.1, HY.out.2.1, HY.out.2.2.1, HY.out.2.2.2⟩
    ·have c1 : wr.cell? ⟨g, 4, none⟩ = some (.pointer (some ⟨z, 6, none⟩)) := by rw [Lib.cell_of_heap hj]; rfl
     have c2 : wr.cell? ⟨z, 6, none⟩ = some (.string ra) := by rw [hx.cell 6]; rfl
     have l0 : (((4 : Nat) : Int) < 5) = True := by simp
     have HX : Hid (_ ∧ _ ∧ _ ∧ _) := ⟨hx, hy, hj, hB⟩
     clear hx hy hj hB
     go_wp2_with fail
     refine (K5 _).mono ?_
     rintro e w3 ⟨rfl, B3⟩
     obtain ⟨hx, hy, hj, hB⟩ := HX.out
     have x3 := hx.below B3
     have f3 := x3.fr 6
     have c3 : w3.cell? ⟨z, 6, none⟩ = some (.string ra) := by rw [x3.cell 6]; rfl
     have x4 : Bq z 29 #[.int .u64 (s : Int), .int .u64 (u : Int), .string p, .string t, .string b, .string ea, .string ra, .int .u64 (m : Int), .slice a N c] (w3.setCell ⟨z, 6, none⟩ (.string ra)) := jam x3 6 (.string ra)
     have y4 := (hy.below B3).other (k := z) (by omega) 6 (.string ra)
     have j4 : (w3.setCell ⟨z, 6, none⟩ (.string ra)).heap[g]? = some (.cells #[.pointer (some ⟨z, 2, none⟩), .pointer (some ⟨z, 3, none⟩), .pointer (some ⟨z, 4, none⟩), .pointer (some ⟨z, 5, none⟩), .pointer (some ⟨z, 6, none⟩)] 133 (0, 0)) := (Below.heap_setCell _ _ _ _ (show g ≠ z by omega)).trans ((B3.block _ hgt).trans hj)
     have b4 : Below z w (w3.setCell ⟨z, 6, none⟩ (.string ra)) := (jaa hB (by omega) B3).setCell (p := ⟨z, 6, none⟩) (Nat.le_refl _) _
     have HY : Hid (_ ∧ _ ∧ _ ∧ _) := ⟨x4, y4, j4, b4⟩
     clear x3 x4 y4 j4 b4 hx hy hj hB B3 HX
     go_wp2
     go_roundg (gk - 1)
     case measure => omega
     case rel => exact ⟨5, by omega, rfl, HY.out.1, HY.out.2.1, HY.out.2.2.1, HY.out.2.2.2⟩
   ·obtain rfl : k = 5 := by omega
    have HX : Hid (_ ∧ _ ∧ _ ∧ _) := ⟨hx, hy, hj, hB⟩
    have c8 : wr.cell? ⟨z, 8, none⟩ = some (.slice a N c) := by rw [hx.cell 8]; rfl
    clear hx hy hj hB
    go_wp2_with fail
    refine (KT wr HX.out.2.2.2).mono ?_
    rintro e w4 ⟨⟨v, rfl, ho⟩, B4⟩
    obtain ⟨hx, hy, hj, hB⟩ := HX.out
    obtain ⟨v1, v2, rfl⟩ := jck ho
    have x4 := hx.below B4
    have y4 := hy.below B4
    have f4 := x4.fr 8
    have c9 : w4.cell? ⟨z, 8, none⟩ = some (.slice a N c) := by rw [x4.cell 8]; rfl
    have x5 : Bq z 29 #[.int .u64 (s : Int), .int .u64 (u : Int), .string p, .string t, .string b, .string ea, .string ra, .int .u64 (m : Int), .slice v1 N v2] (w4.setCell ⟨z, 8, none⟩ (.slice v1 N v2)) := jam x4 8 (.slice v1 N v2)
    have y5 := y4.other (k := z) (by omega) 8 (.slice v1 N v2)
    have b5 : Below z w (w4.setCell ⟨z, 8, none⟩ (.slice v1 N v2)) := (jaa hB (by omega) B4).setCell (p := ⟨z, 8, none⟩) (Nat.le_refl _) _
    have hk5 : ∀ b, wr.heap.size ≤ b → b < w4.heap.size → (w4.setCell ⟨z, 8, none⟩ (.slice v1 N v2)).heap[b]? = w4.heap[b]? := fun b hb _ => Below.heap_setCell _ _ _ _ (show b ≠ z by omega)
    have hs5 : w4.heap.size ≤ (w4.setCell ⟨z, 8, none⟩ (.slice v1 N v2)).heap.size := by simp [World.setCell]
    have HY : Hid (_ ∧ _ ∧ _ ∧ _ ∧ _ ∧ _) := ⟨x5, y5, b5, hk5, hs5, ho⟩
    have x5h : (w4.setCell ⟨z, 8, none⟩ (.slice v1 N v2)).heap[z]? = some (.cells #[.int .u64 (s : Int), .int .u64 (u : Int), .string p, .string t, .string b, .string ea, .string ra, .int .u64 (m : Int), .slice v1 N v2] 29 (0, 0)) := x5
    have y5h : (w4.setCell ⟨z, 8, none⟩ (.slice v1 N v2)).heap[z + 1]? = some (.cells #[.int .u64 0, .int .u64 0, .string ⟨#[]⟩, .string ⟨#[]⟩, .string ⟨#[]⟩, .string ⟨#[]⟩, .string ⟨#[]⟩, .int .u64 0, .slice none 0 0] 29 (0, 0)) := y5
    clear x4 y4 x5 y5 b5 hk5 hs5 ho hx hy hj hB B4 HX
    go_wp2_with (first
     | (refine wpList_load_row rfl 29 _ rfl z rfl _ _ _ _ x5h Tryz.underlying29 rfl (by kernel_rfl) ?_)
     | (refine jao rfl rfl 29 _ _ rfl (z + 1) _ rfl rfl 29 _ y5h (by kernel_rfl) rfl (by simp [Value.oneCell']) ?_))
    obtain ⟨x5, y5, b5, hk5, hs5, ho⟩ := HY.out
    have r9 := y5.row #[.int .u64 (s : Int), .int .u64 (u : Int), .string p, .string t, .string b, .string ea, .string ra, .int .u64 (m : Int), .slice v1 N v2]
    have b9 := jas b5 (show z ≤ z + 1 by omega) #[.int .u64 (s : Int), .int .u64 (u : Int), .string p, .string t, .string b, .string ea, .string ra, .int .u64 (m : Int), .slice v1 N v2]
    have hN := HN.out
    obtain ⟨xs, hxs⟩ : ∃ xs : List Value, br.map .string = xs := ⟨_, rfl⟩
    refine bodyPost_ret (results_cell_row rfl _ _ (z + 1) 29 _ (0, 0) _ rfl r9 Tryz.underlying29 rfl (by kernel_rfl)) rfl ⟨⟨⟨v1, v2⟩, rfl, ?_⟩, ?_⟩
    ·subst hN
     refine slG.mono (slS_put ho (by rw [size_setRow]; exact hs5) fun b hb hbl => ?_) (by have := HZ.out; omega)
     rw [setRow_other _ _ _ _ (by omega)]
     exact hk5 b hb hbl
    ·rw [HZ.out]
     exact b9
def szC (d : CmD) : Prop := szS d.ks ∧ d.sm.size ≤ 281474976710656
def szU (d : UpD) : Prop := szL d.l ∧ szC d.c ∧ szS d.nb ∧ szL d.f ∧ szS d.fb ∧ d.sig.size ≤ 281474976710656
def upG (n : Nat) (W : World) (d : UpD) (q : UpP) : Prop := slG n W q.l.a d.l.br ∧ slG n W q.c.a d.c.ks ∧ slG n W q.nb.a d.nb ∧ slG n W q.f.a d.f.br ∧ slG n W q.fb.a d.fb
theorem upG.keep {n : Nat} {W W' : World} {d : UpD} {q : UpP} (h : upG n W d q) (hs : W.heap.size ≤ W'.heap.size) (hW : ∀ b, n ≤ b → b < W.heap.size → W'.heap[b]? = W.heap[b]?) : upG n W' d q := ⟨h.1.keep hs hW, h.2.1.keep hs hW, h.2.2.1.keep hs hW, h.2.2.2.1.keep hs hW, h.2.2.2.2.keep hs hW⟩
theorem upG.upIn {n : Nat} {W : World} {d : UpD} {q : UpP} (h : upG n W d q) : upIn W.heap.size W d q := ⟨h.1.slS, h.2.1.slS, h.2.2.1.slS, h.2.2.2.1.slS, h.2.2.2.2.slS⟩
theorem upG.mono {n m : Nat} {W : World} {d : UpD} {q : UpP} (h : upG n W d q) (hm : m ≤ n) : upG m W d q := ⟨h.1.mono hm, h.2.1.mono hm, h.2.2.1.mono hm, h.2.2.2.1.mono hm, h.2.2.2.2.mono hm⟩
theorem upG.grow {n : Nat} {W W' : World} {d : UpD} {q : UpP} (h : upG n W d q) (hb : Below W.heap.size W W') : upG n W' d q := h.keep hb.size fun b _ hb2 => hb.block b hb2
theorem jge (xs : List ByteArray) (hz : szS xs) (q : Pl) (n : Nat) (w : World) (hn : n ≤ w.heap.size) (hp : slS n w q.a xs) :
  Calls Tryz.prog 92 #[slV xs q] w fun e w' => (∃ q', e = .returned (slV xs q') ∧ slG w.heap.size w' q'.a xs) ∧ Below w.heap.size w w' := by
 refine (jdn xs hz q.a q.c n w hn hp).mono ?_
 rintro e w' ⟨⟨v, rfl, h⟩, hb⟩
 obtain ⟨a, c, rfl⟩ := jck h
 exact ⟨⟨⟨a, c⟩, rfl, slG_of h⟩, hb⟩
structure Mu_u1 (V : World) (d : UpD) (Ya Yb : List Value) (z : Nat) (S : Nat → Bool) (x3 x4 x5 x6 x7 x8 x9 : Value) (W : World) : Prop where
 e : Below V.heap.size V W
 f0 : S 0 = true → x3 = .pointer (some ⟨z, 0, none⟩)
 f1 : S 1 = true → x4 = .agg Ya.toArray
 f2 : S 2 = true → ∃ q1 : Pl, x5 = .agg (ltV d.l q1).toArray ∧ slG V.heap.size W q1.a d.l.br
 f3 : S 3 = true → x6 = .pointer (some ⟨z, 12, none⟩)
 f4 : S 4 = true → x7 = .agg Yb.toArray
 f5 : S 5 = true → ∃ q1 : Pl, x8 = .agg (ltV d.f q1).toArray ∧ slG V.heap.size W q1.a d.f.br
 f6 : S 6 = true → x9 = .pointer (some ⟨z, 0, none⟩)
theorem Mu_u1.grow {V : World} {d : UpD} {Ya Yb : List Value} {z : Nat} {S : Nat → Bool} {x3 x4 x5 x6 x7 x8 x9 : Value} {W W' : World} (h : Mu_u1 V d Ya Yb z S x3 x4 x5 x6 x7 x8 x9 W) (hb : Below W.heap.size W W') : Mu_u1 V d Ya Yb z S x3 x4 x5 x6 x7 x8 x9 W' :=
 ⟨jaa h.e h.e.size hb, h.f0, h.f1, fun s => (h.f2 s).imp fun _ ⟨j0, j1⟩ => ⟨j0, j1.grow hb⟩, h.f3, h.f4, fun s => (h.f5 s).imp fun _ ⟨j0, j1⟩ => ⟨j0, j1.grow hb⟩, h.f6⟩
structure Mu_u2 (W4 : World) (d : UpD) (vd ve : Value) (z : Nat) (S : Nat → Bool) (x15 x16 x17 x18 x19 x20 x21 : Value) (W : World) : Prop where
 e : Below W4.heap.size W4 W
 f0 : S 0 = true → x15 = .pointer (some ⟨z, 11, none⟩)
 f1 : S 1 = true → x16 = vd
 f2 : S 2 = true → ∃ q1 : Pl, x17 = slV d.nb q1 ∧ slG W4.heap.size W q1.a d.nb
 f3 : S 3 = true → x18 = .pointer (some ⟨z, 21, none⟩)
 f4 : S 4 = true → x19 = ve
 f5 : S 5 = true → ∃ q1 : Pl, x20 = slV d.fb q1 ∧ slG W4.heap.size W q1.a d.fb
 f6 : S 6 = true → x21 = .pointer (some ⟨z, 11, none⟩)
theorem Mu_u2.grow {W4 : World} {d : UpD} {vd ve : Value} {z : Nat} {S : Nat → Bool} {x15 x16 x17 x18 x19 x20 x21 : Value} {W W' : World} (h : Mu_u2 W4 d vd ve z S x15 x16 x17 x18 x19 x20 x21 W) (hb : Below W.heap.size W W') : Mu_u2 W4 d vd ve z S x15 x16 x17 x18 x19 x20 x21 W' :=
 ⟨jaa h.e h.e.size hb, h.f0, h.f1, fun s => (h.f2 s).imp fun _ ⟨j0, j1⟩ => ⟨j0, j1.grow hb⟩, h.f3, h.f4, fun s => (h.f5 s).imp fun _ ⟨j0, j1⟩ => ⟨j0, j1.grow hb⟩, h.f6⟩
theorem copiedUpd_any (d : UpD) (hz : szU d) (q : UpP) (n : Nat) (w : World) (hn : n ≤ w.heap.size) (hp : upIn n w d q) :
  Calls Tryz.prog 55 #[.agg (upV d q).toArray] w fun e w' => (∃ q', e = .returned (.agg (upV d q').toArray) ∧ upG w.heap.size w' d q') ∧ Below w.heap.size w w' := by
 obtain ⟨z, hzz⟩ : ∃ z, w.heap.size = z := ⟨_, rfl⟩
 have HZ : Hid (w.heap.size = z) := hzz
 obtain ⟨BV, hx, hy, hs⟩ := box2 w (.cells (upV d q).toArray 33) (.cells zUA 33)
 obtain ⟨V, hV⟩ : ∃ V, (w.alloc (.cells (upV d q).toArray 33)).alloc (.cells zUA 33) = V := ⟨_, rfl⟩
 rw [hV] at BV hx hy hs
 rw [hzz] at BV hx hy hs hn
 have R1 := jac hx 0 (ltV d.l q.l) (upV_l d q)
 have R2 := jac hx 12 (ltV d.f q.f) (upV_f d q)
 have KA := fun (W : World) (hB : Below V.heap.size V W) => jcq d.l hz.1 q.l n W (by have := hB.size; omega) (jan ((BV.trans (hB.mono (by omega))).mono hn) hp.1)
 have KB := fun (W : World) (hB : Below V.heap.size V W) => jcq d.f hz.2.2.2.1 q.f n W (by have := hB.size; omega) (jan ((BV.trans (hB.mono (by omega))).mono hn) hp.2.2.2.1)
 have h9 : Hid ((ltV d.l q.l).length = 9 ∧ (ltV d.f q.f).length = 9) := show _ from ⟨rfl, rfl⟩
 have hzV : z < V.heap.size := by omega
 have HX : Hid (_ ∧ _ ∧ _ ∧ _ ∧ _ ∧ _ ∧ _) := ⟨BV, hx, hy, hs, hn, hp, hz⟩
 obtain ⟨Ya, hYa⟩ : ∃ L, ltV d.l q.l = L := ⟨_, rfl⟩
 obtain ⟨Yb, hYb⟩ : ∃ L, ltV d.f q.f = L := ⟨_, rfl⟩
 obtain ⟨L, hL⟩ : ∃ L, (upV d q).toArray = L := ⟨_, rfl⟩
 rw [hYa] at R1 KA h9
 rw [hYb] at R2 KB h9
 rw [hL]
 rw [hL] at hV
 have HL : Hid (_ ∧ _ ∧ _) := ⟨hYa, hYb, hL⟩
 clear BV hx hy hs hn hp hz hYa hYb hL
 go_enter Tryz.func55, Tryz.ntmps55
 go_wp2_with fail
 first | rw [hzz] | skip
 first | rw [hV] | skip
 clear hzz hV
 refine jaw 7 (fun S aa W => ∃ x3 x4 x5 x6 x7 x8 x9 : Value, aa = { tmps := #[Value.agg L, Value.pointer (some { block := z, off := 0 }), Value.pointer (some { block := z + 1, off := 0 }), x3, x4, x5, x6, x7, x8, x9, undef, undef, undef, undef, undef, undef, undef, undef, undef, undef, undef, undef, undef, undef, undef, undef, undef, undef], defers := [] } ∧ Mu_u1 V d Ya Yb z S x3 x4 x5 x6 x7 x8 x9 W) (by kernel_rfl) (by kernel_rfl) ?_ ?_ ?_
 ·exact ⟨undef, undef, undef, undef, undef, undef, undef, rfl, ⟨(Below.refl _ V).drew, nofun, nofun, nofun, nofun, nofun, nofun, nofun⟩⟩
 ·intro i o S aa W hin hi hun hJ hall K hK
  obtain ⟨x3, x4, x5, x6, x7, x8, x9, rfl, h⟩ := hJ
  have hlt : i < 7 := hin
  have hcase : i = 0 ∨ i = 1 ∨ i = 2 ∨ i = 3 ∨ i = 4 ∨ i = 5 ∨ i = 6 := by omega
  rcases hcase with rfl | rfl | rfl | rfl | rfl | rfl | rfl
  all_goals (have ho := (Option.some.inj hi).symm; subst ho; clear hi hlt hin)
  ·go_simp
   exact hK _ _ ⟨_, _, _, _, _, _, _, rfl, { h with f0 := fun _ => rfl }⟩
  ·have s_0 : S 0 = true := hall ⟨0, .data⟩ (by simp) rfl
   obtain rfl := h.f0 s_0
   have cW : W.rangeAt z 0 Ya := fun j v hj => (h.e.cell (p := ⟨z, 0 + j, none⟩) hzV).trans (R1 j v hj)
   (rw [if_pos (by kernel_rfl)]; refine wp_load_mid 29 _ rfl z 0 rfl _ _ cW Tryz.underlying29 rfl (by rw [h9.out.1]; kernel_rfl) ?_)
   exact hK _ _ ⟨_, _, _, _, _, _, _, rfl, { h with f1 := fun _ => rfl }⟩
  ·have s_1 : S 1 = true := hall ⟨1, .data⟩ (by simp) rfl
   obtain rfl := h.f1 s_1
   go_simp
   refine (KA W h.e).mono ?_
   rintro e w5 ⟨⟨q5, rfl, g5⟩, hb5⟩
   have h1 := h.grow hb5
   exact hK _ _ ⟨_, _, _, _, _, _, _, rfl, { h1 with f2 := fun _ => ⟨q5, rfl, g5.mono h.e.size⟩ }⟩
  ·go_simp
   exact hK _ _ ⟨_, _, _, _, _, _, _, rfl, { h with f3 := fun _ => rfl }⟩
  ·have s_3 : S 3 = true := hall ⟨3, .data⟩ (by simp) rfl
   obtain rfl := h.f3 s_3
   have cW : W.rangeAt z 12 Yb := fun j v hj => (h.e.cell (p := ⟨z, 12 + j, none⟩) hzV).trans (R2 j v hj)
   (rw [if_pos (by kernel_rfl)]; refine wp_load_mid 29 _ rfl z 12 rfl _ _ cW Tryz.underlying29 rfl (by rw [h9.out.2]; kernel_rfl) ?_)
   exact hK _ _ ⟨_, _, _, _, _, _, _, rfl, { h with f4 := fun _ => rfl }⟩
  ·have s_4 : S 4 = true := hall ⟨4, .data⟩ (by simp) rfl
   obtain rfl := h.f4 s_4
   go_simp
   refine (KB W h.e).mono ?_
   rintro e w5 ⟨⟨q5, rfl, g5⟩, hb5⟩
   have h1 := h.grow hb5
   exact hK _ _ ⟨_, _, _, _, _, _, _, rfl, { h1 with f5 := fun _ => ⟨q5, rfl, g5.mono h.e.size⟩ }⟩
  ·go_simp
   exact hK _ _ ⟨_, _, _, _, _, _, _, rfl, { h with f6 := fun _ => rfl }⟩
 ·rintro S aa W hall ⟨x3, x4, x5, x6, x7, x8, x9, rfl, h⟩
  obtain rfl := h.f0 (hall 0 (by decide))
  obtain rfl := h.f1 (hall 1 (by decide))
  obtain ⟨ra, rfl, ga⟩ := h.f2 (hall 2 (by decide))
  obtain rfl := h.f3 (hall 3 (by decide))
  obtain rfl := h.f4 (hall 4 (by decide))
  obtain ⟨rb, rfl, gb⟩ := h.f5 (hall 5 (by decide))
  obtain rfl := h.f6 (hall 6 (by decide))
  have BWD := h.e
  clear h hall
  obtain ⟨BV, hx, hy, hs, hn, hp, hz⟩ := HX.out
  have xW : Bq z 33 (upV d q).toArray W := (BWD.block z (by omega)).trans hx
  have yW : Bq (z + 1) 33 zUA W := (BWD.block (z + 1) (by omega)).trans hy
  have bW : Below z w W := BV.trans (BWD.mono (by omega))
  have sW : z + 2 ≤ W.heap.size := by have := BWD.size; omega
  rw [show V.heap.size = z + 2 by omega] at ga gb
  have ht1 : W.there z 0 (ltV d.l ra).length := jai xW (by show 0 + 9 ≤ 25; omega)
  have x1 : Bq z 33 (upV d { q with l := ra }).toArray (W.setCells z 0 (ltV d.l ra)) := jav (cmV d.c q.c ++ [slV d.nb q.nb] ++ ltV d.f q.f ++ [slV d.fb q.fb, .int .u64 (d.bits : Int), .string d.sig, .int .u64 (d.slot : Int)]) (ltV d.l ra) (ltV d.l q.l) [] W rfl xW
  have ht2 : (W.setCells z 0 (ltV d.l ra)).there z 12 (ltV d.f rb).length := jai x1 (by show 12 + 9 ≤ 25; omega)
  have x2 : Bq z 33 (upV d { q with l := ra, f := rb }).toArray ((W.setCells z 0 (ltV d.l ra)).setCells z 12 (ltV d.f rb)) := jav [slV d.fb q.fb, .int .u64 (d.bits : Int), .string d.sig, .int .u64 (d.slot : Int)] (ltV d.f rb) (ltV d.f q.f) (ltV d.l ra ++ cmV d.c q.c ++ [slV d.nb q.nb]) _ rfl x1
  have y2 : Bq (z + 1) 33 zUA ((W.setCells z 0 (ltV d.l ra)).setCells z 12 (ltV d.f rb)) := ((jad (show z + 1 ≠ z by omega) _ _ _).trans (jad (show z + 1 ≠ z by omega) _ _ _)).trans yW
  have b2 : Below z w ((W.setCells z 0 (ltV d.l ra)).setCells z 12 (ltV d.f rb)) := jaq (jaq bW (Nat.le_refl _) _) (Nat.le_refl _) _
  have hsz2 : ((W.setCells z 0 (ltV d.l ra)).setCells z 12 (ltV d.f rb)).heap.size = W.heap.size := by rw [jaj, jaj]
  have ga2 := ga.keep (W' := (W.setCells z 0 (ltV d.l ra)).setCells z 12 (ltV d.f rb)) (by omega) fun b hb _ => (jad (by omega) _ _ _).trans (jad (by omega) _ _ _)
  have gb2 := gb.keep (W' := (W.setCells z 0 (ltV d.l ra)).setCells z 12 (ltV d.f rb)) (by omega) fun b hb _ => (jad (by omega) _ _ _).trans (jad (by omega) _ _ _)
  have H2 : Hid (_ ∧ _ ∧ _ ∧ _ ∧ _ ∧ _) := ⟨x2, y2, b2, (by omega : z + 2 ≤ ((W.setCells z 0 (ltV d.l ra)).setCells z 12 (ltV d.f rb)).heap.size), ga2, gb2⟩
  have HP : Hid (_ ∧ _ ∧ _) := ⟨hn, hp, hz⟩
  clear xW yW bW sW ga gb BV hx hy hs hn hp hz BWD x1 x2 y2 b2 hsz2 ga2 gb2
  refine jat rfl rfl 29 _ _ rfl z 0 (ltV d.l ra) rfl rfl ht1 (by kernel_rfl) (jbx _ _) ?_
  refine wpList_plain rfl (fun K hK => ?_)
  go_simp
  refine hK _ _ ?_
  clear hK K
  refine jat rfl rfl 29 _ _ rfl z 12 (ltV d.f rb) rfl rfl ht2 (by kernel_rfl) (jbx _ _) ?_
  refine wpList_nil ?_
  refine thenOf (fun W => Bq z 33 (upV d { q with l := ra, f := rb }).toArray W ∧ Bq (z + 1) 33 zUA W ∧ Below z w W ∧ z + 2 ≤ W.heap.size ∧ slG (z + 2) W ra.a d.l.br ∧ slG (z + 2) W rb.a d.f.br) H2.out ?_
  rintro W2 ⟨x2, y2, b2, s2, ga, gb⟩
  clear H2 ht1 ht2 HX
  obtain ⟨hn, hp, hz⟩ := HP.out
  have R3 := jac x2 9 (cmV d.c q.c) (upV_c d { q with l := ra, f := rb })
  have KC := jdv d.c hz.2.1 q.c n W2 (by omega) (jan (b2.mono hn) hp.2.1)
  have hc2 : Hid ((cmV d.c q.c).length = 2) := show _ from rfl
  obtain ⟨Yc, hYc⟩ : ∃ L, cmV d.c q.c = L := ⟨_, rfl⟩
  rw [hYc] at R3 KC hc2
  have HYc : Hid _ := hYc
  clear hYc
  have X2 : Hid (_ ∧ _ ∧ _ ∧ _ ∧ _ ∧ _) := ⟨x2, y2, b2, s2, ga, gb⟩
  clear x2 y2 b2 ga gb hn hp hz
  go_wp2_with (refine wpList_load_mid rfl 31 _ rfl z 9 rfl _ _ R3 Tryz.underlying31 rfl (by rw [hc2.out]; kernel_rfl) ?_)
  refine KC.mono ?_
  rintro e w3 ⟨⟨rc, rfl, gc⟩, B3⟩
  obtain ⟨x2, y2, b2, s2, ga, gb⟩ := X2.out
  have x3 := x2.below B3
  have s3 := B3.size
  have ht3 : w3.there z 9 (cmV d.c rc).length := jai x3 (by show 9 + 2 ≤ 25; omega)
  have x4 : Bq z 33 (upV d { q with l := ra, f := rb, c := rc }).toArray (w3.setCells z 9 (cmV d.c rc)) := jav ([slV d.nb q.nb] ++ ltV d.f rb ++ [slV d.fb q.fb, .int .u64 (d.bits : Int), .string d.sig, .int .u64 (d.slot : Int)]) (cmV d.c rc) (cmV d.c q.c) (ltV d.l ra) w3 rfl x3
  have y4 : Bq (z + 1) 33 zUA (w3.setCells z 9 (cmV d.c rc)) := (jad (show z + 1 ≠ z by omega) _ _ _).trans (y2.below B3)
  have b4 : Below z w (w3.setCells z 9 (cmV d.c rc)) := jaq (jaa b2 (by omega) B3) (Nat.le_refl _) _
  have hsz4 : (w3.setCells z 9 (cmV d.c rc)).heap.size = w3.heap.size := by rw [jaj]
  have KG : ∀ (n : Nat) (a : Option Addr) (xs : List ByteArray), z + 2 ≤ n → slG n w3 a xs → slG (z + 2) (w3.setCells z 9 (cmV d.c rc)) a xs := fun n a xs hn h => (h.keep (by omega) fun b hb _ => jad (by omega) _ _ _).mono hn
  have H4 : Hid (_ ∧ _ ∧ _ ∧ _ ∧ _ ∧ _ ∧ _) := ⟨x4, y4, b4, (by omega : z + 2 ≤ (w3.setCells z 9 (cmV d.c rc)).heap.size), KG _ _ _ (Nat.le_refl _) (ga.grow B3), KG _ _ _ (Nat.le_refl _) (gb.grow B3), KG _ _ _ s2 gc⟩
  clear x3 x4 y4 b4 hsz4 KG ga gb gc x2 y2 b2 X2 B3 KC R3 hc2
  go_wp2_with (refine jat rfl rfl 31 _ _ rfl z 9 (cmV d.c rc) rfl rfl ht3 (by kernel_rfl) (jcc _ _) ?_; refine wpList_nil ?_; refine Stp.out ?_)
  refine ⟨?_⟩
  refine thenOf (fun W => Bq z 33 (upV d { q with l := ra, f := rb, c := rc }).toArray W ∧ Bq (z + 1) 33 zUA W ∧ Below z w W ∧ z + 2 ≤ W.heap.size ∧ slG (z + 2) W ra.a d.l.br ∧ slG (z + 2) W rb.a d.f.br ∧ slG (z + 2) W rc.a d.c.ks) H4.out ?_
  rintro W4 ⟨x4, y4, b4, s4, ga, gb, gc⟩
  clear H4 ht3
  obtain ⟨hn, hp, hz⟩ := HP.out
  have c11 : W4.cell? ⟨z, 11, none⟩ = some (slV d.nb q.nb) := jaf x4 11 _ rfl
  have c21 : W4.cell? ⟨z, 21, none⟩ = some (slV d.fb q.fb) := jaf x4 21 _ rfl
  have KD := fun (W : World) (hB : Below W4.heap.size W4 W) => jge d.nb hz.2.2.1 q.nb n W (by have := hB.size; omega) (jan ((b4.trans (hB.mono (by omega))).mono hn) hp.2.2.1)
  have KE := fun (W : World) (hB : Below W4.heap.size W4 W) => jge d.fb hz.2.2.2.2.1 q.fb n W (by have := hB.size; omega) (jan ((b4.trans (hB.mono (by omega))).mono hn) hp.2.2.2.2)
  have hzV4 : z < W4.heap.size := by omega
  have HX : Hid (_ ∧ _ ∧ _ ∧ _ ∧ _ ∧ _ ∧ _) := ⟨x4, y4, b4, s4, ga, gb, gc⟩
  obtain ⟨vd, hvd⟩ : ∃ v, slV d.nb q.nb = v := ⟨_, rfl⟩
  obtain ⟨ve, hve⟩ : ∃ v, slV d.fb q.fb = v := ⟨_, rfl⟩
  rw [hvd] at c11 KD
  rw [hve] at c21 KE
  clear x4 y4 b4 ga gb gc hn hp hz hvd hve
  go_wp2_with fail
  refine jaw 7 (fun S aa W => ∃ x15 x16 x17 x18 x19 x20 x21 : Value, aa = { tmps := #[Value.agg L, Value.pointer (some { block := z, off := 0 }), Value.pointer (some { block := z + 1, off := 0 }), Value.pointer (some { block := z, off := 0 }), Value.agg Ya.toArray, Value.agg (ltV d.l ra).toArray, Value.pointer (some { block := z, off := 12 }), Value.agg Yb.toArray, Value.agg (ltV d.f rb).toArray, Value.pointer (some { block := z, off := 0 }), Value.pointer (some { block := z, off := 12 }), Value.pointer (some { block := z, off := 9 }), Value.agg Yc.toArray, Value.agg (cmV d.c rc).toArray, Value.pointer (some { block := z, off := 9 }), x15, x16, x17, x18, x19, x20, x21, undef, undef, undef, undef, undef, undef], defers := [] } ∧ Mu_u2 W4 d vd ve z S x15 x16 x17 x18 x19 x20 x21 W) (by kernel_rfl) (by kernel_rfl) ?_ ?_ ?_
  ·exact ⟨undef, undef, undef, undef, undef, undef, undef, rfl, ⟨(Below.refl _ W4).drew, nofun, nofun, nofun, nofun, nofun, nofun, nofun⟩⟩
  ·intro i o S aa W hin hi hun hJ hall K hK
   obtain ⟨x15, x16, x17, x18, x19, x20, x21, rfl, h⟩ := hJ
   have hlt : i < 7 := hin
   have hcase : i = 0 ∨ i = 1 ∨ i = 2 ∨ i = 3 ∨ i = 4 ∨ i = 5 ∨ i = 6 := by omega
   rcases hcase with rfl | rfl | rfl | rfl | rfl | rfl | rfl
   all_goals (have ho := (Option.some.inj hi).symm; subst ho; clear hi hlt hin)
   ·go_simp
    exact hK _ _ ⟨_, _, _, _, _, _, _, rfl, { h with f0 := fun _ => rfl }⟩
   ·have s_0 : S 0 = true := hall ⟨0, .data⟩ (by simp) rfl
    obtain rfl := h.f0 s_0
    have cW := (h.e.cell (p := ⟨z, 11, none⟩) hzV4).trans c11
    go_simp
    exact hK _ _ ⟨_, _, _, _, _, _, _, rfl, { h with f1 := fun _ => rfl }⟩
   ·have s_1 : S 1 = true := hall ⟨1, .data⟩ (by simp) rfl
    obtain rfl := h.f1 s_1
    go_simp
    refine (KD W h.e).mono ?_
    rintro e w5 ⟨⟨q5, rfl, g5⟩, hb5⟩
    have h1 := h.grow hb5
    exact hK _ _ ⟨_, _, _, _, _, _, _, rfl, { h1 with f2 := fun _ => ⟨q5, rfl, g5.mono h.e.size⟩ }⟩
   ·go_simp
    exact hK _ _ ⟨_, _, _, _, _, _, _, rfl, { h with f3 := fun _ => rfl }⟩
   ·have s_3 : S 3 = true := hall ⟨3, .data⟩ (by simp) rfl
    obtain rfl := h.f3 s_3
    have cW := (h.e.cell (p := ⟨z, 21, none⟩) hzV4).trans c21
    go_simp
    exact hK _ _ ⟨_, _, _, _, _, _, _, rfl, { h with f4 := fun _ => rfl }⟩
   ·have s_4 : S 4 = true := hall ⟨4, .data⟩ (by simp) rfl
    obtain rfl := h.f4 s_4
    go_simp
    refine (KE W h.e).mono ?_
    rintro e w5 ⟨⟨q5, rfl, g5⟩, hb5⟩
    have h1 := h.grow hb5
    exact hK _ _ ⟨_, _, _, _, _, _, _, rfl, { h1 with f5 := fun _ => ⟨q5, rfl, g5.mono h.e.size⟩ }⟩
   ·go_simp
    exact hK _ _ ⟨_, _, _, _, _, _, _, rfl, { h with f6 := fun _ => rfl }⟩
  ·rintro S aa W hall ⟨x15, x16, x17, x18, x19, x20, x21, rfl, h⟩
   obtain rfl := h.f0 (hall 0 (by decide))
   obtain rfl := h.f1 (hall 1 (by decide))
   obtain ⟨rd, rfl, gd⟩ := h.f2 (hall 2 (by decide))
   obtain rfl := h.f3 (hall 3 (by decide))
   obtain rfl := h.f4 (hall 4 (by decide))
   obtain ⟨re, rfl, ge⟩ := h.f5 (hall 5 (by decide))
   obtain rfl := h.f6 (hall 6 (by decide))
   have BWD := h.e
   clear h hall
   obtain ⟨x4, y4, b4, s4, ga, gb, gc⟩ := HX.out
   have x5 : Bq z 33 (upV d { q with l := ra, f := rb, c := rc }).toArray W := x4.below BWD
   have y5 := y4.below BWD
   have s5 := BWD.size
   have b5 := jaa b4 (by omega) BWD
   have e5 : Bq z 33 (upV d ⟨ra, rc, rd, rb, re⟩).toArray ((W.setCell ⟨z, 11, none⟩ (slV d.nb rd)).setCell ⟨z, 21, none⟩ (slV d.fb re)) := jam (jam x5 11 (slV d.nb rd)) 21 (slV d.fb re)
   have y6 := (y5.other (k := z) (by omega) 11 (slV d.nb rd)).other (k := z) (by omega) 21 (slV d.fb re)
   have b6 : Below z w ((W.setCell ⟨z, 11, none⟩ (slV d.nb rd)).setCell ⟨z, 21, none⟩ (slV d.fb re)) := (b5.setCell (p := ⟨z, 11, none⟩) (Nat.le_refl _) _).setCell (p := ⟨z, 21, none⟩) (Nat.le_refl _) _
   have hsz6 : ((W.setCell ⟨z, 11, none⟩ (slV d.nb rd)).setCell ⟨z, 21, none⟩ (slV d.fb re)).heap.size = W.heap.size := by simp [World.setCell]
   have KG : ∀ (n : Nat) (a : Option Addr) (xs : List ByteArray), z + 2 ≤ n → slG n W a xs → slG (z + 2) ((W.setCell ⟨z, 11, none⟩ (slV d.nb rd)).setCell ⟨z, 21, none⟩ (slV d.fb re)) a xs := fun n a xs hn h => (h.keep (by omega) fun b hb _ => (Below.heap_setCell _ _ _ _ (show b ≠ z by omega)).trans (Below.heap_setCell _ _ _ _ (show b ≠ z by omega))).mono hn
   have G6 : upG (z + 2) ((W.setCell ⟨z, 11, none⟩ (slV d.nb rd)).setCell ⟨z, 21, none⟩ (slV d.fb re)) d ⟨ra, rc, rd, rb, re⟩ := ⟨KG _ _ _ (Nat.le_refl _) (ga.grow BWD), KG _ _ _ (Nat.le_refl _) (gc.grow BWD), KG _ _ _ s4 gd, KG _ _ _ (Nat.le_refl _) (gb.grow BWD), KG _ _ _ s4 ge⟩
   have f0 := x5.fr
   have c0 : W.cell? ⟨z, 11, none⟩ = some (slV d.nb q.nb) := jaf x5 11 _ rfl
   have c1 : W.cell? ⟨z, 21, none⟩ = some (slV d.fb q.fb) := jaf x5 21 _ rfl
   have c2 : W.cell? ⟨z, 23, none⟩ = some (.string d.sig) := jaf x5 23 _ rfl
   have H6 : Hid (_ ∧ _ ∧ _ ∧ _ ∧ _) := ⟨e5, y6, b6, (by omega : z + 2 ≤ ((W.setCell ⟨z, 11, none⟩ (slV d.nb rd)).setCell ⟨z, 21, none⟩ (slV d.fb re)).heap.size), G6⟩
   have KF := fun W : World => jbu d.sig W HP.out.2.2.2.2.2.2.2
   have hzW : z < W.heap.size := x5.lt
   clear x4 y4 b4 ga gb gc x5 y5 b5 e5 y6 b6 hsz6 KG G6 gd ge BWD HX c11 c21
   simp only [slV] at H6 c0 c1 ⊢
   go_wp2_with fail
   refine (KF _).mono ?_
   rintro e w8 ⟨rfl, B8⟩
   obtain ⟨e5, y6, b6, s6, G6⟩ := H6.out
   have x8 := e5.below B8
   have f8 := x8.fr 23
   have c8 : w8.cell? ⟨z, 23, none⟩ = some (.string d.sig) := jaf x8 23 _ rfl
   have x9 : (w8.setCell ⟨z, 23, none⟩ (.string d.sig)).heap[z]? = some (.cells (upV d ⟨ra, rc, rd, rb, re⟩).toArray 33 (0, 0)) := jam x8 23 (.string d.sig)
   have y9 : (w8.setCell ⟨z, 23, none⟩ (.string d.sig)).heap[z + 1]? = some (.cells zUA 33 (0, 0)) := (y6.below B8).other (k := z) (by omega) 23 (.string d.sig)
   have b9 : Below z w (w8.setCell ⟨z, 23, none⟩ (.string d.sig)) := (jaa b6 (by omega) B8).setCell (p := ⟨z, 23, none⟩) (Nat.le_refl _) _
   have s9 : w8.heap.size = (w8.setCell ⟨z, 23, none⟩ (.string d.sig)).heap.size := by simp [World.setCell]
   have G9 : upG (z + 2) (w8.setCell ⟨z, 23, none⟩ (.string d.sig)) d ⟨ra, rc, rd, rb, re⟩ := (G6.grow B8).keep (by omega) fun b hb _ => Below.heap_setCell _ _ _ _ (show b ≠ z by omega)
   have hQ : Hid ((upV d ⟨ra, rc, rd, rb, re⟩).toArray.size = 25) := show _ from rfl
   have hone := jbj d ⟨ra, rc, rd, rb, re⟩
   obtain ⟨qf, hqf⟩ : ∃ qf : UpP, (⟨ra, rc, rd, rb, re⟩ : UpP) = qf := ⟨_, rfl⟩
   rw [hqf] at x9 G9 hQ hone
   obtain ⟨F9, hF9⟩ : ∃ F, (upV d qf).toArray = F := ⟨_, rfl⟩
   have HF : Hid (_ ∧ _ ∧ _ ∧ _ ∧ _) := ⟨b9, G9, hF9, y9, jba hone⟩
   rw [hF9] at x9 hQ
   clear e5 y6 b6 s6 G6 x8 b9 s9 G9 hF9 hone hqf H6 c0 c1 c2 f0 B8 KF hzW
   go_wp2_with (first
    | (refine wpList_load_row rfl 33 _ rfl z rfl _ _ _ _ x9 Tryz.underlying33 rfl (by rw [hQ.out]; kernel_rfl) ?_)
    | (refine jao rfl rfl 33 _ _ rfl (z + 1) _ rfl rfl 33 _ y9 (by rw [hQ.out]; kernel_rfl) (by rw [hQ.out]; rfl) (by rw [← HF.out.2.2.1]; exact HF.out.2.2.2.2) ?_))
   obtain ⟨b9, G9, hF9, y9', -⟩ := HF.out
   have r9 := Bq.row (show Bq (z + 1) 33 _ _ from y9') F9
   have b10 := jas b9 (show z ≤ z + 1 by omega) F9
   refine bodyPost_ret (results_cell_row rfl _ _ (z + 1) 33 _ (0, 0) _ rfl r9 Tryz.underlying33 rfl (by rw [hQ.out]; kernel_rfl)) rfl ⟨⟨qf, by rw [← hF9], ?_⟩, ?_⟩
   ·exact (G9.keep (by rw [size_setRow]; exact Nat.le_refl _) fun b hb _ => setRow_other _ _ _ _ (by omega)).mono (by have := HZ.out; omega)
   ·rw [HZ.out]
    exact b10
end Go.Proofs.YtoddangedbefgabGreatDoor
