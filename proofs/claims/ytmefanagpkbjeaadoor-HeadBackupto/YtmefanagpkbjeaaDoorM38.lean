/- Lemmas: The reference's items of Lights. -/
import Derived.Test.YtmefanagpkbjeaaDoorM1
import Derived.Test.YtmefanagpkbjeaaDoorM10
import Derived.Test.YtmefanagpkbjeaaDoorM11
import Derived.Test.YtmefanagpkbjeaaDoorM12
import Derived.Test.YtmefanagpkbjeaaDoorM13
import Derived.Test.YtmefanagpkbjeaaDoorM14
import Derived.Test.YtmefanagpkbjeaaDoorM15
import Derived.Test.YtmefanagpkbjeaaDoorM16
import Derived.Test.YtmefanagpkbjeaaDoorM17
import Derived.Test.YtmefanagpkbjeaaDoorM18
import Derived.Test.YtmefanagpkbjeaaDoorM19
import Derived.Test.YtmefanagpkbjeaaDoorM2
import Derived.Test.YtmefanagpkbjeaaDoorM20
import Derived.Test.YtmefanagpkbjeaaDoorM21
import Derived.Test.YtmefanagpkbjeaaDoorM22
import Derived.Test.YtmefanagpkbjeaaDoorM23
import Derived.Test.YtmefanagpkbjeaaDoorM24
import Derived.Test.YtmefanagpkbjeaaDoorM25
import Derived.Test.YtmefanagpkbjeaaDoorM26
import Derived.Test.YtmefanagpkbjeaaDoorM27
import Derived.Test.YtmefanagpkbjeaaDoorM28
import Derived.Test.YtmefanagpkbjeaaDoorM29
import Derived.Test.YtmefanagpkbjeaaDoorM3
import Derived.Test.YtmefanagpkbjeaaDoorM30
import Derived.Test.YtmefanagpkbjeaaDoorM31
import Derived.Test.YtmefanagpkbjeaaDoorM33
import Derived.Test.YtmefanagpkbjeaaDoorM34
import Derived.Test.YtmefanagpkbjeaaDoorM35
import Derived.Test.YtmefanagpkbjeaaDoorM36
import Derived.Test.YtmefanagpkbjeaaDoorM37
import Derived.Test.YtmefanagpkbjeaaDoorM4
import Derived.Test.YtmefanagpkbjeaaDoorM6
import Derived.Test.YtmefanagpkbjeaaDoorM7
import Derived.Test.YtmefanagpkbjeaaDoorM8
import Derived.Test.YtmefanagpkbjeaaDoorM9
import Derived.Test.YtmefanagpkbjeaaDoorRows
namespace Go.Proofs.YtmefanagpkbjeaaDoor
open Go.RowKit Go.Shelf Go.Sort

theorem row_lit {P : Nat → Prop} {W : World} {g : Nat} {cs : Array Value} (hg : W.heap[g]? = some (.cells cs 70 (0, 0))) (hP : P g) (ys : List Im) (h : ∀ y ∈ ys, inP P W y) (hcs : cs = (ys.flatMap cell3).toArray) : rowP P W (some ⟨g, 0, none⟩) 0 ys := by
  refine rowP_mk hP ys 0 (fun j y hy => ?_)
  have hc := cells3_at ys j y hy
  rw [Nat.zero_add]
  have q : ∀ k, W.cell? ⟨g, k, none⟩ = (ys.flatMap cell3)[k]? := fun k => by
    rw [Lib.cell_of_heap hg, hcs]
    simp
  exact ⟨(q _).trans hc.1, (q _).trans hc.2.1, (q _).trans hc.2.2, h y (List.mem_of_getElem? hy)⟩
theorem four_boxes (w : World) (o1 o2 o3 o4 : Obj) : Below w.heap.size w ((((w.alloc o1).alloc o2).alloc o3).alloc o4) ∧ ((((w.alloc o1).alloc o2).alloc o3).alloc o4).heap[w.heap.size]? = some o1 ∧ ((((w.alloc o1).alloc o2).alloc o3).alloc o4).heap[w.heap.size + 1]? = some o2 ∧ ((((w.alloc o1).alloc o2).alloc o3).alloc o4).heap[w.heap.size + 2]? = some o3 ∧ ((((w.alloc o1).alloc o2).alloc o3).alloc o4).heap[w.heap.size + 3]? = some o4 := by
  obtain ⟨a1, a2, a3⟩ := two_boxes w o1 o2
  obtain ⟨b1, b2, b3⟩ := two_boxes ((w.alloc o1).alloc o2) o3 o4
  have hs : ((w.alloc o1).alloc o2).heap.size = w.heap.size + 2 := by simp
  rw [hs] at b1 b2 b3
  exact ⟨a1.trans (b1.mono (by omega)), (b1.block _ (by omega)).trans a2, (b1.block _ (by omega)).trans a3, b2, b3⟩
/-- A block of texts as items, and a box that holds nothing yet, are two. -/
theorem lit_apart {W : World} {g q : Nat} {cs : Array Value} {ty : TypeId} (hg : W.heap[g]? = some (.cells cs ty (0, 0))) (hq : W.heap[q]? = some (.cells #[.bool false, .string ⟨#[]⟩, .slice none 0 0] ty (0, 0))) (hz : cs.size ≠ 3) : g ≠ q := fun e => by
  rw [e, hq] at hg
  injection hg with hg
  injection hg with hg
  rw [← hg] at hz
  exact hz rfl
/-- What holds while a statement runs. -/
structure Ml_hd (V : World) (z s u m K c : Nat) (a : Option Addr) (n1 n2 n3 p t b ea ra : ByteArray) (S : Nat → Bool) (x5 x11 x12 x13 x14 x15 x16 x17 x18 x19 x20 x21 x22 x23 x24 x25 x26 x27 : Value) (W : World) : Prop where
  e : Below V.heap.size V W
  f0 : S 0 = true → x11 = Value.pointer (some ⟨z + 2, 0, none⟩)
  f1 : S 1 = true → x12 = Value.int .u64 s
  f2 : S 2 = true → x13 = Value.agg #[.bool false, .string n1, .slice none 0 0]
  f3 : S 3 = true → x14 = Value.pointer (some ⟨z + 2, 1, none⟩)
  f4 : S 4 = true → x15 = Value.int .u64 u
  f5 : S 5 = true → x16 = Value.agg #[.bool false, .string n2, .slice none 0 0]
  f6 : S 6 = true → x17 = Value.pointer (some ⟨z + 2, 2, none⟩)
  f7 : S 7 = true → x18 = Value.string p
  f8 : S 8 = true → x19 = Value.agg #[.bool false, .string p, .slice none 0 0]
  f9 : S 9 = true → x20 = Value.pointer (some ⟨z + 2, 3, none⟩)
  f10 : S 10 = true → x21 = Value.string t
  f11 : S 11 = true → x22 = Value.agg #[.bool false, .string t, .slice none 0 0]
  f12 : S 12 = true → x23 = Value.pointer (some ⟨z + 2, 4, none⟩)
  f13 : S 13 = true → x24 = Value.string b
  f14 : S 14 = true → x25 = Value.agg #[.bool false, .string b, .slice none 0 0]
  f15 : S 15 = true → ∃ g, x26 = .slice (some ⟨g, 0, none⟩) 5 5 ∧ V.heap.size ≤ g ∧ g < W.heap.size ∧ W.heap[g]? = some (.cells #[.bool false, .string n1, .slice none 0 0, .bool false, .string n2, .slice none 0 0, .bool false, .string p, .slice none 0 0, .bool false, .string t, .slice none 0 0, .bool false, .string b, .slice none 0 0] 70 (0, 0))
  f16 : S 16 = true → ∃ g, x27 = .agg #[.bool true, .string ⟨#[]⟩, .slice (some ⟨g, 0, none⟩) 5 5] ∧ V.heap.size ≤ g ∧ g < W.heap.size ∧ W.heap[g]? = some (.cells #[.bool false, .string n1, .slice none 0 0, .bool false, .string n2, .slice none 0 0, .bool false, .string p, .slice none 0 0, .bool false, .string t, .slice none 0 0, .bool false, .string b, .slice none 0 0] 70 (0, 0))
  f17 : S 17 = true → ∃ g, x5 = .pointer (some ⟨g, 0, none⟩) ∧ V.heap.size ≤ g ∧ g < W.heap.size ∧ W.heap[g]? = some (.cells #[.bool false, .string ⟨#[]⟩, .slice none 0 0] 70 (0, 0))
theorem Ml_hd.grow {V : World} {z s u m K c : Nat} {a : Option Addr} {n1 n2 n3 p t b ea ra : ByteArray} {S : Nat → Bool} {x5 x11 x12 x13 x14 x15 x16 x17 x18 x19 x20 x21 x22 x23 x24 x25 x26 x27 : Value} {W W' : World} (h : Ml_hd V z s u m K c a n1 n2 n3 p t b ea ra S x5 x11 x12 x13 x14 x15 x16 x17 x18 x19 x20 x21 x22 x23 x24 x25 x26 x27 W) (hb : Below W.heap.size W W') : Ml_hd V z s u m K c a n1 n2 n3 p t b ea ra S x5 x11 x12 x13 x14 x15 x16 x17 x18 x19 x20 x21 x22 x23 x24 x25 x26 x27 W' :=
  ⟨belowStep h.e h.e.size hb, h.f0, h.f1, h.f2, h.f3, h.f4, h.f5, h.f6, h.f7, h.f8, h.f9, h.f10, h.f11, h.f12, h.f13, h.f14, fun s => (h.f15 s).imp fun _ ⟨j1, j0, j2, j3⟩ => ⟨j1, j0, Nat.lt_of_lt_of_le j2 hb.size, (hb.block _ j2).trans j3⟩, fun s => (h.f16 s).imp fun _ ⟨j1, j0, j2, j3⟩ => ⟨j1, j0, Nat.lt_of_lt_of_le j2 hb.size, (hb.block _ j2).trans j3⟩, fun s => (h.f17 s).imp fun _ ⟨j1, j0, j2, j3⟩ => ⟨j1, j0, Nat.lt_of_lt_of_le j2 hb.size, (hb.block _ j2).trans j3⟩⟩
/-- What holds while a statement runs. -/
structure Ml_ex (V : World) (z s u m K c : Nat) (a : Option Addr) (n1 n2 n3 p t b ea ra : ByteArray) (g5 q5 gl5 : Nat) (S : Nat → Bool) (x6 x28 x29 x30 x31 x32 x33 x34 x35 x36 x37 x38 : Value) (W : World) : Prop where
  e : Below V.heap.size V W
  f0 : S 0 = true → x28 = Value.pointer (some ⟨z + 3, 0, none⟩)
  f1 : S 1 = true → x29 = Value.string ea
  f2 : S 2 = true → x30 = Value.agg #[.bool false, .string ea, .slice none 0 0]
  f3 : S 3 = true → x31 = Value.pointer (some ⟨z + 3, 1, none⟩)
  f4 : S 4 = true → x32 = Value.string ra
  f5 : S 5 = true → x33 = Value.agg #[.bool false, .string ra, .slice none 0 0]
  f6 : S 6 = true → x34 = Value.pointer (some ⟨z + 3, 2, none⟩)
  f7 : S 7 = true → x35 = Value.int .u64 m
  f8 : S 8 = true → x36 = Value.agg #[.bool false, .string n3, .slice none 0 0]
  f9 : S 9 = true → ∃ g, x37 = .slice (some ⟨g, 0, none⟩) 3 3 ∧ V.heap.size ≤ g ∧ g < W.heap.size ∧ W.heap[g]? = some (.cells #[.bool false, .string ea, .slice none 0 0, .bool false, .string ra, .slice none 0 0, .bool false, .string n3, .slice none 0 0] 70 (0, 0))
  f10 : S 10 = true → ∃ g, x38 = .agg #[.bool true, .string ⟨#[]⟩, .slice (some ⟨g, 0, none⟩) 3 3] ∧ V.heap.size ≤ g ∧ g < W.heap.size ∧ W.heap[g]? = some (.cells #[.bool false, .string ea, .slice none 0 0, .bool false, .string ra, .slice none 0 0, .bool false, .string n3, .slice none 0 0] 70 (0, 0))
  f11 : S 11 = true → ∃ g, x6 = .pointer (some ⟨g, 0, none⟩) ∧ V.heap.size ≤ g ∧ g < W.heap.size ∧ W.heap[g]? = some (.cells #[.bool false, .string ⟨#[]⟩, .slice none 0 0] 70 (0, 0))
theorem Ml_ex.grow {V : World} {z s u m K c : Nat} {a : Option Addr} {n1 n2 n3 p t b ea ra : ByteArray} {g5 q5 gl5 : Nat} {S : Nat → Bool} {x6 x28 x29 x30 x31 x32 x33 x34 x35 x36 x37 x38 : Value} {W W' : World} (h : Ml_ex V z s u m K c a n1 n2 n3 p t b ea ra g5 q5 gl5 S x6 x28 x29 x30 x31 x32 x33 x34 x35 x36 x37 x38 W) (hb : Below W.heap.size W W') : Ml_ex V z s u m K c a n1 n2 n3 p t b ea ra g5 q5 gl5 S x6 x28 x29 x30 x31 x32 x33 x34 x35 x36 x37 x38 W' :=
  ⟨belowStep h.e h.e.size hb, h.f0, h.f1, h.f2, h.f3, h.f4, h.f5, h.f6, h.f7, h.f8, fun s => (h.f9 s).imp fun _ ⟨j1, j0, j2, j3⟩ => ⟨j1, j0, Nat.lt_of_lt_of_le j2 hb.size, (hb.block _ j2).trans j3⟩, fun s => (h.f10 s).imp fun _ ⟨j1, j0, j2, j3⟩ => ⟨j1, j0, Nat.lt_of_lt_of_le j2 hb.size, (hb.block _ j2).trans j3⟩, fun s => (h.f11 s).imp fun _ ⟨j1, j0, j2, j3⟩ => ⟨j1, j0, Nat.lt_of_lt_of_le j2 hb.size, (hb.block _ j2).trans j3⟩⟩
/-- What holds while a statement runs. -/
structure Ml_lt (V : World) (z s u m K c : Nat) (a : Option Addr) (n1 n2 n3 p t b ea ra : ByteArray) (g5 q5 gl5 g6 q6 gl3 : Nat) (tx : It) (S : Nat → Bool) (x39 x40 x41 x42 x43 x44 x45 : Value) (W : World) : Prop where
  e : Below V.heap.size V W
  f0 : S 0 = true → x39 = Value.agg #[.bool true, .string ⟨#[]⟩, .slice (some ⟨g5, 0, none⟩) 5 5]
  f1 : S 1 = true → x40 = Value.agg #[.bool true, .string ⟨#[]⟩, .slice (some ⟨g6, 0, none⟩) 3 3]
  f2 : S 2 = true → x41 = Value.pointer (some ⟨z, 8, none⟩)
  f3 : S 3 = true → x42 = Value.slice a K c
  f4 : S 4 = true → ItR tx (z + 4) x43 W
  f5 : S 5 = true → RwI 3 [lsI [tI n1, tI n2, tI p, tI t, tI b], lsI [tI ea, tI ra, tI n3], tx] (z + 4) x44 W
  f6 : S 6 = true → ItR (lsI [lsI [tI n1, tI n2, tI p, tI t, tI b], lsI [tI ea, tI ra, tI n3], tx]) (z + 4) x45 W
theorem Ml_lt.grow {V : World} {z s u m K c : Nat} {a : Option Addr} {n1 n2 n3 p t b ea ra : ByteArray} {g5 q5 gl5 g6 q6 gl3 : Nat} {tx : It} {S : Nat → Bool} {x39 x40 x41 x42 x43 x44 x45 : Value} {W W' : World} (h : Ml_lt V z s u m K c a n1 n2 n3 p t b ea ra g5 q5 gl5 g6 q6 gl3 tx S x39 x40 x41 x42 x43 x44 x45 W) (hb : Below W.heap.size W W') : Ml_lt V z s u m K c a n1 n2 n3 p t b ea ra g5 q5 gl5 g6 q6 gl3 tx S x39 x40 x41 x42 x43 x44 x45 W' :=
  ⟨belowStep h.e h.e.size hb, h.f0, h.f1, h.f2, h.f3, fun s => ItR.grow (h.f4 s) hb, fun s => RwI.grow (h.f5 s) hb, fun s => ItR.grow (h.f6 s) hb⟩
set_option maxRecDepth 100000 in
set_option maxHeartbeats 4000000 in
theorem rlight_any (d : LtD) (hd : d.ok) (hK : d.br.length < 100000000) (a : Option Addr) (c n : Nat) (w : World) (hn : n ≤ w.heap.size) (hp : slS n w a d.br) :
    Calls Tryd.prog 47 #[.agg #[.int .u64 (d.s : Int), .int .u64 (d.u : Int), .string d.p, .string d.t, .string d.b, .string d.ea, .string d.ra, .int .u64 (d.m : Int), .slice a d.br.length c]] w fun e w' => ∃ X : Im, e = .returned X.val ∧ er X = ltI d ∧ inP (fun b => w.heap.size ≤ b ∧ b < w'.heap.size) w' X ∧ Below w.heap.size w w' := by
  obtain ⟨s, u, p, t, b, ea, ra, m, br⟩ := d
  obtain ⟨hs6, hu6, hm6⟩ := hd
  dsimp only at hK hp hs6 hu6 hm6 ⊢
  unfold U6 at hs6 hu6 hm6
  obtain ⟨K, hKe⟩ : ∃ N, br.length = N := ⟨_, rfl⟩
  rw [hKe]
  obtain ⟨A0, h0, h1, h2, h3⟩ := four_boxes w (.cells #[.int .u64 s, .int .u64 u, .string p, .string t, .string b, .string ea, .string ra, .int .u64 m, .slice a K c] 29) (.cells #[.bool false, .string ⟨#[]⟩, .slice none 0 0] 70) (.cells #[.int .u64 s, .int .u64 u, .string p, .string t, .string b] 24) (.cells #[.string ea, .string ra, .int .u64 m] 26)
  obtain ⟨z, hz0⟩ : ∃ p, w.heap.size = p := ⟨_, rfl⟩
  have HP : Hid (w.heap.size = z) := hz0
  obtain ⟨w1, hw1⟩ : ∃ W, (((w.alloc (.cells #[.int .u64 s, .int .u64 u, .string p, .string t, .string b, .string ea, .string ra, .int .u64 m, .slice a K c] 29)).alloc (.cells #[.bool false, .string ⟨#[]⟩, .slice none 0 0] 70)).alloc (.cells #[.int .u64 s, .int .u64 u, .string p, .string t, .string b] 24)).alloc (.cells #[.string ea, .string ra, .int .u64 m] 26) = W := ⟨_, rfl⟩
  have hsz : w1.heap.size = z + 4 := by rw [← hw1, ← hz0]; simp
  rw [hw1] at A0 h0 h1 h2 h3
  rw [hz0] at A0 h0 h1 h2 h3 hn
  have KT : ∀ W : World, Below w1.heap.size w1 W → _ := fun W hB => rtexts_any br hK a c n W (by have := hB.size; omega) (slS_below (hB.mono (by omega)) (slS_below (A0.mono hn) hp))
  rw [hKe] at KT
  have KN1 := fun W => rnum_any s hs6 W
  have KN2 := fun W => rnum_any u hu6 W
  have KN3 := fun W => rnum_any m hm6 W
  have hI : ltI ⟨s, u, p, t, b, ea, ra, m, br⟩ = lsI [lsI [tI (numOf s), tI (numOf u), tI p, tI t, tI b], lsI [tI ea, tI ra, tI (numOf m)], tsI br] := rfl
  rw [hI]
  obtain ⟨tx, htx⟩ : ∃ x, tsI br = x := ⟨_, rfl⟩
  rw [htx] at KT ⊢
  obtain ⟨n1, hn1⟩ : ∃ x, numOf s = x := ⟨_, rfl⟩
  obtain ⟨n2, hn2⟩ : ∃ x, numOf u = x := ⟨_, rfl⟩
  obtain ⟨n3, hn3⟩ : ∃ x, numOf m = x := ⟨_, rfl⟩
  rw [hn1] at KN1 ⊢
  rw [hn2] at KN2 ⊢
  rw [hn3] at KN3 ⊢
  clear hKe hK hp hI htx hn1 hn2 hn3 hs6 hu6 hm6
  have c0 : w1.cell? ⟨z + 2, 0, none⟩ = some (.int .u64 s) := by rw [Lib.cell_of_heap h2]; rfl
  have c1 : w1.cell? ⟨z + 2, 1, none⟩ = some (.int .u64 u) := by rw [Lib.cell_of_heap h2]; rfl
  have c2 : w1.cell? ⟨z + 2, 2, none⟩ = some (.string p) := by rw [Lib.cell_of_heap h2]; rfl
  have c3 : w1.cell? ⟨z + 2, 3, none⟩ = some (.string t) := by rw [Lib.cell_of_heap h2]; rfl
  have c4 : w1.cell? ⟨z + 2, 4, none⟩ = some (.string b) := by rw [Lib.cell_of_heap h2]; rfl
  go_enter Tryd.func47, Tryd.ntmps47
  go_wp2_with fail
  clear hw1 hz0
  refine region_inv_tail 18 (fun S aa W => ∃ x5 x11 x12 x13 x14 x15 x16 x17 x18 x19 x20 x21 x22 x23 x24 x25 x26 x27 : Value, aa = { tmps := #[Value.agg #[Value.int IntKind.u64 ↑s, Value.int IntKind.u64 ↑u, Value.string p, Value.string t, Value.string b, Value.string ea, Value.string ra, Value.int IntKind.u64 ↑m, Value.slice a K c], Value.pointer (some { block := z, off := 0 }), Value.pointer (some { block := z + 1, off := 0 }), Value.pointer (some { block := z + 1 + 1, off := 0 }), Value.pointer (some { block := z + 1 + 1 + 1, off := 0 }), x5, undef, Value.pointer (some { block := z, off := 0 }), Value.agg #[Value.int IntKind.u64 ↑s, Value.int IntKind.u64 ↑u, Value.string p, Value.string t, Value.string b], Value.pointer (some { block := z, off := 5 }), Value.agg #[Value.string ea, Value.string ra, Value.int IntKind.u64 ↑m], x11, x12, x13, x14, x15, x16, x17, x18, x19, x20, x21, x22, x23, x24, x25, x26, x27, undef, undef, undef, undef, undef, undef, undef, undef, undef, undef, undef, undef, undef, undef, undef, undef, undef, undef], defers := [] } ∧ Ml_hd w1 z s u m K c a n1 n2 n3 p t b ea ra S x5 x11 x12 x13 x14 x15 x16 x17 x18 x19 x20 x21 x22 x23 x24 x25 x26 x27 W) (by kernel_rfl) (by kernel_rfl) ?_ ?_ ?_
  · exact ⟨undef, undef, undef, undef, undef, undef, undef, undef, undef, undef, undef, undef, undef, undef, undef, undef, undef, undef, rfl, ⟨(Below.refl _ w1).drew, nofun, nofun, nofun, nofun, nofun, nofun, nofun, nofun, nofun, nofun, nofun, nofun, nofun, nofun, nofun, nofun, nofun, nofun⟩⟩
  · intro i o S aa W hin hi hun hJ hall K hK
    obtain ⟨x5, x11, x12, x13, x14, x15, x16, x17, x18, x19, x20, x21, x22, x23, x24, x25, x26, x27, rfl, h⟩ := hJ
    have hlt : i < 18 := hin
    have hcase : i = 0 ∨ i = 1 ∨ i = 2 ∨ i = 3 ∨ i = 4 ∨ i = 5 ∨ i = 6 ∨ i = 7 ∨ i = 8 ∨ i = 9 ∨ i = 10 ∨ i = 11 ∨ i = 12 ∨ i = 13 ∨ i = 14 ∨ i = 15 ∨ i = 16 ∨ i = 17 := by omega
    rcases hcase with rfl | rfl | rfl | rfl | rfl | rfl | rfl | rfl | rfl | rfl | rfl | rfl | rfl | rfl | rfl | rfl | rfl | rfl
    all_goals (have ho := (Option.some.inj hi).symm; subst ho; clear hi hlt hin)
    · go_simp
      exact hK _ _ ⟨x5, _, x12, x13, x14, x15, x16, x17, x18, x19, x20, x21, x22, x23, x24, x25, x26, x27, rfl, ⟨h.e, fun _ => rfl, h.f1, h.f2, h.f3, h.f4, h.f5, h.f6, h.f7, h.f8, h.f9, h.f10, h.f11, h.f12, h.f13, h.f14, h.f15, h.f16, h.f17⟩⟩
    · have s_0 : S 0 = true := hall ⟨0, .data⟩ (by simp) rfl
      obtain rfl := h.f0 s_0
      have cW := (h.e.cell (p := ⟨z + 2, 0, none⟩) (by show z + 2 < _; omega)).trans c0
      go_simp
      exact hK _ _ ⟨x5, _, _, x13, x14, x15, x16, x17, x18, x19, x20, x21, x22, x23, x24, x25, x26, x27, rfl, ⟨h.e, h.f0, fun _ => rfl, h.f2, h.f3, h.f4, h.f5, h.f6, h.f7, h.f8, h.f9, h.f10, h.f11, h.f12, h.f13, h.f14, h.f15, h.f16, h.f17⟩⟩
    · have s_1 : S 1 = true := hall ⟨1, .data⟩ (by simp) rfl
      obtain rfl := h.f1 s_1
      go_simp
      refine (KN1 W).mono ?_
      rintro e w5 ⟨rfl, hb5⟩
      have h1 := h.grow hb5
      exact hK _ _ ⟨x5, x11, _, _, x14, x15, x16, x17, x18, x19, x20, x21, x22, x23, x24, x25, x26, x27, rfl, ⟨h1.e, h1.f0, h1.f1, fun _ => rfl, h1.f3, h1.f4, h1.f5, h1.f6, h1.f7, h1.f8, h1.f9, h1.f10, h1.f11, h1.f12, h1.f13, h1.f14, h1.f15, h1.f16, h1.f17⟩⟩
    · go_simp
      exact hK _ _ ⟨x5, x11, x12, x13, _, x15, x16, x17, x18, x19, x20, x21, x22, x23, x24, x25, x26, x27, rfl, ⟨h.e, h.f0, h.f1, h.f2, fun _ => rfl, h.f4, h.f5, h.f6, h.f7, h.f8, h.f9, h.f10, h.f11, h.f12, h.f13, h.f14, h.f15, h.f16, h.f17⟩⟩
    · have s_3 : S 3 = true := hall ⟨3, .data⟩ (by simp) rfl
      obtain rfl := h.f3 s_3
      have cW := (h.e.cell (p := ⟨z + 2, 1, none⟩) (by show z + 2 < _; omega)).trans c1
      go_simp
      exact hK _ _ ⟨x5, x11, x12, x13, _, _, x16, x17, x18, x19, x20, x21, x22, x23, x24, x25, x26, x27, rfl, ⟨h.e, h.f0, h.f1, h.f2, h.f3, fun _ => rfl, h.f5, h.f6, h.f7, h.f8, h.f9, h.f10, h.f11, h.f12, h.f13, h.f14, h.f15, h.f16, h.f17⟩⟩
    · have s_4 : S 4 = true := hall ⟨4, .data⟩ (by simp) rfl
      obtain rfl := h.f4 s_4
      go_simp
      refine (KN2 W).mono ?_
      rintro e w5 ⟨rfl, hb5⟩
      have h1 := h.grow hb5
      exact hK _ _ ⟨x5, x11, x12, x13, x14, _, _, x17, x18, x19, x20, x21, x22, x23, x24, x25, x26, x27, rfl, ⟨h1.e, h1.f0, h1.f1, h1.f2, h1.f3, h1.f4, fun _ => rfl, h1.f6, h1.f7, h1.f8, h1.f9, h1.f10, h1.f11, h1.f12, h1.f13, h1.f14, h1.f15, h1.f16, h1.f17⟩⟩
    · go_simp
      exact hK _ _ ⟨x5, x11, x12, x13, x14, x15, x16, _, x18, x19, x20, x21, x22, x23, x24, x25, x26, x27, rfl, ⟨h.e, h.f0, h.f1, h.f2, h.f3, h.f4, h.f5, fun _ => rfl, h.f7, h.f8, h.f9, h.f10, h.f11, h.f12, h.f13, h.f14, h.f15, h.f16, h.f17⟩⟩
    · have s_6 : S 6 = true := hall ⟨6, .data⟩ (by simp) rfl
      obtain rfl := h.f6 s_6
      have cW := (h.e.cell (p := ⟨z + 2, 2, none⟩) (by show z + 2 < _; omega)).trans c2
      go_simp
      exact hK _ _ ⟨x5, x11, x12, x13, x14, x15, x16, _, _, x19, x20, x21, x22, x23, x24, x25, x26, x27, rfl, ⟨h.e, h.f0, h.f1, h.f2, h.f3, h.f4, h.f5, h.f6, fun _ => rfl, h.f8, h.f9, h.f10, h.f11, h.f12, h.f13, h.f14, h.f15, h.f16, h.f17⟩⟩
    · have s_7 : S 7 = true := hall ⟨7, .data⟩ (by simp) rfl
      obtain rfl := h.f7 s_7
      go_simp
      refine (rtext_any p W).mono ?_
      rintro e w5 ⟨rfl, hb5⟩
      have h1 := h.grow hb5
      exact hK _ _ ⟨x5, x11, x12, x13, x14, x15, x16, x17, _, _, x20, x21, x22, x23, x24, x25, x26, x27, rfl, ⟨h1.e, h1.f0, h1.f1, h1.f2, h1.f3, h1.f4, h1.f5, h1.f6, h1.f7, fun _ => rfl, h1.f9, h1.f10, h1.f11, h1.f12, h1.f13, h1.f14, h1.f15, h1.f16, h1.f17⟩⟩
    · go_simp
      exact hK _ _ ⟨x5, x11, x12, x13, x14, x15, x16, x17, x18, x19, _, x21, x22, x23, x24, x25, x26, x27, rfl, ⟨h.e, h.f0, h.f1, h.f2, h.f3, h.f4, h.f5, h.f6, h.f7, h.f8, fun _ => rfl, h.f10, h.f11, h.f12, h.f13, h.f14, h.f15, h.f16, h.f17⟩⟩
    · have s_9 : S 9 = true := hall ⟨9, .data⟩ (by simp) rfl
      obtain rfl := h.f9 s_9
      have cW := (h.e.cell (p := ⟨z + 2, 3, none⟩) (by show z + 2 < _; omega)).trans c3
      go_simp
      exact hK _ _ ⟨x5, x11, x12, x13, x14, x15, x16, x17, x18, x19, _, _, x22, x23, x24, x25, x26, x27, rfl, ⟨h.e, h.f0, h.f1, h.f2, h.f3, h.f4, h.f5, h.f6, h.f7, h.f8, h.f9, fun _ => rfl, h.f11, h.f12, h.f13, h.f14, h.f15, h.f16, h.f17⟩⟩
    · have s_10 : S 10 = true := hall ⟨10, .data⟩ (by simp) rfl
      obtain rfl := h.f10 s_10
      go_simp
      refine (rtext_any t W).mono ?_
      rintro e w5 ⟨rfl, hb5⟩
      have h1 := h.grow hb5
      exact hK _ _ ⟨x5, x11, x12, x13, x14, x15, x16, x17, x18, x19, x20, _, _, x23, x24, x25, x26, x27, rfl, ⟨h1.e, h1.f0, h1.f1, h1.f2, h1.f3, h1.f4, h1.f5, h1.f6, h1.f7, h1.f8, h1.f9, h1.f10, fun _ => rfl, h1.f12, h1.f13, h1.f14, h1.f15, h1.f16, h1.f17⟩⟩
    · go_simp
      exact hK _ _ ⟨x5, x11, x12, x13, x14, x15, x16, x17, x18, x19, x20, x21, x22, _, x24, x25, x26, x27, rfl, ⟨h.e, h.f0, h.f1, h.f2, h.f3, h.f4, h.f5, h.f6, h.f7, h.f8, h.f9, h.f10, h.f11, fun _ => rfl, h.f13, h.f14, h.f15, h.f16, h.f17⟩⟩
    · have s_12 : S 12 = true := hall ⟨12, .data⟩ (by simp) rfl
      obtain rfl := h.f12 s_12
      have cW := (h.e.cell (p := ⟨z + 2, 4, none⟩) (by show z + 2 < _; omega)).trans c4
      go_simp
      exact hK _ _ ⟨x5, x11, x12, x13, x14, x15, x16, x17, x18, x19, x20, x21, x22, _, _, x25, x26, x27, rfl, ⟨h.e, h.f0, h.f1, h.f2, h.f3, h.f4, h.f5, h.f6, h.f7, h.f8, h.f9, h.f10, h.f11, h.f12, fun _ => rfl, h.f14, h.f15, h.f16, h.f17⟩⟩
    · have s_13 : S 13 = true := hall ⟨13, .data⟩ (by simp) rfl
      obtain rfl := h.f13 s_13
      go_simp
      refine (rtext_any b W).mono ?_
      rintro e w5 ⟨rfl, hb5⟩
      have h1 := h.grow hb5
      exact hK _ _ ⟨x5, x11, x12, x13, x14, x15, x16, x17, x18, x19, x20, x21, x22, x23, _, _, x26, x27, rfl, ⟨h1.e, h1.f0, h1.f1, h1.f2, h1.f3, h1.f4, h1.f5, h1.f6, h1.f7, h1.f8, h1.f9, h1.f10, h1.f11, h1.f12, h1.f13, fun _ => rfl, h1.f15, h1.f16, h1.f17⟩⟩
    · have s_2 : S 2 = true := hall ⟨2, .data⟩ (by simp) rfl
      obtain rfl := h.f2 s_2
      have s_5 : S 5 = true := hall ⟨5, .data⟩ (by simp) rfl
      obtain rfl := h.f5 s_5
      have s_8 : S 8 = true := hall ⟨8, .data⟩ (by simp) rfl
      obtain rfl := h.f8 s_8
      have s_11 : S 11 = true := hall ⟨11, .data⟩ (by simp) rfl
      obtain rfl := h.f11 s_11
      have s_14 : S 14 = true := hall ⟨14, .data⟩ (by simp) rfl
      obtain rfl := h.f14 s_14
      go_simp
      have h1 := h.grow ((Below.refl _ W).alloc (Nat.le_refl _) (.cells #[.bool false, .string n1, .slice none 0 0, .bool false, .string n2, .slice none 0 0, .bool false, .string p, .slice none 0 0, .bool false, .string t, .slice none 0 0, .bool false, .string b, .slice none 0 0] 70))
      exact hK _ _ ⟨x5, x11, x12, _, x14, x15, _, x17, x18, _, x20, x21, _, x23, x24, _, _, x27, rfl, ⟨h1.e, h1.f0, h1.f1, h1.f2, h1.f3, h1.f4, h1.f5, h1.f6, h1.f7, h1.f8, h1.f9, h1.f10, h1.f11, h1.f12, h1.f13, h1.f14, fun _ => ⟨W.heap.size, rfl, h.e.size, by simp, World.alloc_heap_new W _⟩, h1.f16, h1.f17⟩⟩
    · have s_15 : S 15 = true := hall ⟨15, .data⟩ (by simp) rfl
      obtain ⟨g15, rfl, hg15, hh15, hc15⟩ := h.f15 s_15
      go_simp
      refine (rlist_any (some ⟨g15, 0, none⟩) 5 5 W).mono ?_
      rintro e w5 ⟨rfl, hb5⟩
      have h1 := h.grow hb5
      exact hK _ _ ⟨x5, x11, x12, x13, x14, x15, x16, x17, x18, x19, x20, x21, x22, x23, x24, x25, _, _, rfl, ⟨h1.e, h1.f0, h1.f1, h1.f2, h1.f3, h1.f4, h1.f5, h1.f6, h1.f7, h1.f8, h1.f9, h1.f10, h1.f11, h1.f12, h1.f13, h1.f14, h1.f15, fun _ => ⟨g15, rfl, hg15, Nat.lt_of_lt_of_le hh15 hb5.size, (hb5.block _ hh15).trans hc15⟩, h1.f17⟩⟩
    · go_simp
      have h1 := h.grow ((Below.refl _ W).alloc (Nat.le_refl _) (.cells #[.bool false, .string ⟨#[]⟩, .slice none 0 0] 70))
      exact hK _ _ ⟨_, x11, x12, x13, x14, x15, x16, x17, x18, x19, x20, x21, x22, x23, x24, x25, x26, x27, rfl, ⟨h1.e, h1.f0, h1.f1, h1.f2, h1.f3, h1.f4, h1.f5, h1.f6, h1.f7, h1.f8, h1.f9, h1.f10, h1.f11, h1.f12, h1.f13, h1.f14, h1.f15, h1.f16, fun _ => ⟨W.heap.size, rfl, h.e.size, by simp, World.alloc_heap_new W _⟩⟩⟩
  · rintro S aa W hall ⟨x5, x11, x12, x13, x14, x15, x16, x17, x18, x19, x20, x21, x22, x23, x24, x25, x26, x27, rfl, h⟩
    obtain rfl := h.f0 (hall 0 (by decide))
    obtain rfl := h.f1 (hall 1 (by decide))
    obtain rfl := h.f2 (hall 2 (by decide))
    obtain rfl := h.f3 (hall 3 (by decide))
    obtain rfl := h.f4 (hall 4 (by decide))
    obtain rfl := h.f5 (hall 5 (by decide))
    obtain rfl := h.f6 (hall 6 (by decide))
    obtain rfl := h.f7 (hall 7 (by decide))
    obtain rfl := h.f8 (hall 8 (by decide))
    obtain rfl := h.f9 (hall 9 (by decide))
    obtain rfl := h.f10 (hall 10 (by decide))
    obtain rfl := h.f11 (hall 11 (by decide))
    obtain rfl := h.f12 (hall 12 (by decide))
    obtain rfl := h.f13 (hall 13 (by decide))
    obtain rfl := h.f14 (hall 14 (by decide))
    obtain ⟨gl5, rfl, _⟩ := h.f15 (hall 15 (by decide))
    obtain ⟨gg, rfl, hgg, hhg, hcg⟩ := h.f16 (hall 16 (by decide))
    obtain ⟨qq, rfl, hgq, hhq, hcq⟩ := h.f17 (hall 17 (by decide))
    have BWD := h.e
    clear h hall
    simp only [List.drop_succ_cons, List.drop_zero]
    have hzW := BWD.size
    have hne : gg ≠ qq := lit_apart hcg hcq (by simp)
    have f0 := fun o => Lib.frozen_of_heap hcq o
    have d0 : W.cell? ⟨qq, 0, none⟩ = some (.bool false) := by rw [Lib.cell_of_heap hcq]; rfl
    have d1 : W.cell? ⟨qq, 1, none⟩ = some (.string ⟨#[]⟩) := by rw [Lib.cell_of_heap hcq]; rfl
    have d2 : W.cell? ⟨qq, 2, none⟩ = some (.slice none 0 0) := by rw [Lib.cell_of_heap hcq]; rfl
    have e1 := below_set (below_set (below_set BWD qq 0 hgq (.bool true)) qq 1 hgq (.string ⟨#[]⟩)) qq 2 hgq (.slice (some ⟨gg, 0, none⟩) 5 5)
    have e2 : (((W.setCell ⟨qq, 0, none⟩ (.bool true)).setCell ⟨qq, 1, none⟩ (.string ⟨#[]⟩)).setCell ⟨qq, 2, none⟩ (.slice (some ⟨gg, 0, none⟩) 5 5)).heap[qq]? = some (.cells #[.bool true, .string ⟨#[]⟩, .slice (some ⟨gg, 0, none⟩) 5 5] 70 (0, 0)) := heap_setCell_self (heap_setCell_self (heap_setCell_self hcq 0 (.bool true)) 1 (.string ⟨#[]⟩)) 2 (.slice (some ⟨gg, 0, none⟩) 5 5)
    have e3 : (((W.setCell ⟨qq, 0, none⟩ (.bool true)).setCell ⟨qq, 1, none⟩ (.string ⟨#[]⟩)).setCell ⟨qq, 2, none⟩ (.slice (some ⟨gg, 0, none⟩) 5 5)).heap[gg]? = some (.cells #[.bool false, .string n1, .slice none 0 0, .bool false, .string n2, .slice none 0 0, .bool false, .string p, .slice none 0 0, .bool false, .string t, .slice none 0 0, .bool false, .string b, .slice none 0 0] 70 (0, 0)) := (Below.heap_setCell _ _ _ _ hne).trans ((Below.heap_setCell _ _ _ _ hne).trans ((Below.heap_setCell _ _ _ _ hne).trans hcg))
    have HX : Hid (_ ∧ _ ∧ _) := ⟨e1, e2, e3⟩
    clear e1 e2 e3 BWD hcg hcq
    go_wp2_with fail
    obtain ⟨e1, e2, e3⟩ := HX.out
    obtain ⟨w2, hw2⟩ : ∃ V2, ((W.setCell ⟨qq, 0, none⟩ (.bool true)).setCell ⟨qq, 1, none⟩ (.string ⟨#[]⟩)).setCell ⟨qq, 2, none⟩ (.slice (some ⟨gg, 0, none⟩) 5 5) = V2 := ⟨_, rfl⟩
    rw [hw2] at e1 e2 e3
    first | rw [hw2] | skip
    obtain ⟨g5, hg5⟩ : ∃ x, gg = x := ⟨_, rfl⟩
    obtain ⟨q5, hq5⟩ : ∃ x, qq = x := ⟨_, rfl⟩
    rw [hg5] at e2 e3 hgg
    rw [hq5] at e2 hgq
    first | rw [hg5] | skip
    first | rw [hq5] | skip
    have hzw2 := e1.size
    have hlG : g5 < w2.heap.size := (Array.getElem?_eq_some_iff.1 e3).1
    have hlQ : q5 < w2.heap.size := (Array.getElem?_eq_some_iff.1 e2).1
    clear HX hw2 hne f0 d0 d1 d2 hzW hhg hhq hg5 hq5
    have b0 := (e1.block z (by omega)).trans h0
    have b1 := (e1.block (z + 1) (by omega)).trans h1
    have b3 := (e1.block (z + 3) (by omega)).trans h3
    have E2 := e1
    have B5 := e2
    have G5 := e3
    have hg5 : z + 4 ≤ g5 := by omega
    have hq5 : z + 4 ≤ q5 := by omega
    clear e1 e2 e3 c0 c1 c2 c3 c4 hgg hgq
    have c0 : w2.cell? ⟨z + 3, 0, none⟩ = some (.string ea) := by rw [Lib.cell_of_heap b3]; rfl
    have c1 : w2.cell? ⟨z + 3, 1, none⟩ = some (.string ra) := by rw [Lib.cell_of_heap b3]; rfl
    have c2 : w2.cell? ⟨z + 3, 2, none⟩ = some (.int .u64 m) := by rw [Lib.cell_of_heap b3]; rfl
    refine region_inv_tail 12 (fun S aa W => ∃ x6 x28 x29 x30 x31 x32 x33 x34 x35 x36 x37 x38 : Value, aa = { tmps := #[Value.agg #[Value.int IntKind.u64 ↑s, Value.int IntKind.u64 ↑u, Value.string p, Value.string t, Value.string b, Value.string ea, Value.string ra, Value.int IntKind.u64 ↑m, Value.slice a K c], Value.pointer (some { block := z, off := 0 }), Value.pointer (some { block := z + 1, off := 0 }), Value.pointer (some { block := z + 1 + 1, off := 0 }), Value.pointer (some { block := z + 1 + 1 + 1, off := 0 }), Value.pointer (some { block := q5, off := 0 }), x6, Value.pointer (some { block := z, off := 0 }), Value.agg #[Value.int IntKind.u64 ↑s, Value.int IntKind.u64 ↑u, Value.string p, Value.string t, Value.string b], Value.pointer (some { block := z, off := 5 }), Value.agg #[Value.string ea, Value.string ra, Value.int IntKind.u64 ↑m], Value.pointer (some { block := z + 2, off := 0 }), Value.int IntKind.u64 ↑s, Value.agg #[Value.bool false, Value.string n1, Value.slice none 0 0], Value.pointer (some { block := z + 2, off := 1 }), Value.int IntKind.u64 ↑u, Value.agg #[Value.bool false, Value.string n2, Value.slice none 0 0], Value.pointer (some { block := z + 2, off := 2 }), Value.string p, Value.agg #[Value.bool false, Value.string p, Value.slice none 0 0], Value.pointer (some { block := z + 2, off := 3 }), Value.string t, Value.agg #[Value.bool false, Value.string t, Value.slice none 0 0], Value.pointer (some { block := z + 2, off := 4 }), Value.string b, Value.agg #[Value.bool false, Value.string b, Value.slice none 0 0], Value.slice (some { block := gl5, off := 0 }) 5 5, Value.agg #[Value.bool true, Value.string { data := #[] }, Value.slice (some { block := g5, off := 0 }) 5 5], x28, x29, x30, x31, x32, x33, x34, x35, x36, x37, x38, undef, undef, undef, undef, undef, undef, undef], defers := [] } ∧ Ml_ex w2 z s u m K c a n1 n2 n3 p t b ea ra g5 q5 gl5 S x6 x28 x29 x30 x31 x32 x33 x34 x35 x36 x37 x38 W) (by kernel_rfl) (by kernel_rfl) ?_ ?_ ?_
    · exact ⟨undef, undef, undef, undef, undef, undef, undef, undef, undef, undef, undef, undef, rfl, ⟨(Below.refl _ w2).drew, nofun, nofun, nofun, nofun, nofun, nofun, nofun, nofun, nofun, nofun, nofun, nofun⟩⟩
    · intro i o S aa W hin hi hun hJ hall K hK
      obtain ⟨x6, x28, x29, x30, x31, x32, x33, x34, x35, x36, x37, x38, rfl, h⟩ := hJ
      have hlt : i < 12 := hin
      have hcase : i = 0 ∨ i = 1 ∨ i = 2 ∨ i = 3 ∨ i = 4 ∨ i = 5 ∨ i = 6 ∨ i = 7 ∨ i = 8 ∨ i = 9 ∨ i = 10 ∨ i = 11 := by omega
      rcases hcase with rfl | rfl | rfl | rfl | rfl | rfl | rfl | rfl | rfl | rfl | rfl | rfl
      all_goals (have ho := (Option.some.inj hi).symm; subst ho; clear hi hlt hin)
      · go_simp
        exact hK _ _ ⟨x6, _, x29, x30, x31, x32, x33, x34, x35, x36, x37, x38, rfl, ⟨h.e, fun _ => rfl, h.f1, h.f2, h.f3, h.f4, h.f5, h.f6, h.f7, h.f8, h.f9, h.f10, h.f11⟩⟩
      · have s_0 : S 0 = true := hall ⟨0, .data⟩ (by simp) rfl
        obtain rfl := h.f0 s_0
        have cW := (h.e.cell (p := ⟨z + 3, 0, none⟩) (by show z + 3 < _; omega)).trans c0
        go_simp
        exact hK _ _ ⟨x6, _, _, x30, x31, x32, x33, x34, x35, x36, x37, x38, rfl, ⟨h.e, h.f0, fun _ => rfl, h.f2, h.f3, h.f4, h.f5, h.f6, h.f7, h.f8, h.f9, h.f10, h.f11⟩⟩
      · have s_1 : S 1 = true := hall ⟨1, .data⟩ (by simp) rfl
        obtain rfl := h.f1 s_1
        go_simp
        refine (rtext_any ea W).mono ?_
        rintro e w5 ⟨rfl, hb5⟩
        have h1 := h.grow hb5
        exact hK _ _ ⟨x6, x28, _, _, x31, x32, x33, x34, x35, x36, x37, x38, rfl, ⟨h1.e, h1.f0, h1.f1, fun _ => rfl, h1.f3, h1.f4, h1.f5, h1.f6, h1.f7, h1.f8, h1.f9, h1.f10, h1.f11⟩⟩
      · go_simp
        exact hK _ _ ⟨x6, x28, x29, x30, _, x32, x33, x34, x35, x36, x37, x38, rfl, ⟨h.e, h.f0, h.f1, h.f2, fun _ => rfl, h.f4, h.f5, h.f6, h.f7, h.f8, h.f9, h.f10, h.f11⟩⟩
      · have s_3 : S 3 = true := hall ⟨3, .data⟩ (by simp) rfl
        obtain rfl := h.f3 s_3
        have cW := (h.e.cell (p := ⟨z + 3, 1, none⟩) (by show z + 3 < _; omega)).trans c1
        go_simp
        exact hK _ _ ⟨x6, x28, x29, x30, _, _, x33, x34, x35, x36, x37, x38, rfl, ⟨h.e, h.f0, h.f1, h.f2, h.f3, fun _ => rfl, h.f5, h.f6, h.f7, h.f8, h.f9, h.f10, h.f11⟩⟩
      · have s_4 : S 4 = true := hall ⟨4, .data⟩ (by simp) rfl
        obtain rfl := h.f4 s_4
        go_simp
        refine (rtext_any ra W).mono ?_
        rintro e w5 ⟨rfl, hb5⟩
        have h1 := h.grow hb5
        exact hK _ _ ⟨x6, x28, x29, x30, x31, _, _, x34, x35, x36, x37, x38, rfl, ⟨h1.e, h1.f0, h1.f1, h1.f2, h1.f3, h1.f4, fun _ => rfl, h1.f6, h1.f7, h1.f8, h1.f9, h1.f10, h1.f11⟩⟩
      · go_simp
        exact hK _ _ ⟨x6, x28, x29, x30, x31, x32, x33, _, x35, x36, x37, x38, rfl, ⟨h.e, h.f0, h.f1, h.f2, h.f3, h.f4, h.f5, fun _ => rfl, h.f7, h.f8, h.f9, h.f10, h.f11⟩⟩
      · have s_6 : S 6 = true := hall ⟨6, .data⟩ (by simp) rfl
        obtain rfl := h.f6 s_6
        have cW := (h.e.cell (p := ⟨z + 3, 2, none⟩) (by show z + 3 < _; omega)).trans c2
        go_simp
        exact hK _ _ ⟨x6, x28, x29, x30, x31, x32, x33, _, _, x36, x37, x38, rfl, ⟨h.e, h.f0, h.f1, h.f2, h.f3, h.f4, h.f5, h.f6, fun _ => rfl, h.f8, h.f9, h.f10, h.f11⟩⟩
      · have s_7 : S 7 = true := hall ⟨7, .data⟩ (by simp) rfl
        obtain rfl := h.f7 s_7
        go_simp
        refine (KN3 W).mono ?_
        rintro e w5 ⟨rfl, hb5⟩
        have h1 := h.grow hb5
        exact hK _ _ ⟨x6, x28, x29, x30, x31, x32, x33, x34, _, _, x37, x38, rfl, ⟨h1.e, h1.f0, h1.f1, h1.f2, h1.f3, h1.f4, h1.f5, h1.f6, h1.f7, fun _ => rfl, h1.f9, h1.f10, h1.f11⟩⟩
      · have s_2 : S 2 = true := hall ⟨2, .data⟩ (by simp) rfl
        obtain rfl := h.f2 s_2
        have s_5 : S 5 = true := hall ⟨5, .data⟩ (by simp) rfl
        obtain rfl := h.f5 s_5
        have s_8 : S 8 = true := hall ⟨8, .data⟩ (by simp) rfl
        obtain rfl := h.f8 s_8
        go_simp
        have h1 := h.grow ((Below.refl _ W).alloc (Nat.le_refl _) (.cells #[.bool false, .string ea, .slice none 0 0, .bool false, .string ra, .slice none 0 0, .bool false, .string n3, .slice none 0 0] 70))
        exact hK _ _ ⟨x6, x28, x29, _, x31, x32, _, x34, x35, _, _, x38, rfl, ⟨h1.e, h1.f0, h1.f1, h1.f2, h1.f3, h1.f4, h1.f5, h1.f6, h1.f7, h1.f8, fun _ => ⟨W.heap.size, rfl, h.e.size, by simp, World.alloc_heap_new W _⟩, h1.f10, h1.f11⟩⟩
      · have s_9 : S 9 = true := hall ⟨9, .data⟩ (by simp) rfl
        obtain ⟨g9, rfl, hg9, hh9, hc9⟩ := h.f9 s_9
        go_simp
        refine (rlist_any (some ⟨g9, 0, none⟩) 3 3 W).mono ?_
        rintro e w5 ⟨rfl, hb5⟩
        have h1 := h.grow hb5
        exact hK _ _ ⟨x6, x28, x29, x30, x31, x32, x33, x34, x35, x36, _, _, rfl, ⟨h1.e, h1.f0, h1.f1, h1.f2, h1.f3, h1.f4, h1.f5, h1.f6, h1.f7, h1.f8, h1.f9, fun _ => ⟨g9, rfl, hg9, Nat.lt_of_lt_of_le hh9 hb5.size, (hb5.block _ hh9).trans hc9⟩, h1.f11⟩⟩
      · go_simp
        have h1 := h.grow ((Below.refl _ W).alloc (Nat.le_refl _) (.cells #[.bool false, .string ⟨#[]⟩, .slice none 0 0] 70))
        exact hK _ _ ⟨_, x28, x29, x30, x31, x32, x33, x34, x35, x36, x37, x38, rfl, ⟨h1.e, h1.f0, h1.f1, h1.f2, h1.f3, h1.f4, h1.f5, h1.f6, h1.f7, h1.f8, h1.f9, h1.f10, fun _ => ⟨W.heap.size, rfl, h.e.size, by simp, World.alloc_heap_new W _⟩⟩⟩
    · rintro S aa W hall ⟨x6, x28, x29, x30, x31, x32, x33, x34, x35, x36, x37, x38, rfl, h⟩
      obtain rfl := h.f0 (hall 0 (by decide))
      obtain rfl := h.f1 (hall 1 (by decide))
      obtain rfl := h.f2 (hall 2 (by decide))
      obtain rfl := h.f3 (hall 3 (by decide))
      obtain rfl := h.f4 (hall 4 (by decide))
      obtain rfl := h.f5 (hall 5 (by decide))
      obtain rfl := h.f6 (hall 6 (by decide))
      obtain rfl := h.f7 (hall 7 (by decide))
      obtain rfl := h.f8 (hall 8 (by decide))
      obtain ⟨gl3, rfl, _⟩ := h.f9 (hall 9 (by decide))
      obtain ⟨gg, rfl, hgg, hhg, hcg⟩ := h.f10 (hall 10 (by decide))
      obtain ⟨qq, rfl, hgq, hhq, hcq⟩ := h.f11 (hall 11 (by decide))
      have BWD := h.e
      clear h hall
      simp only [List.drop_succ_cons, List.drop_zero]
      have hzW := BWD.size
      have hne : gg ≠ qq := lit_apart hcg hcq (by simp)
      have f0 := fun o => Lib.frozen_of_heap hcq o
      have d0 : W.cell? ⟨qq, 0, none⟩ = some (.bool false) := by rw [Lib.cell_of_heap hcq]; rfl
      have d1 : W.cell? ⟨qq, 1, none⟩ = some (.string ⟨#[]⟩) := by rw [Lib.cell_of_heap hcq]; rfl
      have d2 : W.cell? ⟨qq, 2, none⟩ = some (.slice none 0 0) := by rw [Lib.cell_of_heap hcq]; rfl
      have e1 := below_set (below_set (below_set BWD qq 0 hgq (.bool true)) qq 1 hgq (.string ⟨#[]⟩)) qq 2 hgq (.slice (some ⟨gg, 0, none⟩) 3 3)
      have e2 : (((W.setCell ⟨qq, 0, none⟩ (.bool true)).setCell ⟨qq, 1, none⟩ (.string ⟨#[]⟩)).setCell ⟨qq, 2, none⟩ (.slice (some ⟨gg, 0, none⟩) 3 3)).heap[qq]? = some (.cells #[.bool true, .string ⟨#[]⟩, .slice (some ⟨gg, 0, none⟩) 3 3] 70 (0, 0)) := heap_setCell_self (heap_setCell_self (heap_setCell_self hcq 0 (.bool true)) 1 (.string ⟨#[]⟩)) 2 (.slice (some ⟨gg, 0, none⟩) 3 3)
      have e3 : (((W.setCell ⟨qq, 0, none⟩ (.bool true)).setCell ⟨qq, 1, none⟩ (.string ⟨#[]⟩)).setCell ⟨qq, 2, none⟩ (.slice (some ⟨gg, 0, none⟩) 3 3)).heap[gg]? = some (.cells #[.bool false, .string ea, .slice none 0 0, .bool false, .string ra, .slice none 0 0, .bool false, .string n3, .slice none 0 0] 70 (0, 0)) := (Below.heap_setCell _ _ _ _ hne).trans ((Below.heap_setCell _ _ _ _ hne).trans ((Below.heap_setCell _ _ _ _ hne).trans hcg))
      have HX : Hid (_ ∧ _ ∧ _) := ⟨e1, e2, e3⟩
      clear e1 e2 e3 BWD hcg hcq
      go_wp2_with fail
      obtain ⟨e1, e2, e3⟩ := HX.out
      obtain ⟨w3, hw3⟩ : ∃ V2, ((W.setCell ⟨qq, 0, none⟩ (.bool true)).setCell ⟨qq, 1, none⟩ (.string ⟨#[]⟩)).setCell ⟨qq, 2, none⟩ (.slice (some ⟨gg, 0, none⟩) 3 3) = V2 := ⟨_, rfl⟩
      rw [hw3] at e1 e2 e3
      first | rw [hw3] | skip
      obtain ⟨g6, hg6⟩ : ∃ x, gg = x := ⟨_, rfl⟩
      obtain ⟨q6, hq6⟩ : ∃ x, qq = x := ⟨_, rfl⟩
      rw [hg6] at e2 e3 hgg
      rw [hq6] at e2 hgq
      first | rw [hg6] | skip
      first | rw [hq6] | skip
      have hzw3 := e1.size
      have hlG : g6 < w3.heap.size := (Array.getElem?_eq_some_iff.1 e3).1
      have hlQ : q6 < w3.heap.size := (Array.getElem?_eq_some_iff.1 e2).1
      clear HX hw3 hne f0 d0 d1 d2 hzW hhg hhq hg6 hq6
      have B5' := (e1.block q5 (by omega)).trans B5
      have G5' := (e1.block g5 (by omega)).trans G5
      have b0' := (e1.block z (by omega)).trans b0
      have b1' := (e1.block (z + 1) (by omega)).trans b1
      have E3 : Below w1.heap.size w1 w3 := E2.trans (e1.mono (by omega))
      have hg6 : z + 4 ≤ g6 := by omega
      have hq6 : z + 4 ≤ q6 := by omega
      have B6 := e2
      have G6 := e3
      have hlg5 : g5 < w3.heap.size := by omega
      have hlq5 : q5 < w3.heap.size := by omega
      clear e1 e2 e3 c0 c1 c2 hgg hgq B5 G5 b0 b1 b3 E2
      have i0 : w3.cell? ⟨q5, 0, none⟩ = some (.bool true) := by rw [Lib.cell_of_heap B5']; rfl
      have i1 : w3.cell? ⟨q5, 1, none⟩ = some (.string ⟨#[]⟩) := by rw [Lib.cell_of_heap B5']; rfl
      have i2 : w3.cell? ⟨q5, 2, none⟩ = some (.slice (some ⟨g5, 0, none⟩) 5 5) := by rw [Lib.cell_of_heap B5']; rfl
      have j0 : w3.cell? ⟨q6, 0, none⟩ = some (.bool true) := by rw [Lib.cell_of_heap B6]; rfl
      have j1 : w3.cell? ⟨q6, 1, none⟩ = some (.string ⟨#[]⟩) := by rw [Lib.cell_of_heap B6]; rfl
      have j2 : w3.cell? ⟨q6, 2, none⟩ = some (.slice (some ⟨g6, 0, none⟩) 3 3) := by rw [Lib.cell_of_heap B6]; rfl
      have k8 : w3.cell? ⟨z, 8, none⟩ = some (.slice a K c) := by rw [Lib.cell_of_heap b0']; rfl
      have hz3 : z + 4 ≤ w3.heap.size := by omega
      refine region_inv_tail 7 (fun S aa W => ∃ x39 x40 x41 x42 x43 x44 x45 : Value, aa = { tmps := #[Value.agg #[Value.int IntKind.u64 ↑s, Value.int IntKind.u64 ↑u, Value.string p, Value.string t, Value.string b, Value.string ea, Value.string ra, Value.int IntKind.u64 ↑m, Value.slice a K c], Value.pointer (some { block := z, off := 0 }), Value.pointer (some { block := z + 1, off := 0 }), Value.pointer (some { block := z + 1 + 1, off := 0 }), Value.pointer (some { block := z + 1 + 1 + 1, off := 0 }), Value.pointer (some { block := q5, off := 0 }), Value.pointer (some { block := q6, off := 0 }), Value.pointer (some { block := z, off := 0 }), Value.agg #[Value.int IntKind.u64 ↑s, Value.int IntKind.u64 ↑u, Value.string p, Value.string t, Value.string b], Value.pointer (some { block := z, off := 5 }), Value.agg #[Value.string ea, Value.string ra, Value.int IntKind.u64 ↑m], Value.pointer (some { block := z + 2, off := 0 }), Value.int IntKind.u64 ↑s, Value.agg #[Value.bool false, Value.string n1, Value.slice none 0 0], Value.pointer (some { block := z + 2, off := 1 }), Value.int IntKind.u64 ↑u, Value.agg #[Value.bool false, Value.string n2, Value.slice none 0 0], Value.pointer (some { block := z + 2, off := 2 }), Value.string p, Value.agg #[Value.bool false, Value.string p, Value.slice none 0 0], Value.pointer (some { block := z + 2, off := 3 }), Value.string t, Value.agg #[Value.bool false, Value.string t, Value.slice none 0 0], Value.pointer (some { block := z + 2, off := 4 }), Value.string b, Value.agg #[Value.bool false, Value.string b, Value.slice none 0 0], Value.slice (some { block := gl5, off := 0 }) 5 5, Value.agg #[Value.bool true, Value.string { data := #[] }, Value.slice (some { block := g5, off := 0 }) 5 5], Value.pointer (some { block := z + 3, off := 0 }), Value.string ea, Value.agg #[Value.bool false, Value.string ea, Value.slice none 0 0], Value.pointer (some { block := z + 3, off := 1 }), Value.string ra, Value.agg #[Value.bool false, Value.string ra, Value.slice none 0 0], Value.pointer (some { block := z + 3, off := 2 }), Value.int IntKind.u64 ↑m, Value.agg #[Value.bool false, Value.string n3, Value.slice none 0 0], Value.slice (some { block := gl3, off := 0 }) 3 3, Value.agg #[Value.bool true, Value.string { data := #[] }, Value.slice (some { block := g6, off := 0 }) 3 3], x39, x40, x41, x42, x43, x44, x45], defers := [] } ∧ Ml_lt w3 z s u m K c a n1 n2 n3 p t b ea ra g5 q5 gl5 g6 q6 gl3 tx S x39 x40 x41 x42 x43 x44 x45 W) (by kernel_rfl) (by kernel_rfl) ?_ ?_ ?_
      · exact ⟨undef, undef, undef, undef, undef, undef, undef, rfl, ⟨(Below.refl _ w3).drew, nofun, nofun, nofun, nofun, nofun, nofun, nofun⟩⟩
      · intro i o S aa W hin hi hun hJ hall K hK
        obtain ⟨x39, x40, x41, x42, x43, x44, x45, rfl, h⟩ := hJ
        have hlt : i < 7 := hin
        have hcase : i = 0 ∨ i = 1 ∨ i = 2 ∨ i = 3 ∨ i = 4 ∨ i = 5 ∨ i = 6 := by omega
        rcases hcase with rfl | rfl | rfl | rfl | rfl | rfl | rfl
        all_goals (have ho := (Option.some.inj hi).symm; subst ho; clear hi hlt hin)
        · have cW0 := (h.e.cell (p := ⟨q5, 0, none⟩) (by show q5 < _; omega)).trans i0
          have cW1 := (h.e.cell (p := ⟨q5, 1, none⟩) (by show q5 < _; omega)).trans i1
          have cW2 := (h.e.cell (p := ⟨q5, 2, none⟩) (by show q5 < _; omega)).trans i2
          go_simp
          exact hK _ _ ⟨_, x40, x41, x42, x43, x44, x45, rfl, ⟨h.e, fun _ => rfl, h.f1, h.f2, h.f3, h.f4, h.f5, h.f6⟩⟩
        · have cW0 := (h.e.cell (p := ⟨q6, 0, none⟩) (by show q6 < _; omega)).trans j0
          have cW1 := (h.e.cell (p := ⟨q6, 1, none⟩) (by show q6 < _; omega)).trans j1
          have cW2 := (h.e.cell (p := ⟨q6, 2, none⟩) (by show q6 < _; omega)).trans j2
          go_simp
          exact hK _ _ ⟨x39, _, x41, x42, x43, x44, x45, rfl, ⟨h.e, h.f0, fun _ => rfl, h.f2, h.f3, h.f4, h.f5, h.f6⟩⟩
        · go_simp
          exact hK _ _ ⟨x39, x40, _, x42, x43, x44, x45, rfl, ⟨h.e, h.f0, h.f1, fun _ => rfl, h.f3, h.f4, h.f5, h.f6⟩⟩
        · have s_2 : S 2 = true := hall ⟨2, .data⟩ (by simp) rfl
          obtain rfl := h.f2 s_2
          have cW := (h.e.cell (p := ⟨z, 8, none⟩) (by show z < _; omega)).trans k8
          go_simp
          exact hK _ _ ⟨x39, x40, _, _, x43, x44, x45, rfl, ⟨h.e, h.f0, h.f1, h.f2, fun _ => rfl, h.f4, h.f5, h.f6⟩⟩
        · have s_3 : S 3 = true := hall ⟨3, .data⟩ (by simp) rfl
          obtain rfl := h.f3 s_3
          go_simp
          refine (KT W (E3.trans (h.e.mono (by omega)))).mono ?_
          rintro e w5 ⟨Y5, rfl, k1, k2, hb5⟩
          have h1 := h.grow hb5
          exact hK _ _ ⟨x39, x40, x41, _, _, x44, x45, rfl, ⟨h1.e, h1.f0, h1.f1, h1.f2, h1.f3, fun _ => ⟨Y5, rfl, k1, inP_of (fun b hb => ⟨⟨by have := h.e.size; omega, hb.2⟩, fun _ => rfl⟩) _ k2⟩, h1.f5, h1.f6⟩⟩
        · have s_0 : S 0 = true := hall ⟨0, .data⟩ (by simp) rfl
          obtain rfl := h.f0 s_0
          have s_1 : S 1 = true := hall ⟨1, .data⟩ (by simp) rfl
          obtain rfl := h.f1 s_1
          have s_4 : S 4 = true := hall ⟨4, .data⟩ (by simp) rfl
          obtain ⟨⟨yl, yt, ya, yc, yx⟩, rfl, he4, hi4⟩ := h.f4 s_4
          simp only [Im.val, Im.sl, Im.l, Im.t, Im.a, Im.xs, Im.c]
          go_simp
          have h1 := h.grow (be_new W (.cells #[.bool true, .string ⟨#[]⟩, .slice (some ⟨g5, 0, none⟩) 5 5, .bool true, .string ⟨#[]⟩, .slice (some ⟨g6, 0, none⟩) 3 3, .bool yl, .string yt, .slice ya yx.length yc] 70))
          have hzz := h.e.size
          have hrh : inP (fun b => z + 4 ≤ b ∧ b < W.heap.size) W (.mk true ⟨#[]⟩ (some ⟨g5, 0, none⟩) 5 [txt n1, txt n2, txt p, txt t, txt b]) := row_lit ((h.e.block g5 hlg5).trans G5') ⟨by omega, by omega⟩ _ (fun y hy => by simp at hy; rcases hy with e | e | e | e | e <;> (rw [e]; exact trivial)) rfl
          have hre : inP (fun b => z + 4 ≤ b ∧ b < W.heap.size) W (.mk true ⟨#[]⟩ (some ⟨g6, 0, none⟩) 3 [txt ea, txt ra, txt n3]) := row_lit ((h.e.block g6 hlG).trans G6) ⟨by omega, by omega⟩ _ (fun y hy => by simp at hy; rcases hy with e | e | e <;> (rw [e]; exact trivial)) rfl
          have hrw := row_new (W := W) (B := z + 4) (by omega) [.mk true ⟨#[]⟩ (some ⟨g5, 0, none⟩) 5 [txt n1, txt n2, txt p, txt t, txt b], .mk true ⟨#[]⟩ (some ⟨g6, 0, none⟩) 3 [txt ea, txt ra, txt n3], .mk yl yt ya yc yx] (fun y hy => by rcases List.mem_cons.1 hy with e | hy; (rw [e]; exact hrh); (rcases List.mem_cons.1 hy with e | hy; (rw [e]; exact hre); (have e := List.mem_singleton.1 hy; rw [e]; exact hi4))) (cs := #[.bool true, .string ⟨#[]⟩, .slice (some ⟨g5, 0, none⟩) 5 5, .bool true, .string ⟨#[]⟩, .slice (some ⟨g6, 0, none⟩) 3 3, .bool yl, .string yt, .slice ya yx.length yc]) rfl
          exact hK _ _ ⟨_, _, x41, x42, _, _, x45, rfl, ⟨h1.e, h1.f0, h1.f1, h1.f2, h1.f3, h1.f4, fun _ => ⟨W.heap.size, _, rfl, rfl, by show [er _, er _, er _] = _; rw [he4]; rfl, hrw⟩, h1.f6⟩⟩
        · have s_5 : S 5 = true := hall ⟨5, .data⟩ (by simp) rfl
          obtain ⟨g5_, Ys, rfl, hl5, he5, hr5⟩ := h.f5 s_5
          go_simp
          refine (rlist_any (some ⟨g5_, 0, none⟩) 3 3 W).mono ?_
          rintro e w5 ⟨rfl, hb5⟩
          have h1 := h.grow hb5
          exact hK _ _ ⟨x39, x40, x41, x42, x43, _, _, rfl, ⟨h1.e, h1.f0, h1.f1, h1.f2, h1.f3, h1.f4, h1.f5, fun _ => (RwI.list hl5 he5 hr5).grow hb5⟩⟩
      · rintro S aa W hall ⟨x39, x40, x41, x42, x43, x44, x45, rfl, h⟩
        obtain rfl := h.f0 (hall 0 (by decide))
        obtain rfl := h.f1 (hall 1 (by decide))
        obtain rfl := h.f2 (hall 2 (by decide))
        obtain rfl := h.f3 (hall 3 (by decide))
        obtain hO4 := h.f4 (hall 4 (by decide))
        obtain hO5 := h.f5 (hall 5 (by decide))
        obtain ⟨⟨zl, zt, za, zc, zx⟩, rfl, hez, hiz⟩ := h.f6 (hall 6 (by decide))
        have BWD := h.e
        clear h hall
        simp only [List.drop_succ_cons, List.drop_zero]
        simp only [Im.val, Im.sl, Im.l, Im.t, Im.a, Im.xs, Im.c]
        have hr1 := (BWD.block (z + 1) (by omega)).trans b1'
        have hz1 := BWD.size
        have f0 := fun o => Lib.frozen_of_heap hr1 o
        have d0 : W.cell? ⟨z + 1, 0, none⟩ = some (.bool false) := by rw [Lib.cell_of_heap hr1]; rfl
        have d1 : W.cell? ⟨z + 1, 1, none⟩ = some (.string ⟨#[]⟩) := by rw [Lib.cell_of_heap hr1]; rfl
        have d2 : W.cell? ⟨z + 1, 2, none⟩ = some (.slice none 0 0) := by rw [Lib.cell_of_heap hr1]; rfl
        have hA : z ≤ z + 1 := by omega
        have hW2 : ∀ b, (z + 4 ≤ b ∧ b < W.heap.size) → b ≠ z + 1 := fun b hb => by omega
        have HX : Hid (_ ∧ _ ∧ _) := ⟨A0.trans ((E3.trans (BWD.mono (by omega))).mono (by omega)), hez, hiz⟩
        clear BWD hez hiz hO4 hO5 h1 hr1 A0 KT i0 i1 i2 j0 j1 j2 k8 E3
        go_wp2
        obtain ⟨BX, hez, hiz⟩ := HX.out
        refine bodyPost_ret (v := .agg #[.bool zl, .string zt, .slice za zx.length zc]) (by simp [results, Tryd.results47, go_sem, d0, d1, d2]) rfl ⟨.mk zl zt za zc zx, rfl, hez, ?_, ?_⟩
        · rw [HP.out]
          refine inP_of (fun b hb => ⟨⟨by omega, by simp [World.setCell]; omega⟩, fun j => ?_⟩) _ hiz
          rw [cell_ne _ _ _ _ _ (by show b ≠ z + 1; omega), cell_ne _ _ _ _ _ (by show b ≠ z + 1; omega), cell_ne _ _ _ _ _ (by show b ≠ z + 1; omega)]
        · rw [HP.out]
          exact below_set (below_set (below_set BX _ _ hA _) _ _ hA _) _ _ hA _
end Go.Proofs.YtmefanagpkbjeaaDoor
