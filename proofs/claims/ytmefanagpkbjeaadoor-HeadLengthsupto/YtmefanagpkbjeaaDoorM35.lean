/- Lemmas: The parts of Lights, of a Boot, of an Update. -/
import Derived.Test.YtmefanagpkbjeaaDoorM1
import Derived.Test.YtmefanagpkbjeaaDoorM10
import Derived.Test.YtmefanagpkbjeaaDoorM11
import Derived.Test.YtmefanagpkbjeaaDoorM12
import Derived.Test.YtmefanagpkbjeaaDoorM13
import Derived.Test.YtmefanagpkbjeaaDoorM14
import Derived.Test.YtmefanagpkbjeaaDoorM15
import Derived.Test.YtmefanagpkbjeaaDoorM16
import Derived.Test.YtmefanagpkbjeaaDoorM17
import Derived.Test.YtmefanagpkbjeaaDoorM18
import Derived.Test.YtmefanagpkbjeaaDoorM19
import Derived.Test.YtmefanagpkbjeaaDoorM2
import Derived.Test.YtmefanagpkbjeaaDoorM20
import Derived.Test.YtmefanagpkbjeaaDoorM21
import Derived.Test.YtmefanagpkbjeaaDoorM22
import Derived.Test.YtmefanagpkbjeaaDoorM23
import Derived.Test.YtmefanagpkbjeaaDoorM24
import Derived.Test.YtmefanagpkbjeaaDoorM25
import Derived.Test.YtmefanagpkbjeaaDoorM26
import Derived.Test.YtmefanagpkbjeaaDoorM27
import Derived.Test.YtmefanagpkbjeaaDoorM28
import Derived.Test.YtmefanagpkbjeaaDoorM29
import Derived.Test.YtmefanagpkbjeaaDoorM3
import Derived.Test.YtmefanagpkbjeaaDoorM30
import Derived.Test.YtmefanagpkbjeaaDoorM31
import Derived.Test.YtmefanagpkbjeaaDoorM33
import Derived.Test.YtmefanagpkbjeaaDoorM34
import Derived.Test.YtmefanagpkbjeaaDoorM4
import Derived.Test.YtmefanagpkbjeaaDoorM6
import Derived.Test.YtmefanagpkbjeaaDoorM7
import Derived.Test.YtmefanagpkbjeaaDoorM8
import Derived.Test.YtmefanagpkbjeaaDoorM9
import Derived.Test.YtmefanagpkbjeaaDoorRows
namespace Go.Proofs.YtmefanagpkbjeaaDoor
open Go.RowKit Go.Shelf Go.Sort

def ltL (q o : Nat) (a1 a2 : Option Addr) : List Pt := [.lst a1 5 (hdL q o), .lst a2 3 (exL q (o + 5)), .txs ⟨q, o + 8, none⟩]
/-- A Light's part: where its lists lie. -/
def ltP (q o : Nat) (t : Option Addr × Option Addr × Option Addr) : Pt := .lst t.1 3 (ltL q o t.2.1 t.2.2)
def btL (q : Nat) (t : Option Addr × Option Addr × Option Addr) (ac : Option Addr) : List Pt := [ltP q 0 t, .lst ac 2 (cmL q 9), .txs ⟨q, 11, none⟩]
def uptL (q : Nat) (t : Option Addr × Option Addr × Option Addr) (ac : Option Addr) (u : Option Addr × Option Addr × Option Addr) : List Pt := [ltP q 0 t, .lst ac 2 (cmL q 9), .txs ⟨q, 11, none⟩, ltP q 12 u, .txs ⟨q, 21, none⟩, .num ⟨q, 22, none⟩, .txt ⟨q, 23, none⟩, .num ⟨q, 24, none⟩]
/-- A list of parts that was made anew. -/
def SkR (n : Nat) (ps : List Pt) (B : Nat) (X : Value) (W : World) : Prop := ∃ a, X = .iface 145 (.slice a n n) ∧ skRow (fun b => B ≤ b ∧ b < W.heap.size) W a 0 ps
theorem SkR.grow {n : Nat} {ps : List Pt} {B : Nat} {X : Value} {W W' : World} (h : SkR n ps B X W) (hb : Below W.heap.size W W') : SkR n ps B X W' := by
  obtain ⟨a, h1, h2⟩ := h
  exact ⟨a, h1, skRow_of (fun b k => ⟨⟨k.1, Nat.lt_of_lt_of_le k.2 hb.size⟩, fun j => hb.cell (p := ⟨b, j, none⟩) k.2⟩) _ _ _ h2⟩
/-- A Light's part that was made anew. -/
def LtR (q o : Nat) (B : Nat) (X : Value) (W : World) : Prop := ∃ t : Option Addr × Option Addr × Option Addr, X = .iface 145 (.slice t.1 3 3) ∧ skRow (fun b => B ≤ b ∧ b < W.heap.size) W t.1 0 (ltL q o t.2.1 t.2.2)
theorem LtR.grow {q o : Nat} {B : Nat} {X : Value} {W W' : World} (h : LtR q o B X W) (hb : Below W.heap.size W W') : LtR q o B X W' := by
  obtain ⟨a, h1, h2⟩ := h
  exact ⟨a, h1, skRow_of (fun b k => ⟨⟨k.1, Nat.lt_of_lt_of_le k.2 hb.size⟩, fun j => hb.cell (p := ⟨b, j, none⟩) k.2⟩) _ _ _ h2⟩
/-- What holds while a statement runs. -/
structure Mk_light (V : World) (q o : Nat) (S : Nat → Bool) (x3 x4 x5 x6 x7 x8 x9 x10 x11 x12 x13 x14 x15 : Value) (W : World) : Prop where
  e : Below V.heap.size V W
  f0 : S 0 = true → x3 = Value.pointer (some ⟨q, o, none⟩)
  f1 : S 1 = true → x4 = Value.pointer (some ⟨q, o, none⟩)
  f2 : S 2 = true → x5 = Value.pointer (some ⟨q, o, none⟩)
  f3 : S 3 = true → SkR 5 (hdL q o) V.heap.size x6 W
  f4 : S 4 = true → x7 = Value.pointer (some ⟨q, o, none⟩)
  f5 : S 5 = true → x8 = Value.pointer (some ⟨q, o, none⟩)
  f6 : S 6 = true → x9 = Value.pointer (some ⟨q, o + 5, none⟩)
  f7 : S 7 = true → SkR 3 (exL q (o + 5)) V.heap.size x10 W
  f8 : S 8 = true → x11 = Value.pointer (some ⟨q, o, none⟩)
  f9 : S 9 = true → x12 = Value.pointer (some ⟨q, o, none⟩)
  f10 : S 10 = true → x13 = Value.pointer (some ⟨q, o + 8, none⟩)
  f11 : S 11 = true → x14 = Value.agg #[.pointer (some ⟨q, o + 8, none⟩)]
  f12 : S 12 = true → x15 = Value.iface 143 (.agg #[.pointer (some ⟨q, o + 8, none⟩)])
theorem Mk_light.grow {V : World} {q o : Nat} {S : Nat → Bool} {x3 x4 x5 x6 x7 x8 x9 x10 x11 x12 x13 x14 x15 : Value} {W W' : World} (h : Mk_light V q o S x3 x4 x5 x6 x7 x8 x9 x10 x11 x12 x13 x14 x15 W) (hb : Below W.heap.size W W') : Mk_light V q o S x3 x4 x5 x6 x7 x8 x9 x10 x11 x12 x13 x14 x15 W' :=
  ⟨belowStep h.e h.e.size hb, h.f0, h.f1, h.f2, fun s => SkR.grow (h.f3 s) hb, h.f4, h.f5, h.f6, fun s => SkR.grow (h.f7 s) hb, h.f8, h.f9, h.f10, h.f11, h.f12⟩
set_option maxRecDepth 100000 in
set_option maxHeartbeats 4000000 in
theorem light_any (q o : Nat) (w : World) :
    Calls Tryd.prog 87 #[.pointer (some ⟨q, o, none⟩)] w fun e w' => ∃ t : Option Addr × Option Addr × Option Addr, e = .returned (.iface 145 (.slice t.1 3 3)) ∧ skRow (fun b => w.heap.size ≤ b ∧ b < w'.heap.size) w' t.1 0 (ltL q o t.2.1 t.2.2) ∧ Below w.heap.size w w' := by
  go_enter Tryd.func87, Tryd.ntmps87
  go_wp2_with fail
  refine region_inv_tail 13 (fun S aa W => ∃ x3 x4 x5 x6 x7 x8 x9 x10 x11 x12 x13 x14 x15 : Value, aa = { tmps := #[Value.pointer (some { block := q, off := o }), undef, Value.nilIface, x3, x4, x5, x6, x7, x8, x9, x10, x11, x12, x13, x14, x15, undef, undef], defers := [] } ∧ Mk_light w q o S x3 x4 x5 x6 x7 x8 x9 x10 x11 x12 x13 x14 x15 W) (by kernel_rfl) (by kernel_rfl) ?_ ?_ ?_
  · exact ⟨undef, undef, undef, undef, undef, undef, undef, undef, undef, undef, undef, undef, undef, rfl, ⟨(Below.refl _ w).drew, nofun, nofun, nofun, nofun, nofun, nofun, nofun, nofun, nofun, nofun, nofun, nofun, nofun⟩⟩
  · intro i o S aa W hin hi hun hJ hall K hK
    obtain ⟨x3, x4, x5, x6, x7, x8, x9, x10, x11, x12, x13, x14, x15, rfl, h⟩ := hJ
    have hlt : i < 13 := hin
    have hcase : i = 0 ∨ i = 1 ∨ i = 2 ∨ i = 3 ∨ i = 4 ∨ i = 5 ∨ i = 6 ∨ i = 7 ∨ i = 8 ∨ i = 9 ∨ i = 10 ∨ i = 11 ∨ i = 12 := by omega
    rcases hcase with rfl | rfl | rfl | rfl | rfl | rfl | rfl | rfl | rfl | rfl | rfl | rfl | rfl
    all_goals (have ho := (Option.some.inj hi).symm; subst ho; clear hi hlt hin)
    · go_simp
      exact hK _ _ ⟨_, x4, x5, x6, x7, x8, x9, x10, x11, x12, x13, x14, x15, rfl, ⟨h.e, fun _ => rfl, h.f1, h.f2, h.f3, h.f4, h.f5, h.f6, h.f7, h.f8, h.f9, h.f10, h.f11, h.f12⟩⟩
    · have s_0 : S 0 = true := hall ⟨0, .data⟩ (by simp) rfl
      obtain rfl := h.f0 s_0
      go_simp
      exact hK _ _ ⟨_, _, x5, x6, x7, x8, x9, x10, x11, x12, x13, x14, x15, rfl, ⟨h.e, h.f0, fun _ => rfl, h.f2, h.f3, h.f4, h.f5, h.f6, h.f7, h.f8, h.f9, h.f10, h.f11, h.f12⟩⟩
    · have s_1 : S 1 = true := hall ⟨1, .data⟩ (by simp) rfl
      obtain rfl := h.f1 s_1
      go_simp
      exact hK _ _ ⟨x3, _, _, x6, x7, x8, x9, x10, x11, x12, x13, x14, x15, rfl, ⟨h.e, h.f0, h.f1, fun _ => rfl, h.f3, h.f4, h.f5, h.f6, h.f7, h.f8, h.f9, h.f10, h.f11, h.f12⟩⟩
    · have s_2 : S 2 = true := hall ⟨2, .data⟩ (by simp) rfl
      obtain rfl := h.f2 s_2
      go_simp
      refine (header_any q o W).mono ?_
      rintro e w5 ⟨a5, rfl, k1, hb5⟩
      have h1 := h.grow hb5
      exact hK _ _ ⟨x3, x4, _, _, x7, x8, x9, x10, x11, x12, x13, x14, x15, rfl, ⟨h1.e, h1.f0, h1.f1, h1.f2, fun _ => ⟨a5, rfl, skRow_of (fun b hb => ⟨⟨Nat.le_trans h.e.size hb.1, hb.2⟩, fun _ => rfl⟩) _ _ _ k1⟩, h1.f4, h1.f5, h1.f6, h1.f7, h1.f8, h1.f9, h1.f10, h1.f11, h1.f12⟩⟩
    · go_simp
      exact hK _ _ ⟨x3, x4, x5, x6, _, x8, x9, x10, x11, x12, x13, x14, x15, rfl, ⟨h.e, h.f0, h.f1, h.f2, h.f3, fun _ => rfl, h.f5, h.f6, h.f7, h.f8, h.f9, h.f10, h.f11, h.f12⟩⟩
    · have s_4 : S 4 = true := hall ⟨4, .data⟩ (by simp) rfl
      obtain rfl := h.f4 s_4
      go_simp
      exact hK _ _ ⟨x3, x4, x5, x6, _, _, x9, x10, x11, x12, x13, x14, x15, rfl, ⟨h.e, h.f0, h.f1, h.f2, h.f3, h.f4, fun _ => rfl, h.f6, h.f7, h.f8, h.f9, h.f10, h.f11, h.f12⟩⟩
    · have s_5 : S 5 = true := hall ⟨5, .data⟩ (by simp) rfl
      obtain rfl := h.f5 s_5
      go_simp
      exact hK _ _ ⟨x3, x4, x5, x6, x7, _, _, x10, x11, x12, x13, x14, x15, rfl, ⟨h.e, h.f0, h.f1, h.f2, h.f3, h.f4, h.f5, fun _ => rfl, h.f7, h.f8, h.f9, h.f10, h.f11, h.f12⟩⟩
    · have s_6 : S 6 = true := hall ⟨6, .data⟩ (by simp) rfl
      obtain rfl := h.f6 s_6
      go_simp
      refine (exec_any q (o + 5) W).mono ?_
      rintro e w5 ⟨a5, rfl, k1, hb5⟩
      have h1 := h.grow hb5
      exact hK _ _ ⟨x3, x4, x5, x6, x7, x8, _, _, x11, x12, x13, x14, x15, rfl, ⟨h1.e, h1.f0, h1.f1, h1.f2, h1.f3, h1.f4, h1.f5, h1.f6, fun _ => ⟨a5, rfl, skRow_of (fun b hb => ⟨⟨Nat.le_trans h.e.size hb.1, hb.2⟩, fun _ => rfl⟩) _ _ _ k1⟩, h1.f8, h1.f9, h1.f10, h1.f11, h1.f12⟩⟩
    · go_simp
      exact hK _ _ ⟨x3, x4, x5, x6, x7, x8, x9, x10, _, x12, x13, x14, x15, rfl, ⟨h.e, h.f0, h.f1, h.f2, h.f3, h.f4, h.f5, h.f6, h.f7, fun _ => rfl, h.f9, h.f10, h.f11, h.f12⟩⟩
    · have s_8 : S 8 = true := hall ⟨8, .data⟩ (by simp) rfl
      obtain rfl := h.f8 s_8
      go_simp
      exact hK _ _ ⟨x3, x4, x5, x6, x7, x8, x9, x10, _, _, x13, x14, x15, rfl, ⟨h.e, h.f0, h.f1, h.f2, h.f3, h.f4, h.f5, h.f6, h.f7, h.f8, fun _ => rfl, h.f10, h.f11, h.f12⟩⟩
    · have s_9 : S 9 = true := hall ⟨9, .data⟩ (by simp) rfl
      obtain rfl := h.f9 s_9
      go_simp
      exact hK _ _ ⟨x3, x4, x5, x6, x7, x8, x9, x10, x11, _, _, x14, x15, rfl, ⟨h.e, h.f0, h.f1, h.f2, h.f3, h.f4, h.f5, h.f6, h.f7, h.f8, h.f9, fun _ => rfl, h.f11, h.f12⟩⟩
    · have s_10 : S 10 = true := hall ⟨10, .data⟩ (by simp) rfl
      obtain rfl := h.f10 s_10
      go_simp
      exact hK _ _ ⟨x3, x4, x5, x6, x7, x8, x9, x10, x11, x12, _, _, x15, rfl, ⟨h.e, h.f0, h.f1, h.f2, h.f3, h.f4, h.f5, h.f6, h.f7, h.f8, h.f9, h.f10, fun _ => rfl, h.f12⟩⟩
    · have s_11 : S 11 = true := hall ⟨11, .data⟩ (by simp) rfl
      obtain rfl := h.f11 s_11
      go_simp
      exact hK _ _ ⟨x3, x4, x5, x6, x7, x8, x9, x10, x11, x12, x13, _, _, rfl, ⟨h.e, h.f0, h.f1, h.f2, h.f3, h.f4, h.f5, h.f6, h.f7, h.f8, h.f9, h.f10, h.f11, fun _ => rfl⟩⟩
  · rintro S aa W hall ⟨x3, x4, x5, x6, x7, x8, x9, x10, x11, x12, x13, x14, x15, rfl, h⟩
    obtain rfl := h.f0 (hall 0 (by decide))
    obtain rfl := h.f1 (hall 1 (by decide))
    obtain rfl := h.f2 (hall 2 (by decide))
    obtain ⟨a0, rfl, hk0⟩ := h.f3 (hall 3 (by decide))
    obtain rfl := h.f4 (hall 4 (by decide))
    obtain rfl := h.f5 (hall 5 (by decide))
    obtain rfl := h.f6 (hall 6 (by decide))
    obtain ⟨a1, rfl, hk1⟩ := h.f7 (hall 7 (by decide))
    obtain rfl := h.f8 (hall 8 (by decide))
    obtain rfl := h.f9 (hall 9 (by decide))
    obtain rfl := h.f10 (hall 10 (by decide))
    obtain rfl := h.f11 (hall 11 (by decide))
    obtain rfl := h.f12 (hall 12 (by decide))
    have BWD := h.e
    clear h hall
    simp only [List.drop_succ_cons, List.drop_zero]
    have hz := BWD.size
    have HX : Hid (_ ∧ _ ∧ _) := ⟨BWD, hk0, hk1⟩
    clear BWD hk0 hk1
    go_wp2
    go_ret
    obtain ⟨BWD, hk0, hk1⟩ := HX.out
    refine ⟨(some ⟨W.heap.size, 0, none⟩, a0, a1), rfl, sk_of_row (by constructor; omega; simp) _ 0 (fun j p hp => ?_), BWD.alloc hz _⟩
    have hj := (List.getElem?_eq_some_iff.1 hp).1
    have hj : j < 3 := hj
    have hold : ∀ b, w.heap.size ≤ b ∧ b < W.heap.size → (w.heap.size ≤ b ∧ b < (W.alloc (.cells #[.iface 145 (.slice a0 5 5), .iface 145 (.slice a1 3 3), .iface 143 (.agg #[.pointer (some ⟨q, o + 8, none⟩)])] 72)).heap.size) ∧ ∀ j, (W.alloc (.cells #[.iface 145 (.slice a0 5 5), .iface 145 (.slice a1 3 3), .iface 143 (.agg #[.pointer (some ⟨q, o + 8, none⟩)])] 72)).cell? ⟨b, j, none⟩ = W.cell? ⟨b, j, none⟩ := fun b hb => ⟨⟨hb.1, by simp; omega⟩, fun j => ((Below.refl _ W).alloc (Nat.le_refl _) _).cell (p := ⟨b, j, none⟩) hb.2⟩
    have hcase : j = 0 ∨ j = 1 ∨ j = 2 := by omega
    rcases hcase with rfl | rfl | rfl
    · cases hp
      exact ⟨by rw [Lib.cell_of_heap (World.alloc_heap_new W _)]; rfl, skRow_of hold _ _ _ hk0⟩
    · cases hp
      exact ⟨by rw [Lib.cell_of_heap (World.alloc_heap_new W _)]; rfl, skRow_of hold _ _ _ hk1⟩
    · cases hp
      exact ⟨by rw [Lib.cell_of_heap (World.alloc_heap_new W _)]; rfl, trivial⟩
/-- What holds while a statement runs. -/
structure Mk_boot (V : World) (q : Nat) (S : Nat → Bool) (x3 x4 x5 x6 x7 x8 x9 x10 x11 x12 x13 x14 x15 : Value) (W : World) : Prop where
  e : Below V.heap.size V W
  f0 : S 0 = true → x3 = Value.pointer (some ⟨q, 0, none⟩)
  f1 : S 1 = true → x4 = Value.pointer (some ⟨q, 0, none⟩)
  f2 : S 2 = true → x5 = Value.pointer (some ⟨q, 0, none⟩)
  f3 : S 3 = true → LtR q 0 V.heap.size x6 W
  f4 : S 4 = true → x7 = Value.pointer (some ⟨q, 0, none⟩)
  f5 : S 5 = true → x8 = Value.pointer (some ⟨q, 0, none⟩)
  f6 : S 6 = true → x9 = Value.pointer (some ⟨q, 9, none⟩)
  f7 : S 7 = true → SkR 2 (cmL q 9) V.heap.size x10 W
  f8 : S 8 = true → x11 = Value.pointer (some ⟨q, 0, none⟩)
  f9 : S 9 = true → x12 = Value.pointer (some ⟨q, 0, none⟩)
  f10 : S 10 = true → x13 = Value.pointer (some ⟨q, 11, none⟩)
  f11 : S 11 = true → x14 = Value.agg #[.pointer (some ⟨q, 11, none⟩)]
  f12 : S 12 = true → x15 = Value.iface 143 (.agg #[.pointer (some ⟨q, 11, none⟩)])
theorem Mk_boot.grow {V : World} {q : Nat} {S : Nat → Bool} {x3 x4 x5 x6 x7 x8 x9 x10 x11 x12 x13 x14 x15 : Value} {W W' : World} (h : Mk_boot V q S x3 x4 x5 x6 x7 x8 x9 x10 x11 x12 x13 x14 x15 W) (hb : Below W.heap.size W W') : Mk_boot V q S x3 x4 x5 x6 x7 x8 x9 x10 x11 x12 x13 x14 x15 W' :=
  ⟨belowStep h.e h.e.size hb, h.f0, h.f1, h.f2, fun s => LtR.grow (h.f3 s) hb, h.f4, h.f5, h.f6, fun s => SkR.grow (h.f7 s) hb, h.f8, h.f9, h.f10, h.f11, h.f12⟩
set_option maxRecDepth 100000 in
set_option maxHeartbeats 4000000 in
theorem boot_any (q : Nat) (w : World) :
    Calls Tryd.prog 44 #[.pointer (some ⟨q, 0, none⟩)] w fun e w' => ∃ a t ac, e = .returned (.iface 145 (.slice a 3 3)) ∧ skRow (fun b => w.heap.size ≤ b ∧ b < w'.heap.size) w' a 0 (btL q t ac) ∧ Below w.heap.size w w' := by
  go_enter Tryd.func44, Tryd.ntmps44
  go_wp2_with fail
  refine region_inv_tail 13 (fun S aa W => ∃ x3 x4 x5 x6 x7 x8 x9 x10 x11 x12 x13 x14 x15 : Value, aa = { tmps := #[Value.pointer (some { block := q, off := 0 }), undef, Value.nilIface, x3, x4, x5, x6, x7, x8, x9, x10, x11, x12, x13, x14, x15, undef, undef], defers := [] } ∧ Mk_boot w q S x3 x4 x5 x6 x7 x8 x9 x10 x11 x12 x13 x14 x15 W) (by kernel_rfl) (by kernel_rfl) ?_ ?_ ?_
  · exact ⟨undef, undef, undef, undef, undef, undef, undef, undef, undef, undef, undef, undef, undef, rfl, ⟨(Below.refl _ w).drew, nofun, nofun, nofun, nofun, nofun, nofun, nofun, nofun, nofun, nofun, nofun, nofun, nofun⟩⟩
  · intro i o S aa W hin hi hun hJ hall K hK
    obtain ⟨x3, x4, x5, x6, x7, x8, x9, x10, x11, x12, x13, x14, x15, rfl, h⟩ := hJ
    have hlt : i < 13 := hin
    have hcase : i = 0 ∨ i = 1 ∨ i = 2 ∨ i = 3 ∨ i = 4 ∨ i = 5 ∨ i = 6 ∨ i = 7 ∨ i = 8 ∨ i = 9 ∨ i = 10 ∨ i = 11 ∨ i = 12 := by omega
    rcases hcase with rfl | rfl | rfl | rfl | rfl | rfl | rfl | rfl | rfl | rfl | rfl | rfl | rfl
    all_goals (have ho := (Option.some.inj hi).symm; subst ho; clear hi hlt hin)
    · go_simp
      exact hK _ _ ⟨_, x4, x5, x6, x7, x8, x9, x10, x11, x12, x13, x14, x15, rfl, ⟨h.e, fun _ => rfl, h.f1, h.f2, h.f3, h.f4, h.f5, h.f6, h.f7, h.f8, h.f9, h.f10, h.f11, h.f12⟩⟩
    · have s_0 : S 0 = true := hall ⟨0, .data⟩ (by simp) rfl
      obtain rfl := h.f0 s_0
      go_simp
      exact hK _ _ ⟨_, _, x5, x6, x7, x8, x9, x10, x11, x12, x13, x14, x15, rfl, ⟨h.e, h.f0, fun _ => rfl, h.f2, h.f3, h.f4, h.f5, h.f6, h.f7, h.f8, h.f9, h.f10, h.f11, h.f12⟩⟩
    · have s_1 : S 1 = true := hall ⟨1, .data⟩ (by simp) rfl
      obtain rfl := h.f1 s_1
      go_simp
      exact hK _ _ ⟨x3, _, _, x6, x7, x8, x9, x10, x11, x12, x13, x14, x15, rfl, ⟨h.e, h.f0, h.f1, fun _ => rfl, h.f3, h.f4, h.f5, h.f6, h.f7, h.f8, h.f9, h.f10, h.f11, h.f12⟩⟩
    · have s_2 : S 2 = true := hall ⟨2, .data⟩ (by simp) rfl
      obtain rfl := h.f2 s_2
      go_simp
      refine (light_any q 0 W).mono ?_
      rintro e w5 ⟨a5, rfl, k1, hb5⟩
      have h1 := h.grow hb5
      exact hK _ _ ⟨x3, x4, _, _, x7, x8, x9, x10, x11, x12, x13, x14, x15, rfl, ⟨h1.e, h1.f0, h1.f1, h1.f2, fun _ => ⟨a5, rfl, skRow_of (fun b hb => ⟨⟨Nat.le_trans h.e.size hb.1, hb.2⟩, fun _ => rfl⟩) _ _ _ k1⟩, h1.f4, h1.f5, h1.f6, h1.f7, h1.f8, h1.f9, h1.f10, h1.f11, h1.f12⟩⟩
    · go_simp
      exact hK _ _ ⟨x3, x4, x5, x6, _, x8, x9, x10, x11, x12, x13, x14, x15, rfl, ⟨h.e, h.f0, h.f1, h.f2, h.f3, fun _ => rfl, h.f5, h.f6, h.f7, h.f8, h.f9, h.f10, h.f11, h.f12⟩⟩
    · have s_4 : S 4 = true := hall ⟨4, .data⟩ (by simp) rfl
      obtain rfl := h.f4 s_4
      go_simp
      exact hK _ _ ⟨x3, x4, x5, x6, _, _, x9, x10, x11, x12, x13, x14, x15, rfl, ⟨h.e, h.f0, h.f1, h.f2, h.f3, h.f4, fun _ => rfl, h.f6, h.f7, h.f8, h.f9, h.f10, h.f11, h.f12⟩⟩
    · have s_5 : S 5 = true := hall ⟨5, .data⟩ (by simp) rfl
      obtain rfl := h.f5 s_5
      go_simp
      exact hK _ _ ⟨x3, x4, x5, x6, x7, _, _, x10, x11, x12, x13, x14, x15, rfl, ⟨h.e, h.f0, h.f1, h.f2, h.f3, h.f4, h.f5, fun _ => rfl, h.f7, h.f8, h.f9, h.f10, h.f11, h.f12⟩⟩
    · have s_6 : S 6 = true := hall ⟨6, .data⟩ (by simp) rfl
      obtain rfl := h.f6 s_6
      go_simp
      refine (committee_any q 9 W).mono ?_
      rintro e w5 ⟨a5, rfl, k1, hb5⟩
      have h1 := h.grow hb5
      exact hK _ _ ⟨x3, x4, x5, x6, x7, x8, _, _, x11, x12, x13, x14, x15, rfl, ⟨h1.e, h1.f0, h1.f1, h1.f2, h1.f3, h1.f4, h1.f5, h1.f6, fun _ => ⟨a5, rfl, skRow_of (fun b hb => ⟨⟨Nat.le_trans h.e.size hb.1, hb.2⟩, fun _ => rfl⟩) _ _ _ k1⟩, h1.f8, h1.f9, h1.f10, h1.f11, h1.f12⟩⟩
    · go_simp
      exact hK _ _ ⟨x3, x4, x5, x6, x7, x8, x9, x10, _, x12, x13, x14, x15, rfl, ⟨h.e, h.f0, h.f1, h.f2, h.f3, h.f4, h.f5, h.f6, h.f7, fun _ => rfl, h.f9, h.f10, h.f11, h.f12⟩⟩
    · have s_8 : S 8 = true := hall ⟨8, .data⟩ (by simp) rfl
      obtain rfl := h.f8 s_8
      go_simp
      exact hK _ _ ⟨x3, x4, x5, x6, x7, x8, x9, x10, _, _, x13, x14, x15, rfl, ⟨h.e, h.f0, h.f1, h.f2, h.f3, h.f4, h.f5, h.f6, h.f7, h.f8, fun _ => rfl, h.f10, h.f11, h.f12⟩⟩
    · have s_9 : S 9 = true := hall ⟨9, .data⟩ (by simp) rfl
      obtain rfl := h.f9 s_9
      go_simp
      exact hK _ _ ⟨x3, x4, x5, x6, x7, x8, x9, x10, x11, _, _, x14, x15, rfl, ⟨h.e, h.f0, h.f1, h.f2, h.f3, h.f4, h.f5, h.f6, h.f7, h.f8, h.f9, fun _ => rfl, h.f11, h.f12⟩⟩
    · have s_10 : S 10 = true := hall ⟨10, .data⟩ (by simp) rfl
      obtain rfl := h.f10 s_10
      go_simp
      exact hK _ _ ⟨x3, x4, x5, x6, x7, x8, x9, x10, x11, x12, _, _, x15, rfl, ⟨h.e, h.f0, h.f1, h.f2, h.f3, h.f4, h.f5, h.f6, h.f7, h.f8, h.f9, h.f10, fun _ => rfl, h.f12⟩⟩
    · have s_11 : S 11 = true := hall ⟨11, .data⟩ (by simp) rfl
      obtain rfl := h.f11 s_11
      go_simp
      exact hK _ _ ⟨x3, x4, x5, x6, x7, x8, x9, x10, x11, x12, x13, _, _, rfl, ⟨h.e, h.f0, h.f1, h.f2, h.f3, h.f4, h.f5, h.f6, h.f7, h.f8, h.f9, h.f10, h.f11, fun _ => rfl⟩⟩
  · rintro S aa W hall ⟨x3, x4, x5, x6, x7, x8, x9, x10, x11, x12, x13, x14, x15, rfl, h⟩
    obtain rfl := h.f0 (hall 0 (by decide))
    obtain rfl := h.f1 (hall 1 (by decide))
    obtain rfl := h.f2 (hall 2 (by decide))
    obtain ⟨a0, rfl, hk0⟩ := h.f3 (hall 3 (by decide))
    obtain rfl := h.f4 (hall 4 (by decide))
    obtain rfl := h.f5 (hall 5 (by decide))
    obtain rfl := h.f6 (hall 6 (by decide))
    obtain ⟨a1, rfl, hk1⟩ := h.f7 (hall 7 (by decide))
    obtain rfl := h.f8 (hall 8 (by decide))
    obtain rfl := h.f9 (hall 9 (by decide))
    obtain rfl := h.f10 (hall 10 (by decide))
    obtain rfl := h.f11 (hall 11 (by decide))
    obtain rfl := h.f12 (hall 12 (by decide))
    have BWD := h.e
    clear h hall
    simp only [List.drop_succ_cons, List.drop_zero]
    have hz := BWD.size
    have HX : Hid (_ ∧ _ ∧ _) := ⟨BWD, hk0, hk1⟩
    clear BWD hk0 hk1
    go_wp2
    go_ret
    obtain ⟨BWD, hk0, hk1⟩ := HX.out
    refine ⟨some ⟨W.heap.size, 0, none⟩, a0, a1, rfl, sk_of_row (by constructor; omega; simp) _ 0 (fun j p hp => ?_), BWD.alloc hz _⟩
    have hj := (List.getElem?_eq_some_iff.1 hp).1
    have hj : j < 3 := hj
    have hold : ∀ b, w.heap.size ≤ b ∧ b < W.heap.size → (w.heap.size ≤ b ∧ b < (W.alloc (.cells #[.iface 145 (.slice a0.1 3 3), .iface 145 (.slice a1 2 2), .iface 143 (.agg #[.pointer (some ⟨q, 11, none⟩)])] 72)).heap.size) ∧ ∀ j, (W.alloc (.cells #[.iface 145 (.slice a0.1 3 3), .iface 145 (.slice a1 2 2), .iface 143 (.agg #[.pointer (some ⟨q, 11, none⟩)])] 72)).cell? ⟨b, j, none⟩ = W.cell? ⟨b, j, none⟩ := fun b hb => ⟨⟨hb.1, by simp; omega⟩, fun j => ((Below.refl _ W).alloc (Nat.le_refl _) _).cell (p := ⟨b, j, none⟩) hb.2⟩
    have hcase : j = 0 ∨ j = 1 ∨ j = 2 := by omega
    rcases hcase with rfl | rfl | rfl
    · cases hp
      exact ⟨by rw [Lib.cell_of_heap (World.alloc_heap_new W _)]; rfl, skRow_of hold _ _ _ hk0⟩
    · cases hp
      exact ⟨by rw [Lib.cell_of_heap (World.alloc_heap_new W _)]; rfl, skRow_of hold _ _ _ hk1⟩
    · cases hp
      exact ⟨by rw [Lib.cell_of_heap (World.alloc_heap_new W _)]; rfl, trivial⟩
/-- What holds while a statement runs. -/
structure Mk_update (V : World) (q : Nat) (S : Nat → Bool) (x3 x4 x5 x6 x7 x8 x9 x10 x11 x12 x13 x14 x15 x16 x17 x18 x19 x20 x21 x22 x23 x24 x25 x26 x27 x28 x29 x30 x31 x32 x33 x34 x35 x36 x37 x38 x39 : Value) (W : World) : Prop where
  e : Below V.heap.size V W
  f0 : S 0 = true → x3 = Value.pointer (some ⟨q, 0, none⟩)
  f1 : S 1 = true → x4 = Value.pointer (some ⟨q, 0, none⟩)
  f2 : S 2 = true → x5 = Value.pointer (some ⟨q, 0, none⟩)
  f3 : S 3 = true → LtR q 0 V.heap.size x6 W
  f4 : S 4 = true → x7 = Value.pointer (some ⟨q, 0, none⟩)
  f5 : S 5 = true → x8 = Value.pointer (some ⟨q, 0, none⟩)
  f6 : S 6 = true → x9 = Value.pointer (some ⟨q, 9, none⟩)
  f7 : S 7 = true → SkR 2 (cmL q 9) V.heap.size x10 W
  f8 : S 8 = true → x11 = Value.pointer (some ⟨q, 0, none⟩)
  f9 : S 9 = true → x12 = Value.pointer (some ⟨q, 0, none⟩)
  f10 : S 10 = true → x13 = Value.pointer (some ⟨q, 11, none⟩)
  f11 : S 11 = true → x14 = Value.agg #[.pointer (some ⟨q, 11, none⟩)]
  f12 : S 12 = true → x15 = Value.iface 143 (.agg #[.pointer (some ⟨q, 11, none⟩)])
  f13 : S 13 = true → x16 = Value.pointer (some ⟨q, 0, none⟩)
  f14 : S 14 = true → x17 = Value.pointer (some ⟨q, 0, none⟩)
  f15 : S 15 = true → x18 = Value.pointer (some ⟨q, 12, none⟩)
  f16 : S 16 = true → LtR q 12 V.heap.size x19 W
  f17 : S 17 = true → x20 = Value.pointer (some ⟨q, 0, none⟩)
  f18 : S 18 = true → x21 = Value.pointer (some ⟨q, 0, none⟩)
  f19 : S 19 = true → x22 = Value.pointer (some ⟨q, 21, none⟩)
  f20 : S 20 = true → x23 = Value.agg #[.pointer (some ⟨q, 21, none⟩)]
  f21 : S 21 = true → x24 = Value.iface 143 (.agg #[.pointer (some ⟨q, 21, none⟩)])
  f22 : S 22 = true → x25 = Value.pointer (some ⟨q, 0, none⟩)
  f23 : S 23 = true → x26 = Value.pointer (some ⟨q, 0, none⟩)
  f24 : S 24 = true → x27 = Value.pointer (some ⟨q, 22, none⟩)
  f25 : S 25 = true → x28 = Value.agg #[.pointer (some ⟨q, 22, none⟩)]
  f26 : S 26 = true → x29 = Value.iface 148 (.agg #[.pointer (some ⟨q, 22, none⟩)])
  f27 : S 27 = true → x30 = Value.pointer (some ⟨q, 0, none⟩)
  f28 : S 28 = true → x31 = Value.pointer (some ⟨q, 0, none⟩)
  f29 : S 29 = true → x32 = Value.pointer (some ⟨q, 23, none⟩)
  f30 : S 30 = true → x33 = Value.agg #[.pointer (some ⟨q, 23, none⟩)]
  f31 : S 31 = true → x34 = Value.iface 151 (.agg #[.pointer (some ⟨q, 23, none⟩)])
  f32 : S 32 = true → x35 = Value.pointer (some ⟨q, 0, none⟩)
  f33 : S 33 = true → x36 = Value.pointer (some ⟨q, 0, none⟩)
  f34 : S 34 = true → x37 = Value.pointer (some ⟨q, 24, none⟩)
  f35 : S 35 = true → x38 = Value.agg #[.pointer (some ⟨q, 24, none⟩)]
  f36 : S 36 = true → x39 = Value.iface 148 (.agg #[.pointer (some ⟨q, 24, none⟩)])
theorem Mk_update.grow {V : World} {q : Nat} {S : Nat → Bool} {x3 x4 x5 x6 x7 x8 x9 x10 x11 x12 x13 x14 x15 x16 x17 x18 x19 x20 x21 x22 x23 x24 x25 x26 x27 x28 x29 x30 x31 x32 x33 x34 x35 x36 x37 x38 x39 : Value} {W W' : World} (h : Mk_update V q S x3 x4 x5 x6 x7 x8 x9 x10 x11 x12 x13 x14 x15 x16 x17 x18 x19 x20 x21 x22 x23 x24 x25 x26 x27 x28 x29 x30 x31 x32 x33 x34 x35 x36 x37 x38 x39 W) (hb : Below W.heap.size W W') : Mk_update V q S x3 x4 x5 x6 x7 x8 x9 x10 x11 x12 x13 x14 x15 x16 x17 x18 x19 x20 x21 x22 x23 x24 x25 x26 x27 x28 x29 x30 x31 x32 x33 x34 x35 x36 x37 x38 x39 W' :=
  ⟨belowStep h.e h.e.size hb, h.f0, h.f1, h.f2, fun s => LtR.grow (h.f3 s) hb, h.f4, h.f5, h.f6, fun s => SkR.grow (h.f7 s) hb, h.f8, h.f9, h.f10, h.f11, h.f12, h.f13, h.f14, h.f15, fun s => LtR.grow (h.f16 s) hb, h.f17, h.f18, h.f19, h.f20, h.f21, h.f22, h.f23, h.f24, h.f25, h.f26, h.f27, h.f28, h.f29, h.f30, h.f31, h.f32, h.f33, h.f34, h.f35, h.f36⟩
set_option maxRecDepth 100000 in
set_option maxHeartbeats 4000000 in
theorem update_any (q : Nat) (w : World) :
    Calls Tryd.prog 50 #[.pointer (some ⟨q, 0, none⟩)] w fun e w' => ∃ a t ac u, e = .returned (.iface 145 (.slice a 8 8)) ∧ skRow (fun b => w.heap.size ≤ b ∧ b < w'.heap.size) w' a 0 (uptL q t ac u) ∧ Below w.heap.size w w' := by
  go_enter Tryd.func50, Tryd.ntmps50
  go_wp2_with fail
  refine region_inv_tail 37 (fun S aa W => ∃ x3 x4 x5 x6 x7 x8 x9 x10 x11 x12 x13 x14 x15 x16 x17 x18 x19 x20 x21 x22 x23 x24 x25 x26 x27 x28 x29 x30 x31 x32 x33 x34 x35 x36 x37 x38 x39 : Value, aa = { tmps := #[Value.pointer (some { block := q, off := 0 }), undef, Value.nilIface, x3, x4, x5, x6, x7, x8, x9, x10, x11, x12, x13, x14, x15, x16, x17, x18, x19, x20, x21, x22, x23, x24, x25, x26, x27, x28, x29, x30, x31, x32, x33, x34, x35, x36, x37, x38, x39, undef, undef], defers := [] } ∧ Mk_update w q S x3 x4 x5 x6 x7 x8 x9 x10 x11 x12 x13 x14 x15 x16 x17 x18 x19 x20 x21 x22 x23 x24 x25 x26 x27 x28 x29 x30 x31 x32 x33 x34 x35 x36 x37 x38 x39 W) (by kernel_rfl) (by kernel_rfl) ?_ ?_ ?_
  · exact ⟨undef, undef, undef, undef, undef, undef, undef, undef, undef, undef, undef, undef, undef, undef, undef, undef, undef, undef, undef, undef, undef, undef, undef, undef, undef, undef, undef, undef, undef, undef, undef, undef, undef, undef, undef, undef, undef, rfl, ⟨(Below.refl _ w).drew, nofun, nofun, nofun, nofun, nofun, nofun, nofun, nofun, nofun, nofun, nofun, nofun, nofun, nofun, nofun, nofun, nofun, nofun, nofun, nofun, nofun, nofun, nofun, nofun, nofun, nofun, nofun, nofun, nofun, nofun, nofun, nofun, nofun, nofun, nofun, nofun, nofun⟩⟩
  · intro i o S aa W hin hi hun hJ hall K hK
    obtain ⟨x3, x4, x5, x6, x7, x8, x9, x10, x11, x12, x13, x14, x15, x16, x17, x18, x19, x20, x21, x22, x23, x24, x25, x26, x27, x28, x29, x30, x31, x32, x33, x34, x35, x36, x37, x38, x39, rfl, h⟩ := hJ
    have hlt : i < 37 := hin
    have hcase : i = 0 ∨ i = 1 ∨ i = 2 ∨ i = 3 ∨ i = 4 ∨ i = 5 ∨ i = 6 ∨ i = 7 ∨ i = 8 ∨ i = 9 ∨ i = 10 ∨ i = 11 ∨ i = 12 ∨ i = 13 ∨ i = 14 ∨ i = 15 ∨ i = 16 ∨ i = 17 ∨ i = 18 ∨ i = 19 ∨ i = 20 ∨ i = 21 ∨ i = 22 ∨ i = 23 ∨ i = 24 ∨ i = 25 ∨ i = 26 ∨ i = 27 ∨ i = 28 ∨ i = 29 ∨ i = 30 ∨ i = 31 ∨ i = 32 ∨ i = 33 ∨ i = 34 ∨ i = 35 ∨ i = 36 := by omega
    rcases hcase with rfl | rfl | rfl | rfl | rfl | rfl | rfl | rfl | rfl | rfl | rfl | rfl | rfl | rfl | rfl | rfl | rfl | rfl | rfl | rfl | rfl | rfl | rfl | rfl | rfl | rfl | rfl | rfl | rfl | rfl | rfl | rfl | rfl | rfl | rfl | rfl | rfl
    all_goals (have ho := (Option.some.inj hi).symm; subst ho; clear hi hlt hin)
    · go_simp
      exact hK _ _ ⟨_, x4, x5, x6, x7, x8, x9, x10, x11, x12, x13, x14, x15, x16, x17, x18, x19, x20, x21, x22, x23, x24, x25, x26, x27, x28, x29, x30, x31, x32, x33, x34, x35, x36, x37, x38, x39, rfl, ⟨h.e, fun _ => rfl, h.f1, h.f2, h.f3, h.f4, h.f5, h.f6, h.f7, h.f8, h.f9, h.f10, h.f11, h.f12, h.f13, h.f14, h.f15, h.f16, h.f17, h.f18, h.f19, h.f20, h.f21, h.f22, h.f23, h.f24, h.f25, h.f26, h.f27, h.f28, h.f29, h.f30, h.f31, h.f32, h.f33, h.f34, h.f35, h.f36⟩⟩
    · have s_0 : S 0 = true := hall ⟨0, .data⟩ (by simp) rfl
      obtain rfl := h.f0 s_0
      go_simp
      exact hK _ _ ⟨_, _, x5, x6, x7, x8, x9, x10, x11, x12, x13, x14, x15, x16, x17, x18, x19, x20, x21, x22, x23, x24, x25, x26, x27, x28, x29, x30, x31, x32, x33, x34, x35, x36, x37, x38, x39, rfl, ⟨h.e, h.f0, fun _ => rfl, h.f2, h.f3, h.f4, h.f5, h.f6, h.f7, h.f8, h.f9, h.f10, h.f11, h.f12, h.f13, h.f14, h.f15, h.f16, h.f17, h.f18, h.f19, h.f20, h.f21, h.f22, h.f23, h.f24, h.f25, h.f26, h.f27, h.f28, h.f29, h.f30, h.f31, h.f32, h.f33, h.f34, h.f35, h.f36⟩⟩
    · have s_1 : S 1 = true := hall ⟨1, .data⟩ (by simp) rfl
      obtain rfl := h.f1 s_1
      go_simp
      exact hK _ _ ⟨x3, _, _, x6, x7, x8, x9, x10, x11, x12, x13, x14, x15, x16, x17, x18, x19, x20, x21, x22, x23, x24, x25, x26, x27, x28, x29, x30, x31, x32, x33, x34, x35, x36, x37, x38, x39, rfl, ⟨h.e, h.f0, h.f1, fun _ => rfl, h.f3, h.f4, h.f5, h.f6, h.f7, h.f8, h.f9, h.f10, h.f11, h.f12, h.f13, h.f14, h.f15, h.f16, h.f17, h.f18, h.f19, h.f20, h.f21, h.f22, h.f23, h.f24, h.f25, h.f26, h.f27, h.f28, h.f29, h.f30, h.f31, h.f32, h.f33, h.f34, h.f35, h.f36⟩⟩
    · have s_2 : S 2 = true := hall ⟨2, .data⟩ (by simp) rfl
      obtain rfl := h.f2 s_2
      go_simp
      refine (light_any q 0 W).mono ?_
      rintro e w5 ⟨a5, rfl, k1, hb5⟩
      have h1 := h.grow hb5
      exact hK _ _ ⟨x3, x4, _, _, x7, x8, x9, x10, x11, x12, x13, x14, x15, x16, x17, x18, x19, x20, x21, x22, x23, x24, x25, x26, x27, x28, x29, x30, x31, x32, x33, x34, x35, x36, x37, x38, x39, rfl, ⟨h1.e, h1.f0, h1.f1, h1.f2, fun _ => ⟨a5, rfl, skRow_of (fun b hb => ⟨⟨Nat.le_trans h.e.size hb.1, hb.2⟩, fun _ => rfl⟩) _ _ _ k1⟩, h1.f4, h1.f5, h1.f6, h1.f7, h1.f8, h1.f9, h1.f10, h1.f11, h1.f12, h1.f13, h1.f14, h1.f15, h1.f16, h1.f17, h1.f18, h1.f19, h1.f20, h1.f21, h1.f22, h1.f23, h1.f24, h1.f25, h1.f26, h1.f27, h1.f28, h1.f29, h1.f30, h1.f31, h1.f32, h1.f33, h1.f34, h1.f35, h1.f36⟩⟩
    · go_simp
      exact hK _ _ ⟨x3, x4, x5, x6, _, x8, x9, x10, x11, x12, x13, x14, x15, x16, x17, x18, x19, x20, x21, x22, x23, x24, x25, x26, x27, x28, x29, x30, x31, x32, x33, x34, x35, x36, x37, x38, x39, rfl, ⟨h.e, h.f0, h.f1, h.f2, h.f3, fun _ => rfl, h.f5, h.f6, h.f7, h.f8, h.f9, h.f10, h.f11, h.f12, h.f13, h.f14, h.f15, h.f16, h.f17, h.f18, h.f19, h.f20, h.f21, h.f22, h.f23, h.f24, h.f25, h.f26, h.f27, h.f28, h.f29, h.f30, h.f31, h.f32, h.f33, h.f34, h.f35, h.f36⟩⟩
    · have s_4 : S 4 = true := hall ⟨4, .data⟩ (by simp) rfl
      obtain rfl := h.f4 s_4
      go_simp
      exact hK _ _ ⟨x3, x4, x5, x6, _, _, x9, x10, x11, x12, x13, x14, x15, x16, x17, x18, x19, x20, x21, x22, x23, x24, x25, x26, x27, x28, x29, x30, x31, x32, x33, x34, x35, x36, x37, x38, x39, rfl, ⟨h.e, h.f0, h.f1, h.f2, h.f3, h.f4, fun _ => rfl, h.f6, h.f7, h.f8, h.f9, h.f10, h.f11, h.f12, h.f13, h.f14, h.f15, h.f16, h.f17, h.f18, h.f19, h.f20, h.f21, h.f22, h.f23, h.f24, h.f25, h.f26, h.f27, h.f28, h.f29, h.f30, h.f31, h.f32, h.f33, h.f34, h.f35, h.f36⟩⟩
    · have s_5 : S 5 = true := hall ⟨5, .data⟩ (by simp) rfl
      obtain rfl := h.f5 s_5
      go_simp
      exact hK _ _ ⟨x3, x4, x5, x6, x7, _, _, x10, x11, x12, x13, x14, x15, x16, x17, x18, x19, x20, x21, x22, x23, x24, x25, x26, x27, x28, x29, x30, x31, x32, x33, x34, x35, x36, x37, x38, x39, rfl, ⟨h.e, h.f0, h.f1, h.f2, h.f3, h.f4, h.f5, fun _ => rfl, h.f7, h.f8, h.f9, h.f10, h.f11, h.f12, h.f13, h.f14, h.f15, h.f16, h.f17, h.f18, h.f19, h.f20, h.f21, h.f22, h.f23, h.f24, h.f25, h.f26, h.f27, h.f28, h.f29, h.f30, h.f31, h.f32, h.f33, h.f34, h.f35, h.f36⟩⟩
    · have s_6 : S 6 = true := hall ⟨6, .data⟩ (by simp) rfl
      obtain rfl := h.f6 s_6
      go_simp
      refine (committee_any q 9 W).mono ?_
      rintro e w5 ⟨a5, rfl, k1, hb5⟩
      have h1 := h.grow hb5
      exact hK _ _ ⟨x3, x4, x5, x6, x7, x8, _, _, x11, x12, x13, x14, x15, x16, x17, x18, x19, x20, x21, x22, x23, x24, x25, x26, x27, x28, x29, x30, x31, x32, x33, x34, x35, x36, x37, x38, x39, rfl, ⟨h1.e, h1.f0, h1.f1, h1.f2, h1.f3, h1.f4, h1.f5, h1.f6, fun _ => ⟨a5, rfl, skRow_of (fun b hb => ⟨⟨Nat.le_trans h.e.size hb.1, hb.2⟩, fun _ => rfl⟩) _ _ _ k1⟩, h1.f8, h1.f9, h1.f10, h1.f11, h1.f12, h1.f13, h1.f14, h1.f15, h1.f16, h1.f17, h1.f18, h1.f19, h1.f20, h1.f21, h1.f22, h1.f23, h1.f24, h1.f25, h1.f26, h1.f27, h1.f28, h1.f29, h1.f30, h1.f31, h1.f32, h1.f33, h1.f34, h1.f35, h1.f36⟩⟩
    · go_simp
      exact hK _ _ ⟨x3, x4, x5, x6, x7, x8, x9, x10, _, x12, x13, x14, x15, x16, x17, x18, x19, x20, x21, x22, x23, x24, x25, x26, x27, x28, x29, x30, x31, x32, x33, x34, x35, x36, x37, x38, x39, rfl, ⟨h.e, h.f0, h.f1, h.f2, h.f3, h.f4, h.f5, h.f6, h.f7, fun _ => rfl, h.f9, h.f10, h.f11, h.f12, h.f13, h.f14, h.f15, h.f16, h.f17, h.f18, h.f19, h.f20, h.f21, h.f22, h.f23, h.f24, h.f25, h.f26, h.f27, h.f28, h.f29, h.f30, h.f31, h.f32, h.f33, h.f34, h.f35, h.f36⟩⟩
    · have s_8 : S 8 = true := hall ⟨8, .data⟩ (by simp) rfl
      obtain rfl := h.f8 s_8
      go_simp
      exact hK _ _ ⟨x3, x4, x5, x6, x7, x8, x9, x10, _, _, x13, x14, x15, x16, x17, x18, x19, x20, x21, x22, x23, x24, x25, x26, x27, x28, x29, x30, x31, x32, x33, x34, x35, x36, x37, x38, x39, rfl, ⟨h.e, h.f0, h.f1, h.f2, h.f3, h.f4, h.f5, h.f6, h.f7, h.f8, fun _ => rfl, h.f10, h.f11, h.f12, h.f13, h.f14, h.f15, h.f16, h.f17, h.f18, h.f19, h.f20, h.f21, h.f22, h.f23, h.f24, h.f25, h.f26, h.f27, h.f28, h.f29, h.f30, h.f31, h.f32, h.f33, h.f34, h.f35, h.f36⟩⟩
    · have s_9 : S 9 = true := hall ⟨9, .data⟩ (by simp) rfl
      obtain rfl := h.f9 s_9
      go_simp
      exact hK _ _ ⟨x3, x4, x5, x6, x7, x8, x9, x10, x11, _, _, x14, x15, x16, x17, x18, x19, x20, x21, x22, x23, x24, x25, x26, x27, x28, x29, x30, x31, x32, x33, x34, x35, x36, x37, x38, x39, rfl, ⟨h.e, h.f0, h.f1, h.f2, h.f3, h.f4, h.f5, h.f6, h.f7, h.f8, h.f9, fun _ => rfl, h.f11, h.f12, h.f13, h.f14, h.f15, h.f16, h.f17, h.f18, h.f19, h.f20, h.f21, h.f22, h.f23, h.f24, h.f25, h.f26, h.f27, h.f28, h.f29, h.f30, h.f31, h.f32, h.f33, h.f34, h.f35, h.f36⟩⟩
    · have s_10 : S 10 = true := hall ⟨10, .data⟩ (by simp) rfl
      obtain rfl := h.f10 s_10
      go_simp
      exact hK _ _ ⟨x3, x4, x5, x6, x7, x8, x9, x10, x11, x12, _, _, x15, x16, x17, x18, x19, x20, x21, x22, x23, x24, x25, x26, x27, x28, x29, x30, x31, x32, x33, x34, x35, x36, x37, x38, x39, rfl, ⟨h.e, h.f0, h.f1, h.f2, h.f3, h.f4, h.f5, h.f6, h.f7, h.f8, h.f9, h.f10, fun _ => rfl, h.f12, h.f13, h.f14, h.f15, h.f16, h.f17, h.f18, h.f19, h.f20, h.f21, h.f22, h.f23, h.f24, h.f25, h.f26, h.f27, h.f28, h.f29, h.f30, h.f31, h.f32, h.f33, h.f34, h.f35, h.f36⟩⟩
    · have s_11 : S 11 = true := hall ⟨11, .data⟩ (by simp) rfl
      obtain rfl := h.f11 s_11
      go_simp
      exact hK _ _ ⟨x3, x4, x5, x6, x7, x8, x9, x10, x11, x12, x13, _, _, x16, x17, x18, x19, x20, x21, x22, x23, x24, x25, x26, x27, x28, x29, x30, x31, x32, x33, x34, x35, x36, x37, x38, x39, rfl, ⟨h.e, h.f0, h.f1, h.f2, h.f3, h.f4, h.f5, h.f6, h.f7, h.f8, h.f9, h.f10, h.f11, fun _ => rfl, h.f13, h.f14, h.f15, h.f16, h.f17, h.f18, h.f19, h.f20, h.f21, h.f22, h.f23, h.f24, h.f25, h.f26, h.f27, h.f28, h.f29, h.f30, h.f31, h.f32, h.f33, h.f34, h.f35, h.f36⟩⟩
    · go_simp
      exact hK _ _ ⟨x3, x4, x5, x6, x7, x8, x9, x10, x11, x12, x13, x14, x15, _, x17, x18, x19, x20, x21, x22, x23, x24, x25, x26, x27, x28, x29, x30, x31, x32, x33, x34, x35, x36, x37, x38, x39, rfl, ⟨h.e, h.f0, h.f1, h.f2, h.f3, h.f4, h.f5, h.f6, h.f7, h.f8, h.f9, h.f10, h.f11, h.f12, fun _ => rfl, h.f14, h.f15, h.f16, h.f17, h.f18, h.f19, h.f20, h.f21, h.f22, h.f23, h.f24, h.f25, h.f26, h.f27, h.f28, h.f29, h.f30, h.f31, h.f32, h.f33, h.f34, h.f35, h.f36⟩⟩
    · have s_13 : S 13 = true := hall ⟨13, .data⟩ (by simp) rfl
      obtain rfl := h.f13 s_13
      go_simp
      exact hK _ _ ⟨x3, x4, x5, x6, x7, x8, x9, x10, x11, x12, x13, x14, x15, _, _, x18, x19, x20, x21, x22, x23, x24, x25, x26, x27, x28, x29, x30, x31, x32, x33, x34, x35, x36, x37, x38, x39, rfl, ⟨h.e, h.f0, h.f1, h.f2, h.f3, h.f4, h.f5, h.f6, h.f7, h.f8, h.f9, h.f10, h.f11, h.f12, h.f13, fun _ => rfl, h.f15, h.f16, h.f17, h.f18, h.f19, h.f20, h.f21, h.f22, h.f23, h.f24, h.f25, h.f26, h.f27, h.f28, h.f29, h.f30, h.f31, h.f32, h.f33, h.f34, h.f35, h.f36⟩⟩
    · have s_14 : S 14 = true := hall ⟨14, .data⟩ (by simp) rfl
      obtain rfl := h.f14 s_14
      go_simp
      exact hK _ _ ⟨x3, x4, x5, x6, x7, x8, x9, x10, x11, x12, x13, x14, x15, x16, _, _, x19, x20, x21, x22, x23, x24, x25, x26, x27, x28, x29, x30, x31, x32, x33, x34, x35, x36, x37, x38, x39, rfl, ⟨h.e, h.f0, h.f1, h.f2, h.f3, h.f4, h.f5, h.f6, h.f7, h.f8, h.f9, h.f10, h.f11, h.f12, h.f13, h.f14, fun _ => rfl, h.f16, h.f17, h.f18, h.f19, h.f20, h.f21, h.f22, h.f23, h.f24, h.f25, h.f26, h.f27, h.f28, h.f29, h.f30, h.f31, h.f32, h.f33, h.f34, h.f35, h.f36⟩⟩
    · have s_15 : S 15 = true := hall ⟨15, .data⟩ (by simp) rfl
      obtain rfl := h.f15 s_15
      go_simp
      refine (light_any q 12 W).mono ?_
      rintro e w5 ⟨a5, rfl, k1, hb5⟩
      have h1 := h.grow hb5
      exact hK _ _ ⟨x3, x4, x5, x6, x7, x8, x9, x10, x11, x12, x13, x14, x15, x16, x17, _, _, x20, x21, x22, x23, x24, x25, x26, x27, x28, x29, x30, x31, x32, x33, x34, x35, x36, x37, x38, x39, rfl, ⟨h1.e, h1.f0, h1.f1, h1.f2, h1.f3, h1.f4, h1.f5, h1.f6, h1.f7, h1.f8, h1.f9, h1.f10, h1.f11, h1.f12, h1.f13, h1.f14, h1.f15, fun _ => ⟨a5, rfl, skRow_of (fun b hb => ⟨⟨Nat.le_trans h.e.size hb.1, hb.2⟩, fun _ => rfl⟩) _ _ _ k1⟩, h1.f17, h1.f18, h1.f19, h1.f20, h1.f21, h1.f22, h1.f23, h1.f24, h1.f25, h1.f26, h1.f27, h1.f28, h1.f29, h1.f30, h1.f31, h1.f32, h1.f33, h1.f34, h1.f35, h1.f36⟩⟩
    · go_simp
      exact hK _ _ ⟨x3, x4, x5, x6, x7, x8, x9, x10, x11, x12, x13, x14, x15, x16, x17, x18, x19, _, x21, x22, x23, x24, x25, x26, x27, x28, x29, x30, x31, x32, x33, x34, x35, x36, x37, x38, x39, rfl, ⟨h.e, h.f0, h.f1, h.f2, h.f3, h.f4, h.f5, h.f6, h.f7, h.f8, h.f9, h.f10, h.f11, h.f12, h.f13, h.f14, h.f15, h.f16, fun _ => rfl, h.f18, h.f19, h.f20, h.f21, h.f22, h.f23, h.f24, h.f25, h.f26, h.f27, h.f28, h.f29, h.f30, h.f31, h.f32, h.f33, h.f34, h.f35, h.f36⟩⟩
    · have s_17 : S 17 = true := hall ⟨17, .data⟩ (by simp) rfl
      obtain rfl := h.f17 s_17
      go_simp
      exact hK _ _ ⟨x3, x4, x5, x6, x7, x8, x9, x10, x11, x12, x13, x14, x15, x16, x17, x18, x19, _, _, x22, x23, x24, x25, x26, x27, x28, x29, x30, x31, x32, x33, x34, x35, x36, x37, x38, x39, rfl, ⟨h.e, h.f0, h.f1, h.f2, h.f3, h.f4, h.f5, h.f6, h.f7, h.f8, h.f9, h.f10, h.f11, h.f12, h.f13, h.f14, h.f15, h.f16, h.f17, fun _ => rfl, h.f19, h.f20, h.f21, h.f22, h.f23, h.f24, h.f25, h.f26, h.f27, h.f28, h.f29, h.f30, h.f31, h.f32, h.f33, h.f34, h.f35, h.f36⟩⟩
    · have s_18 : S 18 = true := hall ⟨18, .data⟩ (by simp) rfl
      obtain rfl := h.f18 s_18
      go_simp
      exact hK _ _ ⟨x3, x4, x5, x6, x7, x8, x9, x10, x11, x12, x13, x14, x15, x16, x17, x18, x19, x20, _, _, x23, x24, x25, x26, x27, x28, x29, x30, x31, x32, x33, x34, x35, x36, x37, x38, x39, rfl, ⟨h.e, h.f0, h.f1, h.f2, h.f3, h.f4, h.f5, h.f6, h.f7, h.f8, h.f9, h.f10, h.f11, h.f12, h.f13, h.f14, h.f15, h.f16, h.f17, h.f18, fun _ => rfl, h.f20, h.f21, h.f22, h.f23, h.f24, h.f25, h.f26, h.f27, h.f28, h.f29, h.f30, h.f31, h.f32, h.f33, h.f34, h.f35, h.f36⟩⟩
    · have s_19 : S 19 = true := hall ⟨19, .data⟩ (by simp) rfl
      obtain rfl := h.f19 s_19
      go_simp
      exact hK _ _ ⟨x3, x4, x5, x6, x7, x8, x9, x10, x11, x12, x13, x14, x15, x16, x17, x18, x19, x20, x21, _, _, x24, x25, x26, x27, x28, x29, x30, x31, x32, x33, x34, x35, x36, x37, x38, x39, rfl, ⟨h.e, h.f0, h.f1, h.f2, h.f3, h.f4, h.f5, h.f6, h.f7, h.f8, h.f9, h.f10, h.f11, h.f12, h.f13, h.f14, h.f15, h.f16, h.f17, h.f18, h.f19, fun _ => rfl, h.f21, h.f22, h.f23, h.f24, h.f25, h.f26, h.f27, h.f28, h.f29, h.f30, h.f31, h.f32, h.f33, h.f34, h.f35, h.f36⟩⟩
    · have s_20 : S 20 = true := hall ⟨20, .data⟩ (by simp) rfl
      obtain rfl := h.f20 s_20
      go_simp
      exact hK _ _ ⟨x3, x4, x5, x6, x7, x8, x9, x10, x11, x12, x13, x14, x15, x16, x17, x18, x19, x20, x21, x22, _, _, x25, x26, x27, x28, x29, x30, x31, x32, x33, x34, x35, x36, x37, x38, x39, rfl, ⟨h.e, h.f0, h.f1, h.f2, h.f3, h.f4, h.f5, h.f6, h.f7, h.f8, h.f9, h.f10, h.f11, h.f12, h.f13, h.f14, h.f15, h.f16, h.f17, h.f18, h.f19, h.f20, fun _ => rfl, h.f22, h.f23, h.f24, h.f25, h.f26, h.f27, h.f28, h.f29, h.f30, h.f31, h.f32, h.f33, h.f34, h.f35, h.f36⟩⟩
    · go_simp
      exact hK _ _ ⟨x3, x4, x5, x6, x7, x8, x9, x10, x11, x12, x13, x14, x15, x16, x17, x18, x19, x20, x21, x22, x23, x24, _, x26, x27, x28, x29, x30, x31, x32, x33, x34, x35, x36, x37, x38, x39, rfl, ⟨h.e, h.f0, h.f1, h.f2, h.f3, h.f4, h.f5, h.f6, h.f7, h.f8, h.f9, h.f10, h.f11, h.f12, h.f13, h.f14, h.f15, h.f16, h.f17, h.f18, h.f19, h.f20, h.f21, fun _ => rfl, h.f23, h.f24, h.f25, h.f26, h.f27, h.f28, h.f29, h.f30, h.f31, h.f32, h.f33, h.f34, h.f35, h.f36⟩⟩
    · have s_22 : S 22 = true := hall ⟨22, .data⟩ (by simp) rfl
      obtain rfl := h.f22 s_22
      go_simp
      exact hK _ _ ⟨x3, x4, x5, x6, x7, x8, x9, x10, x11, x12, x13, x14, x15, x16, x17, x18, x19, x20, x21, x22, x23, x24, _, _, x27, x28, x29, x30, x31, x32, x33, x34, x35, x36, x37, x38, x39, rfl, ⟨h.e, h.f0, h.f1, h.f2, h.f3, h.f4, h.f5, h.f6, h.f7, h.f8, h.f9, h.f10, h.f11, h.f12, h.f13, h.f14, h.f15, h.f16, h.f17, h.f18, h.f19, h.f20, h.f21, h.f22, fun _ => rfl, h.f24, h.f25, h.f26, h.f27, h.f28, h.f29, h.f30, h.f31, h.f32, h.f33, h.f34, h.f35, h.f36⟩⟩
    · have s_23 : S 23 = true := hall ⟨23, .data⟩ (by simp) rfl
      obtain rfl := h.f23 s_23
      go_simp
      exact hK _ _ ⟨x3, x4, x5, x6, x7, x8, x9, x10, x11, x12, x13, x14, x15, x16, x17, x18, x19, x20, x21, x22, x23, x24, x25, _, _, x28, x29, x30, x31, x32, x33, x34, x35, x36, x37, x38, x39, rfl, ⟨h.e, h.f0, h.f1, h.f2, h.f3, h.f4, h.f5, h.f6, h.f7, h.f8, h.f9, h.f10, h.f11, h.f12, h.f13, h.f14, h.f15, h.f16, h.f17, h.f18, h.f19, h.f20, h.f21, h.f22, h.f23, fun _ => rfl, h.f25, h.f26, h.f27, h.f28, h.f29, h.f30, h.f31, h.f32, h.f33, h.f34, h.f35, h.f36⟩⟩
    · have s_24 : S 24 = true := hall ⟨24, .data⟩ (by simp) rfl
      obtain rfl := h.f24 s_24
      go_simp
      exact hK _ _ ⟨x3, x4, x5, x6, x7, x8, x9, x10, x11, x12, x13, x14, x15, x16, x17, x18, x19, x20, x21, x22, x23, x24, x25, x26, _, _, x29, x30, x31, x32, x33, x34, x35, x36, x37, x38, x39, rfl, ⟨h.e, h.f0, h.f1, h.f2, h.f3, h.f4, h.f5, h.f6, h.f7, h.f8, h.f9, h.f10, h.f11, h.f12, h.f13, h.f14, h.f15, h.f16, h.f17, h.f18, h.f19, h.f20, h.f21, h.f22, h.f23, h.f24, fun _ => rfl, h.f26, h.f27, h.f28, h.f29, h.f30, h.f31, h.f32, h.f33, h.f34, h.f35, h.f36⟩⟩
    · have s_25 : S 25 = true := hall ⟨25, .data⟩ (by simp) rfl
      obtain rfl := h.f25 s_25
      go_simp
      exact hK _ _ ⟨x3, x4, x5, x6, x7, x8, x9, x10, x11, x12, x13, x14, x15, x16, x17, x18, x19, x20, x21, x22, x23, x24, x25, x26, x27, _, _, x30, x31, x32, x33, x34, x35, x36, x37, x38, x39, rfl, ⟨h.e, h.f0, h.f1, h.f2, h.f3, h.f4, h.f5, h.f6, h.f7, h.f8, h.f9, h.f10, h.f11, h.f12, h.f13, h.f14, h.f15, h.f16, h.f17, h.f18, h.f19, h.f20, h.f21, h.f22, h.f23, h.f24, h.f25, fun _ => rfl, h.f27, h.f28, h.f29, h.f30, h.f31, h.f32, h.f33, h.f34, h.f35, h.f36⟩⟩
    · go_simp
      exact hK _ _ ⟨x3, x4, x5, x6, x7, x8, x9, x10, x11, x12, x13, x14, x15, x16, x17, x18, x19, x20, x21, x22, x23, x24, x25, x26, x27, x28, x29, _, x31, x32, x33, x34, x35, x36, x37, x38, x39, rfl, ⟨h.e, h.f0, h.f1, h.f2, h.f3, h.f4, h.f5, h.f6, h.f7, h.f8, h.f9, h.f10, h.f11, h.f12, h.f13, h.f14, h.f15, h.f16, h.f17, h.f18, h.f19, h.f20, h.f21, h.f22, h.f23, h.f24, h.f25, h.f26, fun _ => rfl, h.f28, h.f29, h.f30, h.f31, h.f32, h.f33, h.f34, h.f35, h.f36⟩⟩
    · have s_27 : S 27 = true := hall ⟨27, .data⟩ (by simp) rfl
      obtain rfl := h.f27 s_27
      go_simp
      exact hK _ _ ⟨x3, x4, x5, x6, x7, x8, x9, x10, x11, x12, x13, x14, x15, x16, x17, x18, x19, x20, x21, x22, x23, x24, x25, x26, x27, x28, x29, _, _, x32, x33, x34, x35, x36, x37, x38, x39, rfl, ⟨h.e, h.f0, h.f1, h.f2, h.f3, h.f4, h.f5, h.f6, h.f7, h.f8, h.f9, h.f10, h.f11, h.f12, h.f13, h.f14, h.f15, h.f16, h.f17, h.f18, h.f19, h.f20, h.f21, h.f22, h.f23, h.f24, h.f25, h.f26, h.f27, fun _ => rfl, h.f29, h.f30, h.f31, h.f32, h.f33, h.f34, h.f35, h.f36⟩⟩
    · have s_28 : S 28 = true := hall ⟨28, .data⟩ (by simp) rfl
      obtain rfl := h.f28 s_28
      go_simp
      exact hK _ _ ⟨x3, x4, x5, x6, x7, x8, x9, x10, x11, x12, x13, x14, x15, x16, x17, x18, x19, x20, x21, x22, x23, x24, x25, x26, x27, x28, x29, x30, _, _, x33, x34, x35, x36, x37, x38, x39, rfl, ⟨h.e, h.f0, h.f1, h.f2, h.f3, h.f4, h.f5, h.f6, h.f7, h.f8, h.f9, h.f10, h.f11, h.f12, h.f13, h.f14, h.f15, h.f16, h.f17, h.f18, h.f19, h.f20, h.f21, h.f22, h.f23, h.f24, h.f25, h.f26, h.f27, h.f28, fun _ => rfl, h.f30, h.f31, h.f32, h.f33, h.f34, h.f35, h.f36⟩⟩
    · have s_29 : S 29 = true := hall ⟨29, .data⟩ (by simp) rfl
      obtain rfl := h.f29 s_29
      go_simp
      exact hK _ _ ⟨x3, x4, x5, x6, x7, x8, x9, x10, x11, x12, x13, x14, x15, x16, x17, x18, x19, x20, x21, x22, x23, x24, x25, x26, x27, x28, x29, x30, x31, _, _, x34, x35, x36, x37, x38, x39, rfl, ⟨h.e, h.f0, h.f1, h.f2, h.f3, h.f4, h.f5, h.f6, h.f7, h.f8, h.f9, h.f10, h.f11, h.f12, h.f13, h.f14, h.f15, h.f16, h.f17, h.f18, h.f19, h.f20, h.f21, h.f22, h.f23, h.f24, h.f25, h.f26, h.f27, h.f28, h.f29, fun _ => rfl, h.f31, h.f32, h.f33, h.f34, h.f35, h.f36⟩⟩
    · have s_30 : S 30 = true := hall ⟨30, .data⟩ (by simp) rfl
      obtain rfl := h.f30 s_30
      go_simp
      exact hK _ _ ⟨x3, x4, x5, x6, x7, x8, x9, x10, x11, x12, x13, x14, x15, x16, x17, x18, x19, x20, x21, x22, x23, x24, x25, x26, x27, x28, x29, x30, x31, x32, _, _, x35, x36, x37, x38, x39, rfl, ⟨h.e, h.f0, h.f1, h.f2, h.f3, h.f4, h.f5, h.f6, h.f7, h.f8, h.f9, h.f10, h.f11, h.f12, h.f13, h.f14, h.f15, h.f16, h.f17, h.f18, h.f19, h.f20, h.f21, h.f22, h.f23, h.f24, h.f25, h.f26, h.f27, h.f28, h.f29, h.f30, fun _ => rfl, h.f32, h.f33, h.f34, h.f35, h.f36⟩⟩
    · go_simp
      exact hK _ _ ⟨x3, x4, x5, x6, x7, x8, x9, x10, x11, x12, x13, x14, x15, x16, x17, x18, x19, x20, x21, x22, x23, x24, x25, x26, x27, x28, x29, x30, x31, x32, x33, x34, _, x36, x37, x38, x39, rfl, ⟨h.e, h.f0, h.f1, h.f2, h.f3, h.f4, h.f5, h.f6, h.f7, h.f8, h.f9, h.f10, h.f11, h.f12, h.f13, h.f14, h.f15, h.f16, h.f17, h.f18, h.f19, h.f20, h.f21, h.f22, h.f23, h.f24, h.f25, h.f26, h.f27, h.f28, h.f29, h.f30, h.f31, fun _ => rfl, h.f33, h.f34, h.f35, h.f36⟩⟩
    · have s_32 : S 32 = true := hall ⟨32, .data⟩ (by simp) rfl
      obtain rfl := h.f32 s_32
      go_simp
      exact hK _ _ ⟨x3, x4, x5, x6, x7, x8, x9, x10, x11, x12, x13, x14, x15, x16, x17, x18, x19, x20, x21, x22, x23, x24, x25, x26, x27, x28, x29, x30, x31, x32, x33, x34, _, _, x37, x38, x39, rfl, ⟨h.e, h.f0, h.f1, h.f2, h.f3, h.f4, h.f5, h.f6, h.f7, h.f8, h.f9, h.f10, h.f11, h.f12, h.f13, h.f14, h.f15, h.f16, h.f17, h.f18, h.f19, h.f20, h.f21, h.f22, h.f23, h.f24, h.f25, h.f26, h.f27, h.f28, h.f29, h.f30, h.f31, h.f32, fun _ => rfl, h.f34, h.f35, h.f36⟩⟩
    · have s_33 : S 33 = true := hall ⟨33, .data⟩ (by simp) rfl
      obtain rfl := h.f33 s_33
      go_simp
      exact hK _ _ ⟨x3, x4, x5, x6, x7, x8, x9, x10, x11, x12, x13, x14, x15, x16, x17, x18, x19, x20, x21, x22, x23, x24, x25, x26, x27, x28, x29, x30, x31, x32, x33, x34, x35, _, _, x38, x39, rfl, ⟨h.e, h.f0, h.f1, h.f2, h.f3, h.f4, h.f5, h.f6, h.f7, h.f8, h.f9, h.f10, h.f11, h.f12, h.f13, h.f14, h.f15, h.f16, h.f17, h.f18, h.f19, h.f20, h.f21, h.f22, h.f23, h.f24, h.f25, h.f26, h.f27, h.f28, h.f29, h.f30, h.f31, h.f32, h.f33, fun _ => rfl, h.f35, h.f36⟩⟩
    · have s_34 : S 34 = true := hall ⟨34, .data⟩ (by simp) rfl
      obtain rfl := h.f34 s_34
      go_simp
      exact hK _ _ ⟨x3, x4, x5, x6, x7, x8, x9, x10, x11, x12, x13, x14, x15, x16, x17, x18, x19, x20, x21, x22, x23, x24, x25, x26, x27, x28, x29, x30, x31, x32, x33, x34, x35, x36, _, _, x39, rfl, ⟨h.e, h.f0, h.f1, h.f2, h.f3, h.f4, h.f5, h.f6, h.f7, h.f8, h.f9, h.f10, h.f11, h.f12, h.f13, h.f14, h.f15, h.f16, h.f17, h.f18, h.f19, h.f20, h.f21, h.f22, h.f23, h.f24, h.f25, h.f26, h.f27, h.f28, h.f29, h.f30, h.f31, h.f32, h.f33, h.f34, fun _ => rfl, h.f36⟩⟩
    · have s_35 : S 35 = true := hall ⟨35, .data⟩ (by simp) rfl
      obtain rfl := h.f35 s_35
      go_simp
      exact hK _ _ ⟨x3, x4, x5, x6, x7, x8, x9, x10, x11, x12, x13, x14, x15, x16, x17, x18, x19, x20, x21, x22, x23, x24, x25, x26, x27, x28, x29, x30, x31, x32, x33, x34, x35, x36, x37, _, _, rfl, ⟨h.e, h.f0, h.f1, h.f2, h.f3, h.f4, h.f5, h.f6, h.f7, h.f8, h.f9, h.f10, h.f11, h.f12, h.f13, h.f14, h.f15, h.f16, h.f17, h.f18, h.f19, h.f20, h.f21, h.f22, h.f23, h.f24, h.f25, h.f26, h.f27, h.f28, h.f29, h.f30, h.f31, h.f32, h.f33, h.f34, h.f35, fun _ => rfl⟩⟩
  · rintro S aa W hall ⟨x3, x4, x5, x6, x7, x8, x9, x10, x11, x12, x13, x14, x15, x16, x17, x18, x19, x20, x21, x22, x23, x24, x25, x26, x27, x28, x29, x30, x31, x32, x33, x34, x35, x36, x37, x38, x39, rfl, h⟩
    obtain rfl := h.f0 (hall 0 (by decide))
    obtain rfl := h.f1 (hall 1 (by decide))
    obtain rfl := h.f2 (hall 2 (by decide))
    obtain ⟨a0, rfl, hk0⟩ := h.f3 (hall 3 (by decide))
    obtain rfl := h.f4 (hall 4 (by decide))
    obtain rfl := h.f5 (hall 5 (by decide))
    obtain rfl := h.f6 (hall 6 (by decide))
    obtain ⟨a1, rfl, hk1⟩ := h.f7 (hall 7 (by decide))
    obtain rfl := h.f8 (hall 8 (by decide))
    obtain rfl := h.f9 (hall 9 (by decide))
    obtain rfl := h.f10 (hall 10 (by decide))
    obtain rfl := h.f11 (hall 11 (by decide))
    obtain rfl := h.f12 (hall 12 (by decide))
    obtain rfl := h.f13 (hall 13 (by decide))
    obtain rfl := h.f14 (hall 14 (by decide))
    obtain rfl := h.f15 (hall 15 (by decide))
    obtain ⟨a3, rfl, hk3⟩ := h.f16 (hall 16 (by decide))
    obtain rfl := h.f17 (hall 17 (by decide))
    obtain rfl := h.f18 (hall 18 (by decide))
    obtain rfl := h.f19 (hall 19 (by decide))
    obtain rfl := h.f20 (hall 20 (by decide))
    obtain rfl := h.f21 (hall 21 (by decide))
    obtain rfl := h.f22 (hall 22 (by decide))
    obtain rfl := h.f23 (hall 23 (by decide))
    obtain rfl := h.f24 (hall 24 (by decide))
    obtain rfl := h.f25 (hall 25 (by decide))
    obtain rfl := h.f26 (hall 26 (by decide))
    obtain rfl := h.f27 (hall 27 (by decide))
    obtain rfl := h.f28 (hall 28 (by decide))
    obtain rfl := h.f29 (hall 29 (by decide))
    obtain rfl := h.f30 (hall 30 (by decide))
    obtain rfl := h.f31 (hall 31 (by decide))
    obtain rfl := h.f32 (hall 32 (by decide))
    obtain rfl := h.f33 (hall 33 (by decide))
    obtain rfl := h.f34 (hall 34 (by decide))
    obtain rfl := h.f35 (hall 35 (by decide))
    obtain rfl := h.f36 (hall 36 (by decide))
    have BWD := h.e
    clear h hall
    simp only [List.drop_succ_cons, List.drop_zero]
    have hz := BWD.size
    have HX : Hid (_ ∧ _ ∧ _ ∧ _) := ⟨BWD, hk0, hk1, hk3⟩
    clear BWD hk0 hk1 hk3
    go_wp2
    go_ret
    obtain ⟨BWD, hk0, hk1, hk3⟩ := HX.out
    refine ⟨some ⟨W.heap.size, 0, none⟩, a0, a1, a3, rfl, sk_of_row (by constructor; omega; simp) _ 0 (fun j p hp => ?_), BWD.alloc hz _⟩
    have hj := (List.getElem?_eq_some_iff.1 hp).1
    have hj : j < 8 := hj
    have hold : ∀ b, w.heap.size ≤ b ∧ b < W.heap.size → (w.heap.size ≤ b ∧ b < (W.alloc (.cells #[.iface 145 (.slice a0.1 3 3), .iface 145 (.slice a1 2 2), .iface 143 (.agg #[.pointer (some ⟨q, 11, none⟩)]), .iface 145 (.slice a3.1 3 3), .iface 143 (.agg #[.pointer (some ⟨q, 21, none⟩)]), .iface 148 (.agg #[.pointer (some ⟨q, 22, none⟩)]), .iface 151 (.agg #[.pointer (some ⟨q, 23, none⟩)]), .iface 148 (.agg #[.pointer (some ⟨q, 24, none⟩)])] 72)).heap.size) ∧ ∀ j, (W.alloc (.cells #[.iface 145 (.slice a0.1 3 3), .iface 145 (.slice a1 2 2), .iface 143 (.agg #[.pointer (some ⟨q, 11, none⟩)]), .iface 145 (.slice a3.1 3 3), .iface 143 (.agg #[.pointer (some ⟨q, 21, none⟩)]), .iface 148 (.agg #[.pointer (some ⟨q, 22, none⟩)]), .iface 151 (.agg #[.pointer (some ⟨q, 23, none⟩)]), .iface 148 (.agg #[.pointer (some ⟨q, 24, none⟩)])] 72)).cell? ⟨b, j, none⟩ = W.cell? ⟨b, j, none⟩ := fun b hb => ⟨⟨hb.1, by simp; omega⟩, fun j => ((Below.refl _ W).alloc (Nat.le_refl _) _).cell (p := ⟨b, j, none⟩) hb.2⟩
    have hcase : j = 0 ∨ j = 1 ∨ j = 2 ∨ j = 3 ∨ j = 4 ∨ j = 5 ∨ j = 6 ∨ j = 7 := by omega
    rcases hcase with rfl | rfl | rfl | rfl | rfl | rfl | rfl | rfl
    · cases hp
      exact ⟨by rw [Lib.cell_of_heap (World.alloc_heap_new W _)]; rfl, skRow_of hold _ _ _ hk0⟩
    · cases hp
      exact ⟨by rw [Lib.cell_of_heap (World.alloc_heap_new W _)]; rfl, skRow_of hold _ _ _ hk1⟩
    · cases hp
      exact ⟨by rw [Lib.cell_of_heap (World.alloc_heap_new W _)]; rfl, trivial⟩
    · cases hp
      exact ⟨by rw [Lib.cell_of_heap (World.alloc_heap_new W _)]; rfl, skRow_of hold _ _ _ hk3⟩
    · cases hp
      exact ⟨by rw [Lib.cell_of_heap (World.alloc_heap_new W _)]; rfl, trivial⟩
    · cases hp
      exact ⟨by rw [Lib.cell_of_heap (World.alloc_heap_new W _)]; rfl, trivial⟩
    · cases hp
      exact ⟨by rw [Lib.cell_of_heap (World.alloc_heap_new W _)]; rfl, trivial⟩
    · cases hp
      exact ⟨by rw [Lib.cell_of_heap (World.alloc_heap_new W _)]; rfl, trivial⟩
end Go.Proofs.YtmefanagpkbjeaaDoor
