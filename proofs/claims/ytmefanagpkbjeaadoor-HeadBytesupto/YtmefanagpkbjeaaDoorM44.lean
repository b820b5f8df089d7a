/- Lemmas: The parts of headers, of what a block did, of committees. The parts of Lights, of a Boot, of an Update. Messages as data; the program's BootBytes and Bytes. The reference's items: text, list, number, texts. The reference's items of committees. -/
import Derived.Test.YtmefanagpkbjeaaDoorM1
import Derived.Test.YtmefanagpkbjeaaDoorM10
import Derived.Test.YtmefanagpkbjeaaDoorM11
import Derived.Test.YtmefanagpkbjeaaDoorM12
import Derived.Test.YtmefanagpkbjeaaDoorM13
import Derived.Test.YtmefanagpkbjeaaDoorM14
import Derived.Test.YtmefanagpkbjeaaDoorM15
import Derived.Test.YtmefanagpkbjeaaDoorM16
import Derived.Test.YtmefanagpkbjeaaDoorM17
import Derived.Test.YtmefanagpkbjeaaDoorM18
import Derived.Test.YtmefanagpkbjeaaDoorM19
import Derived.Test.YtmefanagpkbjeaaDoorM2
import Derived.Test.YtmefanagpkbjeaaDoorM20
import Derived.Test.YtmefanagpkbjeaaDoorM21
import Derived.Test.YtmefanagpkbjeaaDoorM22
import Derived.Test.YtmefanagpkbjeaaDoorM23
import Derived.Test.YtmefanagpkbjeaaDoorM3
import Derived.Test.YtmefanagpkbjeaaDoorM33
import Derived.Test.YtmefanagpkbjeaaDoorM34
import Derived.Test.YtmefanagpkbjeaaDoorM35
import Derived.Test.YtmefanagpkbjeaaDoorM36
import Derived.Test.YtmefanagpkbjeaaDoorM37
import Derived.Test.YtmefanagpkbjeaaDoorM38
import Derived.Test.YtmefanagpkbjeaaDoorM39
import Derived.Test.YtmefanagpkbjeaaDoorM4
import Derived.Test.YtmefanagpkbjeaaDoorM40
import Derived.Test.YtmefanagpkbjeaaDoorM41
import Derived.Test.YtmefanagpkbjeaaDoorM42
import Derived.Test.YtmefanagpkbjeaaDoorM43
import Derived.Test.YtmefanagpkbjeaaDoorM6
import Derived.Test.YtmefanagpkbjeaaDoorM7
import Derived.Test.YtmefanagpkbjeaaDoorM8
import Derived.Test.YtmefanagpkbjeaaDoorM9
import Derived.Test.YtmefanagpkbjeaaDoorRows
import Derived.Lib.AppendZeros
namespace Go.Proofs.YtmefanagpkbjeaaDoor
open Go.RowKit Go.Shelf Go.Sort

def hdL (q o : Nat) : List Pt := [.num ⟨q, o, none⟩, .num ⟨q, o + 1, none⟩, .txt ⟨q, o + 2, none⟩, .txt ⟨q, o + 3, none⟩, .txt ⟨q, o + 4, none⟩]
def exL (q o : Nat) : List Pt := [.txt ⟨q, o, none⟩, .txt ⟨q, o + 1, none⟩, .num ⟨q, o + 2, none⟩]
def cmL (q o : Nat) : List Pt := [.txs ⟨q, o, none⟩, .txt ⟨q, o + 1, none⟩]

set_option maxRecDepth 100000 in
set_option maxHeartbeats 4000000 in
theorem header_any (q o : Nat) (w : World) :
    Calls Tryd.prog 122 #[.pointer (some ⟨q, o, none⟩)] w fun e w' => ∃ a, e = .returned (.iface 145 (.slice a 5 5)) ∧ skRow (fun b => w.heap.size ≤ b ∧ b < w'.heap.size) w' a 0 (hdL q o) ∧ Below w.heap.size w w' := by
  go_enter Tryd.func122, Tryd.ntmps122
  go_wp2_with fail
  refine region_tail 25 (by kernel_rfl) (by kernel_rfl) ?_
  simp only [List.take_succ_cons, List.take_zero, List.drop_succ_cons, List.drop_zero]
  iterate 25 (quiet_step (fail))
  refine wpQuiet_nil ?_
  intro w8 hw8
  have hb8 : Below w.heap.size w w8 := by
    obtain ⟨p, rfl⟩ := hw8
    exact below_regrown _ _ _
  clear hw8
  go_wp2
  go_ret
  have hz := hb8.size
  refine ⟨some ⟨w8.heap.size, 0, none⟩, rfl, sk_of_row (by constructor; omega; simp) _ 0 (fun j p hp => ?_), hb8.alloc hz _⟩
  have hj := (List.getElem?_eq_some_iff.1 hp).1
  have hj : j < 5 := hj
  have hcase : j = 0 ∨ j = 1 ∨ j = 2 ∨ j = 3 ∨ j = 4 := by omega
  rcases hcase with rfl | rfl | rfl | rfl | rfl <;> (cases hp; exact ⟨by rw [Lib.cell_of_heap (World.alloc_heap_new w8 _)]; rfl, trivial⟩)

set_option maxRecDepth 100000 in
set_option maxHeartbeats 4000000 in
theorem exec_any (q o : Nat) (w : World) :
    Calls Tryd.prog 123 #[.pointer (some ⟨q, o, none⟩)] w fun e w' => ∃ a, e = .returned (.iface 145 (.slice a 3 3)) ∧ skRow (fun b => w.heap.size ≤ b ∧ b < w'.heap.size) w' a 0 (exL q o) ∧ Below w.heap.size w w' := by
  go_enter Tryd.func123, Tryd.ntmps123
  go_wp2_with fail
  refine region_tail 15 (by kernel_rfl) (by kernel_rfl) ?_
  simp only [List.take_succ_cons, List.take_zero, List.drop_succ_cons, List.drop_zero]
  iterate 15 (quiet_step (fail))
  refine wpQuiet_nil ?_
  intro w8 hw8
  have hb8 : Below w.heap.size w w8 := by
    obtain ⟨p, rfl⟩ := hw8
    exact below_regrown _ _ _
  clear hw8
  go_wp2
  go_ret
  have hz := hb8.size
  refine ⟨some ⟨w8.heap.size, 0, none⟩, rfl, sk_of_row (by constructor; omega; simp) _ 0 (fun j p hp => ?_), hb8.alloc hz _⟩
  have hj := (List.getElem?_eq_some_iff.1 hp).1
  have hj : j < 3 := hj
  have hcase : j = 0 ∨ j = 1 ∨ j = 2 := by omega
  rcases hcase with rfl | rfl | rfl <;> (cases hp; exact ⟨by rw [Lib.cell_of_heap (World.alloc_heap_new w8 _)]; rfl, trivial⟩)

set_option maxRecDepth 100000 in
set_option maxHeartbeats 4000000 in
theorem committee_any (q o : Nat) (w : World) :
    Calls Tryd.prog 88 #[.pointer (some ⟨q, o, none⟩)] w fun e w' => ∃ a, e = .returned (.iface 145 (.slice a 2 2)) ∧ skRow (fun b => w.heap.size ≤ b ∧ b < w'.heap.size) w' a 0 (cmL q o) ∧ Below w.heap.size w w' := by
  go_enter Tryd.func88, Tryd.ntmps88
  go_wp2_with fail
  refine region_tail 10 (by kernel_rfl) (by kernel_rfl) ?_
  simp only [List.take_succ_cons, List.take_zero, List.drop_succ_cons, List.drop_zero]
  iterate 10 (quiet_step (fail))
  refine wpQuiet_nil ?_
  intro w8 hw8
  have hb8 : Below w.heap.size w w8 := by
    obtain ⟨p, rfl⟩ := hw8
    exact below_regrown _ _ _
  clear hw8
  go_wp2
  go_ret
  have hz := hb8.size
  refine ⟨some ⟨w8.heap.size, 0, none⟩, rfl, sk_of_row (by constructor; omega; simp) _ 0 (fun j p hp => ?_), hb8.alloc hz _⟩
  have hj := (List.getElem?_eq_some_iff.1 hp).1
  have hj : j < 2 := hj
  have hcase : j = 0 ∨ j = 1 := by omega
  rcases hcase with rfl | rfl <;> (cases hp; exact ⟨by rw [Lib.cell_of_heap (World.alloc_heap_new w8 _)]; rfl, trivial⟩)
end Go.Proofs.YtmefanagpkbjeaaDoor
namespace Go.Proofs.YtmefanagpkbjeaaDoor
open Go.RowKit Go.Shelf Go.Sort

def ltL (q o : Nat) (a1 a2 : Option Addr) : List Pt := [.lst a1 5 (hdL q o), .lst a2 3 (exL q (o + 5)), .txs ⟨q, o + 8, none⟩]
/-- A Light's part: where its lists lie. -/
def ltP (q o : Nat) (t : Option Addr × Option Addr × Option Addr) : Pt := .lst t.1 3 (ltL q o t.2.1 t.2.2)
def btL (q : Nat) (t : Option Addr × Option Addr × Option Addr) (ac : Option Addr) : List Pt := [ltP q 0 t, .lst ac 2 (cmL q 9), .txs ⟨q, 11, none⟩]
def uptL (q : Nat) (t : Option Addr × Option Addr × Option Addr) (ac : Option Addr) (u : Option Addr × Option Addr × Option Addr) : List Pt := [ltP q 0 t, .lst ac 2 (cmL q 9), .txs ⟨q, 11, none⟩, ltP q 12 u, .txs ⟨q, 21, none⟩, .num ⟨q, 22, none⟩, .txt ⟨q, 23, none⟩, .num ⟨q, 24, none⟩]
/-- A list of parts that was made anew. -/
def SkR (n : Nat) (ps : List Pt) (B : Nat) (X : Value) (W : World) : Prop := ∃ a, X = .iface 145 (.slice a n n) ∧ skRow (fun b => B ≤ b ∧ b < W.heap.size) W a 0 ps
theorem SkR.grow {n : Nat} {ps : List Pt} {B : Nat} {X : Value} {W W' : World} (h : SkR n ps B X W) (hb : Below W.heap.size W W') : SkR n ps B X W' := by
  obtain ⟨a, h1, h2⟩ := h
  exact ⟨a, h1, skRow_of (fun b k => ⟨⟨k.1, Nat.lt_of_lt_of_le k.2 hb.size⟩, fun j => hb.cell (p := ⟨b, j, none⟩) k.2⟩) _ _ _ h2⟩
/-- A Light's part that was made anew. -/
def LtR (q o : Nat) (B : Nat) (X : Value) (W : World) : Prop := ∃ t : Option Addr × Option Addr × Option Addr, X = .iface 145 (.slice t.1 3 3) ∧ skRow (fun b => B ≤ b ∧ b < W.heap.size) W t.1 0 (ltL q o t.2.1 t.2.2)
theorem LtR.grow {q o : Nat} {B : Nat} {X : Value} {W W' : World} (h : LtR q o B X W) (hb : Below W.heap.size W W') : LtR q o B X W' := by
  obtain ⟨a, h1, h2⟩ := h
  exact ⟨a, h1, skRow_of (fun b k => ⟨⟨k.1, Nat.lt_of_lt_of_le k.2 hb.size⟩, fun j => hb.cell (p := ⟨b, j, none⟩) k.2⟩) _ _ _ h2⟩
/-- What holds while a statement runs. -/
structure Mk_light (V : World) (q o : Nat) (S : Nat → Bool) (x3 x4 x5 x6 x7 x8 x9 x10 x11 x12 x13 x14 x15 : Value) (W : World) : Prop where
  e : Below V.heap.size V W
  f0 : S 0 = true → x3 = Value.pointer (some ⟨q, o, none⟩)
  f1 : S 1 = true → x4 = Value.pointer (some ⟨q, o, none⟩)
  f2 : S 2 = true → x5 = Value.pointer (some ⟨q, o, none⟩)
  f3 : S 3 = true → SkR 5 (hdL q o) V.heap.size x6 W
  f4 : S 4 = true → x7 = Value.pointer (some ⟨q, o, none⟩)
  f5 : S 5 = true → x8 = Value.pointer (some ⟨q, o, none⟩)
  f6 : S 6 = true → x9 = Value.pointer (some ⟨q, o + 5, none⟩)
  f7 : S 7 = true → SkR 3 (exL q (o + 5)) V.heap.size x10 W
  f8 : S 8 = true → x11 = Value.pointer (some ⟨q, o, none⟩)
  f9 : S 9 = true → x12 = Value.pointer (some ⟨q, o, none⟩)
  f10 : S 10 = true → x13 = Value.pointer (some ⟨q, o + 8, none⟩)
  f11 : S 11 = true → x14 = Value.agg #[.pointer (some ⟨q, o + 8, none⟩)]
  f12 : S 12 = true → x15 = Value.iface 143 (.agg #[.pointer (some ⟨q, o + 8, none⟩)])
theorem Mk_light.grow {V : World} {q o : Nat} {S : Nat → Bool} {x3 x4 x5 x6 x7 x8 x9 x10 x11 x12 x13 x14 x15 : Value} {W W' : World} (h : Mk_light V q o S x3 x4 x5 x6 x7 x8 x9 x10 x11 x12 x13 x14 x15 W) (hb : Below W.heap.size W W') : Mk_light V q o S x3 x4 x5 x6 x7 x8 x9 x10 x11 x12 x13 x14 x15 W' :=
  ⟨belowStep h.e h.e.size hb, h.f0, h.f1, h.f2, fun s => SkR.grow (h.f3 s) hb, h.f4, h.f5, h.f6, fun s => SkR.grow (h.f7 s) hb, h.f8, h.f9, h.f10, h.f11, h.f12⟩
set_option maxRecDepth 100000 in
set_option maxHeartbeats 4000000 in
theorem light_any (q o : Nat) (w : World) :
    Calls Tryd.prog 87 #[.pointer (some ⟨q, o, none⟩)] w fun e w' => ∃ t : Option Addr × Option Addr × Option Addr, e = .returned (.iface 145 (.slice t.1 3 3)) ∧ skRow (fun b => w.heap.size ≤ b ∧ b < w'.heap.size) w' t.1 0 (ltL q o t.2.1 t.2.2) ∧ Below w.heap.size w w' := by
  go_enter Tryd.func87, Tryd.ntmps87
  go_wp2_with fail
  refine region_inv_tail 13 (fun S aa W => ∃ x3 x4 x5 x6 x7 x8 x9 x10 x11 x12 x13 x14 x15 : Value, aa = { tmps := #[Value.pointer (some { block := q, off := o }), undef, Value.nilIface, x3, x4, x5, x6, x7, x8, x9, x10, x11, x12, x13, x14, x15, undef, undef], defers := [] } ∧ Mk_light w q o S x3 x4 x5 x6 x7 x8 x9 x10 x11 x12 x13 x14 x15 W) (by kernel_rfl) (by kernel_rfl) ?_ ?_ ?_
  · exact ⟨undef, undef, undef, undef, undef, undef, undef, undef, undef, undef, undef, undef, undef, rfl, ⟨(Below.refl _ w).drew, nofun, nofun, nofun, nofun, nofun, nofun, nofun, nofun, nofun, nofun, nofun, nofun, nofun⟩⟩
  · intro i o S aa W hin hi hun hJ hall K hK
    obtain ⟨x3, x4, x5, x6, x7, x8, x9, x10, x11, x12, x13, x14, x15, rfl, h⟩ := hJ
    have hlt : i < 13 := hin
    have hcase : i = 0 ∨ i = 1 ∨ i = 2 ∨ i = 3 ∨ i = 4 ∨ i = 5 ∨ i = 6 ∨ i = 7 ∨ i = 8 ∨ i = 9 ∨ i = 10 ∨ i = 11 ∨ i = 12 := by omega
    rcases hcase with rfl | rfl | rfl | rfl | rfl | rfl | rfl | rfl | rfl | rfl | rfl | rfl | rfl
    all_goals (have ho := (Option.some.inj hi).symm; subst ho; clear hi hlt hin)
    · go_simp
      exact hK _ _ ⟨_, x4, x5, x6, x7, x8, x9, x10, x11, x12, x13, x14, x15, rfl, ⟨h.e, fun _ => rfl, h.f1, h.f2, h.f3, h.f4, h.f5, h.f6, h.f7, h.f8, h.f9, h.f10, h.f11, h.f12⟩⟩
    · have s_0 : S 0 = true := hall ⟨0, .data⟩ (by simp) rfl
      obtain rfl := h.f0 s_0
      go_simp
      exact hK _ _ ⟨_, _, x5, x6, x7, x8, x9, x10, x11, x12, x13, x14, x15, rfl, ⟨h.e, h.f0, fun _ => rfl, h.f2, h.f3, h.f4, h.f5, h.f6, h.f7, h.f8, h.f9, h.f10, h.f11, h.f12⟩⟩
    · have s_1 : S 1 = true := hall ⟨1, .data⟩ (by simp) rfl
      obtain rfl := h.f1 s_1
      go_simp
      exact hK _ _ ⟨x3, _, _, x6, x7, x8, x9, x10, x11, x12, x13, x14, x15, rfl, ⟨h.e, h.f0, h.f1, fun _ => rfl, h.f3, h.f4, h.f5, h.f6, h.f7, h.f8, h.f9, h.f10, h.f11, h.f12⟩⟩
    · have s_2 : S 2 = true := hall ⟨2, .data⟩ (by simp) rfl
      obtain rfl := h.f2 s_2
      go_simp
      refine (header_any q o W).mono ?_
      rintro e w5 ⟨a5, rfl, k1, hb5⟩
      have h1 := h.grow hb5
      exact hK _ _ ⟨x3, x4, _, _, x7, x8, x9, x10, x11, x12, x13, x14, x15, rfl, ⟨h1.e, h1.f0, h1.f1, h1.f2, fun _ => ⟨a5, rfl, skRow_of (fun b hb => ⟨⟨Nat.le_trans h.e.size hb.1, hb.2⟩, fun _ => rfl⟩) _ _ _ k1⟩, h1.f4, h1.f5, h1.f6, h1.f7, h1.f8, h1.f9, h1.f10, h1.f11, h1.f12⟩⟩
    · go_simp
      exact hK _ _ ⟨x3, x4, x5, x6, _, x8, x9, x10, x11, x12, x13, x14, x15, rfl, ⟨h.e, h.f0, h.f1, h.f2, h.f3, fun _ => rfl, h.f5, h.f6, h.f7, h.f8, h.f9, h.f10, h.f11, h.f12⟩⟩
    · have s_4 : S 4 = true := hall ⟨4, .data⟩ (by simp) rfl
      obtain rfl := h.f4 s_4
      go_simp
      exact hK _ _ ⟨x3, x4, x5, x6, _, _, x9, x10, x11, x12, x13, x14, x15, rfl, ⟨h.e, h.f0, h.f1, h.f2, h.f3, h.f4, fun _ => rfl, h.f6, h.f7, h.f8, h.f9, h.f10, h.f11, h.f12⟩⟩
    · have s_5 : S 5 = true := hall ⟨5, .data⟩ (by simp) rfl
      obtain rfl := h.f5 s_5
      go_simp
      exact hK _ _ ⟨x3, x4, x5, x6, x7, _, _, x10, x11, x12, x13, x14, x15, rfl, ⟨h.e, h.f0, h.f1, h.f2, h.f3, h.f4, h.f5, fun _ => rfl, h.f7, h.f8, h.f9, h.f10, h.f11, h.f12⟩⟩
    · have s_6 : S 6 = true := hall ⟨6, .data⟩ (by simp) rfl
      obtain rfl := h.f6 s_6
      go_simp
      refine (exec_any q (o + 5) W).mono ?_
      rintro e w5 ⟨a5, rfl, k1, hb5⟩
      have h1 := h.grow hb5
      exact hK _ _ ⟨x3, x4, x5, x6, x7, x8, _, _, x11, x12, x13, x14, x15, rfl, ⟨h1.e, h1.f0, h1.f1, h1.f2, h1.f3, h1.f4, h1.f5, h1.f6, fun _ => ⟨a5, rfl, skRow_of (fun b hb => ⟨⟨Nat.le_trans h.e.size hb.1, hb.2⟩, fun _ => rfl⟩) _ _ _ k1⟩, h1.f8, h1.f9, h1.f10, h1.f11, h1.f12⟩⟩
    · go_simp
      exact hK _ _ ⟨x3, x4, x5, x6, x7, x8, x9, x10, _, x12, x13, x14, x15, rfl, ⟨h.e, h.f0, h.f1, h.f2, h.f3, h.f4, h.f5, h.f6, h.f7, fun _ => rfl, h.f9, h.f10, h.f11, h.f12⟩⟩
    · have s_8 : S 8 = true := hall ⟨8, .data⟩ (by simp) rfl
      obtain rfl := h.f8 s_8
      go_simp
      exact hK _ _ ⟨x3, x4, x5, x6, x7, x8, x9, x10, _, _, x13, x14, x15, rfl, ⟨h.e, h.f0, h.f1, h.f2, h.f3, h.f4, h.f5, h.f6, h.f7, h.f8, fun _ => rfl, h.f10, h.f11, h.f12⟩⟩
    · have s_9 : S 9 = true := hall ⟨9, .data⟩ (by simp) rfl
      obtain rfl := h.f9 s_9
      go_simp
      exact hK _ _ ⟨x3, x4, x5, x6, x7, x8, x9, x10, x11, _, _, x14, x15, rfl, ⟨h.e, h.f0, h.f1, h.f2, h.f3, h.f4, h.f5, h.f6, h.f7, h.f8, h.f9, fun _ => rfl, h.f11, h.f12⟩⟩
    · have s_10 : S 10 = true := hall ⟨10, .data⟩ (by simp) rfl
      obtain rfl := h.f10 s_10
      go_simp
      exact hK _ _ ⟨x3, x4, x5, x6, x7, x8, x9, x10, x11, x12, _, _, x15, rfl, ⟨h.e, h.f0, h.f1, h.f2, h.f3, h.f4, h.f5, h.f6, h.f7, h.f8, h.f9, h.f10, fun _ => rfl, h.f12⟩⟩
    · have s_11 : S 11 = true := hall ⟨11, .data⟩ (by simp) rfl
      obtain rfl := h.f11 s_11
      go_simp
      exact hK _ _ ⟨x3, x4, x5, x6, x7, x8, x9, x10, x11, x12, x13, _, _, rfl, ⟨h.e, h.f0, h.f1, h.f2, h.f3, h.f4, h.f5, h.f6, h.f7, h.f8, h.f9, h.f10, h.f11, fun _ => rfl⟩⟩
  · rintro S aa W hall ⟨x3, x4, x5, x6, x7, x8, x9, x10, x11, x12, x13, x14, x15, rfl, h⟩
    obtain rfl := h.f0 (hall 0 (by decide))
    obtain rfl := h.f1 (hall 1 (by decide))
    obtain rfl := h.f2 (hall 2 (by decide))
    obtain ⟨a0, rfl, hk0⟩ := h.f3 (hall 3 (by decide))
    obtain rfl := h.f4 (hall 4 (by decide))
    obtain rfl := h.f5 (hall 5 (by decide))
    obtain rfl := h.f6 (hall 6 (by decide))
    obtain ⟨a1, rfl, hk1⟩ := h.f7 (hall 7 (by decide))
    obtain rfl := h.f8 (hall 8 (by decide))
    obtain rfl := h.f9 (hall 9 (by decide))
    obtain rfl := h.f10 (hall 10 (by decide))
    obtain rfl := h.f11 (hall 11 (by decide))
    obtain rfl := h.f12 (hall 12 (by decide))
    have BWD := h.e
    clear h hall
    simp only [List.drop_succ_cons, List.drop_zero]
    have hz := BWD.size
    have HX : Hid (_ ∧ _ ∧ _) := ⟨BWD, hk0, hk1⟩
    clear BWD hk0 hk1
    go_wp2
    go_ret
    obtain ⟨BWD, hk0, hk1⟩ := HX.out
    refine ⟨(some ⟨W.heap.size, 0, none⟩, a0, a1), rfl, sk_of_row (by constructor; omega; simp) _ 0 (fun j p hp => ?_), BWD.alloc hz _⟩
    have hj := (List.getElem?_eq_some_iff.1 hp).1
    have hj : j < 3 := hj
    have hold : ∀ b, w.heap.size ≤ b ∧ b < W.heap.size → (w.heap.size ≤ b ∧ b < (W.alloc (.cells #[.iface 145 (.slice a0 5 5), .iface 145 (.slice a1 3 3), .iface 143 (.agg #[.pointer (some ⟨q, o + 8, none⟩)])] 72)).heap.size) ∧ ∀ j, (W.alloc (.cells #[.iface 145 (.slice a0 5 5), .iface 145 (.slice a1 3 3), .iface 143 (.agg #[.pointer (some ⟨q, o + 8, none⟩)])] 72)).cell? ⟨b, j, none⟩ = W.cell? ⟨b, j, none⟩ := fun b hb => ⟨⟨hb.1, by simp; omega⟩, fun j => ((Below.refl _ W).alloc (Nat.le_refl _) _).cell (p := ⟨b, j, none⟩) hb.2⟩
    have hcase : j = 0 ∨ j = 1 ∨ j = 2 := by omega
    rcases hcase with rfl | rfl | rfl
    · cases hp
      exact ⟨by rw [Lib.cell_of_heap (World.alloc_heap_new W _)]; rfl, skRow_of hold _ _ _ hk0⟩
    · cases hp
      exact ⟨by rw [Lib.cell_of_heap (World.alloc_heap_new W _)]; rfl, skRow_of hold _ _ _ hk1⟩
    · cases hp
      exact ⟨by rw [Lib.cell_of_heap (World.alloc_heap_new W _)]; rfl, trivial⟩
/-- What holds while a statement runs. -/
structure Mk_boot (V : World) (q : Nat) (S : Nat → Bool) (x3 x4 x5 x6 x7 x8 x9 x10 x11 x12 x13 x14 x15 : Value) (W : World) : Prop where
  e : Below V.heap.size V W
  f0 : S 0 = true → x3 = Value.pointer (some ⟨q, 0, none⟩)
  f1 : S 1 = true → x4 = Value.pointer (some ⟨q, 0, none⟩)
  f2 : S 2 = true → x5 = Value.pointer (some ⟨q, 0, none⟩)
  f3 : S 3 = true → LtR q 0 V.heap.size x6 W
  f4 : S 4 = true → x7 = Value.pointer (some ⟨q, 0, none⟩)
  f5 : S 5 = true → x8 = Value.pointer (some ⟨q, 0, none⟩)
  f6 : S 6 = true → x9 = Value.pointer (some ⟨q, 9, none⟩)
  f7 : S 7 = true → SkR 2 (cmL q 9) V.heap.size x10 W
  f8 : S 8 = true → x11 = Value.pointer (some ⟨q, 0, none⟩)
  f9 : S 9 = true → x12 = Value.pointer (some ⟨q, 0, none⟩)
  f10 : S 10 = true → x13 = Value.pointer (some ⟨q, 11, none⟩)
  f11 : S 11 = true → x14 = Value.agg #[.pointer (some ⟨q, 11, none⟩)]
  f12 : S 12 = true → x15 = Value.iface 143 (.agg #[.pointer (some ⟨q, 11, none⟩)])
theorem Mk_boot.grow {V : World} {q : Nat} {S : Nat → Bool} {x3 x4 x5 x6 x7 x8 x9 x10 x11 x12 x13 x14 x15 : Value} {W W' : World} (h : Mk_boot V q S x3 x4 x5 x6 x7 x8 x9 x10 x11 x12 x13 x14 x15 W) (hb : Below W.heap.size W W') : Mk_boot V q S x3 x4 x5 x6 x7 x8 x9 x10 x11 x12 x13 x14 x15 W' :=
  ⟨belowStep h.e h.e.size hb, h.f0, h.f1, h.f2, fun s => LtR.grow (h.f3 s) hb, h.f4, h.f5, h.f6, fun s => SkR.grow (h.f7 s) hb, h.f8, h.f9, h.f10, h.f11, h.f12⟩
set_option maxRecDepth 100000 in
set_option maxHeartbeats 4000000 in
theorem boot_any (q : Nat) (w : World) :
    Calls Tryd.prog 44 #[.pointer (some ⟨q, 0, none⟩)] w fun e w' => ∃ a t ac, e = .returned (.iface 145 (.slice a 3 3)) ∧ skRow (fun b => w.heap.size ≤ b ∧ b < w'.heap.size) w' a 0 (btL q t ac) ∧ Below w.heap.size w w' := by
  go_enter Tryd.func44, Tryd.ntmps44
  go_wp2_with fail
  refine region_inv_tail 13 (fun S aa W => ∃ x3 x4 x5 x6 x7 x8 x9 x10 x11 x12 x13 x14 x15 : Value, aa = { tmps := #[Value.pointer (some { block := q, off := 0 }), undef, Value.nilIface, x3, x4, x5, x6, x7, x8, x9, x10, x11, x12, x13, x14, x15, undef, undef], defers := [] } ∧ Mk_boot w q S x3 x4 x5 x6 x7 x8 x9 x10 x11 x12 x13 x14 x15 W) (by kernel_rfl) (by kernel_rfl) ?_ ?_ ?_
  · exact ⟨undef, undef, undef, undef, undef, undef, undef, undef, undef, undef, undef, undef, undef, rfl, ⟨(Below.refl _ w).drew, nofun, nofun, nofun, nofun, nofun, nofun, nofun, nofun, nofun, nofun, nofun, nofun, nofun⟩⟩
  · intro i o S aa W hin hi hun hJ hall K hK
    obtain ⟨x3, x4, x5, x6, x7, x8, x9, x10, x11, x12, x13, x14, x15, rfl, h⟩ := hJ
    have hlt : i < 13 := hin
    have hcase : i = 0 ∨ i = 1 ∨ i = 2 ∨ i = 3 ∨ i = 4 ∨ i = 5 ∨ i = 6 ∨ i = 7 ∨ i = 8 ∨ i = 9 ∨ i = 10 ∨ i = 11 ∨ i = 12 := by omega
    rcases hcase with rfl | rfl | rfl | rfl | rfl | rfl | rfl | rfl | rfl | rfl | rfl | rfl | rfl
    all_goals (have ho := (Option.some.inj hi).symm; subst ho; clear hi hlt hin)
    · go_simp
      exact hK _ _ ⟨_, x4, x5, x6, x7, x8, x9, x10, x11, x12, x13, x14, x15, rfl, ⟨h.e, fun _ => rfl, h.f1, h.f2, h.f3, h.f4, h.f5, h.f6, h.f7, h.f8, h.f9, h.f10, h.f11, h.f12⟩⟩
    · have s_0 : S 0 = true := hall ⟨0, .data⟩ (by simp) rfl
      obtain rfl := h.f0 s_0
      go_simp
      exact hK _ _ ⟨_, _, x5, x6, x7, x8, x9, x10, x11, x12, x13, x14, x15, rfl, ⟨h.e, h.f0, fun _ => rfl, h.f2, h.f3, h.f4, h.f5, h.f6, h.f7, h.f8, h.f9, h.f10, h.f11, h.f12⟩⟩
    · have s_1 : S 1 = true := hall ⟨1, .data⟩ (by simp) rfl
      obtain rfl := h.f1 s_1
      go_simp
      exact hK _ _ ⟨x3, _, _, x6, x7, x8, x9, x10, x11, x12, x13, x14, x15, rfl, ⟨h.e, h.f0, h.f1, fun _ => rfl, h.f3, h.f4, h.f5, h.f6, h.f7, h.f8, h.f9, h.f10, h.f11, h.f12⟩⟩
    · have s_2 : S 2 = true := hall ⟨2, .data⟩ (by simp) rfl
      obtain rfl := h.f2 s_2
      go_simp
      refine (light_any q 0 W).mono ?_
      rintro e w5 ⟨a5, rfl, k1, hb5⟩
      have h1 := h.grow hb5
      exact hK _ _ ⟨x3, x4, _, _, x7, x8, x9, x10, x11, x12, x13, x14, x15, rfl, ⟨h1.e, h1.f0, h1.f1, h1.f2, fun _ => ⟨a5, rfl, skRow_of (fun b hb => ⟨⟨Nat.le_trans h.e.size hb.1, hb.2⟩, fun _ => rfl⟩) _ _ _ k1⟩, h1.f4, h1.f5, h1.f6, h1.f7, h1.f8, h1.f9, h1.f10, h1.f11, h1.f12⟩⟩
    · go_simp
      exact hK _ _ ⟨x3, x4, x5, x6, _, x8, x9, x10, x11, x12, x13, x14, x15, rfl, ⟨h.e, h.f0, h.f1, h.f2, h.f3, fun _ => rfl, h.f5, h.f6, h.f7, h.f8, h.f9, h.f10, h.f11, h.f12⟩⟩
    · have s_4 : S 4 = true := hall ⟨4, .data⟩ (by simp) rfl
      obtain rfl := h.f4 s_4
      go_simp
      exact hK _ _ ⟨x3, x4, x5, x6, _, _, x9, x10, x11, x12, x13, x14, x15, rfl, ⟨h.e, h.f0, h.f1, h.f2, h.f3, h.f4, fun _ => rfl, h.f6, h.f7, h.f8, h.f9, h.f10, h.f11, h.f12⟩⟩
    · have s_5 : S 5 = true := hall ⟨5, .data⟩ (by simp) rfl
      obtain rfl := h.f5 s_5
      go_simp
      exact hK _ _ ⟨x3, x4, x5, x6, x7, _, _, x10, x11, x12, x13, x14, x15, rfl, ⟨h.e, h.f0, h.f1, h.f2, h.f3, h.f4, h.f5, fun _ => rfl, h.f7, h.f8, h.f9, h.f10, h.f11, h.f12⟩⟩
    · have s_6 : S 6 = true := hall ⟨6, .data⟩ (by simp) rfl
      obtain rfl := h.f6 s_6
      go_simp
      refine (committee_any q 9 W).mono ?_
      rintro e w5 ⟨a5, rfl, k1, hb5⟩
      have h1 := h.grow hb5
      exact hK _ _ ⟨x3, x4, x5, x6, x7, x8, _, _, x11, x12, x13, x14, x15, rfl, ⟨h1.e, h1.f0, h1.f1, h1.f2, h1.f3, h1.f4, h1.f5, h1.f6, fun _ => ⟨a5, rfl, skRow_of (fun b hb => ⟨⟨Nat.le_trans h.e.size hb.1, hb.2⟩, fun _ => rfl⟩) _ _ _ k1⟩, h1.f8, h1.f9, h1.f10, h1.f11, h1.f12⟩⟩
    · go_simp
      exact hK _ _ ⟨x3, x4, x5, x6, x7, x8, x9, x10, _, x12, x13, x14, x15, rfl, ⟨h.e, h.f0, h.f1, h.f2, h.f3, h.f4, h.f5, h.f6, h.f7, fun _ => rfl, h.f9, h.f10, h.f11, h.f12⟩⟩
    · have s_8 : S 8 = true := hall ⟨8, .data⟩ (by simp) rfl
      obtain rfl := h.f8 s_8
      go_simp
      exact hK _ _ ⟨x3, x4, x5, x6, x7, x8, x9, x10, _, _, x13, x14, x15, rfl, ⟨h.e, h.f0, h.f1, h.f2, h.f3, h.f4, h.f5, h.f6, h.f7, h.f8, fun _ => rfl, h.f10, h.f11, h.f12⟩⟩
    · have s_9 : S 9 = true := hall ⟨9, .data⟩ (by simp) rfl
      obtain rfl := h.f9 s_9
      go_simp
      exact hK _ _ ⟨x3, x4, x5, x6, x7, x8, x9, x10, x11, _, _, x14, x15, rfl, ⟨h.e, h.f0, h.f1, h.f2, h.f3, h.f4, h.f5, h.f6, h.f7, h.f8, h.f9, fun _ => rfl, h.f11, h.f12⟩⟩
    · have s_10 : S 10 = true := hall ⟨10, .data⟩ (by simp) rfl
      obtain rfl := h.f10 s_10
      go_simp
      exact hK _ _ ⟨x3, x4, x5, x6, x7, x8, x9, x10, x11, x12, _, _, x15, rfl, ⟨h.e, h.f0, h.f1, h.f2, h.f3, h.f4, h.f5, h.f6, h.f7, h.f8, h.f9, h.f10, fun _ => rfl, h.f12⟩⟩
    · have s_11 : S 11 = true := hall ⟨11, .data⟩ (by simp) rfl
      obtain rfl := h.f11 s_11
      go_simp
      exact hK _ _ ⟨x3, x4, x5, x6, x7, x8, x9, x10, x11, x12, x13, _, _, rfl, ⟨h.e, h.f0, h.f1, h.f2, h.f3, h.f4, h.f5, h.f6, h.f7, h.f8, h.f9, h.f10, h.f11, fun _ => rfl⟩⟩
  · rintro S aa W hall ⟨x3, x4, x5, x6, x7, x8, x9, x10, x11, x12, x13, x14, x15, rfl, h⟩
    obtain rfl := h.f0 (hall 0 (by decide))
    obtain rfl := h.f1 (hall 1 (by decide))
    obtain rfl := h.f2 (hall 2 (by decide))
    obtain ⟨a0, rfl, hk0⟩ := h.f3 (hall 3 (by decide))
    obtain rfl := h.f4 (hall 4 (by decide))
    obtain rfl := h.f5 (hall 5 (by decide))
    obtain rfl := h.f6 (hall 6 (by decide))
    obtain ⟨a1, rfl, hk1⟩ := h.f7 (hall 7 (by decide))
    obtain rfl := h.f8 (hall 8 (by decide))
    obtain rfl := h.f9 (hall 9 (by decide))
    obtain rfl := h.f10 (hall 10 (by decide))
    obtain rfl := h.f11 (hall 11 (by decide))
    obtain rfl := h.f12 (hall 12 (by decide))
    have BWD := h.e
    clear h hall
    simp only [List.drop_succ_cons, List.drop_zero]
    have hz := BWD.size
    have HX : Hid (_ ∧ _ ∧ _) := ⟨BWD, hk0, hk1⟩
    clear BWD hk0 hk1
    go_wp2
    go_ret
    obtain ⟨BWD, hk0, hk1⟩ := HX.out
    refine ⟨some ⟨W.heap.size, 0, none⟩, a0, a1, rfl, sk_of_row (by constructor; omega; simp) _ 0 (fun j p hp => ?_), BWD.alloc hz _⟩
    have hj := (List.getElem?_eq_some_iff.1 hp).1
    have hj : j < 3 := hj
    have hold : ∀ b, w.heap.size ≤ b ∧ b < W.heap.size → (w.heap.size ≤ b ∧ b < (W.alloc (.cells #[.iface 145 (.slice a0.1 3 3), .iface 145 (.slice a1 2 2), .iface 143 (.agg #[.pointer (some ⟨q, 11, none⟩)])] 72)).heap.size) ∧ ∀ j, (W.alloc (.cells #[.iface 145 (.slice a0.1 3 3), .iface 145 (.slice a1 2 2), .iface 143 (.agg #[.pointer (some ⟨q, 11, none⟩)])] 72)).cell? ⟨b, j, none⟩ = W.cell? ⟨b, j, none⟩ := fun b hb => ⟨⟨hb.1, by simp; omega⟩, fun j => ((Below.refl _ W).alloc (Nat.le_refl _) _).cell (p := ⟨b, j, none⟩) hb.2⟩
    have hcase : j = 0 ∨ j = 1 ∨ j = 2 := by omega
    rcases hcase with rfl | rfl | rfl
    · cases hp
      exact ⟨by rw [Lib.cell_of_heap (World.alloc_heap_new W _)]; rfl, skRow_of hold _ _ _ hk0⟩
    · cases hp
      exact ⟨by rw [Lib.cell_of_heap (World.alloc_heap_new W _)]; rfl, skRow_of hold _ _ _ hk1⟩
    · cases hp
      exact ⟨by rw [Lib.cell_of_heap (World.alloc_heap_new W _)]; rfl, trivial⟩
/-- What holds while a statement runs. -/
structure Mk_update (V : World) (q : Nat) (S : Nat → Bool) (x3 x4 x5 x6 x7 x8 x9 x10 x11 x12 x13 x14 x15 x16 x17 x18 x19 x20 x21 x22 x23 x24 x25 x26 x27 x28 x29 x30 x31 x32 x33 x34 x35 x36 x37 x38 x39 : Value) (W : World) : Prop where
  e : Below V.heap.size V W
  f0 : S 0 = true → x3 = Value.pointer (some ⟨q, 0, none⟩)
  f1 : S 1 = true → x4 = Value.pointer (some ⟨q, 0, none⟩)
  f2 : S 2 = true → x5 = Value.pointer (some ⟨q, 0, none⟩)
  f3 : S 3 = true → LtR q 0 V.heap.size x6 W
  f4 : S 4 = true → x7 = Value.pointer (some ⟨q, 0, none⟩)
  f5 : S 5 = true → x8 = Value.pointer (some ⟨q, 0, none⟩)
  f6 : S 6 = true → x9 = Value.pointer (some ⟨q, 9, none⟩)
  f7 : S 7 = true → SkR 2 (cmL q 9) V.heap.size x10 W
  f8 : S 8 = true → x11 = Value.pointer (some ⟨q, 0, none⟩)
  f9 : S 9 = true → x12 = Value.pointer (some ⟨q, 0, none⟩)
  f10 : S 10 = true → x13 = Value.pointer (some ⟨q, 11, none⟩)
  f11 : S 11 = true → x14 = Value.agg #[.pointer (some ⟨q, 11, none⟩)]
  f12 : S 12 = true → x15 = Value.iface 143 (.agg #[.pointer (some ⟨q, 11, none⟩)])
  f13 : S 13 = true → x16 = Value.pointer (some ⟨q, 0, none⟩)
  f14 : S 14 = true → x17 = Value.pointer (some ⟨q, 0, none⟩)
  f15 : S 15 = true → x18 = Value.pointer (some ⟨q, 12, none⟩)
  f16 : S 16 = true → LtR q 12 V.heap.size x19 W
  f17 : S 17 = true → x20 = Value.pointer (some ⟨q, 0, none⟩)
  f18 : S 18 = true → x21 = Value.pointer (some ⟨q, 0, none⟩)
  f19 : S 19 = true → x22 = Value.pointer (some ⟨q, 21, none⟩)
  f20 : S 20 = true → x23 = Value.agg #[.pointer (some ⟨q, 21, none⟩)]
  f21 : S 21 = true → x24 = Value.iface 143 (.agg #[.pointer (some ⟨q, 21, none⟩)])
  f22 : S 22 = true → x25 = Value.pointer (some ⟨q, 0, none⟩)
  f23 : S 23 = true → x26 = Value.pointer (some ⟨q, 0, none⟩)
  f24 : S 24 = true → x27 = Value.pointer (some ⟨q, 22, none⟩)
  f25 : S 25 = true → x28 = Value.agg #[.pointer (some ⟨q, 22, none⟩)]
  f26 : S 26 = true → x29 = Value.iface 148 (.agg #[.pointer (some ⟨q, 22, none⟩)])
  f27 : S 27 = true → x30 = Value.pointer (some ⟨q, 0, none⟩)
  f28 : S 28 = true → x31 = Value.pointer (some ⟨q, 0, none⟩)
  f29 : S 29 = true → x32 = Value.pointer (some ⟨q, 23, none⟩)
  f30 : S 30 = true → x33 = Value.agg #[.pointer (some ⟨q, 23, none⟩)]
  f31 : S 31 = true → x34 = Value.iface 151 (.agg #[.pointer (some ⟨q, 23, none⟩)])
  f32 : S 32 = true → x35 = Value.pointer (some ⟨q, 0, none⟩)
  f33 : S 33 = true → x36 = Value.pointer (some ⟨q, 0, none⟩)
  f34 : S 34 = true → x37 = Value.pointer (some ⟨q, 24, none⟩)
  f35 : S 35 = true → x38 = Value.agg #[.pointer (some ⟨q, 24, none⟩)]
  f36 : S 36 = true → x39 = Value.iface 148 (.agg #[.pointer (some ⟨q, 24, none⟩)])
theorem Mk_update.grow {V : World} {q : Nat} {S : Nat → Bool} {x3 x4 x5 x6 x7 x8 x9 x10 x11 x12 x13 x14 x15 x16 x17 x18 x19 x20 x21 x22 x23 x24 x25 x26 x27 x28 x29 x30 x31 x32 x33 x34 x35 x36 x37 x38 x39 : Value} {W W' : World} (h : Mk_update V q S x3 x4 x5 x6 x7 x8 x9 x10 x11 x12 x13 x14 x15 x16 x17 x18 x19 x20 x21 x22 x23 x24 x25 x26 x27 x28 x29 x30 x31 x32 x33 x34 x35 x36 x37 x38 x39 W) (hb : Below W.heap.size W W') : Mk_update V q S x3 x4 x5 x6 x7 x8 x9 x10 x11 x12 x13 x14 x15 x16 x17 x18 x19 x20 x21 x22 x23 x24 x25 x26 x27 x28 x29 x30 x31 x32 x33 x34 x35 x36 x37 x38 x39 W' :=
  ⟨belowStep h.e h.e.size hb, h.f0, h.f1, h.f2, fun s => LtR.grow (h.f3 s) hb, h.f4, h.f5, h.f6, fun s => SkR.grow (h.f7 s) hb, h.f8, h.f9, h.f10, h.f11, h.f12, h.f13, h.f14, h.f15, fun s => LtR.grow (h.f16 s) hb, h.f17, h.f18, h.f19, h.f20, h.f21, h.f22, h.f23, h.f24, h.f25, h.f26, h.f27, h.f28, h.f29, h.f30, h.f31, h.f32, h.f33, h.f34, h.f35, h.f36⟩
set_option maxRecDepth 100000 in
set_option maxHeartbeats 4000000 in
theorem update_any (q : Nat) (w : World) :
    Calls Tryd.prog 50 #[.pointer (some ⟨q, 0, none⟩)] w fun e w' => ∃ a t ac u, e = .returned (.iface 145 (.slice a 8 8)) ∧ skRow (fun b => w.heap.size ≤ b ∧ b < w'.heap.size) w' a 0 (uptL q t ac u) ∧ Below w.heap.size w w' := by
  go_enter Tryd.func50, Tryd.ntmps50
  go_wp2_with fail
  refine region_inv_tail 37 (fun S aa W => ∃ x3 x4 x5 x6 x7 x8 x9 x10 x11 x12 x13 x14 x15 x16 x17 x18 x19 x20 x21 x22 x23 x24 x25 x26 x27 x28 x29 x30 x31 x32 x33 x34 x35 x36 x37 x38 x39 : Value, aa = { tmps := #[Value.pointer (some { block := q, off := 0 }), undef, Value.nilIface, x3, x4, x5, x6, x7, x8, x9, x10, x11, x12, x13, x14, x15, x16, x17, x18, x19, x20, x21, x22, x23, x24, x25, x26, x27, x28, x29, x30, x31, x32, x33, x34, x35, x36, x37, x38, x39, undef, undef], defers := [] } ∧ Mk_update w q S x3 x4 x5 x6 x7 x8 x9 x10 x11 x12 x13 x14 x15 x16 x17 x18 x19 x20 x21 x22 x23 x24 x25 x26 x27 x28 x29 x30 x31 x32 x33 x34 x35 x36 x37 x38 x39 W) (by kernel_rfl) (by kernel_rfl) ?_ ?_ ?_
  · exact ⟨undef, undef, undef, undef, undef, undef, undef, undef, undef, undef, undef, undef, undef, undef, undef, undef, undef, undef, undef, undef, undef, undef, undef, undef, undef, undef, undef, undef, undef, undef, undef, undef, undef, undef, undef, undef, undef, rfl, ⟨(Below.refl _ w).drew, nofun, nofun, nofun, nofun, nofun, nofun, nofun, nofun, nofun, nofun, nofun, nofun, nofun, nofun, nofun, nofun, nofun, nofun, nofun, nofun, nofun, nofun, nofun, nofun, nofun, nofun, nofun, nofun, nofun, nofun, nofun, nofun, nofun, nofun, nofun, nofun, nofun⟩⟩
  · intro i o S aa W hin hi hun hJ hall K hK
    obtain ⟨x3, x4, x5, x6, x7, x8, x9, x10, x11, x12, x13, x14, x15, x16, x17, x18, x19, x20, x21, x22, x23, x24, x25, x26, x27, x28, x29, x30, x31, x32, x33, x34, x35, x36, x37, x38, x39, rfl, h⟩ := hJ
    have hlt : i < 37 := hin
    have hcase : i = 0 ∨ i = 1 ∨ i = 2 ∨ i = 3 ∨ i = 4 ∨ i = 5 ∨ i = 6 ∨ i = 7 ∨ i = 8 ∨ i = 9 ∨ i = 10 ∨ i = 11 ∨ i = 12 ∨ i = 13 ∨ i = 14 ∨ i = 15 ∨ i = 16 ∨ i = 17 ∨ i = 18 ∨ i = 19 ∨ i = 20 ∨ i = 21 ∨ i = 22 ∨ i = 23 ∨ i = 24 ∨ i = 25 ∨ i = 26 ∨ i = 27 ∨ i = 28 ∨ i = 29 ∨ i = 30 ∨ i = 31 ∨ i = 32 ∨ i = 33 ∨ i = 34 ∨ i = 35 ∨ i = 36 := by omega
    rcases hcase with rfl | rfl | rfl | rfl | rfl | rfl | rfl | rfl | rfl | rfl | rfl | rfl | rfl | rfl | rfl | rfl | rfl | rfl | rfl | rfl | rfl | rfl | rfl | rfl | rfl | rfl | rfl | rfl | rfl | rfl | rfl | rfl | rfl | rfl | rfl | rfl | rfl
    all_goals (have ho := (Option.some.inj hi).symm; subst ho; clear hi hlt hin)
    · go_simp
      exact hK _ _ ⟨_, x4, x5, x6, x7, x8, x9, x10, x11, x12, x13, x14, x15, x16, x17, x18, x19, x20, x21, x22, x23, x24, x25, x26, x27, x28, x29, x30, x31, x32, x33, x34, x35, x36, x37, x38, x39, rfl, ⟨h.e, fun _ => rfl, h.f1, h.f2, h.f3, h.f4, h.f5, h.f6, h.f7, h.f8, h.f9, h.f10, h.f11, h.f12, h.f13, h.f14, h.f15, h.f16, h.f17, h.f18, h.f19, h.f20, h.f21, h.f22, h.f23, h.f24, h.f25, h.f26, h.f27, h.f28, h.f29, h.f30, h.f31, h.f32, h.f33, h.f34, h.f35, h.f36⟩⟩
    · have s_0 : S 0 = true := hall ⟨0, .data⟩ (by simp) rfl
      obtain rfl := h.f0 s_0
      go_simp
      exact hK _ _ ⟨_, _, x5, x6, x7, x8, x9, x10, x11, x12, x13, x14, x15, x16, x17, x18, x19, x20, x21, x22, x23, x24, x25, x26, x27, x28, x29, x30, x31, x32, x33, x34, x35, x36, x37, x38, x39, rfl, ⟨h.e, h.f0, fun _ => rfl, h.f2, h.f3, h.f4, h.f5, h.f6, h.f7, h.f8, h.f9, h.f10, h.f11, h.f12, h.f13, h.f14, h.f15, h.f16, h.f17, h.f18, h.f19, h.f20, h.f21, h.f22, h.f23, h.f24, h.f25, h.f26, h.f27, h.f28, h.f29, h.f30, h.f31, h.f32, h.f33, h.f34, h.f35, h.f36⟩⟩
    · have s_1 : S 1 = true := hall ⟨1, .data⟩ (by simp) rfl
      obtain rfl := h.f1 s_1
      go_simp
      exact hK _ _ ⟨x3, _, _, x6, x7, x8, x9, x10, x11, x12, x13, x14, x15, x16, x17, x18, x19, x20, x21, x22, x23, x24, x25, x26, x27, x28, x29, x30, x31, x32, x33, x34, x35, x36, x37, x38, x39, rfl, ⟨h.e, h.f0, h.f1, fun _ => rfl, h.f3, h.f4, h.f5, h.f6, h.f7, h.f8, h.f9, h.f10, h.f11, h.f12, h.f13, h.f14, h.f15, h.f16, h.f17, h.f18, h.f19, h.f20, h.f21, h.f22, h.f23, h.f24, h.f25, h.f26, h.f27, h.f28, h.f29, h.f30, h.f31, h.f32, h.f33, h.f34, h.f35, h.f36⟩⟩
    · have s_2 : S 2 = true := hall ⟨2, .data⟩ (by simp) rfl
      obtain rfl := h.f2 s_2
      go_simp
      refine (light_any q 0 W).mono ?_
      rintro e w5 ⟨a5, rfl, k1, hb5⟩
      have h1 := h.grow hb5
      exact hK _ _ ⟨x3, x4, _, _, x7, x8, x9, x10, x11, x12, x13, x14, x15, x16, x17, x18, x19, x20, x21, x22, x23, x24, x25, x26, x27, x28, x29, x30, x31, x32, x33, x34, x35, x36, x37, x38, x39, rfl, ⟨h1.e, h1.f0, h1.f1, h1.f2, fun _ => ⟨a5, rfl, skRow_of (fun b hb => ⟨⟨Nat.le_trans h.e.size hb.1, hb.2⟩, fun _ => rfl⟩) _ _ _ k1⟩, h1.f4, h1.f5, h1.f6, h1.f7, h1.f8, h1.f9, h1.f10, h1.f11, h1.f12, h1.f13, h1.f14, h1.f15, h1.f16, h1.f17, h1.f18, h1.f19, h1.f20, h1.f21, h1.f22, h1.f23, h1.f24, h1.f25, h1.f26, h1.f27, h1.f28, h1.f29, h1.f30, h1.f31, h1.f32, h1.f33, h1.f34, h1.f35, h1.f36⟩⟩
    · go_simp
      exact hK _ _ ⟨x3, x4, x5, x6, _, x8, x9, x10, x11, x12, x13, x14, x15, x16, x17, x18, x19, x20, x21, x22, x23, x24, x25, x26, x27, x28, x29, x30, x31, x32, x33, x34, x35, x36, x37, x38, x39, rfl, ⟨h.e, h.f0, h.f1, h.f2, h.f3, fun _ => rfl, h.f5, h.f6, h.f7, h.f8, h.f9, h.f10, h.f11, h.f12, h.f13, h.f14, h.f15, h.f16, h.f17, h.f18, h.f19, h.f20, h.f21, h.f22, h.f23, h.f24, h.f25, h.f26, h.f27, h.f28, h.f29, h.f30, h.f31, h.f32, h.f33, h.f34, h.f35, h.f36⟩⟩
    · have s_4 : S 4 = true := hall ⟨4, .data⟩ (by simp) rfl
      obtain rfl := h.f4 s_4
      go_simp
      exact hK _ _ ⟨x3, x4, x5, x6, _, _, x9, x10, x11, x12, x13, x14, x15, x16, x17, x18, x19, x20, x21, x22, x23, x24, x25, x26, x27, x28, x29, x30, x31, x32, x33, x34, x35, x36, x37, x38, x39, rfl, ⟨h.e, h.f0, h.f1, h.f2, h.f3, h.f4, fun _ => rfl, h.f6, h.f7, h.f8, h.f9, h.f10, h.f11, h.f12, h.f13, h.f14, h.f15, h.f16, h.f17, h.f18, h.f19, h.f20, h.f21, h.f22, h.f23, h.f24, h.f25, h.f26, h.f27, h.f28, h.f29, h.f30, h.f31, h.f32, h.f33, h.f34, h.f35, h.f36⟩⟩
    · have s_5 : S 5 = true := hall ⟨5, .data⟩ (by simp) rfl
      obtain rfl := h.f5 s_5
      go_simp
      exact hK _ _ ⟨x3, x4, x5, x6, x7, _, _, x10, x11, x12, x13, x14, x15, x16, x17, x18, x19, x20, x21, x22, x23, x24, x25, x26, x27, x28, x29, x30, x31, x32, x33, x34, x35, x36, x37, x38, x39, rfl, ⟨h.e, h.f0, h.f1, h.f2, h.f3, h.f4, h.f5, fun _ => rfl, h.f7, h.f8, h.f9, h.f10, h.f11, h.f12, h.f13, h.f14, h.f15, h.f16, h.f17, h.f18, h.f19, h.f20, h.f21, h.f22, h.f23, h.f24, h.f25, h.f26, h.f27, h.f28, h.f29, h.f30, h.f31, h.f32, h.f33, h.f34, h.f35, h.f36⟩⟩
    · have s_6 : S 6 = true := hall ⟨6, .data⟩ (by simp) rfl
      obtain rfl := h.f6 s_6
      go_simp
      refine (committee_any q 9 W).mono ?_
      rintro e w5 ⟨a5, rfl, k1, hb5⟩
      have h1 := h.grow hb5
      exact hK _ _ ⟨x3, x4, x5, x6, x7, x8, _, _, x11, x12, x13, x14, x15, x16, x17, x18, x19, x20, x21, x22, x23, x24, x25, x26, x27, x28, x29, x30, x31, x32, x33, x34, x35, x36, x37, x38, x39, rfl, ⟨h1.e, h1.f0, h1.f1, h1.f2, h1.f3, h1.f4, h1.f5, h1.f6, fun _ => ⟨a5, rfl, skRow_of (fun b hb => ⟨⟨Nat.le_trans h.e.size hb.1, hb.2⟩, fun _ => rfl⟩) _ _ _ k1⟩, h1.f8, h1.f9, h1.f10, h1.f11, h1.f12, h1.f13, h1.f14, h1.f15, h1.f16, h1.f17, h1.f18, h1.f19, h1.f20, h1.f21, h1.f22, h1.f23, h1.f24, h1.f25, h1.f26, h1.f27, h1.f28, h1.f29, h1.f30, h1.f31, h1.f32, h1.f33, h1.f34, h1.f35, h1.f36⟩⟩
    · go_simp
      exact hK _ _ ⟨x3, x4, x5, x6, x7, x8, x9, x10, _, x12, x13, x14, x15, x16, x17, x18, x19, x20, x21, x22, x23, x24, x25, x26, x27, x28, x29, x30, x31, x32, x33, x34, x35, x36, x37, x38, x39, rfl, ⟨h.e, h.f0, h.f1, h.f2, h.f3, h.f4, h.f5, h.f6, h.f7, fun _ => rfl, h.f9, h.f10, h.f11, h.f12, h.f13, h.f14, h.f15, h.f16, h.f17, h.f18, h.f19, h.f20, h.f21, h.f22, h.f23, h.f24, h.f25, h.f26, h.f27, h.f28, h.f29, h.f30, h.f31, h.f32, h.f33, h.f34, h.f35, h.f36⟩⟩
    · have s_8 : S 8 = true := hall ⟨8, .data⟩ (by simp) rfl
      obtain rfl := h.f8 s_8
      go_simp
      exact hK _ _ ⟨x3, x4, x5, x6, x7, x8, x9, x10, _, _, x13, x14, x15, x16, x17, x18, x19, x20, x21, x22, x23, x24, x25, x26, x27, x28, x29, x30, x31, x32, x33, x34, x35, x36, x37, x38, x39, rfl, ⟨h.e, h.f0, h.f1, h.f2, h.f3, h.f4, h.f5, h.f6, h.f7, h.f8, fun _ => rfl, h.f10, h.f11, h.f12, h.f13, h.f14, h.f15, h.f16, h.f17, h.f18, h.f19, h.f20, h.f21, h.f22, h.f23, h.f24, h.f25, h.f26, h.f27, h.f28, h.f29, h.f30, h.f31, h.f32, h.f33, h.f34, h.f35, h.f36⟩⟩
    · have s_9 : S 9 = true := hall ⟨9, .data⟩ (by simp) rfl
      obtain rfl := h.f9 s_9
      go_simp
      exact hK _ _ ⟨x3, x4, x5, x6, x7, x8, x9, x10, x11, _, _, x14, x15, x16, x17, x18, x19, x20, x21, x22, x23, x24, x25, x26, x27, x28, x29, x30, x31, x32, x33, x34, x35, x36, x37, x38, x39, rfl, ⟨h.e, h.f0, h.f1, h.f2, h.f3, h.f4, h.f5, h.f6, h.f7, h.f8, h.f9, fun _ => rfl, h.f11, h.f12, h.f13, h.f14, h.f15, h.f16, h.f17, h.f18, h.f19, h.f20, h.f21, h.f22, h.f23, h.f24, h.f25, h.f26, h.f27, h.f28, h.f29, h.f30, h.f31, h.f32, h.f33, h.f34, h.f35, h.f36⟩⟩
    · have s_10 : S 10 = true := hall ⟨10, .data⟩ (by simp) rfl
      obtain rfl := h.f10 s_10
      go_simp
      exact hK _ _ ⟨x3, x4, x5, x6, x7, x8, x9, x10, x11, x12, _, _, x15, x16, x17, x18, x19, x20, x21, x22, x23, x24, x25, x26, x27, x28, x29, x30, x31, x32, x33, x34, x35, x36, x37, x38, x39, rfl, ⟨h.e, h.f0, h.f1, h.f2, h.f3, h.f4, h.f5, h.f6, h.f7, h.f8, h.f9, h.f10, fun _ => rfl, h.f12, h.f13, h.f14, h.f15, h.f16, h.f17, h.f18, h.f19, h.f20, h.f21, h.f22, h.f23, h.f24, h.f25, h.f26, h.f27, h.f28, h.f29, h.f30, h.f31, h.f32, h.f33, h.f34, h.f35, h.f36⟩⟩
    · have s_11 : S 11 = true := hall ⟨11, .data⟩ (by simp) rfl
      obtain rfl := h.f11 s_11
      go_simp
      exact hK _ _ ⟨x3, x4, x5, x6, x7, x8, x9, x10, x11, x12, x13, _, _, x16, x17, x18, x19, x20, x21, x22, x23, x24, x25, x26, x27, x28, x29, x30, x31, x32, x33, x34, x35, x36, x37, x38, x39, rfl, ⟨h.e, h.f0, h.f1, h.f2, h.f3, h.f4, h.f5, h.f6, h.f7, h.f8, h.f9, h.f10, h.f11, fun _ => rfl, h.f13, h.f14, h.f15, h.f16, h.f17, h.f18, h.f19, h.f20, h.f21, h.f22, h.f23, h.f24, h.f25, h.f26, h.f27, h.f28, h.f29, h.f30, h.f31, h.f32, h.f33, h.f34, h.f35, h.f36⟩⟩
    · go_simp
      exact hK _ _ ⟨x3, x4, x5, x6, x7, x8, x9, x10, x11, x12, x13, x14, x15, _, x17, x18, x19, x20, x21, x22, x23, x24, x25, x26, x27, x28, x29, x30, x31, x32, x33, x34, x35, x36, x37, x38, x39, rfl, ⟨h.e, h.f0, h.f1, h.f2, h.f3, h.f4, h.f5, h.f6, h.f7, h.f8, h.f9, h.f10, h.f11, h.f12, fun _ => rfl, h.f14, h.f15, h.f16, h.f17, h.f18, h.f19, h.f20, h.f21, h.f22, h.f23, h.f24, h.f25, h.f26, h.f27, h.f28, h.f29, h.f30, h.f31, h.f32, h.f33, h.f34, h.f35, h.f36⟩⟩
    · have s_13 : S 13 = true := hall ⟨13, .data⟩ (by simp) rfl
      obtain rfl := h.f13 s_13
      go_simp
      exact hK _ _ ⟨x3, x4, x5, x6, x7, x8, x9, x10, x11, x12, x13, x14, x15, _, _, x18, x19, x20, x21, x22, x23, x24, x25, x26, x27, x28, x29, x30, x31, x32, x33, x34, x35, x36, x37, x38, x39, rfl, ⟨h.e, h.f0, h.f1, h.f2, h.f3, h.f4, h.f5, h.f6, h.f7, h.f8, h.f9, h.f10, h.f11, h.f12, h.f13, fun _ => rfl, h.f15, h.f16, h.f17, h.f18, h.f19, h.f20, h.f21, h.f22, h.f23, h.f24, h.f25, h.f26, h.f27, h.f28, h.f29, h.f30, h.f31, h.f32, h.f33, h.f34, h.f35, h.f36⟩⟩
    · have s_14 : S 14 = true := hall ⟨14, .data⟩ (by simp) rfl
      obtain rfl := h.f14 s_14
      go_simp
      exact hK _ _ ⟨x3, x4, x5, x6, x7, x8, x9, x10, x11, x12, x13, x14, x15, x16, _, _, x19, x20, x21, x22, x23, x24, x25, x26, x27, x28, x29, x30, x31, x32, x33, x34, x35, x36, x37, x38, x39, rfl, ⟨h.e, h.f0, h.f1, h.f2, h.f3, h.f4, h.f5, h.f6, h.f7, h.f8, h.f9, h.f10, h.f11, h.f12, h.f13, h.f14, fun _ => rfl, h.f16, h.f17, h.f18, h.f19, h.f20, h.f21, h.f22, h.f23, h.f24, h.f25, h.f26, h.f27, h.f28, h.f29, h.f30, h.f31, h.f32, h.f33, h.f34, h.f35, h.f36⟩⟩
    · have s_15 : S 15 = true := hall ⟨15, .data⟩ (by simp) rfl
      obtain rfl := h.f15 s_15
      go_simp
      refine (light_any q 12 W).mono ?_
      rintro e w5 ⟨a5, rfl, k1, hb5⟩
      have h1 := h.grow hb5
      exact hK _ _ ⟨x3, x4, x5, x6, x7, x8, x9, x10, x11, x12, x13, x14, x15, x16, x17, _, _, x20, x21, x22, x23, x24, x25, x26, x27, x28, x29, x30, x31, x32, x33, x34, x35, x36, x37, x38, x39, rfl, ⟨h1.e, h1.f0, h1.f1, h1.f2, h1.f3, h1.f4, h1.f5, h1.f6, h1.f7, h1.f8, h1.f9, h1.f10, h1.f11, h1.f12, h1.f13, h1.f14, h1.f15, fun _ => ⟨a5, rfl, skRow_of (fun b hb => ⟨⟨Nat.le_trans h.e.size hb.1, hb.2⟩, fun _ => rfl⟩) _ _ _ k1⟩, h1.f17, h1.f18, h1.f19, h1.f20, h1.f21, h1.f22, h1.f23, h1.f24, h1.f25, h1.f26, h1.f27, h1.f28, h1.f29, h1.f30, h1.f31, h1.f32, h1.f33, h1.f34, h1.f35, h1.f36⟩⟩
    · go_simp
      exact hK _ _ ⟨x3, x4, x5, x6, x7, x8, x9, x10, x11, x12, x13, x14, x15, x16, x17, x18, x19, _, x21, x22, x23, x24, x25, x26, x27, x28, x29, x30, x31, x32, x33, x34, x35, x36, x37, x38, x39, rfl, ⟨h.e, h.f0, h.f1, h.f2, h.f3, h.f4, h.f5, h.f6, h.f7, h.f8, h.f9, h.f10, h.f11, h.f12, h.f13, h.f14, h.f15, h.f16, fun _ => rfl, h.f18, h.f19, h.f20, h.f21, h.f22, h.f23, h.f24, h.f25, h.f26, h.f27, h.f28, h.f29, h.f30, h.f31, h.f32, h.f33, h.f34, h.f35, h.f36⟩⟩
    · have s_17 : S 17 = true := hall ⟨17, .data⟩ (by simp) rfl
      obtain rfl := h.f17 s_17
      go_simp
      exact hK _ _ ⟨x3, x4, x5, x6, x7, x8, x9, x10, x11, x12, x13, x14, x15, x16, x17, x18, x19, _, _, x22, x23, x24, x25, x26, x27, x28, x29, x30, x31, x32, x33, x34, x35, x36, x37, x38, x39, rfl, ⟨h.e, h.f0, h.f1, h.f2, h.f3, h.f4, h.f5, h.f6, h.f7, h.f8, h.f9, h.f10, h.f11, h.f12, h.f13, h.f14, h.f15, h.f16, h.f17, fun _ => rfl, h.f19, h.f20, h.f21, h.f22, h.f23, h.f24, h.f25, h.f26, h.f27, h.f28, h.f29, h.f30, h.f31, h.f32, h.f33, h.f34, h.f35, h.f36⟩⟩
    · have s_18 : S 18 = true := hall ⟨18, .data⟩ (by simp) rfl
      obtain rfl := h.f18 s_18
      go_simp
      exact hK _ _ ⟨x3, x4, x5, x6, x7, x8, x9, x10, x11, x12, x13, x14, x15, x16, x17, x18, x19, x20, _, _, x23, x24, x25, x26, x27, x28, x29, x30, x31, x32, x33, x34, x35, x36, x37, x38, x39, rfl, ⟨h.e, h.f0, h.f1, h.f2, h.f3, h.f4, h.f5, h.f6, h.f7, h.f8, h.f9, h.f10, h.f11, h.f12, h.f13, h.f14, h.f15, h.f16, h.f17, h.f18, fun _ => rfl, h.f20, h.f21, h.f22, h.f23, h.f24, h.f25, h.f26, h.f27, h.f28, h.f29, h.f30, h.f31, h.f32, h.f33, h.f34, h.f35, h.f36⟩⟩
    · have s_19 : S 19 = true := hall ⟨19, .data⟩ (by simp) rfl
      obtain rfl := h.f19 s_19
      go_simp
      exact hK _ _ ⟨x3, x4, x5, x6, x7, x8, x9, x10, x11, x12, x13, x14, x15, x16, x17, x18, x19, x20, x21, _, _, x24, x25, x26, x27, x28, x29, x30, x31, x32, x33, x34, x35, x36, x37, x38, x39, rfl, ⟨h.e, h.f0, h.f1, h.f2, h.f3, h.f4, h.f5, h.f6, h.f7, h.f8, h.f9, h.f10, h.f11, h.f12, h.f13, h.f14, h.f15, h.f16, h.f17, h.f18, h.f19, fun _ => rfl, h.f21, h.f22, h.f23, h.f24, h.f25, h.f26, h.f27, h.f28, h.f29, h.f30, h.f31, h.f32, h.f33, h.f34, h.f35, h.f36⟩⟩
    · have s_20 : S 20 = true := hall ⟨20, .data⟩ (by simp) rfl
      obtain rfl := h.f20 s_20
      go_simp
      exact hK _ _ ⟨x3, x4, x5, x6, x7, x8, x9, x10, x11, x12, x13, x14, x15, x16, x17, x18, x19, x20, x21, x22, _, _, x25, x26, x27, x28, x29, x30, x31, x32, x33, x34, x35, x36, x37, x38, x39, rfl, ⟨h.e, h.f0, h.f1, h.f2, h.f3, h.f4, h.f5, h.f6, h.f7, h.f8, h.f9, h.f10, h.f11, h.f12, h.f13, h.f14, h.f15, h.f16, h.f17, h.f18, h.f19, h.f20, fun _ => rfl, h.f22, h.f23, h.f24, h.f25, h.f26, h.f27, h.f28, h.f29, h.f30, h.f31, h.f32, h.f33, h.f34, h.f35, h.f36⟩⟩
    · go_simp
      exact hK _ _ ⟨x3, x4, x5, x6, x7, x8, x9, x10, x11, x12, x13, x14, x15, x16, x17, x18, x19, x20, x21, x22, x23, x24, _, x26, x27, x28, x29, x30, x31, x32, x33, x34, x35, x36, x37, x38, x39, rfl, ⟨h.e, h.f0, h.f1, h.f2, h.f3, h.f4, h.f5, h.f6, h.f7, h.f8, h.f9, h.f10, h.f11, h.f12, h.f13, h.f14, h.f15, h.f16, h.f17, h.f18, h.f19, h.f20, h.f21, fun _ => rfl, h.f23, h.f24, h.f25, h.f26, h.f27, h.f28, h.f29, h.f30, h.f31, h.f32, h.f33, h.f34, h.f35, h.f36⟩⟩
    · have s_22 : S 22 = true := hall ⟨22, .data⟩ (by simp) rfl
      obtain rfl := h.f22 s_22
      go_simp
      exact hK _ _ ⟨x3, x4, x5, x6, x7, x8, x9, x10, x11, x12, x13, x14, x15, x16, x17, x18, x19, x20, x21, x22, x23, x24, _, _, x27, x28, x29, x30, x31, x32, x33, x34, x35, x36, x37, x38, x39, rfl, ⟨h.e, h.f0, h.f1, h.f2, h.f3, h.f4, h.f5, h.f6, h.f7, h.f8, h.f9, h.f10, h.f11, h.f12, h.f13, h.f14, h.f15, h.f16, h.f17, h.f18, h.f19, h.f20, h.f21, h.f22, fun _ => rfl, h.f24, h.f25, h.f26, h.f27, h.f28, h.f29, h.f30, h.f31, h.f32, h.f33, h.f34, h.f35, h.f36⟩⟩
    · have s_23 : S 23 = true := hall ⟨23, .data⟩ (by simp) rfl
      obtain rfl := h.f23 s_23
      go_simp
      exact hK _ _ ⟨x3, x4, x5, x6, x7, x8, x9, x10, x11, x12, x13, x14, x15, x16, x17, x18, x19, x20, x21, x22, x23, x24, x25, _, _, x28, x29, x30, x31, x32, x33, x34, x35, x36, x37, x38, x39, rfl, ⟨h.e, h.f0, h.f1, h.f2, h.f3, h.f4, h.f5, h.f6, h.f7, h.f8, h.f9, h.f10, h.f11, h.f12, h.f13, h.f14, h.f15, h.f16, h.f17, h.f18, h.f19, h.f20, h.f21, h.f22, h.f23, fun _ => rfl, h.f25, h.f26, h.f27, h.f28, h.f29, h.f30, h.f31, h.f32, h.f33, h.f34, h.f35, h.f36⟩⟩
    · have s_24 : S 24 = true := hall ⟨24, .data⟩ (by simp) rfl
      obtain rfl := h.f24 s_24
      go_simp
      exact hK _ _ ⟨x3, x4, x5, x6, x7, x8, x9, x10, x11, x12, x13, x14, x15, x16, x17, x18, x19, x20, x21, x22, x23, x24, x25, x26, _, _, x29, x30, x31, x32, x33, x34, x35, x36, x37, x38, x39, rfl, ⟨h.e, h.f0, h.f1, h.f2, h.f3, h.f4, h.f5, h.f6, h.f7, h.f8, h.f9, h.f10, h.f11, h.f12, h.f13, h.f14, h.f15, h.f16, h.f17, h.f18, h.f19, h.f20, h.f21, h.f22, h.f23, h.f24, fun _ => rfl, h.f26, h.f27, h.f28, h.f29, h.f30, h.f31, h.f32, h.f33, h.f34, h.f35, h.f36⟩⟩
    · have s_25 : S 25 = true := hall ⟨25, .data⟩ (by simp) rfl
      obtain rfl := h.f25 s_25
      go_simp
      exact hK _ _ ⟨x3, x4, x5, x6, x7, x8, x9, x10, x11, x12, x13, x14, x15, x16, x17, x18, x19, x20, x21, x22, x23, x24, x25, x26, x27, _, _, x30, x31, x32, x33, x34, x35, x36, x37, x38, x39, rfl, ⟨h.e, h.f0, h.f1, h.f2, h.f3, h.f4, h.f5, h.f6, h.f7, h.f8, h.f9, h.f10, h.f11, h.f12, h.f13, h.f14, h.f15, h.f16, h.f17, h.f18, h.f19, h.f20, h.f21, h.f22, h.f23, h.f24, h.f25, fun _ => rfl, h.f27, h.f28, h.f29, h.f30, h.f31, h.f32, h.f33, h.f34, h.f35, h.f36⟩⟩
    · go_simp
      exact hK _ _ ⟨x3, x4, x5, x6, x7, x8, x9, x10, x11, x12, x13, x14, x15, x16, x17, x18, x19, x20, x21, x22, x23, x24, x25, x26, x27, x28, x29, _, x31, x32, x33, x34, x35, x36, x37, x38, x39, rfl, ⟨h.e, h.f0, h.f1, h.f2, h.f3, h.f4, h.f5, h.f6, h.f7, h.f8, h.f9, h.f10, h.f11, h.f12, h.f13, h.f14, h.f15, h.f16, h.f17, h.f18, h.f19, h.f20, h.f21, h.f22, h.f23, h.f24, h.f25, h.f26, fun _ => rfl, h.f28, h.f29, h.f30, h.f31, h.f32, h.f33, h.f34, h.f35, h.f36⟩⟩
    · have s_27 : S 27 = true := hall ⟨27, .data⟩ (by simp) rfl
      obtain rfl := h.f27 s_27
      go_simp
      exact hK _ _ ⟨x3, x4, x5, x6, x7, x8, x9, x10, x11, x12, x13, x14, x15, x16, x17, x18, x19, x20, x21, x22, x23, x24, x25, x26, x27, x28, x29, _, _, x32, x33, x34, x35, x36, x37, x38, x39, rfl, ⟨h.e, h.f0, h.f1, h.f2, h.f3, h.f4, h.f5, h.f6, h.f7, h.f8, h.f9, h.f10, h.f11, h.f12, h.f13, h.f14, h.f15, h.f16, h.f17, h.f18, h.f19, h.f20, h.f21, h.f22, h.f23, h.f24, h.f25, h.f26, h.f27, fun _ => rfl, h.f29, h.f30, h.f31, h.f32, h.f33, h.f34, h.f35, h.f36⟩⟩
    · have s_28 : S 28 = true := hall ⟨28, .data⟩ (by simp) rfl
      obtain rfl := h.f28 s_28
      go_simp
      exact hK _ _ ⟨x3, x4, x5, x6, x7, x8, x9, x10, x11, x12, x13, x14, x15, x16, x17, x18, x19, x20, x21, x22, x23, x24, x25, x26, x27, x28, x29, x30, _, _, x33, x34, x35, x36, x37, x38, x39, rfl, ⟨h.e, h.f0, h.f1, h.f2, h.f3, h.f4, h.f5, h.f6, h.f7, h.f8, h.f9, h.f10, h.f11, h.f12, h.f13, h.f14, h.f15, h.f16, h.f17, h.f18, h.f19, h.f20, h.f21, h.f22, h.f23, h.f24, h.f25, h.f26, h.f27, h.f28, fun _ => rfl, h.f30, h.f31, h.f32, h.f33, h.f34, h.f35, h.f36⟩⟩
    · have s_29 : S 29 = true := hall ⟨29, .data⟩ (by simp) rfl
      obtain rfl := h.f29 s_29
      go_simp
      exact hK _ _ ⟨x3, x4, x5, x6, x7, x8, x9, x10, x11, x12, x13, x14, x15, x16, x17, x18, x19, x20, x21, x22, x23, x24, x25, x26, x27, x28, x29, x30, x31, _, _, x34, x35, x36, x37, x38, x39, rfl, ⟨h.e, h.f0, h.f1, h.f2, h.f3, h.f4, h.f5, h.f6, h.f7, h.f8, h.f9, h.f10, h.f11, h.f12, h.f13, h.f14, h.f15, h.f16, h.f17, h.f18, h.f19, h.f20, h.f21, h.f22, h.f23, h.f24, h.f25, h.f26, h.f27, h.f28, h.f29, fun _ => rfl, h.f31, h.f32, h.f33, h.f34, h.f35, h.f36⟩⟩
    · have s_30 : S 30 = true := hall ⟨30, .data⟩ (by simp) rfl
      obtain rfl := h.f30 s_30
      go_simp
      exact hK _ _ ⟨x3, x4, x5, x6, x7, x8, x9, x10, x11, x12, x13, x14, x15, x16, x17, x18, x19, x20, x21, x22, x23, x24, x25, x26, x27, x28, x29, x30, x31, x32, _, _, x35, x36, x37, x38, x39, rfl, ⟨h.e, h.f0, h.f1, h.f2, h.f3, h.f4, h.f5, h.f6, h.f7, h.f8, h.f9, h.f10, h.f11, h.f12, h.f13, h.f14, h.f15, h.f16, h.f17, h.f18, h.f19, h.f20, h.f21, h.f22, h.f23, h.f24, h.f25, h.f26, h.f27, h.f28, h.f29, h.f30, fun _ => rfl, h.f32, h.f33, h.f34, h.f35, h.f36⟩⟩
    · go_simp
      exact hK _ _ ⟨x3, x4, x5, x6, x7, x8, x9, x10, x11, x12, x13, x14, x15, x16, x17, x18, x19, x20, x21, x22, x23, x24, x25, x26, x27, x28, x29, x30, x31, x32, x33, x34, _, x36, x37, x38, x39, rfl, ⟨h.e, h.f0, h.f1, h.f2, h.f3, h.f4, h.f5, h.f6, h.f7, h.f8, h.f9, h.f10, h.f11, h.f12, h.f13, h.f14, h.f15, h.f16, h.f17, h.f18, h.f19, h.f20, h.f21, h.f22, h.f23, h.f24, h.f25, h.f26, h.f27, h.f28, h.f29, h.f30, h.f31, fun _ => rfl, h.f33, h.f34, h.f35, h.f36⟩⟩
    · have s_32 : S 32 = true := hall ⟨32, .data⟩ (by simp) rfl
      obtain rfl := h.f32 s_32
      go_simp
      exact hK _ _ ⟨x3, x4, x5, x6, x7, x8, x9, x10, x11, x12, x13, x14, x15, x16, x17, x18, x19, x20, x21, x22, x23, x24, x25, x26, x27, x28, x29, x30, x31, x32, x33, x34, _, _, x37, x38, x39, rfl, ⟨h.e, h.f0, h.f1, h.f2, h.f3, h.f4, h.f5, h.f6, h.f7, h.f8, h.f9, h.f10, h.f11, h.f12, h.f13, h.f14, h.f15, h.f16, h.f17, h.f18, h.f19, h.f20, h.f21, h.f22, h.f23, h.f24, h.f25, h.f26, h.f27, h.f28, h.f29, h.f30, h.f31, h.f32, fun _ => rfl, h.f34, h.f35, h.f36⟩⟩
    · have s_33 : S 33 = true := hall ⟨33, .data⟩ (by simp) rfl
      obtain rfl := h.f33 s_33
      go_simp
      exact hK _ _ ⟨x3, x4, x5, x6, x7, x8, x9, x10, x11, x12, x13, x14, x15, x16, x17, x18, x19, x20, x21, x22, x23, x24, x25, x26, x27, x28, x29, x30, x31, x32, x33, x34, x35, _, _, x38, x39, rfl, ⟨h.e, h.f0, h.f1, h.f2, h.f3, h.f4, h.f5, h.f6, h.f7, h.f8, h.f9, h.f10, h.f11, h.f12, h.f13, h.f14, h.f15, h.f16, h.f17, h.f18, h.f19, h.f20, h.f21, h.f22, h.f23, h.f24, h.f25, h.f26, h.f27, h.f28, h.f29, h.f30, h.f31, h.f32, h.f33, fun _ => rfl, h.f35, h.f36⟩⟩
    · have s_34 : S 34 = true := hall ⟨34, .data⟩ (by simp) rfl
      obtain rfl := h.f34 s_34
      go_simp
      exact hK _ _ ⟨x3, x4, x5, x6, x7, x8, x9, x10, x11, x12, x13, x14, x15, x16, x17, x18, x19, x20, x21, x22, x23, x24, x25, x26, x27, x28, x29, x30, x31, x32, x33, x34, x35, x36, _, _, x39, rfl, ⟨h.e, h.f0, h.f1, h.f2, h.f3, h.f4, h.f5, h.f6, h.f7, h.f8, h.f9, h.f10, h.f11, h.f12, h.f13, h.f14, h.f15, h.f16, h.f17, h.f18, h.f19, h.f20, h.f21, h.f22, h.f23, h.f24, h.f25, h.f26, h.f27, h.f28, h.f29, h.f30, h.f31, h.f32, h.f33, h.f34, fun _ => rfl, h.f36⟩⟩
    · have s_35 : S 35 = true := hall ⟨35, .data⟩ (by simp) rfl
      obtain rfl := h.f35 s_35
      go_simp
      exact hK _ _ ⟨x3, x4, x5, x6, x7, x8, x9, x10, x11, x12, x13, x14, x15, x16, x17, x18, x19, x20, x21, x22, x23, x24, x25, x26, x27, x28, x29, x30, x31, x32, x33, x34, x35, x36, x37, _, _, rfl, ⟨h.e, h.f0, h.f1, h.f2, h.f3, h.f4, h.f5, h.f6, h.f7, h.f8, h.f9, h.f10, h.f11, h.f12, h.f13, h.f14, h.f15, h.f16, h.f17, h.f18, h.f19, h.f20, h.f21, h.f22, h.f23, h.f24, h.f25, h.f26, h.f27, h.f28, h.f29, h.f30, h.f31, h.f32, h.f33, h.f34, h.f35, fun _ => rfl⟩⟩
  · rintro S aa W hall ⟨x3, x4, x5, x6, x7, x8, x9, x10, x11, x12, x13, x14, x15, x16, x17, x18, x19, x20, x21, x22, x23, x24, x25, x26, x27, x28, x29, x30, x31, x32, x33, x34, x35, x36, x37, x38, x39, rfl, h⟩
    obtain rfl := h.f0 (hall 0 (by decide))
    obtain rfl := h.f1 (hall 1 (by decide))
    obtain rfl := h.f2 (hall 2 (by decide))
    obtain ⟨a0, rfl, hk0⟩ := h.f3 (hall 3 (by decide))
    obtain rfl := h.f4 (hall 4 (by decide))
    obtain rfl := h.f5 (hall 5 (by decide))
    obtain rfl := h.f6 (hall 6 (by decide))
    obtain ⟨a1, rfl, hk1⟩ := h.f7 (hall 7 (by decide))
    obtain rfl := h.f8 (hall 8 (by decide))
    obtain rfl := h.f9 (hall 9 (by decide))
    obtain rfl := h.f10 (hall 10 (by decide))
    obtain rfl := h.f11 (hall 11 (by decide))
    obtain rfl := h.f12 (hall 12 (by decide))
    obtain rfl := h.f13 (hall 13 (by decide))
    obtain rfl := h.f14 (hall 14 (by decide))
    obtain rfl := h.f15 (hall 15 (by decide))
    obtain ⟨a3, rfl, hk3⟩ := h.f16 (hall 16 (by decide))
    obtain rfl := h.f17 (hall 17 (by decide))
    obtain rfl := h.f18 (hall 18 (by decide))
    obtain rfl := h.f19 (hall 19 (by decide))
    obtain rfl := h.f20 (hall 20 (by decide))
    obtain rfl := h.f21 (hall 21 (by decide))
    obtain rfl := h.f22 (hall 22 (by decide))
    obtain rfl := h.f23 (hall 23 (by decide))
    obtain rfl := h.f24 (hall 24 (by decide))
    obtain rfl := h.f25 (hall 25 (by decide))
    obtain rfl := h.f26 (hall 26 (by decide))
    obtain rfl := h.f27 (hall 27 (by decide))
    obtain rfl := h.f28 (hall 28 (by decide))
    obtain rfl := h.f29 (hall 29 (by decide))
    obtain rfl := h.f30 (hall 30 (by decide))
    obtain rfl := h.f31 (hall 31 (by decide))
    obtain rfl := h.f32 (hall 32 (by decide))
    obtain rfl := h.f33 (hall 33 (by decide))
    obtain rfl := h.f34 (hall 34 (by decide))
    obtain rfl := h.f35 (hall 35 (by decide))
    obtain rfl := h.f36 (hall 36 (by decide))
    have BWD := h.e
    clear h hall
    simp only [List.drop_succ_cons, List.drop_zero]
    have hz := BWD.size
    have HX : Hid (_ ∧ _ ∧ _ ∧ _) := ⟨BWD, hk0, hk1, hk3⟩
    clear BWD hk0 hk1 hk3
    go_wp2
    go_ret
    obtain ⟨BWD, hk0, hk1, hk3⟩ := HX.out
    refine ⟨some ⟨W.heap.size, 0, none⟩, a0, a1, a3, rfl, sk_of_row (by constructor; omega; simp) _ 0 (fun j p hp => ?_), BWD.alloc hz _⟩
    have hj := (List.getElem?_eq_some_iff.1 hp).1
    have hj : j < 8 := hj
    have hold : ∀ b, w.heap.size ≤ b ∧ b < W.heap.size → (w.heap.size ≤ b ∧ b < (W.alloc (.cells #[.iface 145 (.slice a0.1 3 3), .iface 145 (.slice a1 2 2), .iface 143 (.agg #[.pointer (some ⟨q, 11, none⟩)]), .iface 145 (.slice a3.1 3 3), .iface 143 (.agg #[.pointer (some ⟨q, 21, none⟩)]), .iface 148 (.agg #[.pointer (some ⟨q, 22, none⟩)]), .iface 151 (.agg #[.pointer (some ⟨q, 23, none⟩)]), .iface 148 (.agg #[.pointer (some ⟨q, 24, none⟩)])] 72)).heap.size) ∧ ∀ j, (W.alloc (.cells #[.iface 145 (.slice a0.1 3 3), .iface 145 (.slice a1 2 2), .iface 143 (.agg #[.pointer (some ⟨q, 11, none⟩)]), .iface 145 (.slice a3.1 3 3), .iface 143 (.agg #[.pointer (some ⟨q, 21, none⟩)]), .iface 148 (.agg #[.pointer (some ⟨q, 22, none⟩)]), .iface 151 (.agg #[.pointer (some ⟨q, 23, none⟩)]), .iface 148 (.agg #[.pointer (some ⟨q, 24, none⟩)])] 72)).cell? ⟨b, j, none⟩ = W.cell? ⟨b, j, none⟩ := fun b hb => ⟨⟨hb.1, by simp; omega⟩, fun j => ((Below.refl _ W).alloc (Nat.le_refl _) _).cell (p := ⟨b, j, none⟩) hb.2⟩
    have hcase : j = 0 ∨ j = 1 ∨ j = 2 ∨ j = 3 ∨ j = 4 ∨ j = 5 ∨ j = 6 ∨ j = 7 := by omega
    rcases hcase with rfl | rfl | rfl | rfl | rfl | rfl | rfl | rfl
    · cases hp
      exact ⟨by rw [Lib.cell_of_heap (World.alloc_heap_new W _)]; rfl, skRow_of hold _ _ _ hk0⟩
    · cases hp
      exact ⟨by rw [Lib.cell_of_heap (World.alloc_heap_new W _)]; rfl, skRow_of hold _ _ _ hk1⟩
    · cases hp
      exact ⟨by rw [Lib.cell_of_heap (World.alloc_heap_new W _)]; rfl, trivial⟩
    · cases hp
      exact ⟨by rw [Lib.cell_of_heap (World.alloc_heap_new W _)]; rfl, skRow_of hold _ _ _ hk3⟩
    · cases hp
      exact ⟨by rw [Lib.cell_of_heap (World.alloc_heap_new W _)]; rfl, trivial⟩
    · cases hp
      exact ⟨by rw [Lib.cell_of_heap (World.alloc_heap_new W _)]; rfl, trivial⟩
    · cases hp
      exact ⟨by rw [Lib.cell_of_heap (World.alloc_heap_new W _)]; rfl, trivial⟩
    · cases hp
      exact ⟨by rw [Lib.cell_of_heap (World.alloc_heap_new W _)]; rfl, trivial⟩
end Go.Proofs.YtmefanagpkbjeaaDoor
namespace Go.Proofs.YtmefanagpkbjeaaDoor
open Go.RowKit Go.Shelf Go.Sort

structure LtD where
  s : Nat
  u : Nat
  p : ByteArray
  t : ByteArray
  b : ByteArray
  ea : ByteArray
  ra : ByteArray
  m : Nat
  br : List ByteArray
structure CmD where
  ks : List ByteArray
  sm : ByteArray
structure BtD where
  l : LtD
  c : CmD
  br : List ByteArray
structure UpD where
  l : LtD
  c : CmD
  nb : List ByteArray
  f : LtD
  fb : List ByteArray
  bits : Nat
  sig : ByteArray
  slot : Nat
def U6 (n : Nat) : Prop := n < 18446744073709551616
def LtD.ok (d : LtD) : Prop := U6 d.s ∧ U6 d.u ∧ U6 d.m
def lsI (xs : List It) : It := .mk true ⟨#[]⟩ xs
def tsI (ts : List ByteArray) : It := lsI (ts.map tI)
def ltI (d : LtD) : It := lsI [lsI [tI (numOf d.s), tI (numOf d.u), tI d.p, tI d.t, tI d.b], lsI [tI d.ea, tI d.ra, tI (numOf d.m)], tsI d.br]
def cmI (d : CmD) : It := lsI [tsI d.ks, tI d.sm]
def btI (d : BtD) : It := lsI [ltI d.l, cmI d.c, tsI d.br]
def upI (d : UpD) : It := lsI [ltI d.l, cmI d.c, tsI d.nb, ltI d.f, tsI d.fb, tI (numOf d.bits), tI d.sig, tI (numOf d.slot)]
def ltV (d : LtD) (a : Option Addr) (c : Nat) : List Value := [.int .u64 (d.s : Int), .int .u64 (d.u : Int), .string d.p, .string d.t, .string d.b, .string d.ea, .string d.ra, .int .u64 (d.m : Int), .slice a d.br.length c]
def cmV (d : CmD) (a : Option Addr) (c : Nat) : List Value := [.slice a d.ks.length c, .string d.sm]
/-- Cells that lie from a place on. -/
def cAt (W : World) (q o : Nat) (vs : List Value) : Prop := ∀ (j : Nat) v, vs[j]? = some v → W.cell? ⟨q, o + j, none⟩ = some v
theorem slP_slS {n : Nat} {W : World} {a : Option Addr} {ts : List ByteArray} (h : slS n W a ts) : slP (fun b => b < n) W a ts := by
  rcases h with h | ⟨b, o, h1, h2, h3⟩
  · exact .inl h
  · exact .inr ⟨b, o, h1, h2, h3⟩
theorem txs_dt {P : Nat → Prop} {W : World} {q o : Nat} {a : Option Addr} {ts : List ByteArray} {c : Nat} (hc : W.cell? ⟨q, o, none⟩ = some (.slice a ts.length c)) (h : slP P W a ts) : dtIs P W (.txs ⟨q, o, none⟩) (tsI ts) := ⟨a, c, ts, hc, h, rfl⟩
theorem lt_dt {P : Nat → Prop} {W : World} {q o : Nat} (d : LtD) (hd : d.ok) {a : Option Addr} {c : Nat} (hc : cAt W q o (ltV d a c)) (h : slP P W a d.br) (t : Option Addr × Option Addr × Option Addr) : dtIs P W (ltP q o t) (ltI d) := by
  refine ⟨_, rfl, _, _, rfl, ⟨_, rfl, _, _, rfl, ⟨d.s, hd.1, hc 0 _ rfl, rfl⟩, _, _, rfl, ⟨d.u, hd.2.1, hc 1 _ rfl, rfl⟩, _, _, rfl, ⟨d.p, hc 2 _ rfl, rfl⟩, _, _, rfl, ⟨d.t, hc 3 _ rfl, rfl⟩, _, _, rfl, ⟨d.b, hc 4 _ rfl, rfl⟩, rfl⟩, _, _, rfl, ⟨_, rfl, _, _, rfl, ⟨d.ea, hc 5 _ rfl, rfl⟩, _, _, rfl, ⟨d.ra, hc 6 _ rfl, rfl⟩, _, _, rfl, ⟨d.m, hd.2.2, hc 7 _ rfl, rfl⟩, rfl⟩, _, _, rfl, txs_dt (hc 8 _ rfl) h, rfl⟩
theorem cm_dt {P : Nat → Prop} {W : World} {q o : Nat} (d : CmD) {a : Option Addr} {c : Nat} (hc : cAt W q o (cmV d a c)) (h : slP P W a d.ks) (x : Option Addr) : dtIs P W (.lst x 2 (cmL q o)) (cmI d) :=
  ⟨_, rfl, _, _, rfl, txs_dt (hc 0 _ rfl) h, _, _, rfl, ⟨d.sm, hc 1 _ rfl, rfl⟩, rfl⟩
theorem bt_dt {P : Nat → Prop} {W : World} {q : Nat} (d : BtD) (hd : d.l.ok) {a1 a2 a3 : Option Addr} {c1 c2 c3 : Nat} (h0 : cAt W q 0 (ltV d.l a1 c1)) (h1 : cAt W q 9 (cmV d.c a2 c2)) (h2 : W.cell? ⟨q, 11, none⟩ = some (.slice a3 d.br.length c3))
    (s1 : slP P W a1 d.l.br) (s2 : slP P W a2 d.c.ks) (s3 : slP P W a3 d.br) (t : Option Addr × Option Addr × Option Addr) (x y : Option Addr) (n : Nat) : dtIs P W (.lst y n (btL q t x)) (btI d) :=
  ⟨_, rfl, _, _, rfl, lt_dt d.l hd h0 s1 t, _, _, rfl, cm_dt d.c h1 s2 x, _, _, rfl, txs_dt h2 s3, rfl⟩
theorem up_dt {P : Nat → Prop} {W : World} {q : Nat} (d : UpD) (hd : d.l.ok) (hf : d.f.ok) (hb : U6 d.bits) (hs : U6 d.slot) {a1 a2 a3 a4 a5 : Option Addr} {c1 c2 c3 c4 c5 : Nat} (h0 : cAt W q 0 (ltV d.l a1 c1)) (h1 : cAt W q 9 (cmV d.c a2 c2)) (h2 : W.cell? ⟨q, 11, none⟩ = some (.slice a3 d.nb.length c3))
    (h3 : cAt W q 12 (ltV d.f a4 c4)) (h4 : W.cell? ⟨q, 21, none⟩ = some (.slice a5 d.fb.length c5)) (h5 : W.cell? ⟨q, 22, none⟩ = some (.int .u64 (d.bits : Int))) (h6 : W.cell? ⟨q, 23, none⟩ = some (.string d.sig)) (h7 : W.cell? ⟨q, 24, none⟩ = some (.int .u64 (d.slot : Int)))
    (s1 : slP P W a1 d.l.br) (s2 : slP P W a2 d.c.ks) (s3 : slP P W a3 d.nb) (s4 : slP P W a4 d.f.br) (s5 : slP P W a5 d.fb) (t : Option Addr × Option Addr × Option Addr) (x y : Option Addr) (t2 : Option Addr × Option Addr × Option Addr) (n : Nat) : dtIs P W (.lst y n (uptL q t x t2)) (upI d) :=
  ⟨_, rfl, _, _, rfl, lt_dt d.l hd h0 s1 t, _, _, rfl, cm_dt d.c h1 s2 x, _, _, rfl, txs_dt h2 s3, _, _, rfl, lt_dt d.f hf h3 s4 t2, _, _, rfl, txs_dt h4 s5, _, _, rfl, ⟨d.bits, hb, h5, rfl⟩, _, _, rfl, ⟨d.sig, h6, rfl⟩, _, _, rfl, ⟨d.slot, hs, h7, rfl⟩, rfl⟩
theorem hd_lv (q o : Nat) : ∀ a, a ∈ lvPL (hdL q o) → ∃ k, k < 5 ∧ a = ⟨q, o + k, none⟩ := fun a h => by
  simp [hdL, lvPL, lvP] at h
  rcases h with h | h | h | h | h
  · exact ⟨0, by omega, h⟩
  · exact ⟨1, by omega, h⟩
  · exact ⟨2, by omega, h⟩
  · exact ⟨3, by omega, h⟩
  · exact ⟨4, by omega, h⟩
theorem ex_lv (q o : Nat) : ∀ a, a ∈ lvPL (exL q o) → ∃ k, k < 3 ∧ a = ⟨q, o + k, none⟩ := fun a h => by
  simp [exL, lvPL, lvP] at h
  rcases h with h | h | h
  · exact ⟨0, by omega, h⟩
  · exact ⟨1, by omega, h⟩
  · exact ⟨2, by omega, h⟩
theorem bt_lvs (q : Nat) (t : Option Addr × Option Addr × Option Addr) (x y : Option Addr) (n : Nat) : lvP (.lst y n (btL q t x)) = (List.range 12).map fun k => (⟨q, k, none⟩ : Addr) := rfl
theorem up_lvs (q : Nat) (t : Option Addr × Option Addr × Option Addr) (x y : Option Addr) (t2 : Option Addr × Option Addr × Option Addr) (n : Nat) : lvP (.lst y n (uptL q t x t2)) = (List.range 25).map fun k => (⟨q, k, none⟩ : Addr) := rfl
theorem rg_lv {q n : Nat} {a : Addr} (h : a ∈ (List.range n).map fun k => (⟨q, k, none⟩ : Addr)) : ∃ k, k < n ∧ a = ⟨q, k, none⟩ := by
  obtain ⟨k, hk, rfl⟩ := List.mem_map.1 h
  exact ⟨k, List.mem_range.1 hk, rfl⟩
theorem rg_nodup (q n : Nat) : ((List.range n).map fun k => (⟨q, k, none⟩ : Addr)).Nodup := by
  refine List.Pairwise.map _ (fun a b h e => h ?_) List.nodup_range
  injection e
mutual
theorem cntI_tb : ∀ x : It, cntI x ≤ tbI x
  | .mk l t xs => by
    have := cntIs_tb xs
    show cntIs xs + 1 ≤ t.size + 9 + tbIs xs
    omega
theorem cntIs_tb : ∀ xs : List It, cntIs xs ≤ tbIs xs
  | [] => Nat.le_refl _
  | x :: r => Nat.add_le_add (cntI_tb x) (cntIs_tb r)
end
theorem cAt_sub {W : World} {q : Nat} {cs : Array Value} {ty : TypeId} (h : W.heap[q]? = some (.cells cs ty (0, 0))) (o : Nat) (vs : List Value) (hv : ∀ j v, vs[j]? = some v → cs[o + j]? = some v) : cAt W q o vs := fun j v hj => by
  rw [Lib.cell_of_heap h]
  exact hv j v hj

set_option maxRecDepth 100000 in
set_option maxHeartbeats 4000000 in
theorem bootBytes_any (d : BtD) (a1 a2 a3 : Option Addr) (c1 c2 c3 : Nat) (hd : d.l.ok) (htb : tbI (btI d) < 10000000) (n : Nat) (w : World) (hn : n ≤ w.heap.size) (s1 : slS n w a1 d.l.br) (s2 : slS n w a2 d.c.ks) (s3 : slS n w a3 d.br) :
    Calls Tryd.prog 18 #[.agg #[.int .u64 (d.l.s : Int), .int .u64 (d.l.u : Int), .string d.l.p, .string d.l.t, .string d.l.b, .string d.l.ea, .string d.l.ra, .int .u64 (d.l.m : Int), .slice a1 d.l.br.length c1, .slice a2 d.c.ks.length c2, .string d.c.sm, .slice a3 d.br.length c3]] w fun e w' => e = .returned (.tuple #[.string (eS (btI d)), .int .i64 (eE (btI d))]) ∧ Below w.heap.size w w' := by
  obtain ⟨v1, hv1⟩ : ∃ v, eS (btI d) = v := ⟨_, rfl⟩
  obtain ⟨v2, hv2⟩ : ∃ v, eE (btI d) = v := ⟨_, rfl⟩
  rw [hv1, hv2]
  have A0 := be_new w (.cells #[.int .u64 (d.l.s : Int), .int .u64 (d.l.u : Int), .string d.l.p, .string d.l.t, .string d.l.b, .string d.l.ea, .string d.l.ra, .int .u64 (d.l.m : Int), .slice a1 d.l.br.length c1, .slice a2 d.c.ks.length c2, .string d.c.sm, .slice a3 d.br.length c3] 41)
  have hx : (w.alloc (.cells #[.int .u64 (d.l.s : Int), .int .u64 (d.l.u : Int), .string d.l.p, .string d.l.t, .string d.l.b, .string d.l.ea, .string d.l.ra, .int .u64 (d.l.m : Int), .slice a1 d.l.br.length c1, .slice a2 d.c.ks.length c2, .string d.c.sm, .slice a3 d.br.length c3] 41)).heap[w.heap.size]? = some (.cells #[.int .u64 (d.l.s : Int), .int .u64 (d.l.u : Int), .string d.l.p, .string d.l.t, .string d.l.b, .string d.l.ea, .string d.l.ra, .int .u64 (d.l.m : Int), .slice a1 d.l.br.length c1, .slice a2 d.c.ks.length c2, .string d.c.sm, .slice a3 d.br.length c3] 41 (0, 0)) := World.alloc_heap_new w _
  have HD : ∀ W : World, Below (w.heap.size + 1) (w.alloc (.cells #[.int .u64 (d.l.s : Int), .int .u64 (d.l.u : Int), .string d.l.p, .string d.l.t, .string d.l.b, .string d.l.ea, .string d.l.ra, .int .u64 (d.l.m : Int), .slice a1 d.l.br.length c1, .slice a2 d.c.ks.length c2, .string d.c.sm, .slice a3 d.br.length c3] 41)) W → ∀ y t x m, dtIs (fun b => b < W.heap.size) W (.lst y m (btL w.heap.size t x)) (btI d) := fun W hB y t x m => by
    have hxW := (hB.block w.heap.size (by omega)).trans hx
    have hs : ∀ a ts, slS n w a ts → slP (fun b => b < W.heap.size) W a ts := fun a ts h => slP_of (fun b hb => ⟨by have := hB.size; have := A0.size; omega, fun k => (hB.cell (p := ⟨b, k, none⟩) (by show b < _; omega)).trans (A0.cell (p := ⟨b, k, none⟩) (by show b < _; omega))⟩) (slP_slS h)
    exact bt_dt d hd (a1 := a1) (a2 := a2) (a3 := a3) (c1 := c1) (c2 := c2) (c3 := c3) (cAt_sub hxW 0 _ (fun j v h => by
      match j, h with
      | 0, h => cases h; rfl
      | 1, h => cases h; rfl
      | 2, h => cases h; rfl
      | 3, h => cases h; rfl
      | 4, h => cases h; rfl
      | 5, h => cases h; rfl
      | 6, h => cases h; rfl
      | 7, h => cases h; rfl
      | 8, h => cases h; rfl
      | j + 9, h => simp [ltV] at h)) (cAt_sub hxW 9 _ (fun j v h => by
      match j, h with
      | 0, h => cases h; rfl
      | 1, h => cases h; rfl
      | j + 2, h => simp [cmV] at h)) (by rw [Lib.cell_of_heap hxW]; rfl) (hs _ _ s1) (hs _ _ s2) (hs _ _ s3) t x y m
  clear hx
  go_enter Tryd.func18, Tryd.ntmps18
  go_wp2_with fail
  obtain ⟨w1, hw1⟩ : ∃ W, w.alloc (.cells #[.int .u64 (d.l.s : Int), .int .u64 (d.l.u : Int), .string d.l.p, .string d.l.t, .string d.l.b, .string d.l.ea, .string d.l.ra, .int .u64 (d.l.m : Int), .slice a1 d.l.br.length c1, .slice a2 d.c.ks.length c2, .string d.c.sm, .slice a3 d.br.length c3] 41) = W := ⟨_, rfl⟩
  have hsz1 : w1.heap.size = w.heap.size + 1 := by rw [← hw1]; simp
  rw [hw1] at A0 HD ⊢
  refine (boot_any w.heap.size w1).mono ?_
  rintro e w2 ⟨a, t, x, rfl, hsk, B2⟩
  have X2 := belowStep A0 A0.size B2
  have hm : ∀ w : World, (method 330 145 (.slice a 3 3) "pharos/head.item").run Tryd.prog w = .ok (168, .slice a 3 3) w := fun _ => by kernel_rfl
  have hz2 := B2.size
  have KI := item_all w2.heap.size _ (.lst (a) 3 (btL w.heap.size t x)) (Nat.le_refl _) (fun a' ha' => by
    rw [bt_lvs] at ha'
    obtain ⟨k, _, rfl⟩ := rg_lv ha'
    exact ⟨by show w.heap.size < _; omega, rfl⟩) (btI d) (Nat.lt_of_le_of_lt (cntI_tb _) (by omega)) w2 (Nat.le_refl _) (skRow_of (fun b hb => ⟨hb.2, fun _ => rfl⟩) _ _ _ hsk) (HD w2 (B2.mono (by omega)) _ t x _)
  clear hsk B2 HD A0 hw1
  go_wp2_with fail
  refine KI.mono ?_
  rintro e w3 ⟨X, rfl, hX, hinX, B3⟩
  have X3 := belowStep X2 X2.size B3
  have KE := encode_any X (by rw [tb_er, hX]; exact htb) w3.heap.size w3 (Nat.le_refl _) (inMem_of (fun b hb => hb.2) _ hinX)
  rw [encS_er, encE_er, hX, hv1, hv2] at KE
  obtain ⟨xl, xt, xa, xc, xx⟩ := X
  simp only [Im.val, Im.l, Im.t, Im.sl, Im.a, Im.xs, Im.c] at KE ⊢
  clear KI hX hinX B3 X2 hm hv1 hv2
  go_wp2_with fail
  refine KE.mono ?_
  rintro e w4 ⟨rfl, B4⟩
  have HX : Hid _ := belowStep X3 X3.size B4
  clear KE X3 B4
  go_wp2
  go_ret2
  exact ⟨rfl, HX.out⟩

set_option maxRecDepth 100000 in
set_option maxHeartbeats 4000000 in
theorem updBytes_any (d : UpD) (a1 a2 a3 a4 a5 : Option Addr) (c1 c2 c3 c4 c5 : Nat) (hd : d.l.ok) (hf : d.f.ok) (hb6 : U6 d.bits) (hs6 : U6 d.slot) (htb : tbI (upI d) < 10000000) (n : Nat) (w : World) (hn : n ≤ w.heap.size) (s1 : slS n w a1 d.l.br) (s2 : slS n w a2 d.c.ks) (s3 : slS n w a3 d.nb) (s4 : slS n w a4 d.f.br) (s5 : slS n w a5 d.fb) :
    Calls Tryd.prog 20 #[.agg #[.int .u64 (d.l.s : Int), .int .u64 (d.l.u : Int), .string d.l.p, .string d.l.t, .string d.l.b, .string d.l.ea, .string d.l.ra, .int .u64 (d.l.m : Int), .slice a1 d.l.br.length c1, .slice a2 d.c.ks.length c2, .string d.c.sm, .slice a3 d.nb.length c3, .int .u64 (d.f.s : Int), .int .u64 (d.f.u : Int), .string d.f.p, .string d.f.t, .string d.f.b, .string d.f.ea, .string d.f.ra, .int .u64 (d.f.m : Int), .slice a4 d.f.br.length c4, .slice a5 d.fb.length c5, .int .u64 (d.bits : Int), .string d.sig, .int .u64 (d.slot : Int)]] w fun e w' => e = .returned (.tuple #[.string (eS (upI d)), .int .i64 (eE (upI d))]) ∧ Below w.heap.size w w' := by
  obtain ⟨v1, hv1⟩ : ∃ v, eS (upI d) = v := ⟨_, rfl⟩
  obtain ⟨v2, hv2⟩ : ∃ v, eE (upI d) = v := ⟨_, rfl⟩
  rw [hv1, hv2]
  have A0 := be_new w (.cells #[.int .u64 (d.l.s : Int), .int .u64 (d.l.u : Int), .string d.l.p, .string d.l.t, .string d.l.b, .string d.l.ea, .string d.l.ra, .int .u64 (d.l.m : Int), .slice a1 d.l.br.length c1, .slice a2 d.c.ks.length c2, .string d.c.sm, .slice a3 d.nb.length c3, .int .u64 (d.f.s : Int), .int .u64 (d.f.u : Int), .string d.f.p, .string d.f.t, .string d.f.b, .string d.f.ea, .string d.f.ra, .int .u64 (d.f.m : Int), .slice a4 d.f.br.length c4, .slice a5 d.fb.length c5, .int .u64 (d.bits : Int), .string d.sig, .int .u64 (d.slot : Int)] 43)
  have hx : (w.alloc (.cells #[.int .u64 (d.l.s : Int), .int .u64 (d.l.u : Int), .string d.l.p, .string d.l.t, .string d.l.b, .string d.l.ea, .string d.l.ra, .int .u64 (d.l.m : Int), .slice a1 d.l.br.length c1, .slice a2 d.c.ks.length c2, .string d.c.sm, .slice a3 d.nb.length c3, .int .u64 (d.f.s : Int), .int .u64 (d.f.u : Int), .string d.f.p, .string d.f.t, .string d.f.b, .string d.f.ea, .string d.f.ra, .int .u64 (d.f.m : Int), .slice a4 d.f.br.length c4, .slice a5 d.fb.length c5, .int .u64 (d.bits : Int), .string d.sig, .int .u64 (d.slot : Int)] 43)).heap[w.heap.size]? = some (.cells #[.int .u64 (d.l.s : Int), .int .u64 (d.l.u : Int), .string d.l.p, .string d.l.t, .string d.l.b, .string d.l.ea, .string d.l.ra, .int .u64 (d.l.m : Int), .slice a1 d.l.br.length c1, .slice a2 d.c.ks.length c2, .string d.c.sm, .slice a3 d.nb.length c3, .int .u64 (d.f.s : Int), .int .u64 (d.f.u : Int), .string d.f.p, .string d.f.t, .string d.f.b, .string d.f.ea, .string d.f.ra, .int .u64 (d.f.m : Int), .slice a4 d.f.br.length c4, .slice a5 d.fb.length c5, .int .u64 (d.bits : Int), .string d.sig, .int .u64 (d.slot : Int)] 43 (0, 0)) := World.alloc_heap_new w _
  have HD : ∀ W : World, Below (w.heap.size + 1) (w.alloc (.cells #[.int .u64 (d.l.s : Int), .int .u64 (d.l.u : Int), .string d.l.p, .string d.l.t, .string d.l.b, .string d.l.ea, .string d.l.ra, .int .u64 (d.l.m : Int), .slice a1 d.l.br.length c1, .slice a2 d.c.ks.length c2, .string d.c.sm, .slice a3 d.nb.length c3, .int .u64 (d.f.s : Int), .int .u64 (d.f.u : Int), .string d.f.p, .string d.f.t, .string d.f.b, .string d.f.ea, .string d.f.ra, .int .u64 (d.f.m : Int), .slice a4 d.f.br.length c4, .slice a5 d.fb.length c5, .int .u64 (d.bits : Int), .string d.sig, .int .u64 (d.slot : Int)] 43)) W → ∀ y t x t2 m, dtIs (fun b => b < W.heap.size) W (.lst y m (uptL w.heap.size t x t2)) (upI d) := fun W hB y t x t2 m => by
    have hxW := (hB.block w.heap.size (by omega)).trans hx
    have hs : ∀ a ts, slS n w a ts → slP (fun b => b < W.heap.size) W a ts := fun a ts h => slP_of (fun b hb => ⟨by have := hB.size; have := A0.size; omega, fun k => (hB.cell (p := ⟨b, k, none⟩) (by show b < _; omega)).trans (A0.cell (p := ⟨b, k, none⟩) (by show b < _; omega))⟩) (slP_slS h)
    exact up_dt d hd hf hb6 hs6 (a1 := a1) (a2 := a2) (a3 := a3) (a4 := a4) (a5 := a5) (c1 := c1) (c2 := c2) (c3 := c3) (c4 := c4) (c5 := c5) (cAt_sub hxW 0 _ (fun j v h => by
      match j, h with
      | 0, h => cases h; rfl
      | 1, h => cases h; rfl
      | 2, h => cases h; rfl
      | 3, h => cases h; rfl
      | 4, h => cases h; rfl
      | 5, h => cases h; rfl
      | 6, h => cases h; rfl
      | 7, h => cases h; rfl
      | 8, h => cases h; rfl
      | j + 9, h => simp [ltV] at h)) (cAt_sub hxW 9 _ (fun j v h => by
      match j, h with
      | 0, h => cases h; rfl
      | 1, h => cases h; rfl
      | j + 2, h => simp [cmV] at h)) (by rw [Lib.cell_of_heap hxW]; rfl) (cAt_sub hxW 12 _ (fun j v h => by
      match j, h with
      | 0, h => cases h; rfl
      | 1, h => cases h; rfl
      | 2, h => cases h; rfl
      | 3, h => cases h; rfl
      | 4, h => cases h; rfl
      | 5, h => cases h; rfl
      | 6, h => cases h; rfl
      | 7, h => cases h; rfl
      | 8, h => cases h; rfl
      | j + 9, h => simp [ltV] at h)) (by rw [Lib.cell_of_heap hxW]; rfl) (by rw [Lib.cell_of_heap hxW]; rfl) (by rw [Lib.cell_of_heap hxW]; rfl) (by rw [Lib.cell_of_heap hxW]; rfl) (hs _ _ s1) (hs _ _ s2) (hs _ _ s3) (hs _ _ s4) (hs _ _ s5) t x y t2 m
  clear hx
  go_enter Tryd.func20, Tryd.ntmps20
  go_wp2_with fail
  obtain ⟨w1, hw1⟩ : ∃ W, w.alloc (.cells #[.int .u64 (d.l.s : Int), .int .u64 (d.l.u : Int), .string d.l.p, .string d.l.t, .string d.l.b, .string d.l.ea, .string d.l.ra, .int .u64 (d.l.m : Int), .slice a1 d.l.br.length c1, .slice a2 d.c.ks.length c2, .string d.c.sm, .slice a3 d.nb.length c3, .int .u64 (d.f.s : Int), .int .u64 (d.f.u : Int), .string d.f.p, .string d.f.t, .string d.f.b, .string d.f.ea, .string d.f.ra, .int .u64 (d.f.m : Int), .slice a4 d.f.br.length c4, .slice a5 d.fb.length c5, .int .u64 (d.bits : Int), .string d.sig, .int .u64 (d.slot : Int)] 43) = W := ⟨_, rfl⟩
  have hsz1 : w1.heap.size = w.heap.size + 1 := by rw [← hw1]; simp
  rw [hw1] at A0 HD ⊢
  refine (update_any w.heap.size w1).mono ?_
  rintro e w2 ⟨a, t, x, t2, rfl, hsk, B2⟩
  have X2 := belowStep A0 A0.size B2
  have hm : ∀ w : World, (method 330 145 (.slice a 8 8) "pharos/head.item").run Tryd.prog w = .ok (168, .slice a 8 8) w := fun _ => by kernel_rfl
  have hz2 := B2.size
  have KI := item_all w2.heap.size _ (.lst (a) 8 (uptL w.heap.size t x t2)) (Nat.le_refl _) (fun a' ha' => by
    rw [up_lvs] at ha'
    obtain ⟨k, _, rfl⟩ := rg_lv ha'
    exact ⟨by show w.heap.size < _; omega, rfl⟩) (upI d) (Nat.lt_of_le_of_lt (cntI_tb _) (by omega)) w2 (Nat.le_refl _) (skRow_of (fun b hb => ⟨hb.2, fun _ => rfl⟩) _ _ _ hsk) (HD w2 (B2.mono (by omega)) _ t x t2 _)
  clear hsk B2 HD A0 hw1
  go_wp2_with fail
  refine KI.mono ?_
  rintro e w3 ⟨X, rfl, hX, hinX, B3⟩
  have X3 := belowStep X2 X2.size B3
  have KE := encode_any X (by rw [tb_er, hX]; exact htb) w3.heap.size w3 (Nat.le_refl _) (inMem_of (fun b hb => hb.2) _ hinX)
  rw [encS_er, encE_er, hX, hv1, hv2] at KE
  obtain ⟨xl, xt, xa, xc, xx⟩ := X
  simp only [Im.val, Im.l, Im.t, Im.sl, Im.a, Im.xs, Im.c] at KE ⊢
  clear KI hX hinX B3 X2 hm hv1 hv2
  go_wp2_with fail
  refine KE.mono ?_
  rintro e w4 ⟨rfl, B4⟩
  have HX : Hid _ := belowStep X3 X3.size B4
  clear KE X3 B4
  go_wp2
  go_ret2
  exact ⟨rfl, HX.out⟩
end Go.Proofs.YtmefanagpkbjeaaDoor
namespace Go.Proofs.YtmefanagpkbjeaaDoor
open Go.RowKit Go.Shelf Go.Sort

set_option maxHeartbeats 1000000 in
theorem rtext_any (s : ByteArray) (w : World) : Calls Tryd.prog 52 #[.string s] w fun e w' => e = .returned (txt s).val ∧ Below w.heap.size w w' := by
  go_enter Tryd.func52, Tryd.ntmps52
  go_wp2
  refine bodyPost_ret (v := .agg #[.bool false, .string s, .slice none 0 0]) (by simp [results, Tryd.results52, go_sem]) rfl ⟨rfl, ?_⟩
  exact (Below.refl _ w).alloc (Nat.le_refl _) _
set_option maxHeartbeats 1000000 in
theorem rlist_any (a : Option Addr) (n c : Nat) (w : World) : Calls Tryd.prog 46 #[.slice a n c] w fun e w' => e = .returned (.agg #[.bool true, .string ⟨#[]⟩, .slice a n c]) ∧ Below w.heap.size w w' := by
  go_enter Tryd.func46, Tryd.ntmps46
  go_wp2
  refine bodyPost_ret (v := .agg #[.bool true, .string ⟨#[]⟩, .slice a n c]) (by simp [results, Tryd.results46, go_sem]) rfl ⟨rfl, ?_⟩
  exact (Below.refl _ w).alloc (Nat.le_refl _) _
set_option maxHeartbeats 1000000 in
theorem rnum_any (n : Nat) (hn : n < 18446744073709551616) (w : World) : Calls Tryd.prog 51 #[.int .u64 n] w fun e w' => e = .returned (txt (numOf n)).val ∧ Below w.heap.size w w' := by
  have KN := fun w => rnumber_any n hn w
  have KT := fun w => rtext_any (numOf n) w
  obtain ⟨s, hs⟩ : ∃ s, numOf n = s := ⟨_, rfl⟩
  rw [hs] at KN KT ⊢
  clear hs
  have A1 := be_new w (.cells #[.bool false, .string ⟨#[]⟩, .slice none 0 0] 70)
  have hx := it_new w zeroI
  go_enter Tryd.func51, Tryd.ntmps51
  go_wp2_with fail
  refine (KN _).mono ?_
  rintro e w1 ⟨rfl, B1⟩
  have hx1 := (B1.block w.heap.size (by simp)).trans hx
  have A2 := belowStep A1 A1.size B1
  clear A1 B1 hx KN
  go_wp2_with fail
  refine (KT _).mono ?_
  rintro e w2 ⟨rfl, B2⟩
  have hx2 := (B2.block w.heap.size (by have := (Array.getElem?_eq_some_iff.1 hx1).1; omega)).trans hx1
  have A3 := belowStep A2 A2.size B2
  clear A2 B2 hx1 KT
  have f0 := fun o => Lib.frozen_of_heap hx2 o
  have d0 : w2.cell? ⟨w.heap.size, 0, none⟩ = some (.bool false) := by rw [Lib.cell_of_heap hx2]; rfl
  have d1 : w2.cell? ⟨w.heap.size, 1, none⟩ = some (.string ⟨#[]⟩) := by rw [Lib.cell_of_heap hx2]; rfl
  have d2 : w2.cell? ⟨w.heap.size, 2, none⟩ = some (.slice none 0 0) := by rw [Lib.cell_of_heap hx2]; rfl
  simp only [txt, Im.val, Im.sl, Im.l, Im.t, Im.a, Im.xs, Im.c, List.length_nil]
  go_wp2
  refine bodyPost_ret (v := .agg #[.bool false, .string s, .slice none 0 0]) (by simp [results, Tryd.results51, go_sem, d0, d1, d2]) rfl ⟨rfl, ?_⟩
  exact below_set (below_set (below_set A3 _ _ (Nat.le_refl _) _) _ _ (Nat.le_refl _) _) _ _ (Nat.le_refl _) _
theorem rowP_mk {P : Nat → Prop} {W : World} {g : Nat} (hg : P g) : ∀ (ys : List Im) (i : Nat), (∀ j y, ys[j]? = some y → W.cell? ⟨g, 3 * (i + j), none⟩ = some (.bool y.l) ∧ W.cell? ⟨g, 3 * (i + j) + 1, none⟩ = some (.string y.t) ∧ W.cell? ⟨g, 3 * (i + j) + 2, none⟩ = some y.sl ∧ inP P W y) → rowP P W (some ⟨g, 0, none⟩) i ys
  | [], _, _ => trivial
  | y :: r, i, h => by
    obtain ⟨h0, h1, h2, h3⟩ := h 0 y rfl
    rw [Nat.add_zero] at h0 h1 h2
    refine ⟨⟨g, 0, hg, rfl, by rw [Nat.zero_add]; exact h0, by rw [Nat.zero_add]; exact h1, by rw [Nat.zero_add]; exact h2⟩, h3, rowP_mk hg r (i + 1) (fun j y' hy => ?_)⟩
    have := h (j + 1) y' hy
    rwa [show i + (j + 1) = i + 1 + j by omega] at this
theorem cells3_at : ∀ (ys : List Im) (j : Nat) (y : Im), ys[j]? = some y → (ys.flatMap cell3)[3 * j]? = some (.bool y.l) ∧ (ys.flatMap cell3)[3 * j + 1]? = some (.string y.t) ∧ (ys.flatMap cell3)[3 * j + 2]? = some y.sl
  | [], _, _, h => by cases h
  | x :: r, 0, y, h => by
    cases h
    exact ⟨rfl, rfl, rfl⟩
  | x :: r, j + 1, y, h => by
    have ih := cells3_at r j y h
    have e : (x :: r).flatMap cell3 = .bool x.l :: .string x.t :: x.sl :: r.flatMap cell3 := rfl
    rw [e, show 3 * (j + 1) = 3 * j + 3 by omega]
    exact ih
/-- A new block of items is a row of them. -/
theorem row_new {W : World} {B : Nat} (hB : B ≤ W.heap.size) (ys : List Im) (h : ∀ y ∈ ys, inP (fun b => B ≤ b ∧ b < W.heap.size) W y) {cs : Array Value} (hcs : cs = (ys.flatMap cell3).toArray) : rowP (fun b => B ≤ b ∧ b < (W.alloc (.cells cs 70)).heap.size) (W.alloc (.cells cs 70)) (some ⟨W.heap.size, 0, none⟩) 0 ys := by
  have hb := be_new W (.cells cs 70)
  refine rowP_mk ⟨hB, by simp⟩ ys 0 (fun j y hy => ?_)
  have hc := cells3_at ys j y hy
  rw [Nat.zero_add]
  have hg : ∀ k, (W.alloc (.cells cs 70)).cell? ⟨W.heap.size, k, none⟩ = (ys.flatMap cell3)[k]? := fun k => by
    rw [Lib.cell_of_heap (World.alloc_heap_new W _), hcs]
    simp
  exact ⟨(hg _).trans hc.1, (hg _).trans hc.2.1, (hg _).trans hc.2.2, inP_of (fun b hb' => ⟨⟨hb'.1, Nat.lt_of_lt_of_le hb'.2 hb.size⟩, fun k => hb.cell (p := ⟨b, k, none⟩) hb'.2⟩) _ (h y (List.mem_of_getElem? hy))⟩
theorem items_owns {z : Nat} {v : Value} {ys : List Im} {W : World} (h : W.ownsRow z 70 3 v ys.length (ys.flatMap cell3)) (hi : ∀ y ∈ ys, inP (fun b => z ≤ b ∧ b < W.heap.size) W y) : ∃ a c, v = .slice a ys.length c ∧ rowP (fun b => z ≤ b ∧ b < W.heap.size) W a 0 ys := by
  rcases h.2 with ⟨h1, h2⟩ | ⟨g, c, cur, h1, h2, h3, h4, h5, h6, h7⟩
  · exact ⟨none, 0, by rw [h1, h2], by rw [List.length_eq_zero_iff.1 h2]; trivial⟩
  · have hlt := h.lt g (by rw [h1]; rfl)
    subst h1
    refine ⟨_, c, rfl, rowP_mk hlt _ 0 (fun j y hy => ?_)⟩
    have hc := cells3_at _ j y hy
    have hj := (List.getElem?_eq_some_iff.1 hy).1
    rw [Nat.zero_add]
    have q : ∀ k u, k < ys.length * 3 → (ys.flatMap cell3)[k]? = some u → W.cell? ⟨g, k, none⟩ = some u := fun k u hk hu => by rw [h.cellAt k (by omega)]; exact hu
    exact ⟨q _ _ (by omega) hc.1, q _ _ (by omega) hc.2.1, q _ _ (by omega) hc.2.2, hi y (List.mem_of_getElem? hy)⟩
set_option maxRecDepth 100000 in
set_option maxHeartbeats 4000000 in
theorem rtexts_any (es : List ByteArray) (hK : es.length < 100000000) (a : Option Addr) (c n : Nat) (w : World) (hn : n ≤ w.heap.size) (hp : slS n w a es) :
    Calls Tryd.prog 49 #[.slice a es.length c] w fun e w' => ∃ X : Im, e = .returned X.val ∧ er X = tsI es ∧ inP (fun b => w.heap.size ≤ b ∧ b < w'.heap.size) w' X ∧ Below w.heap.size w w' := by
  obtain ⟨i0, hi0, hz0, hz1, hz2⟩ := info_parts info_item
  obtain ⟨N, hN⟩ : ∃ N, es.length = N := ⟨_, rfl⟩
  have HN : Hid (es.length = N) := hN
  rw [hN] at hK ⊢
  have A0 := be_new w (.cells #[.bool false, .string ⟨#[]⟩, .slice none 0 0] 70)
  have hx := it_new w zeroI
  obtain ⟨y, hy⟩ : ∃ y, w.heap.size = y := ⟨_, rfl⟩
  have HY : Hid (w.heap.size = y) := hy
  go_enter Tryd.func49, Tryd.ntmps49
  go_wp2_with fail
  obtain ⟨w1, hw1⟩ : ∃ W, w.alloc (.cells #[.bool false, .string ⟨#[]⟩, .slice none 0 0] 70) = W := ⟨_, rfl⟩
  have hsz1 : w1.heap.size = y + 1 := by rw [← hw1]; simp [hy]
  rw [hy] at A0 hx hn
  rw [hw1] at A0 ⊢
  replace hx : ItIn y zeroI w1 := by rw [← hw1]; exact hx
  clear hw1 hN hy
  go_loopg [3, 4] N (fun gk v i wr => ∃ k : Nat, k + gk = N ∧ i = .int .i64 k ∧ Below w1.heap.size w1 wr ∧ wr.ownsRow w1.heap.size 70 3 v k (((es.take k).map txt).flatMap cell3))
  case atStart => exact ⟨0, by omega, rfl, Below.refl _ _, World.ownsRow_nil _ _ _ _⟩
  case round =>
    obtain ⟨k, hk, rfl, BW, hown⟩ := hrel
    have hzr := BW.size
    by_cases hlt : k < N
    · have l1 : (k : Int) < N := by omega
      obtain ⟨s, hs⟩ : ∃ x, es[k]? = some x := ⟨es[k]'(by have := HN.out; omega), List.getElem?_eq_getElem (by have := HN.out; omega)⟩
      obtain ⟨b, o, rfl, hb, q0⟩ := slS_at hp k s hs
      have q1 := (BW.cell (p := ⟨b, o + k, none⟩) (by show b < _; omega)).trans ((A0.cell (p := ⟨b, o + k, none⟩) (by show b < y; omega)).trans q0)
      have wk : IntKind.i64.wrap ((k : Int) + 1) = ((k + 1 : Nat) : Int) := by rw [IntKind.wrap_i64]; omega
      have HXK : Hid (es.take (k + 1) = es.take k ++ [s]) := by
        show _ = _
        rw [List.take_add_one, hs]
        rfl
      have HX : Hid (_ ∧ _) := ⟨BW, hown⟩
      have KT := rtext_any s wr
      clear q0 hp BW hown hs
      go_wp2_with fail
      refine KT.mono ?_
      rintro e w5 ⟨rfl, B5⟩
      obtain ⟨BW, hown⟩ := HX.out
      have hzr5 := B5.size
      simp only [txt, Im.val, Im.sl, Im.l, Im.t, Im.a, Im.xs, Im.c, List.length_nil]
      have A6 := be_new w5 (.cells #[.bool false, .string s, .slice none 0 0] 70)
      have hown6 := owns_below (owns_below hown B5) A6
      obtain ⟨v7, w7, hrun7, ho7, hg7, _⟩ := run_append_own (P := Tryd.prog) (w5.alloc (.cells #[.bool false, .string s, .slice none 0 0] 70)) w1.heap.size 68 68 70 i0 _ 3 48 Tryd.underlying68 hi0 hz0 hz1 hz2 rfl (by decide) u3 k _ hown6 ⟨w5.heap.size, 0, none⟩ 1 1 [.bool false, .string s, .slice none 0 0] rfl (fun j u hu => by
        rw [Addr.add_mid, Nat.zero_add, Lib.cell_of_heap (World.alloc_heap_new w5 _)]
        simpa using hu) (fun u hu => by
        simp at hu
        rcases hu with h | h | h <;> rw [h] <;> rfl) (by unfold maxLen; omega) (by omega) (by simp; omega)
      have HR7 : Hid _ := hrun7
      have HO7 : Hid (_ ∧ _ ∧ _ ∧ _) := ⟨ho7, hg7, belowStep B5 B5.size A6, fun bb hb' => (hown6.lt bb hb').1⟩
      clear KT hown6 hrun7 ho7 hg7 B5 A6 BW hown q1
      go_wp2_with (at_builtin; refine Lib.wpList_append_run _ rfl _ _ 68 68 rfl _ _ rfl rfl _ _ HR7.out ?_)
      go_wp2
      go_roundg (gk - 1)
      case measure => omega
      case rel =>
        obtain ⟨ho7, hg7, B5, hr7⟩ := HO7.out
        obtain ⟨BW, hown⟩ := HX.out
        refine ⟨k + 1, by omega, by first | rfl | (congr 1; omega), (belowStep BW hzr B5).grown hg7 (by have := B5.size; omega) (fun bb hb' => hr7 bb hb'), ?_⟩
        rw [HXK.out, List.map_append, List.flatMap_append]
        exact ho7
    · have hk2 : k = N := by omega
      have l1 : ¬ (k : Int) < N := by omega
      rw [hk2, List.take_of_length_le (by have := HN.out; omega)] at hown
      have hyn : (es.map txt).length = N := by rw [List.length_map]; exact HN.out
      rw [← hyn] at hown
      obtain ⟨a7, c7, rfl, hrow⟩ := items_owns hown (fun y hy => by
        obtain ⟨t, _, rfl⟩ := List.mem_map.1 hy
        trivial)
      have KL := rlist_any a7 (es.map txt).length c7 wr
      rw [hyn] at KL
      have hers : ers (es.map txt) = es.map tI := by
        rw [ers_map, List.map_map]
        rfl
      have hxr := (BW.block y (by omega)).trans hx
      have HX : Hid (_ ∧ _ ∧ _) := ⟨hrow, BW, hers⟩
      clear hrow BW hown hers
      go_wp2_with fail
      refine KL.mono ?_
      rintro e w4 ⟨rfl, B4⟩
      obtain ⟨hrow, BW, hers⟩ := HX.out
      have hx4 := (B4.block y (by omega)).trans hxr
      have f0 := fun o => Lib.frozen_of_heap hx4 o
      have d0 : w4.cell? ⟨y, 0, none⟩ = some (.bool false) := by rw [Lib.cell_of_heap hx4]; rfl
      have d1 : w4.cell? ⟨y, 1, none⟩ = some (.string ⟨#[]⟩) := by rw [Lib.cell_of_heap hx4]; rfl
      have d2 : w4.cell? ⟨y, 2, none⟩ = some (.slice none 0 0) := by rw [Lib.cell_of_heap hx4]; rfl
      have hz4 := B4.size
      have hrow4 := rowP_of (q := fun b => w1.heap.size ≤ b ∧ b < w4.heap.size) (W' := w4) (fun b hb => ⟨⟨hb.1, by omega⟩, fun j => B4.cell (p := ⟨b, j, none⟩) hb.2⟩) a7 0 _ hrow
      have HR : Hid (_ ∧ _ ∧ _) := ⟨hrow4, belowStep (A0.trans (BW.mono (by omega))) (by omega) B4, hers⟩
      clear hrow BW B4 hrow4 hx4 hxr KL hers HX A0 hx
      go_wp2
      obtain ⟨hrow4, BX, hers⟩ := HR.out
      refine bodyPost_ret (v := .agg #[.bool true, .string ⟨#[]⟩, .slice a7 (es.map txt).length c7]) (by simp [results, Tryd.results49, go_sem, d0, d1, d2]; exact HN.out.symm) rfl ⟨.mk true ⟨#[]⟩ a7 c7 (es.map txt), rfl, ?_, ?_, ?_⟩
      · show It.mk true ⟨#[]⟩ (ers (es.map txt)) = _
        rw [hers]
        rfl
      · rw [HY.out]
        refine rowP_of (fun b hb => ⟨⟨by omega, by simp [World.setCell]; omega⟩, fun j => ?_⟩) a7 0 _ hrow4
        rw [cell_ne _ _ _ _ _ (by show b ≠ y; omega), cell_ne _ _ _ _ _ (by show b ≠ y; omega), cell_ne _ _ _ _ _ (by show b ≠ y; omega)]
      · rw [HY.out]
        exact below_set (below_set (below_set BX y _ (Nat.le_refl _) _) y _ (Nat.le_refl _) _) y _ (Nat.le_refl _) _
end Go.Proofs.YtmefanagpkbjeaaDoor
namespace Go.Proofs.YtmefanagpkbjeaaDoor
open Go.RowKit Go.Shelf Go.Sort

/-- An item that was made anew. -/
def ItR (x : It) (B : Nat) (X : Value) (W : World) : Prop := ∃ Y : Im, X = Y.val ∧ er Y = x ∧ inP (fun b => B ≤ b ∧ b < W.heap.size) W Y
theorem ItR.grow {x : It} {B : Nat} {X : Value} {W W' : World} (h : ItR x B X W) (hb : Below W.heap.size W W') : ItR x B X W' := by
  obtain ⟨Y, h1, h2, h3⟩ := h
  exact ⟨Y, h1, h2, inP_of (fun b k => ⟨⟨k.1, Nat.lt_of_lt_of_le k.2 hb.size⟩, fun j => hb.cell (p := ⟨b, j, none⟩) k.2⟩) _ h3⟩
/-- A row of items that was made anew. -/
def RwI (n : Nat) (xs : List It) (B : Nat) (X : Value) (W : World) : Prop := ∃ (g : Nat) (Ys : List Im), X = .slice (some ⟨g, 0, none⟩) n n ∧ Ys.length = n ∧ ers Ys = xs ∧ rowP (fun b => B ≤ b ∧ b < W.heap.size) W (some ⟨g, 0, none⟩) 0 Ys
theorem RwI.grow {n : Nat} {xs : List It} {B : Nat} {X : Value} {W W' : World} (h : RwI n xs B X W) (hb : Below W.heap.size W W') : RwI n xs B X W' := by
  obtain ⟨g, Ys, h1, h0, h2, h3⟩ := h
  exact ⟨g, Ys, h1, h0, h2, rowP_of (fun b k => ⟨⟨k.1, Nat.lt_of_lt_of_le k.2 hb.size⟩, fun j => hb.cell (p := ⟨b, j, none⟩) k.2⟩) _ _ _ h3⟩
theorem RwI.list {n : Nat} {xs : List It} {B g : Nat} {W : World} {Ys : List Im} (h0 : Ys.length = n) (h2 : ers Ys = xs) (h3 : rowP (fun b => B ≤ b ∧ b < W.heap.size) W (some ⟨g, 0, none⟩) 0 Ys) : ItR (lsI xs) B (.agg #[.bool true, .string ⟨#[]⟩, .slice (some ⟨g, 0, none⟩) n n]) W :=
  ⟨.mk true ⟨#[]⟩ (some ⟨g, 0, none⟩) n Ys, by rw [← h0]; rfl, by show It.mk true ⟨#[]⟩ (ers Ys) = _; rw [h2]; rfl, h3⟩
/-- What holds while a statement runs. -/
structure Mc_comm (V : World) (p N c : Nat) (a : Option Addr) (sm : ByteArray) (tx : It) (S : Nat → Bool) (x3 x4 x5 x6 x7 x8 x9 x10 : Value) (W : World) : Prop where
  e : Below V.heap.size V W
  f0 : S 0 = true → x3 = Value.pointer (some ⟨p, 0, none⟩)
  f1 : S 1 = true → x4 = Value.slice a N c
  f2 : S 2 = true → ItR tx V.heap.size x5 W
  f3 : S 3 = true → x6 = Value.pointer (some ⟨p, 1, none⟩)
  f4 : S 4 = true → x7 = Value.string sm
  f5 : S 5 = true → x8 = Value.agg #[.bool false, .string sm, .slice none 0 0]
  f6 : S 6 = true → RwI 2 [tx, tI sm] V.heap.size x9 W
  f7 : S 7 = true → ItR (lsI [tx, tI sm]) V.heap.size x10 W
theorem Mc_comm.grow {V : World} {p N c : Nat} {a : Option Addr} {sm : ByteArray} {tx : It} {S : Nat → Bool} {x3 x4 x5 x6 x7 x8 x9 x10 : Value} {W W' : World} (h : Mc_comm V p N c a sm tx S x3 x4 x5 x6 x7 x8 x9 x10 W) (hb : Below W.heap.size W W') : Mc_comm V p N c a sm tx S x3 x4 x5 x6 x7 x8 x9 x10 W' :=
  ⟨belowStep h.e h.e.size hb, h.f0, h.f1, fun s => ItR.grow (h.f2 s) hb, h.f3, h.f4, h.f5, fun s => RwI.grow (h.f6 s) hb, fun s => ItR.grow (h.f7 s) hb⟩
set_option maxRecDepth 100000 in
set_option maxHeartbeats 4000000 in
theorem rcomm_any (d : CmD) (hK : d.ks.length < 100000000) (a : Option Addr) (c n : Nat) (w : World) (hn : n ≤ w.heap.size) (hp : slS n w a d.ks) :
    Calls Tryd.prog 48 #[.agg #[.slice a d.ks.length c, .string d.sm]] w fun e w' => ∃ X : Im, e = .returned X.val ∧ er X = cmI d ∧ inP (fun b => w.heap.size ≤ b ∧ b < w'.heap.size) w' X ∧ Below w.heap.size w w' := by
  obtain ⟨ks, sm⟩ := d
  dsimp only at hK hp ⊢
  obtain ⟨A0, h0, h1⟩ := two_boxes w (.cells #[.slice a ks.length c, .string sm] 31) (.cells #[.bool false, .string ⟨#[]⟩, .slice none 0 0] 70)
  obtain ⟨p, hp0⟩ : ∃ p, w.heap.size = p := ⟨_, rfl⟩
  have HP : Hid (w.heap.size = p) := hp0
  obtain ⟨w1, hw1⟩ : ∃ W, (w.alloc (.cells #[.slice a ks.length c, .string sm] 31)).alloc (.cells #[.bool false, .string ⟨#[]⟩, .slice none 0 0] 70) = W := ⟨_, rfl⟩
  have hsz : w1.heap.size = p + 2 := by rw [← hw1, ← hp0]; simp
  rw [hw1] at A0 h0 h1
  rw [hp0] at A0 h0 h1 hn
  have KT : ∀ W : World, Below w1.heap.size w1 W → _ := fun W hB => rtexts_any ks hK a c n W (by have := hB.size; omega) (slS_below (hB.mono (by omega)) (slS_below (A0.mono hn) hp))
  obtain ⟨N, hN⟩ : ∃ N, ks.length = N := ⟨_, rfl⟩
  rw [hN] at KT h0 hw1 ⊢
  have c0 : w1.cell? ⟨p, 0, none⟩ = some (.slice a N c) := by rw [Lib.cell_of_heap h0]; rfl
  have c1 : w1.cell? ⟨p, 1, none⟩ = some (.string sm) := by rw [Lib.cell_of_heap h0]; rfl
  have hI : cmI ⟨ks, sm⟩ = lsI [tsI ks, tI sm] := rfl
  rw [hI]
  obtain ⟨tx, htx⟩ : ∃ x, tsI ks = x := ⟨_, rfl⟩
  rw [htx] at KT ⊢
  clear h0 hN hK hp hI htx
  go_enter Tryd.func48, Tryd.ntmps48
  go_wp2_with fail
  clear hw1 hp0
  refine region_inv_tail 8 (fun S aa W => ∃ x3 x4 x5 x6 x7 x8 x9 x10 : Value, aa = { tmps := #[Value.agg #[Value.slice a N c, Value.string sm], Value.pointer (some { block := p, off := 0 }), Value.pointer (some { block := p + 1, off := 0 }), x3, x4, x5, x6, x7, x8, x9, x10], defers := [] } ∧ Mc_comm w1 p N c a sm tx S x3 x4 x5 x6 x7 x8 x9 x10 W) (by kernel_rfl) (by kernel_rfl) ?_ ?_ ?_
  · exact ⟨undef, undef, undef, undef, undef, undef, undef, undef, rfl, ⟨(Below.refl _ w1).drew, nofun, nofun, nofun, nofun, nofun, nofun, nofun, nofun⟩⟩
  · intro i o S aa W hin hi hun hJ hall K hK
    obtain ⟨x3, x4, x5, x6, x7, x8, x9, x10, rfl, h⟩ := hJ
    have hlt : i < 8 := hin
    have hcase : i = 0 ∨ i = 1 ∨ i = 2 ∨ i = 3 ∨ i = 4 ∨ i = 5 ∨ i = 6 ∨ i = 7 := by omega
    rcases hcase with rfl | rfl | rfl | rfl | rfl | rfl | rfl | rfl
    all_goals (have ho := (Option.some.inj hi).symm; subst ho; clear hi hlt hin)
    · go_simp
      exact hK _ _ ⟨_, x4, x5, x6, x7, x8, x9, x10, rfl, ⟨h.e, fun _ => rfl, h.f1, h.f2, h.f3, h.f4, h.f5, h.f6, h.f7⟩⟩
    · have s_0 : S 0 = true := hall ⟨0, .data⟩ (by simp) rfl
      obtain rfl := h.f0 s_0
      have cW := (h.e.cell (p := ⟨p, 0, none⟩) (by show p < _; omega)).trans c0
      go_simp
      exact hK _ _ ⟨_, _, x5, x6, x7, x8, x9, x10, rfl, ⟨h.e, h.f0, fun _ => rfl, h.f2, h.f3, h.f4, h.f5, h.f6, h.f7⟩⟩
    · have s_1 : S 1 = true := hall ⟨1, .data⟩ (by simp) rfl
      obtain rfl := h.f1 s_1
      go_simp
      refine (KT W h.e).mono ?_
      rintro e w5 ⟨Y5, rfl, k1, k2, hb5⟩
      have h1 := h.grow hb5
      exact hK _ _ ⟨x3, _, _, x6, x7, x8, x9, x10, rfl, ⟨h1.e, h1.f0, h1.f1, fun _ => ⟨Y5, rfl, k1, inP_of (fun b hb => ⟨⟨Nat.le_trans h.e.size hb.1, hb.2⟩, fun _ => rfl⟩) _ k2⟩, h1.f3, h1.f4, h1.f5, h1.f6, h1.f7⟩⟩
    · go_simp
      exact hK _ _ ⟨x3, x4, x5, _, x7, x8, x9, x10, rfl, ⟨h.e, h.f0, h.f1, h.f2, fun _ => rfl, h.f4, h.f5, h.f6, h.f7⟩⟩
    · have s_3 : S 3 = true := hall ⟨3, .data⟩ (by simp) rfl
      obtain rfl := h.f3 s_3
      have cW := (h.e.cell (p := ⟨p, 1, none⟩) (by show p < _; omega)).trans c1
      go_simp
      exact hK _ _ ⟨x3, x4, x5, _, _, x8, x9, x10, rfl, ⟨h.e, h.f0, h.f1, h.f2, h.f3, fun _ => rfl, h.f5, h.f6, h.f7⟩⟩
    · have s_4 : S 4 = true := hall ⟨4, .data⟩ (by simp) rfl
      obtain rfl := h.f4 s_4
      go_simp
      refine (rtext_any sm W).mono ?_
      rintro e w5 ⟨rfl, hb5⟩
      have h1 := h.grow hb5
      exact hK _ _ ⟨x3, x4, x5, x6, _, _, x9, x10, rfl, ⟨h1.e, h1.f0, h1.f1, h1.f2, h1.f3, h1.f4, fun _ => rfl, h1.f6, h1.f7⟩⟩
    · have s_2 : S 2 = true := hall ⟨2, .data⟩ (by simp) rfl
      obtain ⟨⟨yl, yt, ya, yc, yx⟩, rfl, he2, hi2⟩ := h.f2 s_2
      have s_5 : S 5 = true := hall ⟨5, .data⟩ (by simp) rfl
      obtain rfl := h.f5 s_5
      simp only [Im.val, Im.sl, Im.l, Im.t, Im.a, Im.xs, Im.c]
      go_simp
      have h1 := h.grow (be_new W (.cells #[.bool yl, .string yt, .slice ya yx.length yc, .bool false, .string sm, .slice none 0 0] 70))
      have hrw := row_new (W := W) h.e.size [.mk yl yt ya yc yx, txt sm] (fun y hy => by rcases List.mem_cons.1 hy with e | hy; (rw [e]; exact hi2); (have e := List.mem_singleton.1 hy; rw [e]; exact trivial)) (cs := #[.bool yl, .string yt, .slice ya yx.length yc, .bool false, .string sm, .slice none 0 0]) rfl
      exact hK _ _ ⟨x3, x4, _, x6, x7, _, _, x10, rfl, ⟨h1.e, h1.f0, h1.f1, h1.f2, h1.f3, h1.f4, h1.f5, fun _ => ⟨W.heap.size, _, rfl, rfl, by show [er _, er _] = _; rw [he2]; rfl, hrw⟩, h1.f7⟩⟩
    · have s_6 : S 6 = true := hall ⟨6, .data⟩ (by simp) rfl
      obtain ⟨g6, Ys, rfl, hl6, he6, hr6⟩ := h.f6 s_6
      go_simp
      refine (rlist_any (some ⟨g6, 0, none⟩) 2 2 W).mono ?_
      rintro e w5 ⟨rfl, hb5⟩
      have h1 := h.grow hb5
      exact hK _ _ ⟨x3, x4, x5, x6, x7, x8, _, _, rfl, ⟨h1.e, h1.f0, h1.f1, h1.f2, h1.f3, h1.f4, h1.f5, h1.f6, fun _ => (RwI.list hl6 he6 hr6).grow hb5⟩⟩
  · rintro S aa W hall ⟨x3, x4, x5, x6, x7, x8, x9, x10, rfl, h⟩
    obtain rfl := h.f0 (hall 0 (by decide))
    obtain rfl := h.f1 (hall 1 (by decide))
    obtain hO2 := h.f2 (hall 2 (by decide))
    obtain rfl := h.f3 (hall 3 (by decide))
    obtain rfl := h.f4 (hall 4 (by decide))
    obtain rfl := h.f5 (hall 5 (by decide))
    obtain hO6 := h.f6 (hall 6 (by decide))
    obtain ⟨⟨zl, zt, za, zc, zx⟩, rfl, hez, hiz⟩ := h.f7 (hall 7 (by decide))
    have BWD := h.e
    clear h hall
    simp only [List.drop_succ_cons, List.drop_zero]
    simp only [Im.val, Im.sl, Im.l, Im.t, Im.a, Im.xs, Im.c]
    have hr1 := (BWD.block (p + 1) (by omega)).trans h1
    have hz1 := BWD.size
    have f0 := fun o => Lib.frozen_of_heap hr1 o
    have d0 : W.cell? ⟨p + 1, 0, none⟩ = some (.bool false) := by rw [Lib.cell_of_heap hr1]; rfl
    have d1 : W.cell? ⟨p + 1, 1, none⟩ = some (.string ⟨#[]⟩) := by rw [Lib.cell_of_heap hr1]; rfl
    have d2 : W.cell? ⟨p + 1, 2, none⟩ = some (.slice none 0 0) := by rw [Lib.cell_of_heap hr1]; rfl
    have HX : Hid (_ ∧ _ ∧ _) := ⟨A0.trans (BWD.mono (by omega)), hez, hiz⟩
    clear BWD hez hiz hO2 hO6 h1 hr1 A0 KT c0 c1
    go_wp2
    obtain ⟨BX, hez, hiz⟩ := HX.out
    refine bodyPost_ret (v := .agg #[.bool zl, .string zt, .slice za zx.length zc]) (by simp [results, Tryd.results48, go_sem, d0, d1, d2]) rfl ⟨.mk zl zt za zc zx, rfl, hez, ?_, ?_⟩
    · rw [HP.out]
      refine inP_of (fun b hb => ⟨⟨by omega, by simp [World.setCell]; omega⟩, fun j => ?_⟩) _ hiz
      rw [cell_ne _ _ _ _ _ (by show b ≠ p + 1; omega), cell_ne _ _ _ _ _ (by show b ≠ p + 1; omega), cell_ne _ _ _ _ _ (by show b ≠ p + 1; omega)]
    · rw [HP.out]
      exact below_set (below_set (below_set BX _ _ (by omega) _) _ _ (by omega) _) _ _ (by omega) _
end Go.Proofs.YtmefanagpkbjeaaDoor
