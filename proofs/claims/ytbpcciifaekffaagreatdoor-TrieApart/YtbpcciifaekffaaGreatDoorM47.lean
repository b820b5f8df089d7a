/- Lemmas: TrieRight's walk; pairs opened from a law's arguments. The law's some: the first pairs. turned, Same. TrieOrder's walk. A list of 17, half by half. -/
import Derived.Test.YtbpcciifaekffaaGreatDoorM1
import Derived.Test.YtbpcciifaekffaaGreatDoorM10
import Derived.Test.YtbpcciifaekffaaGreatDoorM11
import Derived.Test.YtbpcciifaekffaaGreatDoorM12
import Derived.Test.YtbpcciifaekffaaGreatDoorM13
import Derived.Test.YtbpcciifaekffaaGreatDoorM14
import Derived.Test.YtbpcciifaekffaaGreatDoorM15
import Derived.Test.YtbpcciifaekffaaGreatDoorM16
import Derived.Test.YtbpcciifaekffaaGreatDoorM17
import Derived.Test.YtbpcciifaekffaaGreatDoorM18
import Derived.Test.YtbpcciifaekffaaGreatDoorM19
import Derived.Test.YtbpcciifaekffaaGreatDoorM2
import Derived.Test.YtbpcciifaekffaaGreatDoorM20
import Derived.Test.YtbpcciifaekffaaGreatDoorM21
import Derived.Test.YtbpcciifaekffaaGreatDoorM22
import Derived.Test.YtbpcciifaekffaaGreatDoorM23
import Derived.Test.YtbpcciifaekffaaGreatDoorM24
import Derived.Test.YtbpcciifaekffaaGreatDoorM25
import Derived.Test.YtbpcciifaekffaaGreatDoorM26
import Derived.Test.YtbpcciifaekffaaGreatDoorM27
import Derived.Test.YtbpcciifaekffaaGreatDoorM28
import Derived.Test.YtbpcciifaekffaaGreatDoorM29
import Derived.Test.YtbpcciifaekffaaGreatDoorM3
import Derived.Test.YtbpcciifaekffaaGreatDoorM30
import Derived.Test.YtbpcciifaekffaaGreatDoorM31
import Derived.Test.YtbpcciifaekffaaGreatDoorM32
import Derived.Test.YtbpcciifaekffaaGreatDoorM33
import Derived.Test.YtbpcciifaekffaaGreatDoorM34
import Derived.Test.YtbpcciifaekffaaGreatDoorM35
import Derived.Test.YtbpcciifaekffaaGreatDoorM36
import Derived.Test.YtbpcciifaekffaaGreatDoorM37
import Derived.Test.YtbpcciifaekffaaGreatDoorM38
import Derived.Test.YtbpcciifaekffaaGreatDoorM39
import Derived.Test.YtbpcciifaekffaaGreatDoorM4
import Derived.Test.YtbpcciifaekffaaGreatDoorM40
import Derived.Test.YtbpcciifaekffaaGreatDoorM41
import Derived.Test.YtbpcciifaekffaaGreatDoorM42
import Derived.Test.YtbpcciifaekffaaGreatDoorM43
import Derived.Test.YtbpcciifaekffaaGreatDoorM44
import Derived.Test.YtbpcciifaekffaaGreatDoorM45
import Derived.Test.YtbpcciifaekffaaGreatDoorM46
import Derived.Test.YtbpcciifaekffaaGreatDoorM5
import Derived.Test.YtbpcciifaekffaaGreatDoorM6
import Derived.Test.YtbpcciifaekffaaGreatDoorM7
import Derived.Test.YtbpcciifaekffaaGreatDoorM8
import Derived.Test.YtbpcciifaekffaaGreatDoorM9
import Derived.Test.YtbpcciifaekffaaGreatDoorRows
import Derived.Deep.SlicePairs
namespace Go.Proofs.YtbpcciifaekffaaGreatDoor
open Go.ChangeShapes Go.WideShapes Go.ChangeAt Go.RowKit

theorem cellsPr : Tryz.prog.cellsOf 40 = 2 := by kernel_rfl
theorem cellsSt : Tryz.prog.cellsOf 9 = 1 := by kernel_rfl
/-- Pairs that a law gets: where they lie. -/
theorem open_pairs {H : Type} {enc : TypeId × Value → H} {W : World} {fuel : Nat} {a : Option Addr} {len cap : Nat} {x : DataW H × List MemPlace} (h : DataW.trod enc Tryz.prog W 0 (fun _ => true) true fuel 22 [.slice a len cap] = some x) :
    ∃ es : List Pr, es.length = len ∧ slP W.heap.size W a es := by
  rcases Go.Deep.open_slice_pairs Tryz.underlying22 Tryz.underlying40 cellsPr rfl rfl cellsSt cellsSt h with ⟨hcs, hx⟩ | ⟨a', len', cap', m, n, V0, V1, D0, D1, P0, P1, hcs, _, hle, hm, hmm, hx, hc⟩
  · injection hcs with hcs _
    injection hcs with h1 h2 h3
    exact ⟨[], h2.symm, .inl rfl⟩
  · injection hcs with hcs _
    injection hcs with h1 h2 h3
    subst h1 h2 h3
    rw [if_pos rfl] at hmm
    subst hmm
    by_cases h0 : len = 0
    · subst h0
      exact ⟨[], rfl, .inl rfl⟩
    · have each : ∀ i, i < len → ∃ e : Pr, V0 i = .string e.1 ∧ V1 i = .string e.2 := fun i hi => by
        obtain ⟨_, _, g0, g1⟩ := hc i (by omega)
        obtain ⟨t0, e0, _⟩ := DataW.trod_string Tryz.underlying9 g0
        obtain ⟨t1, e1, _⟩ := DataW.trod_string Tryz.underlying9 g1
        injection e0 with e0 _
        injection e1 with e1 _
        exact ⟨(t0, t1), e0, e1⟩
      obtain ⟨b, off, spot⟩ := a'
      have hspot : spot = none := by simpa [Addr.add] using World.cell?_spot (hc 0 (by omega)).1
      subst hspot
      have hbl : b < W.heap.size := by
        have := (hc 0 (by omega)).1
        rw [add_plain] at this
        exact block_lt_of_cell this
      refine ⟨(List.range len).map fun i => (match V0 i with | .string s => s | _ => ⟨#[]⟩, match V1 i with | .string s => s | _ => ⟨#[]⟩), by simp, .inr ⟨b, off, rfl, hbl, fun j e he => ?_⟩⟩
      rw [List.getElem?_map] at he
      cases hj : (List.range len)[j]? with
      | none => rw [hj] at he; cases he
      | some k =>
        rw [hj] at he
        have hk : j < len ∧ k = j := by
          have h1 := List.getElem?_eq_some_iff.1 hj
          obtain ⟨h2, h3⟩ := h1
          rw [List.getElem_range] at h3
          rw [List.length_range] at h2
          exact ⟨h2, h3.symm⟩
        obtain ⟨hjl, rfl⟩ := hk
        obtain ⟨e', f0, f1⟩ := each k hjl
        obtain ⟨k0, k1, _⟩ := hc k (by omega)
        rw [add_plain] at k0 k1
        rw [f0] at k0
        rw [f1] at k1
        simp only [Option.map_some, f0, f1] at he
        cases he
        exact ⟨by rw [show off + 2 * k = off + k * 2 by omega]; exact k0, by rw [show off + 2 * k + 1 = off + (k * 2 + 1) by omega]; exact k1⟩

open Go.Shelf Go.Sort
set_option maxRecDepth 20000 in
set_option maxHeartbeats 1000000 in
theorem tright_any (es : List Pr) (a : Option Addr) (c : Nat) (w : World) (hl : Laid w) (hp : slP w.heap.size w a es) :
    Calls Tryz.prog 4 #[.slice a es.length c] w fun e w' => e = .returned (.bool true) ∧ Below w.heap.size w w' := by
  go_enter Tryz.func4, Tryz.ntmps4
  go_wp2_with fail
  refine (shown6_any w hl).mono ?_
  rintro e w1 ⟨rfl, B1⟩
  have hp1 := slP_below B1 hp
  have K1 := right_any6 es a c w.heap.size w1 B1.size hp1
  have HP : Hid _ := hp
  clear hp hp1
  go_wp2_with fail
  refine K1.mono ?_
  rintro e w2 ⟨⟨b1, rfl, h1⟩, B2⟩
  have B12 := belowStep B1 B1.size B2
  have hp2 := slP_below B12 HP.out
  have K2 := rright6_any es a c w.heap.size w2 B12.size hp2
  have HH : Hid _ := h1
  clear hp2 h1 K1
  go_wp2_with fail
  refine K2.mono ?_
  rintro e w3 ⟨⟨b2, rfl, h2⟩, B3⟩
  have BW := belowStep B12 B12.size B3
  obtain rfl : b1 = b2 := by
    have h1 := HH.out
    cases b1 <;> cases b2 <;> simp_all
  clear h2 K2 HH HP
  go_wp2
  go_ret
  exact ⟨by simp, BW⟩
end Go.Proofs.YtbpcciifaekffaaGreatDoor
namespace Go.Proofs.YtbpcciifaekffaaGreatDoor
open Go.RowKit Go.Shelf Go.Sort

/-- A row of pairs is a slice of pairs. -/
theorem slP_owns {z : Nat} {v : Value} {es : List Pr} {W : World} (h : W.ownsRow z 40 2 v es.length (pC es)) : ∃ a c, v = .slice a es.length c ∧ slP W.heap.size W a es := by
  rcases h.2 with ⟨h1, h2⟩ | ⟨g, c, cur, h1, h2, h3, h4, h5, h6, h7⟩
  · exact ⟨none, 0, by rw [h1, h2], .inl (List.length_eq_zero_iff.1 h2)⟩
  · refine ⟨_, c, h1, .inr ⟨g, 0, rfl, (Array.getElem?_eq_some_iff.1 h3).1, fun j e he => ?_⟩⟩
    obtain ⟨p1, p2⟩ := pC_at es j e he
    have hj : j < es.length := (List.getElem?_eq_some_iff.1 he).1
    subst h1
    rw [h.cellAt (0 + 2 * j) (by omega), h.cellAt (0 + 2 * j + 1) (by omega), Nat.zero_add]
    exact ⟨p1, p2⟩
/-- What a law takes of a pair. -/
def smP (e : Pr) : Pr := (e.1, e.2.extract 0 (min e.2.size 100))
def smE (es : List Pr) : List Pr := (es.take 40).map smP
/-- A slice of pairs is answered. -/
def SlR (es : List Pr) (e : Ending) (w' : World) : Prop := ∃ a c, e = .returned (.slice a es.length c) ∧ slP w'.heap.size w' a es
theorem owns_below2 {w w' : World} {b : Nat} {e : TypeId} {size : Nat} {v : Value} {n : Nat} {xs : List Value} (h : w.ownsRow b e size v n xs) (hb : Below w.heap.size w w') : w'.ownsRow b e size v n xs :=
  h.kept (row := none) ⟨hb.os, hb.tape, hb.output, hb.size, fun k hk _ => hb.block k hk⟩ (by cases v.ownBlock <;> simp)
theorem sm_snoc {es : List Pr} {k : Nat} {e : Pr} (he : es[k]? = some e) : (es.take (k + 1)).map smP = (es.take k).map smP ++ [smP e] := by
  rw [List.take_add_one, he]
  simp

/-- What holds while a statement runs. -/
structure SmK (V : World) (b o r N c k : Nat) (fk fv fw : ByteArray) (u3 : Value) (S : Nat → Bool) (x15 x16 x17 x18 x19 x20 x21 x22 x23 x24 x25 x26 x27 x28 x29 x30 x31 x32 x33 x34 x35 : Value) (W : World) : Prop where
  e : Below V.heap.size V W
  f0 : S 0 = true → x15 = u3
  f1 : S 1 = true → x16 = Value.slice (some ⟨b, o, none⟩) N c
  f2 : S 2 = true → x17 = Value.int .i64 (k : Int)
  f3 : S 3 = true → x18 = Value.pointer (some ⟨b, r, none⟩)
  f4 : S 4 = true → x19 = Value.pointer (some ⟨b, r, none⟩)
  f5 : S 5 = true → x20 = Value.string fk
  f6 : S 6 = true → x21 = Value.slice (some ⟨b, o, none⟩) N c
  f7 : S 7 = true → x22 = Value.int .i64 (k : Int)
  f8 : S 8 = true → x23 = Value.pointer (some ⟨b, r, none⟩)
  f9 : S 9 = true → x24 = Value.pointer (some ⟨b, r + 1, none⟩)
  f10 : S 10 = true → x25 = Value.string fv
  f11 : S 11 = true → x26 = Value.slice (some ⟨b, o, none⟩) N c
  f12 : S 12 = true → x27 = Value.int .i64 (k : Int)
  f13 : S 13 = true → x28 = Value.pointer (some ⟨b, r, none⟩)
  f14 : S 14 = true → x29 = Value.pointer (some ⟨b, r + 1, none⟩)
  f15 : S 15 = true → x30 = Value.string fv
  f16 : S 16 = true → x31 = Value.int .i64 (fv.size : Int)
  f17 : S 17 = true → x32 = Value.int .i64 (min (fv.size : Int) 100)
  f18 : S 18 = true → x33 = Value.string fw
  f19 : S 19 = true → x34 = Value.agg #[.string fk, .string fw]
  f20 : S 20 = true → ∃ g, x35 = .slice (some ⟨g, 0, none⟩) 1 1 ∧ V.heap.size ≤ g ∧ g < W.heap.size ∧ W.heap[g]? = some (.cells #[.string fk, .string fw] 40 (0, 0))
theorem SmK.grow {V : World} {b o r N c k : Nat} {fk fv fw : ByteArray} {u3 : Value} {S : Nat → Bool} {x15 x16 x17 x18 x19 x20 x21 x22 x23 x24 x25 x26 x27 x28 x29 x30 x31 x32 x33 x34 x35 : Value} {W W' : World} (h : SmK V b o r N c k fk fv fw u3 S x15 x16 x17 x18 x19 x20 x21 x22 x23 x24 x25 x26 x27 x28 x29 x30 x31 x32 x33 x34 x35 W) (hb : Below W.heap.size W W') : SmK V b o r N c k fk fv fw u3 S x15 x16 x17 x18 x19 x20 x21 x22 x23 x24 x25 x26 x27 x28 x29 x30 x31 x32 x33 x34 x35 W' :=
  ⟨belowStep h.e h.e.size hb, h.f0, h.f1, h.f2, h.f3, h.f4, h.f5, h.f6, h.f7, h.f8, h.f9, h.f10, h.f11, h.f12, h.f13, h.f14, h.f15, h.f16, h.f17, h.f18, h.f19, fun s => (h.f20 s).imp fun _ ⟨j1, j0, j2, j3⟩ => ⟨j1, j0, Nat.lt_of_lt_of_le j2 hb.size, (hb.block _ j2).trans j3⟩⟩

set_option maxRecDepth 20000 in
set_option maxHeartbeats 4000000 in
theorem some_any (es : List Pr) (a : Option Addr) (c : Nat) (w : World) (hp : slP w.heap.size w a es) :
    Calls Tryz.prog 10 #[.slice a es.length c] w fun e w' => Below w.heap.size w w' ∧ SlR (smE es) e w' := by
  obtain ⟨i0, hi0, hz0, hz1, hz2⟩ := info_parts info_pair
  obtain ⟨N, hN⟩ : ∃ N, es.length = N := ⟨_, rfl⟩
  have HN : Hid (es.length = N) := hN
  rw [hN]
  clear hN
  obtain ⟨z, hz⟩ : ∃ z, w.heap.size = z := ⟨_, rfl⟩
  have HZ : Hid (w.heap.size = z) := hz
  have B0 : Below z w w := Below.refl _ _
  rw [hz] at hp ⊢
  have hz' : z ≤ w.heap.size := by omega
  clear hz
  go_enter Tryz.func10, Tryz.ntmps10
  go_wp2_with fail
  go_loopg [3, 4] (min N 40) (fun gk v i wr => ∃ k : Nat, k + gk = min N 40 ∧ i = .int .i64 k ∧ Below z w wr ∧ z ≤ wr.heap.size ∧ wr.ownsRow z 40 2 v k (pC ((es.take k).map smP)))
  case atStart => exact ⟨0, by omega, rfl, B0, hz', World.ownsRow_nil _ _ _ _⟩
  case round =>
    clear B0
    obtain ⟨k, hk, rfl, BW, hzw, hown⟩ := hrel
    have hr3 : ∀ b, u3.ownBlock = some b → z ≤ b := fun b hb => (hown.lt b hb).1
    by_cases hlt : k < min N 40
    · have l0 : (k : Int) < N := by omega
      have l4 : (k : Int) < 40 := by omega
      obtain ⟨f, hf⟩ : ∃ f, es[k]? = some f := ⟨es[k]'(by have := HN.out; omega), List.getElem?_eq_getElem (by have := HN.out; omega)⟩
      obtain ⟨b, o, rfl, hb, c0, c1⟩ := slP_at hp k f hf
      replace c0 := (BW.cell (p := ⟨b, _, none⟩) (by show b < z; omega)).trans c0
      replace c1 := (BW.cell (p := ⟨b, _, none⟩) (by show b < z; omega)).trans c1
      obtain ⟨r, hr⟩ : ∃ p, o + 2 * k = p := ⟨_, rfl⟩
      rw [hr] at c0 c1
      have hr2 : o + k * 2 = r := by omega
      have wk : IntKind.i64.wrap ((k : Int) + 1) = ((k + 1 : Nat) : Int) := by rw [IntKind.wrap_i64]; omega
      obtain ⟨fk, fv⟩ := f
      dsimp only at c0 c1
      have hm : (min (fv.size : Int) 100).toNat = min fv.size 100 := by omega
      obtain ⟨fw, hfw⟩ : ∃ q, fv.extract 0 (min fv.size 100) = q := ⟨_, rfl⟩
      have HF : Hid (es[k]? = some (fk, fv) ∧ fv.extract 0 (min fv.size 100) = fw) := ⟨hf, hfw⟩
      have hbW : b < wr.heap.size := by omega
      clear hf
      go_wp2_with fail
      refine region_inv_tail 21 (fun S aa W => ∃ x15 x16 x17 x18 x19 x20 x21 x22 x23 x24 x25 x26 x27 x28 x29 x30 x31 x32 x33 x34 x35 : Value, aa = { tmps := #[Value.slice (some { block := b, off := o }) N c, undef, Value.slice none 0 0, u3, Value.int IntKind.i64 ↑k, Value.int IntKind.i64 ↑k, Value.slice (some { block := b, off := o }) N c, Value.int IntKind.i64 ↑N, Value.bool true, Value.bool true, Value.int IntKind.i64 ↑k, Value.bool true, Value.bool true, u13, u14, x15, x16, x17, x18, x19, x20, x21, x22, x23, x24, x25, x26, x27, x28, x29, x30, x31, x32, x33, x34, x35, u36, undef], defers := [] } ∧ SmK wr b o r N c k fk fv fw u3 S x15 x16 x17 x18 x19 x20 x21 x22 x23 x24 x25 x26 x27 x28 x29 x30 x31 x32 x33 x34 x35 W) (by kernel_rfl) (by kernel_rfl) ?_ ?_ ?_
      · exact ⟨u15, u16, u17, u18, u19, u20, u21, u22, u23, u24, u25, u26, u27, u28, u29, u30, u31, u32, u33, u34, u35, rfl, ⟨(Below.refl _ wr).drew, nofun, nofun, nofun, nofun, nofun, nofun, nofun, nofun, nofun, nofun, nofun, nofun, nofun, nofun, nofun, nofun, nofun, nofun, nofun, nofun, nofun⟩⟩
      · intro i o S aa W hin hi hun hJ hall K hK
        obtain ⟨x15, x16, x17, x18, x19, x20, x21, x22, x23, x24, x25, x26, x27, x28, x29, x30, x31, x32, x33, x34, x35, rfl, h⟩ := hJ
        have hlt : i < 21 := hin
        have hcase : i = 0 ∨ i = 1 ∨ i = 2 ∨ i = 3 ∨ i = 4 ∨ i = 5 ∨ i = 6 ∨ i = 7 ∨ i = 8 ∨ i = 9 ∨ i = 10 ∨ i = 11 ∨ i = 12 ∨ i = 13 ∨ i = 14 ∨ i = 15 ∨ i = 16 ∨ i = 17 ∨ i = 18 ∨ i = 19 ∨ i = 20 := by omega
        rcases hcase with rfl | rfl | rfl | rfl | rfl | rfl | rfl | rfl | rfl | rfl | rfl | rfl | rfl | rfl | rfl | rfl | rfl | rfl | rfl | rfl | rfl
        all_goals (have ho := (Option.some.inj hi).symm; subst ho; clear hi hlt hin)
        · go_simp
          exact hK _ _ ⟨_, x16, x17, x18, x19, x20, x21, x22, x23, x24, x25, x26, x27, x28, x29, x30, x31, x32, x33, x34, x35, rfl, ⟨h.e, fun _ => rfl, h.f1, h.f2, h.f3, h.f4, h.f5, h.f6, h.f7, h.f8, h.f9, h.f10, h.f11, h.f12, h.f13, h.f14, h.f15, h.f16, h.f17, h.f18, h.f19, h.f20⟩⟩
        · go_simp
          exact hK _ _ ⟨x15, _, x17, x18, x19, x20, x21, x22, x23, x24, x25, x26, x27, x28, x29, x30, x31, x32, x33, x34, x35, rfl, ⟨h.e, h.f0, fun _ => rfl, h.f2, h.f3, h.f4, h.f5, h.f6, h.f7, h.f8, h.f9, h.f10, h.f11, h.f12, h.f13, h.f14, h.f15, h.f16, h.f17, h.f18, h.f19, h.f20⟩⟩
        · go_simp
          exact hK _ _ ⟨x15, x16, _, x18, x19, x20, x21, x22, x23, x24, x25, x26, x27, x28, x29, x30, x31, x32, x33, x34, x35, rfl, ⟨h.e, h.f0, h.f1, fun _ => rfl, h.f3, h.f4, h.f5, h.f6, h.f7, h.f8, h.f9, h.f10, h.f11, h.f12, h.f13, h.f14, h.f15, h.f16, h.f17, h.f18, h.f19, h.f20⟩⟩
        · have s_1 : S 1 = true := hall ⟨1, .data⟩ (by simp) rfl
          obtain rfl := h.f1 s_1
          have s_2 : S 2 = true := hall ⟨2, .data⟩ (by simp) rfl
          obtain rfl := h.f2 s_2
          go_simp
          exact hK _ _ ⟨x15, _, _, _, x19, x20, x21, x22, x23, x24, x25, x26, x27, x28, x29, x30, x31, x32, x33, x34, x35, rfl, ⟨h.e, h.f0, h.f1, h.f2, fun _ => rfl, h.f4, h.f5, h.f6, h.f7, h.f8, h.f9, h.f10, h.f11, h.f12, h.f13, h.f14, h.f15, h.f16, h.f17, h.f18, h.f19, h.f20⟩⟩
        · have s_3 : S 3 = true := hall ⟨3, .data⟩ (by simp) rfl
          obtain rfl := h.f3 s_3
          go_simp
          exact hK _ _ ⟨x15, x16, x17, _, _, x20, x21, x22, x23, x24, x25, x26, x27, x28, x29, x30, x31, x32, x33, x34, x35, rfl, ⟨h.e, h.f0, h.f1, h.f2, h.f3, fun _ => rfl, h.f5, h.f6, h.f7, h.f8, h.f9, h.f10, h.f11, h.f12, h.f13, h.f14, h.f15, h.f16, h.f17, h.f18, h.f19, h.f20⟩⟩
        · have s_4 : S 4 = true := hall ⟨4, .data⟩ (by simp) rfl
          obtain rfl := h.f4 s_4
          have cW := (h.e.cell (p := ⟨b, r, none⟩) hbW).trans c0
          go_simp
          exact hK _ _ ⟨x15, x16, x17, x18, _, _, x21, x22, x23, x24, x25, x26, x27, x28, x29, x30, x31, x32, x33, x34, x35, rfl, ⟨h.e, h.f0, h.f1, h.f2, h.f3, h.f4, fun _ => rfl, h.f6, h.f7, h.f8, h.f9, h.f10, h.f11, h.f12, h.f13, h.f14, h.f15, h.f16, h.f17, h.f18, h.f19, h.f20⟩⟩
        · go_simp
          exact hK _ _ ⟨x15, x16, x17, x18, x19, x20, _, x22, x23, x24, x25, x26, x27, x28, x29, x30, x31, x32, x33, x34, x35, rfl, ⟨h.e, h.f0, h.f1, h.f2, h.f3, h.f4, h.f5, fun _ => rfl, h.f7, h.f8, h.f9, h.f10, h.f11, h.f12, h.f13, h.f14, h.f15, h.f16, h.f17, h.f18, h.f19, h.f20⟩⟩
        · go_simp
          exact hK _ _ ⟨x15, x16, x17, x18, x19, x20, x21, _, x23, x24, x25, x26, x27, x28, x29, x30, x31, x32, x33, x34, x35, rfl, ⟨h.e, h.f0, h.f1, h.f2, h.f3, h.f4, h.f5, h.f6, fun _ => rfl, h.f8, h.f9, h.f10, h.f11, h.f12, h.f13, h.f14, h.f15, h.f16, h.f17, h.f18, h.f19, h.f20⟩⟩
        · have s_6 : S 6 = true := hall ⟨6, .data⟩ (by simp) rfl
          obtain rfl := h.f6 s_6
          have s_7 : S 7 = true := hall ⟨7, .data⟩ (by simp) rfl
          obtain rfl := h.f7 s_7
          go_simp
          exact hK _ _ ⟨x15, x16, x17, x18, x19, x20, _, _, _, x24, x25, x26, x27, x28, x29, x30, x31, x32, x33, x34, x35, rfl, ⟨h.e, h.f0, h.f1, h.f2, h.f3, h.f4, h.f5, h.f6, h.f7, fun _ => rfl, h.f9, h.f10, h.f11, h.f12, h.f13, h.f14, h.f15, h.f16, h.f17, h.f18, h.f19, h.f20⟩⟩
        · have s_8 : S 8 = true := hall ⟨8, .data⟩ (by simp) rfl
          obtain rfl := h.f8 s_8
          go_simp
          exact hK _ _ ⟨x15, x16, x17, x18, x19, x20, x21, x22, _, _, x25, x26, x27, x28, x29, x30, x31, x32, x33, x34, x35, rfl, ⟨h.e, h.f0, h.f1, h.f2, h.f3, h.f4, h.f5, h.f6, h.f7, h.f8, fun _ => rfl, h.f10, h.f11, h.f12, h.f13, h.f14, h.f15, h.f16, h.f17, h.f18, h.f19, h.f20⟩⟩
        · have s_9 : S 9 = true := hall ⟨9, .data⟩ (by simp) rfl
          obtain rfl := h.f9 s_9
          have cW := (h.e.cell (p := ⟨b, r + 1, none⟩) hbW).trans c1
          go_simp
          exact hK _ _ ⟨x15, x16, x17, x18, x19, x20, x21, x22, x23, _, _, x26, x27, x28, x29, x30, x31, x32, x33, x34, x35, rfl, ⟨h.e, h.f0, h.f1, h.f2, h.f3, h.f4, h.f5, h.f6, h.f7, h.f8, h.f9, fun _ => rfl, h.f11, h.f12, h.f13, h.f14, h.f15, h.f16, h.f17, h.f18, h.f19, h.f20⟩⟩
        · go_simp
          exact hK _ _ ⟨x15, x16, x17, x18, x19, x20, x21, x22, x23, x24, x25, _, x27, x28, x29, x30, x31, x32, x33, x34, x35, rfl, ⟨h.e, h.f0, h.f1, h.f2, h.f3, h.f4, h.f5, h.f6, h.f7, h.f8, h.f9, h.f10, fun _ => rfl, h.f12, h.f13, h.f14, h.f15, h.f16, h.f17, h.f18, h.f19, h.f20⟩⟩
        · go_simp
          exact hK _ _ ⟨x15, x16, x17, x18, x19, x20, x21, x22, x23, x24, x25, x26, _, x28, x29, x30, x31, x32, x33, x34, x35, rfl, ⟨h.e, h.f0, h.f1, h.f2, h.f3, h.f4, h.f5, h.f6, h.f7, h.f8, h.f9, h.f10, h.f11, fun _ => rfl, h.f13, h.f14, h.f15, h.f16, h.f17, h.f18, h.f19, h.f20⟩⟩
        · have s_11 : S 11 = true := hall ⟨11, .data⟩ (by simp) rfl
          obtain rfl := h.f11 s_11
          have s_12 : S 12 = true := hall ⟨12, .data⟩ (by simp) rfl
          obtain rfl := h.f12 s_12
          go_simp
          exact hK _ _ ⟨x15, x16, x17, x18, x19, x20, x21, x22, x23, x24, x25, _, _, _, x29, x30, x31, x32, x33, x34, x35, rfl, ⟨h.e, h.f0, h.f1, h.f2, h.f3, h.f4, h.f5, h.f6, h.f7, h.f8, h.f9, h.f10, h.f11, h.f12, fun _ => rfl, h.f14, h.f15, h.f16, h.f17, h.f18, h.f19, h.f20⟩⟩
        · have s_13 : S 13 = true := hall ⟨13, .data⟩ (by simp) rfl
          obtain rfl := h.f13 s_13
          go_simp
          exact hK _ _ ⟨x15, x16, x17, x18, x19, x20, x21, x22, x23, x24, x25, x26, x27, _, _, x30, x31, x32, x33, x34, x35, rfl, ⟨h.e, h.f0, h.f1, h.f2, h.f3, h.f4, h.f5, h.f6, h.f7, h.f8, h.f9, h.f10, h.f11, h.f12, h.f13, fun _ => rfl, h.f15, h.f16, h.f17, h.f18, h.f19, h.f20⟩⟩
        · have s_14 : S 14 = true := hall ⟨14, .data⟩ (by simp) rfl
          obtain rfl := h.f14 s_14
          have cW := (h.e.cell (p := ⟨b, r + 1, none⟩) hbW).trans c1
          go_simp
          exact hK _ _ ⟨x15, x16, x17, x18, x19, x20, x21, x22, x23, x24, x25, x26, x27, x28, _, _, x31, x32, x33, x34, x35, rfl, ⟨h.e, h.f0, h.f1, h.f2, h.f3, h.f4, h.f5, h.f6, h.f7, h.f8, h.f9, h.f10, h.f11, h.f12, h.f13, h.f14, fun _ => rfl, h.f16, h.f17, h.f18, h.f19, h.f20⟩⟩
        · have s_15 : S 15 = true := hall ⟨15, .data⟩ (by simp) rfl
          obtain rfl := h.f15 s_15
          go_simp
          exact hK _ _ ⟨x15, x16, x17, x18, x19, x20, x21, x22, x23, x24, x25, x26, x27, x28, x29, _, _, x32, x33, x34, x35, rfl, ⟨h.e, h.f0, h.f1, h.f2, h.f3, h.f4, h.f5, h.f6, h.f7, h.f8, h.f9, h.f10, h.f11, h.f12, h.f13, h.f14, h.f15, fun _ => rfl, h.f17, h.f18, h.f19, h.f20⟩⟩
        · have s_16 : S 16 = true := hall ⟨16, .data⟩ (by simp) rfl
          obtain rfl := h.f16 s_16
          go_simp
          exact hK _ _ ⟨x15, x16, x17, x18, x19, x20, x21, x22, x23, x24, x25, x26, x27, x28, x29, x30, _, _, x33, x34, x35, rfl, ⟨h.e, h.f0, h.f1, h.f2, h.f3, h.f4, h.f5, h.f6, h.f7, h.f8, h.f9, h.f10, h.f11, h.f12, h.f13, h.f14, h.f15, h.f16, fun _ => rfl, h.f18, h.f19, h.f20⟩⟩
        · have s_10 : S 10 = true := hall ⟨10, .data⟩ (by simp) rfl
          obtain rfl := h.f10 s_10
          have s_17 : S 17 = true := hall ⟨17, .data⟩ (by simp) rfl
          obtain rfl := h.f17 s_17
          go_simp
          rw [if_pos (by constructor <;> omega)]
          exact hK _ _ ⟨x15, x16, x17, x18, x19, x20, x21, x22, x23, x24, _, x26, x27, x28, x29, x30, x31, _, _, x34, x35, rfl, ⟨h.e, h.f0, h.f1, h.f2, h.f3, h.f4, h.f5, h.f6, h.f7, h.f8, h.f9, h.f10, h.f11, h.f12, h.f13, h.f14, h.f15, h.f16, h.f17, fun _ => rfl, h.f19, h.f20⟩⟩
        · have s_5 : S 5 = true := hall ⟨5, .data⟩ (by simp) rfl
          obtain rfl := h.f5 s_5
          have s_18 : S 18 = true := hall ⟨18, .data⟩ (by simp) rfl
          obtain rfl := h.f18 s_18
          go_simp
          exact hK _ _ ⟨x15, x16, x17, x18, x19, _, x21, x22, x23, x24, x25, x26, x27, x28, x29, x30, x31, x32, _, _, x35, rfl, ⟨h.e, h.f0, h.f1, h.f2, h.f3, h.f4, h.f5, h.f6, h.f7, h.f8, h.f9, h.f10, h.f11, h.f12, h.f13, h.f14, h.f15, h.f16, h.f17, h.f18, fun _ => rfl, h.f20⟩⟩
        · have s_19 : S 19 = true := hall ⟨19, .data⟩ (by simp) rfl
          obtain rfl := h.f19 s_19
          go_simp
          have h1 := h.grow ((Below.refl _ W).alloc (Nat.le_refl _) (.cells #[.string fk, .string fw] 40))
          exact hK _ _ ⟨x15, x16, x17, x18, x19, x20, x21, x22, x23, x24, x25, x26, x27, x28, x29, x30, x31, x32, x33, _, _, rfl, ⟨h1.e, h1.f0, h1.f1, h1.f2, h1.f3, h1.f4, h1.f5, h1.f6, h1.f7, h1.f8, h1.f9, h1.f10, h1.f11, h1.f12, h1.f13, h1.f14, h1.f15, h1.f16, h1.f17, h1.f18, h1.f19, fun _ => ⟨W.heap.size, rfl, h.e.size, by simp, World.alloc_heap_new W _⟩⟩⟩
      · rintro S aa W hall ⟨x15, x16, x17, x18, x19, x20, x21, x22, x23, x24, x25, x26, x27, x28, x29, x30, x31, x32, x33, x34, x35, rfl, h⟩
        obtain rfl := h.f0 (hall 0 (by decide))
        obtain rfl := h.f1 (hall 1 (by decide))
        obtain rfl := h.f2 (hall 2 (by decide))
        obtain rfl := h.f3 (hall 3 (by decide))
        obtain rfl := h.f4 (hall 4 (by decide))
        obtain rfl := h.f5 (hall 5 (by decide))
        obtain rfl := h.f6 (hall 6 (by decide))
        obtain rfl := h.f7 (hall 7 (by decide))
        obtain rfl := h.f8 (hall 8 (by decide))
        obtain rfl := h.f9 (hall 9 (by decide))
        obtain rfl := h.f10 (hall 10 (by decide))
        obtain rfl := h.f11 (hall 11 (by decide))
        obtain rfl := h.f12 (hall 12 (by decide))
        obtain rfl := h.f13 (hall 13 (by decide))
        obtain rfl := h.f14 (hall 14 (by decide))
        obtain rfl := h.f15 (hall 15 (by decide))
        obtain rfl := h.f16 (hall 16 (by decide))
        obtain rfl := h.f17 (hall 17 (by decide))
        obtain rfl := h.f18 (hall 18 (by decide))
        obtain rfl := h.f19 (hall 19 (by decide))
        obtain ⟨gg, rfl, hgg, hhg, hcg⟩ := h.f20 (hall 20 (by decide))
        have BWD := h.e
        clear h hall
        simp only [List.drop_succ_cons, List.drop_zero]
        have hown2 := owns_below2 hown BWD
        have hzW : z ≤ W.heap.size := Nat.le_trans hzw BWD.size
        have BW2 := belowStep BW hzw BWD
        have HV : Hid (_ ∧ _) := ⟨hown2, hcg⟩
        clear hown BW BWD hown2 hcg c0 c1
        go_wp2_with (at_builtin; refine wpList_append_where _ rfl _ _ 22 rfl z 40 i0 _ 2 32 Tryz.underlying22 hi0 hz0 hz1 hz2 rfl (by decide) _ k _ rfl HV.out.1 ⟨gg, 0, none⟩ 1 1 [.string fk, .string fw] rfl rfl ?c1 ?c2 (by unfold maxLen; omega) (by omega) ?c3 (by decide) ?_)
        case c1 =>
          intro j u hj
          rw [Addr.add_lit, Lib.cell_of_heap HV.out.2, Nat.zero_add]
          simpa using hj
        case c2 =>
          intro u hu
          simp only [List.mem_cons, List.not_mem_nil, or_false] at hu
          rcases hu with rfl | rfl <;> rfl
        case c3 => omega
        intro v' w6 a2 a3 a4 a5
        have HW : Hid (_ ∧ _) := ⟨a2, a3⟩
        clear a2 a3 a4 a5
        go_wp2
        go_roundg (gk - 1)
        case measure => omega
        case rel =>
          obtain ⟨a2, a3⟩ := HW.out
          refine ⟨k + 1, by omega, by first | rfl | (congr 1; omega), BW2.grown a3 hzW (fun q e => hr3 q e), Nat.le_trans hzW a3.size, ?_⟩
          have e := sm_snoc HF.out.1
          rw [e, pC_snoc]
          have e2 : smP (fk, fv) = (fk, fw) := by rw [← HF.out.2]; rfl
          rw [e2, List.map_take]
          exact a2
    · have hk2 : k = min N 40 := by omega
      have he : (es.take k).map smP = smE es := by
        unfold smE
        congr 1
        rw [hk2]
        by_cases h40 : N ≤ 40
        · rw [List.take_of_length_le (by have := HN.out; omega), List.take_of_length_le (by have := HN.out; omega)]
        · rw [show min N 40 = 40 by omega]
      rw [he] at hown
      have hlen : (smE es).length = k := by
        unfold smE
        rw [List.length_map, List.length_take, HN.out, Nat.min_comm]
        exact hk2.symm
      rw [← hlen] at hown
      obtain ⟨a', c', rfl, hs⟩ := slP_owns hown
      have HF : Hid (Below z w wr ∧ SlR (smE es) (.returned (.slice a' (smE es).length c')) wr) := ⟨BW, a', c', rfl, hs⟩
      clear hown hs he hlen BW
      by_cases l0 : (k : Int) < N
      · have l4 : ¬ (k : Int) < 40 := by omega
        go_wp2
        go_ret
        exact HF.out
      · go_wp2
        go_ret
        exact HF.out
end Go.Proofs.YtbpcciifaekffaaGreatDoor
namespace Go.Proofs.YtbpcciifaekffaaGreatDoor
open Go.RowKit Go.Shelf Go.Sort

theorem rev_snoc {es : List Pr} {g : Nat} {e : Pr} (he : es[g]? = some e) : (es.drop g).reverse = (es.drop (g + 1)).reverse ++ [e] := by
  rw [drop_at he, List.reverse_cons]
set_option maxRecDepth 20000 in
set_option maxHeartbeats 1000000 in
theorem turned_any (es : List Pr) (hle : es.length ≤ 1000) (a : Option Addr) (c : Nat) (w : World) (hp : slP w.heap.size w a es) :
    Calls Tryz.prog 20 #[.slice a es.length c] w fun e w' => Below w.heap.size w w' ∧ SlR es.reverse e w' := by
  obtain ⟨i0, hi0, hz0, hz1, hz2⟩ := info_parts info_pair
  obtain ⟨N, hN⟩ : ∃ N, es.length = N := ⟨_, rfl⟩
  have HN : Hid (es.length = N) := hN
  rw [hN] at hle ⊢
  clear hN
  obtain ⟨z, hz⟩ : ∃ z, w.heap.size = z := ⟨_, rfl⟩
  have B0 : Below z w w := Below.refl _ _
  rw [hz] at hp ⊢
  have hz' : z ≤ w.heap.size := by omega
  clear hz
  have w0 : IntKind.i64.wrap ((N : Int) - 1) = (N : Int) - 1 := by rw [IntKind.wrap_i64]; omega
  go_enter Tryz.func20, Tryz.ntmps20
  go_wp2_with fail
  go_loopg [3, 4] N (fun gk v i wr => ∃ k : Nat, k + gk = N ∧ i = .int .i64 ((gk : Int) - 1) ∧ Below z w wr ∧ z ≤ wr.heap.size ∧ wr.ownsRow z 40 2 v k (pC (es.drop gk).reverse))
  case atStart =>
    refine ⟨0, by omega, by first | rfl | (congr 1; rw [← IntKind.wrap_i64]; exact w0), B0, hz', ?_⟩
    rw [List.drop_of_length_le (by have := HN.out; omega)]
    exact World.ownsRow_nil _ _ _ _
  case round =>
    clear B0
    obtain ⟨k, hk, rfl, BW, hzw, hown⟩ := hrel
    have hr3 : ∀ b, u3.ownBlock = some b → z ≤ b := fun b hb => (hown.lt b hb).1
    by_cases hlt : 0 < gk
    · obtain ⟨g, rfl⟩ : ∃ g, gk = g + 1 := ⟨gk - 1, by omega⟩
      have lg : (((g + 1 : Nat) : Int) - 1) = (g : Int) := by omega
      have l0 : (0 : Int) ≤ g := by omega
      have l1 : (g : Int) < N := by omega
      obtain ⟨f, hf⟩ : ∃ f, es[g]? = some f := ⟨es[g]'(by have := HN.out; omega), List.getElem?_eq_getElem (by have := HN.out; omega)⟩
      obtain ⟨b, o, rfl, hb, c0, c1⟩ := slP_at hp g f hf
      replace c0 := (BW.cell (p := ⟨b, _, none⟩) (by show b < z; omega)).trans c0
      replace c1 := (BW.cell (p := ⟨b, _, none⟩) (by show b < z; omega)).trans c1
      obtain ⟨r, hr⟩ : ∃ p, o + 2 * g = p := ⟨_, rfl⟩
      rw [hr] at c0 c1
      have hr2 : o + g * 2 = r := by omega
      have wk : IntKind.i64.wrap ((g : Int) - 1) = (g : Int) - 1 := by rw [IntKind.wrap_i64]; omega
      obtain ⟨fk, fv⟩ := f
      dsimp only at c0 c1
      have HF : Hid (es[g]? = some (fk, fv)) := hf
      clear hf
      rw [lg]
      have A1 := be_new wr (.cells #[.string fk, .string fv] 40)
      have hnew := World.alloc_heap_new wr (.cells #[.string fk, .string fv] 40)
      have hown2 := owns_below2 hown A1
      have BW2 := belowStep BW hzw A1
      have hs1 := A1.size
      have HV : Hid (_ ∧ _ ∧ _) := ⟨hown2, hnew, BW2⟩
      clear hown BW A1 hnew hown2 BW2
      go_wp2_with (at_builtin; refine wpList_append_where _ rfl _ _ 22 rfl z 40 i0 _ 2 32 Tryz.underlying22 hi0 hz0 hz1 hz2 rfl (by decide) _ k _ rfl HV.out.1 ⟨wr.heap.size, 0, none⟩ 1 1 [.string fk, .string fv] rfl rfl ?c1 ?c2 (by unfold maxLen; omega) (by omega) ?c3 (by decide) ?_)
      case c1 =>
        intro j u hj
        rw [Addr.add_lit, Lib.cell_of_heap HV.out.2.1, Nat.zero_add]
        simpa using hj
      case c2 =>
        intro u hu
        simp only [List.mem_cons, List.not_mem_nil, or_false] at hu
        rcases hu with rfl | rfl <;> rfl
      case c3 => omega
      intro v' w6 a2 a3 a4 a5
      have HW : Hid (_ ∧ _) := ⟨a2, a3⟩
      clear a2 a3 a4 a5
      go_wp2
      go_roundg g
      case measure => omega
      case rel =>
        obtain ⟨a2, a3⟩ := HW.out
        refine ⟨k + 1, by omega, by first | rfl | (congr 1; omega), HV.out.2.2.grown a3 (by omega) (fun q e => hr3 q e), Nat.le_trans (Nat.le_trans hzw hs1) a3.size, ?_⟩
        rw [rev_snoc HF.out, pC_snoc]
        exact a2
    · obtain rfl : gk = 0 := by omega
      obtain rfl : k = N := by omega
      rw [List.drop_zero] at hown
      have hlen : es.reverse.length = k := by rw [List.length_reverse]; exact HN.out
      rw [← hlen] at hown
      obtain ⟨a', c', rfl, hs⟩ := slP_owns hown
      have HF : Hid (Below z w wr ∧ SlR es.reverse (.returned (.slice a' es.reverse.length c')) wr) := ⟨BW, a', c', rfl, hs⟩
      clear hown hs hlen BW
      go_wp2
      go_ret
      exact HF.out

/-- A slice of texts that lies below n (or is of none). -/
def slS (n : Nat) (W : World) (a : Option Addr) (xs : List ByteArray) : Prop := xs = [] ∨ ∃ b o, a = some ⟨b, o, none⟩ ∧ b < n ∧ ∀ j x, xs[j]? = some x → W.cell? ⟨b, o + j, none⟩ = some (.string x)
theorem slS_below {n : Nat} {W W' : World} (hb : Below n W W') {a : Option Addr} {xs : List ByteArray} (hp : slS n W a xs) : slS n W' a xs := by
  rcases hp with h | ⟨b, o, h1, h2, h3⟩
  · exact .inl h
  · exact .inr ⟨b, o, h1, h2, fun j x hx => (hb.cell (p := ⟨b, _, none⟩) h2).trans (h3 j x hx)⟩
theorem slS_at {n : Nat} {W : World} {a : Option Addr} {xs : List ByteArray} (hp : slS n W a xs) (j : Nat) (x : ByteArray) (hx : xs[j]? = some x) : ∃ b o, a = some ⟨b, o, none⟩ ∧ b < n ∧ W.cell? ⟨b, o + j, none⟩ = some (.string x) := by
  rcases hp with h | ⟨b, o, h1, h2, h3⟩
  · subst h
    cases hx
  · exact ⟨b, o, h1, h2, h3 j x hx⟩
theorem slS_owns {z : Nat} {v : Value} {xs : List ByteArray} {W : World} (h : W.ownsRow z 9 1 v xs.length (xs.map .string)) : ∃ a c, v = .slice a xs.length c ∧ slS W.heap.size W a xs := by
  rcases h.2 with ⟨h1, h2⟩ | ⟨g, c, cur, h1, h2, h3, h4, h5, h6, h7⟩
  · exact ⟨none, 0, by rw [h1, h2], .inl (List.length_eq_zero_iff.1 h2)⟩
  · refine ⟨_, c, h1, .inr ⟨g, 0, rfl, (Array.getElem?_eq_some_iff.1 h3).1, fun j x hx => ?_⟩⟩
    have hj : j < xs.length := (List.getElem?_eq_some_iff.1 hx).1
    subst h1
    rw [h.cellAt (0 + j) (by omega), Nat.zero_add, List.getElem?_map, hx]
    rfl
set_option maxRecDepth 20000 in
set_option maxHeartbeats 1000000 in
theorem same6_any (xs ys : List ByteArray) (hx : xs.length < 1000000) (hy : ys.length < 1000000) (a a' : Option Addr) (c c' n : Nat) (w : World) (hn : n ≤ w.heap.size) (h1 : slS n w a xs) (h2 : slS n w a' ys) :
    Calls Tryz.prog 19 #[.slice a xs.length c, .slice a' ys.length c'] w fun e w' => e = .returned (.bool (decide (xs = ys))) ∧ Below w.heap.size w w' := by
  obtain ⟨N, hN⟩ : ∃ N, xs.length = N := ⟨_, rfl⟩
  obtain ⟨M, hM⟩ : ∃ M, ys.length = M := ⟨_, rfl⟩
  have HN : Hid (xs.length = N ∧ ys.length = M) := ⟨hN, hM⟩
  rw [hN] at hx ⊢
  rw [hM] at hy ⊢
  clear hN hM
  by_cases hne : N = M
  · subst hne
    obtain ⟨q, hq⟩ : ∃ q, decide (xs = ys) = q := ⟨_, rfl⟩
    have HQ : Hid _ := hq
    rw [hq]
    clear hq
    obtain ⟨z, hz⟩ : ∃ z, w.heap.size = z := ⟨_, rfl⟩
    rw [hz] at hn ⊢
    have B0 : Below z w w := by rw [← hz]; exact Below.refl _ _
    have HZ : Hid _ := hz
    clear hz
    go_enter Tryz.func19, Tryz.ntmps19
    go_wp2_with fail
    go_loopg [5] N (fun gk i wr => ∃ k : Nat, k + gk = N ∧ i = .int .i64 k ∧ Hid (∀ j, j < k → xs[j]? = ys[j]?) ∧ Below z w wr)
    case atStart => exact ⟨0, by omega, rfl, (fun j h => by omega), B0⟩
    case round =>
      obtain ⟨k, hk, rfl, hA, BW⟩ := hrel
      have hwz : z ≤ wr.heap.size := by have := BW.size; have := HZ.out; omega
      by_cases hlt : k < N
      · have l1 : (k : Int) < N := by omega
        obtain ⟨f, hf⟩ : ∃ f, xs[k]? = some f := ⟨xs[k]'(by have := HN.out; omega), List.getElem?_eq_getElem (by have := HN.out; omega)⟩
        obtain ⟨g, hg⟩ : ∃ f, ys[k]? = some f := ⟨ys[k]'(by have := HN.out; omega), List.getElem?_eq_getElem (by have := HN.out; omega)⟩
        obtain ⟨b, o, rfl, hb, c0⟩ := slS_at h1 k f hf
        obtain ⟨b', o', rfl, hb', c1⟩ := slS_at h2 k g hg
        have hbv : b < wr.heap.size := by omega
        have hbv' : b' < wr.heap.size := by omega
        replace c0 := (BW.cell (p := ⟨b, _, none⟩) (by show b < z; omega)).trans c0
        replace c1 := (BW.cell (p := ⟨b', _, none⟩) (by show b' < z; omega)).trans c1
        obtain ⟨r, hr⟩ : ∃ p, o + k = p := ⟨_, rfl⟩
        obtain ⟨r', hr'⟩ : ∃ p, o' + k = p := ⟨_, rfl⟩
        rw [hr] at c0
        rw [hr'] at c1
        have q0 : ∀ d os, (grow (redrawn wr d) os).cell? ⟨b, r, none⟩ = some (.string f) := fun d os => ((below_regrown wr d os).cell (p := ⟨b, r, none⟩) hbv).trans c0
        have q1 : ∀ d os, (grow (redrawn wr d) os).cell? ⟨b', r', none⟩ = some (.string g) := fun d os => ((below_regrown wr d os).cell (p := ⟨b', r', none⟩) hbv').trans c1
        have wk : IntKind.i64.wrap ((k : Int) + 1) = ((k + 1 : Nat) : Int) := by rw [IntKind.wrap_i64]; omega
        clear c0 c1
        by_cases hsame : f = g
        · have hs : (f.toList == g.toList) = true := by rw [hsame]; exact beq_self_eq_true _
          have HG : Hid (xs[k]? = ys[k]?) := (show xs[k]? = ys[k]? by rw [hf, hg, hsame])
          clear hsame hg hf
          go_wp2_with fail
          refine wp_region_quiet_below (by kernel_rfl) (by kernel_rfl) ?_
          repeat (quiet_step (fail))
          refine wpQuiet_nil ?_
          intro w8 hw8
          have B8 : Below wr.heap.size wr w8 := by
            obtain ⟨p, rfl⟩ := hw8
            exact below_regrown _ _ _
          have BW8 := belowStep BW hwz B8
          clear hw8 q0 q1
          go_wp2
          go_roundg (gk - 1)
          case measure => omega
          case rel =>
            refine ⟨k + 1, by omega, by first | rfl | (congr 1; omega), ?_, BW8⟩
            intro j hj
            by_cases e : j = k
            · subst e
              exact HG.out
            · exact hA.out j (by omega)
        · have hs : (f.toList == g.toList) = false := by rw [beq_eq_false_iff_ne]; exact fun e => hsame (toList_inj e)
          have hqf : q = false := by
            rw [← HQ.out]
            refine decide_eq_false fun e => hsame ?_
            rw [e, hg] at hf
            exact (Option.some.inj hf).symm
          have HG : Hid (q = false) := hqf
          clear hqf
          clear hsame hg hf
          go_wp2_with fail
          refine wp_region_quiet_below (by kernel_rfl) (by kernel_rfl) ?_
          repeat (quiet_step (fail))
          refine wpQuiet_nil ?_
          intro w8 hw8
          have B8 : Below wr.heap.size wr w8 := by
            obtain ⟨p, rfl⟩ := hw8
            exact below_regrown _ _ _
          have BW8 := belowStep BW hwz B8
          clear hw8 q0 q1
          go_wp2
          go_ret
          exact ⟨by rw [HG.out]; rfl, BW8⟩
      · have l1 : ¬ (k : Int) < N := by omega
        have hqf : q = true := by
          rw [← HQ.out]
          refine decide_eq_true (List.ext_getElem? fun j => ?_)
          by_cases hj : j < k
          · exact hA.out j hj
          · have := HN.out
            rw [List.getElem?_eq_none (by omega), List.getElem?_eq_none (by omega)]
        have HG : Hid (q = true) := hqf
        clear hqf
        go_wp2
        go_ret
        exact ⟨by rw [HG.out]; rfl, BW⟩
  · have hd : decide (xs = ys) = false := by
      refine decide_eq_false fun e => hne ?_
      have := congrArg List.length e
      have := HN.out
      omega
    rw [hd]
    have hb : ((N : Int) == M) = false := by rw [beq_eq_false_iff_ne]; omega
    go_enter Tryz.func19, Tryz.ntmps19
    go_wp2
    go_ret
    exact ⟨rfl, Below.refl _ _⟩
end Go.Proofs.YtbpcciifaekffaaGreatDoor
namespace Go.Proofs.YtbpcciifaekffaaGreatDoor
open Go.RowKit Go.Shelf Go.Sort

mutual
theorem wyN_len (path : ByteArray) : ∀ n : Nd, (wyN path n).length ≤ cN n
  | .mk x ss => by
    have h := wyS_len path ss
    show (ownT x ++ wyS path ss).length ≤ cS ss + 1
    rw [List.length_append]
    have : (ownT x).length ≤ 1 := by unfold ownT; split <;> simp
    omega
theorem wyS_len (path : ByteArray) : ∀ ss : Sts, (wyS path ss).length ≤ cS ss
  | .nil => Nat.le_refl _
  | .cons p n r => by
    have h1 := wyN_len (rst path p) n
    have h2 := wyS_len path r
    show (if pfx p path = true then wyN (rst path p) n else wyS path r).length ≤ cN n + cS r
    split <;> omega
end
theorem way_len (path : ByteArray) (es : List Pr) (h : es.length ≤ 200) : (wyL (wayL path) es).length < 100000 := by
  unfold wyL
  split
  · simp
  · have h1 := cN_top es h
    obtain ⟨x, hx⟩ : ∃ x, topN es = x := ⟨_, rfl⟩
    rw [hx] at h1 ⊢
    obtain ⟨x, ss⟩ := x
    have h2 := wyS_len path ss
    show (eS x :: wyS path ss).length < 100000
    have h3 : cN (.mk x ss) = cS ss + 1 := rfl
    rw [List.length_cons]
    omega
theorem nodes_len (es : List Pr) (h : es.length ≤ 200) : (wyL nodesL es).length < 100000 := by
  unfold wyL
  split
  · simp
  · have h1 := cN_top es h
    obtain ⟨x, hx⟩ : ∃ x, topN es = x := ⟨_, rfl⟩
    rw [hx] at h1 ⊢
    obtain ⟨x, ss⟩ := x
    have h2 := allS_len ss
    show (eS x :: allS ss).length < 100000
    have h3 : cN (.mk x ss) = cS ss + 1 := rfl
    rw [List.length_cons]
    omega
theorem sm_len (es : List Pr) : (smE es).length ≤ 40 := by unfold smE; rw [List.length_map, List.length_take]; omega
/-- What told answers, by the one sorted order. -/
theorem TdP.of {n : Nat} {G : Nd → List ByteArray} {es es0 : List Pr} {e : Ending} {w' : World} (h : TdP n G es e w') (hr : RightP es) (hp : es0.Perm es) (hs : SortedP es0) : ∃ v, e = .returned (.tuple #[v, .int .i64 0]) ∧ w'.ownsRow n 9 1 v (wyL G es0).length ((wyL G es0).map .string) := by
  rcases h with ⟨h, _⟩ | ⟨_, es', v, h1, h2, h3, h4⟩
  · exact absurd hr h
  · rw [sorted_one hr h1 hp h2 hs] at h4
    exact ⟨v, h3, h4⟩
theorem RtP.of {es es0 : List Pr} {e : Ending} (h : RtP es e) (hr : RightP es) (hp : es0.Perm es) (hs : SortedP es0) : e = .returned (.tuple #[.string (sumOf (topB es0)), .int .i64 0]) := by
  rcases h with ⟨h, _⟩ | ⟨_, es', h1, h2, h3⟩
  · exact absurd hr h
  · rw [sorted_one hr h1 hp h2 hs] at h3
    exact h3
theorem TdP.no {n : Nat} {G : Nd → List ByteArray} {es : List Pr} {e : Ending} {w' : World} (h : TdP n G es e w') (hr : ¬ RightP es) : e = .returned (.tuple #[.slice none 0 0, .int .i64 60]) := by
  rcases h with ⟨_, h⟩ | ⟨h, _⟩
  · exact h
  · exact absurd h hr
theorem RtP.no {es : List Pr} {e : Ending} (h : RtP es e) (hr : ¬ RightP es) : e = .returned (.tuple #[.string ⟨#[]⟩, .int .i64 60]) := by
  rcases h with ⟨_, h⟩ | ⟨h, _⟩
  · exact h
  · exact absurd h hr

/-- Pairs, sorted. -/
def srt (es : List Pr) : List Pr := es.mergeSort fun x y => !ltStr y.1.data.toList x.1.data.toList
theorem srt_perm (es : List Pr) : (srt es).Perm es := List.mergeSort_perm _ _
theorem srt_sorted (es : List Pr) : SortedP (srt es) := by
  have h : (srt es).Pairwise fun x y => (!ltStr y.1.data.toList x.1.data.toList) = true := by
    refine List.pairwise_mergeSort (fun x y z h1 h2 => ?_) (fun x y => ?_) es
    · simp only [ltStr, Bool.not_eq_true', decide_eq_false_iff_not] at h1 h2 ⊢
      exact List.le_trans (α := UInt8) h1 h2
    · simp only [ltStr, Bool.or_eq_true, Bool.not_eq_true', decide_eq_false_iff_not]
      exact List.le_total _ _
  intro i j x y hij hx hy
  rw [List.pairwise_iff_getElem] at h
  obtain ⟨hi, rfl⟩ := List.getElem?_eq_some_iff.1 hx
  obtain ⟨hj, rfl⟩ := List.getElem?_eq_some_iff.1 hy
  have := h i j hi hj hij
  simpa using this
/-- What is answered of pairs, in whichever order. -/
def rtS (b : Bool) (es : List Pr) : ByteArray := if b = true then sumOf (topB (srt es)) else ⟨#[]⟩
def erS (b : Bool) : Int := if b = true then 0 else 60
def tdS (b : Bool) (G : Nd → List ByteArray) (es : List Pr) : List ByteArray := if b = true then wyL G (srt es) else []
theorem right_bool (es : List Pr) : ∃ b : Bool, b = true ↔ RightP es := by
  by_cases h : RightP es
  · exact ⟨true, fun _ => h, fun _ => rfl⟩
  · exact ⟨false, fun h' => Bool.noConfusion h', fun h' => absurd h' h⟩
theorem root_one {b : Bool} {es es2 : List Pr} (hb0 : b = true ↔ RightP es) (hp : es2.Perm es) (a : Option Addr) (c n : Nat) (w : World) (hl : Laid w) (hn : n ≤ w.heap.size) (hs : slP n w a es2) :
    Calls Tryz.prog 11 #[.slice a es2.length c] w fun e w' => e = .returned (.tuple #[.string (rtS b es), .int .i64 (erS b)]) ∧ Below w.heap.size w w' := by
  refine (root_any es2 a c n w hl hn hs).mono fun e w' ⟨hb, hr⟩ => ⟨?_, hb⟩
  by_cases h : RightP es
  · rw [hr.of ((right_perm hp).2 h) ((srt_perm es).trans hp.symm) (srt_sorted es)]
    unfold rtS erS
    rw [if_pos (hb0.2 h), if_pos (hb0.2 h)]
  · rw [hr.no (fun h' => h ((right_perm hp).1 h'))]
    unfold rtS erS
    rw [if_neg (fun h' => h (hb0.1 h')), if_neg (fun h' => h (hb0.1 h'))]
theorem td_one {b : Bool} {G : Nd → List ByteArray} {es es2 : List Pr} (hb0 : b = true ↔ RightP es) (hp : es2.Perm es) {n : Nat} {e : Ending} {w' : World} (h0 : TdP n G es2 e w') : ∃ a c, e = .returned (.tuple #[.slice a (tdS b G es).length c, .int .i64 (erS b)]) ∧ slS w'.heap.size w' a (tdS b G es) := by
  by_cases h : RightP es
  · obtain ⟨v, h1, h2⟩ := h0.of ((right_perm hp).2 h) ((srt_perm es).trans hp.symm) (srt_sorted es)
    obtain ⟨a, c, rfl, h3⟩ := slS_owns h2
    unfold tdS erS
    rw [if_pos (hb0.2 h), if_pos (hb0.2 h)]
    exact ⟨a, c, h1, h3⟩
  · have h1 := h0.no (fun h' => h ((right_perm hp).1 h'))
    unfold tdS erS
    rw [if_neg (fun h' => h (hb0.1 h')), if_neg (fun h' => h (hb0.1 h'))]
    exact ⟨none, 0, h1, .inl rfl⟩
theorem prove_one {b : Bool} {es es2 : List Pr} (hb0 : b = true ↔ RightP es) (hp : es2.Perm es) (key : ByteArray) (a : Option Addr) (c n : Nat) (w : World) (hl : Laid w) (hn : n ≤ w.heap.size) (hs : slP n w a es2) :
    Calls Tryz.prog 15 #[.slice a es2.length c, .string key] w fun e w' => (∃ a' c', e = .returned (.tuple #[.slice a' (tdS b (wayL (kyP key)) es).length c', .int .i64 (erS b)]) ∧ slS w'.heap.size w' a' (tdS b (wayL (kyP key)) es)) ∧ Below w.heap.size w w' :=
  (prove_any es2 key a c n w hl hn hs).mono fun _ _ ⟨hb, hr⟩ => ⟨td_one hb0 hp hr, hb⟩
theorem nodes_one {b : Bool} {es es2 : List Pr} (hb0 : b = true ↔ RightP es) (hp : es2.Perm es) (a : Option Addr) (c n : Nat) (w : World) (hl : Laid w) (hn : n ≤ w.heap.size) (hs : slP n w a es2) :
    Calls Tryz.prog 17 #[.slice a es2.length c] w fun e w' => (∃ a' c', e = .returned (.tuple #[.slice a' (tdS b nodesL es).length c', .int .i64 (erS b)]) ∧ slS w'.heap.size w' a' (tdS b nodesL es)) ∧ Below w.heap.size w w' :=
  (nodes_any es2 a c n w hl hn hs).mono fun _ _ ⟨hb, hr⟩ => ⟨td_one hb0 hp hr, hb⟩
theorem tdW_len {b : Bool} (path : ByteArray) (es : List Pr) (hb0 : b = true ↔ RightP es) : (tdS b (wayL path) es).length < 100000 := by
  unfold tdS
  split
  · rename_i h
    exact way_len path _ (by rw [(srt_perm es).length_eq]; exact (hb0.1 h).1)
  · simp
theorem tdN_len {b : Bool} (es : List Pr) (hb0 : b = true ↔ RightP es) : (tdS b nodesL es).length < 100000 := by
  unfold tdS
  split
  · rename_i h
    exact nodes_len _ (by rw [(srt_perm es).length_eq]; exact (hb0.1 h).1)
  · simp
theorem slP_up {n m : Nat} {W : World} {a : Option Addr} {es : List Pr} (h : slP n W a es) (hm : n ≤ m) : slP m W a es := by
  rcases h with h | ⟨b, o, h1, h2, h3⟩
  · exact .inl h
  · exact .inr ⟨b, o, h1, Nat.lt_of_lt_of_le h2 hm, h3⟩
theorem slS_up {n m : Nat} {W : World} {a : Option Addr} {xs : List ByteArray} (h : slS n W a xs) (hm : n ≤ m) : slS m W a xs := by
  rcases h with h | ⟨b, o, h1, h2, h3⟩
  · exact .inl h
  · exact .inr ⟨b, o, h1, Nat.lt_of_lt_of_le h2 hm, h3⟩

set_option maxRecDepth 20000 in
set_option maxHeartbeats 4000000 in
theorem torder_any (es : List Pr) (a : Option Addr) (c : Nat) (key : ByteArray) (w : World) (hl : Laid w) (hp : slP w.heap.size w a es) :
    Calls Tryz.prog 6 #[.slice a es.length c, .string key] w fun e w' => e = .returned (.bool true) ∧ Below w.heap.size w w' := by
  go_enter Tryz.func6, Tryz.ntmps6
  go_wp2_with fail
  refine (shown6_any w hl).mono ?_
  rintro e w1 ⟨rfl, B1⟩
  have hl1 := hl.below B1
  have K1 := some_any es a c w1 (slP_up (slP_below B1 hp) B1.size)
  clear hp
  go_wp2_with fail
  refine K1.mono ?_
  rintro e w2 ⟨B2, a2, c2, rfl, hp2⟩
  have B12 := belowStep B1 B1.size B2
  have hl2 := hl1.below B2
  have hle := sm_len es
  obtain ⟨Ls, hL⟩ : ∃ Ls, smE es = Ls := ⟨_, rfl⟩
  rw [hL] at hp2 hle ⊢
  clear hL K1 B1 B2
  obtain ⟨q, hq⟩ := right_bool Ls
  have K2 := turned_any Ls (by omega) a2 c2 w2 hp2
  have KR := fun W hl hn hs => root_one hq (List.Perm.refl Ls) a2 c2 w2.heap.size W hl hn hs
  have KP := fun W hl hn hs => prove_one hq (List.Perm.refl Ls) key a2 c2 w2.heap.size W hl hn hs
  have KR' := fun a c n W hl hn hs => root_one hq (List.reverse_perm Ls) a c n W hl hn hs
  have KP' := fun a c n W hl hn hs => prove_one hq (List.reverse_perm Ls) key a c n W hl hn hs
  have hlen := tdW_len (kyP key) Ls hq
  obtain ⟨n, hn⟩ : ∃ n, Ls.length = n := ⟨_, rfl⟩
  obtain ⟨s, hs⟩ : ∃ s, rtS q Ls = s := ⟨_, rfl⟩
  obtain ⟨x, hx⟩ : ∃ x, erS q = x := ⟨_, rfl⟩
  obtain ⟨xs, hxs⟩ : ∃ xs, tdS q (wayL (kyP key)) Ls = xs := ⟨_, rfl⟩
  rw [hs, hx] at KR KR'
  rw [hxs, hx] at KP KP'
  rw [hxs] at hlen
  rw [List.length_reverse] at KR' KP'
  obtain ⟨y, hy⟩ : ∃ y, xs.length = y := ⟨_, rfl⟩
  have KS := fun a a' c c' n w hn h1 h2 => same6_any xs xs (by omega) (by omega) a a' c c' n w hn h1 h2
  rw [decide_eq_true rfl, hy] at KS
  rw [hy] at KP KP'
  have HP2 : Hid _ := hp2
  clear hp2 hx hs hxs hq
  rw [hn] at K2 hle KR KP KR' KP' ⊢
  go_wp2_with fail
  refine K2.mono ?_
  rintro e w3 ⟨B3, a3, c3, rfl, hp3⟩
  have B13 := belowStep B12 B12.size B3
  have hl3 := hl2.below B3
  have hs23 := B3.size
  rw [List.length_reverse, hn]
  have HP3 : Hid _ := hp3
  clear hp3 K2 hn
  go_wp2_with fail
  refine (KR w3 hl3 hs23 (slP_below B3 HP2.out)).mono ?_
  rintro e w4 ⟨rfl, B4⟩
  have B14 := belowStep B13 B13.size B4
  have B24 := belowStep B3 hs23 B4
  have hl4 := hl3.below B4
  have hs34 := B4.size
  clear KR
  go_wp2_with fail
  refine (KR' a3 c3 w3.heap.size w4 hl4 hs34 (slP_below B4 HP3.out)).mono ?_
  rintro e w5 ⟨rfl, B5⟩
  have B15 := belowStep B14 B14.size B5
  have B25 := belowStep B24 (Nat.le_trans hs23 hs34) B5
  have B35 := belowStep B4 hs34 B5
  have hl5 := hl4.below B5
  have hs45 := B5.size
  clear KR'
  go_wp2_with fail
  refine (KP w5 hl5 (by omega) (slP_below B25 HP2.out)).mono ?_
  rintro e w6 ⟨⟨a6, c6, rfl, s6⟩, B6⟩
  have B16 := belowStep B15 B15.size B6
  have B36 := belowStep B35 (by omega) B6
  have hl6 := hl5.below B6
  have hs56 := B6.size
  have HS6 : Hid _ := s6
  clear KP s6
  go_wp2_with fail
  refine (KP' a3 c3 w3.heap.size w6 hl6 (by omega) (slP_below B36 HP3.out)).mono ?_
  rintro e w7 ⟨⟨a7, c7, rfl, s7⟩, B7⟩
  have B17 := belowStep B16 B16.size B7
  have hs67 := B7.size
  have K9 := KS a6 a7 c6 c7 w7.heap.size w7 (Nat.le_refl _) (slS_up (slS_below B7 HS6.out) hs67) s7
  clear KP' KS s7 HS6
  go_wp2_with fail
  refine K9.mono ?_
  rintro e w8 ⟨rfl, B8⟩
  have BW := belowStep B17 B17.size B8
  clear K9
  go_wp2
  go_ret
  exact ⟨by simp, BW⟩
end Go.Proofs.YtbpcciifaekffaaGreatDoor
namespace Go.Proofs.YtbpcciifaekffaaGreatDoor
open Go.RowKit Go.Shelf Go.Sort

/-- An entry goes on with a half byte. -/
def goes (d : Nat) (h : Int) (e : Pr) : Bool := decide (d < e.1.size) && decide (bt e.1 d = h)
/-- What stands for those that go on with a half byte. -/
def hvI (nd : List Pr → Nd) (d : Nat) (es : List Pr) (h : Nat) : It := if (es.filter (goes d (h : Int))).length = 0 then zIt else refI (nd (es.filter (goes d (h : Int)))).x

theorem rn_stop (d : Nat) (x : Int) : ∀ (es : List Pr) (e : Pr), es[rn d x es]? = some e → bt e.1 d ≠ x
  | [], e, h => by cases h
  | a :: r, e, h => by
    by_cases hx : bt a.1 d = x
    · rw [show rn d x (a :: r) = rn d x r + 1 by simp [rn, hx]] at h
      exact rn_stop d x r e (by simpa using h)
    · rw [show rn d x (a :: r) = 0 by simp [rn, hx]] at h
      simp at h
      rw [← h]
      exact hx
/-- Sorted, and all longer than the place: what they have there does not go down. -/
theorem Ok.mono {d : Nat} {rs : List Pr} (h : Ok d rs) (hl : ∀ (j : Nat) (e : Pr), rs[j]? = some e → d < e.1.size) {i j : Nat} {e f : Pr} (hij : i < j) (he : rs[i]? = some e) (hf : rs[j]? = some f) : bt e.1 d ≤ bt f.1 d := by
  obtain ⟨t, h1, h2, h3, h4⟩ := h.srt i j e f hij he hf
  have le := hl i e he
  by_cases ht : t < d
  · rcases h4 with h4 | h4
    · omega
    · have := h.alk i j e f t he hf ht
      omega
  · by_cases htd : t = d
    · subst htd
      rcases h4 with h4 | h4
      · omega
      · omega
    · have := h3 d (by omega)
      omega
/-- A run's part is those that have its half byte; behind it none has. -/
theorem run_filter {d : Nat} {rs : List Pr} (h : Ok d rs) (hl : ∀ (j : Nat) (e : Pr), rs[j]? = some e → d < e.1.size) (k : Nat) (hk : k < rs.length) :
    (rs.drop k).filter (goes d (hfA d rs k)) = (rs.drop k).take (rn d (hfA d rs k) (rs.drop k)) ∧ (∀ e ∈ rs.drop (k + rn d (hfA d rs k) (rs.drop k)), hfA d rs k < bt e.1 d) := by
  obtain ⟨m, hm⟩ : ∃ m, rn d (hfA d rs k) (rs.drop k) = m := ⟨_, rfl⟩
  obtain ⟨x, hx⟩ : ∃ x, hfA d rs k = x := ⟨_, rfl⟩
  have hle := rn_le d x (rs.drop k)
  have hpos := rn_pos (d := d) hk
  rw [hx] at hm hpos
  rw [hm] at hle hpos
  rw [hx, hm]
  have behind : ∀ e ∈ rs.drop (k + m), x < bt e.1 d := by
    intro e he
    obtain ⟨j, hj⟩ := List.getElem?_of_mem he
    rw [List.getElem?_drop] at hj
    have hlt : k + m + j < rs.length := (List.getElem?_eq_some_iff.1 hj).1
    have hs : rs[k + m]? = some (rs[k + m]'(by omega)) := List.getElem?_eq_getElem (by omega)
    have hne : bt (rs[k + m]'(by omega)).1 d ≠ x := by
      refine rn_stop d x (rs.drop k) _ ?_
      rw [hm, List.getElem?_drop]
      exact hs
    have hk0 : rs[k]? = some rs[k] := List.getElem?_eq_getElem hk
    have hxk : bt rs[k].1 d = x := by rw [← hx, hfA_at hk0]
    have h1 := h.mono hl (i := k) (j := k + m) (by omega) hk0 hs
    by_cases hj0 : j = 0
    · subst hj0
      rw [Nat.add_zero, hs] at hj
      cases hj
      omega
    · have h2 := h.mono hl (i := k + m) (j := k + m + j) (by omega) hs hj
      omega
  refine ⟨?_, behind⟩
  have e1 : rs.drop k = (rs.drop k).take m ++ rs.drop (k + m) := by rw [← List.drop_drop, List.take_append_drop]
  rw [e1, List.filter_append, List.take_append_of_le_length (by rw [List.length_take]; omega)]
  have f2 : (rs.drop (k + m)).filter (goes d x) = [] := by
    rw [List.filter_eq_nil_iff]
    intro e he hg
    have h1 := behind e he
    unfold goes at hg
    simp only [Bool.and_eq_true, decide_eq_true_eq] at hg
    omega
  have f1 : ((rs.drop k).take m).filter (goes d x) = (rs.drop k).take m := by
    rw [List.filter_eq_self]
    intro e he
    obtain ⟨j, hj⟩ := List.getElem?_of_mem he
    obtain ⟨hjm, hj2⟩ := part_get hj
    unfold goes
    have h1 := rn_all d x (rs.drop k) j e (by omega) (by rw [List.getElem?_drop]; exact hj2)
    rw [decide_eq_true (hl _ e hj2), decide_eq_true h1]
    rfl
  rw [f1, f2, List.append_nil, List.take_take, Nat.min_self]
theorem fold_half (nd : List Pr → Nd) {d : Nat} {rs : List Pr} (h : Ok d rs) (hl : ∀ (j : Nat) (e : Pr), rs[j]? = some e → d < e.1.size) :
    ∀ (f k : Nat) (l : List It) (j : Nat), rs.length ≤ f + k → j < l.length →
      (((pgF d rs f k).map (kdE nd d rs)).foldl (fun l k => l.set k.1.toNat (refI k.2.x)) l)[j]? = some (if ((rs.drop k).filter (goes d (j : Int))).length = 0 then l.getD j zIt else refI (nd ((rs.drop k).filter (goes d (j : Int)))).x)
  | 0, k, l, j, hf, hj => by
    rw [List.drop_of_length_le (by omega)]
    simp only [pgF, List.map_nil, List.foldl_nil, List.filter_nil, List.length_nil, if_pos]
    rw [List.getD_eq_getElem?_getD, List.getElem?_eq_getElem hj]
    rfl
  | f + 1, k, l, j, hf, hj => by
    by_cases hk : k < rs.length
    · obtain ⟨r1, r2⟩ := run_filter h hl k hk
      have hk0 : rs[k]? = some rs[k] := List.getElem?_eq_getElem hk
      have hpos := rn_pos (d := d) hk
      obtain ⟨x, hx⟩ : ∃ x, hfA d rs k = x := ⟨_, rfl⟩
      have hx0 : 0 ≤ x ∧ x < 16 := by rw [← hx, hfA_at hk0]; exact h.hlf k _ d hk0
      simp only [pgF, if_pos hk, List.map_cons, List.foldl_cons]
      rw [hx] at r1 r2 hpos ⊢
      obtain ⟨m, hm⟩ : ∃ m, rn d x (rs.drop k) = m := ⟨_, rfl⟩
      rw [hm] at r1 r2 hpos ⊢
      rw [fold_half nd h hl f (k + m) _ j (by omega) (by rw [List.length_set]; exact hj)]
      have e1 : rs.drop k = (rs.drop k).take m ++ rs.drop (k + m) := by rw [← List.drop_drop, List.take_append_drop]
      by_cases hjx : (j : Int) = x
      · have n1 : (rs.drop (k + m)).filter (goes d (j : Int)) = [] := by
          rw [List.filter_eq_nil_iff]
          intro e he hg
          have h1 := r2 e he
          unfold goes at hg
          simp only [Bool.and_eq_true, decide_eq_true_eq] at hg
          omega
        rw [n1, if_pos List.length_nil]
        rw [show (goes d (j : Int)) = goes d x by rw [hjx], r1]
        have hne : ¬ ((rs.drop k).take m).length = 0 := by rw [List.length_take, List.length_drop]; omega
        rw [if_neg hne]
        have hjt : (kdE nd d rs (k, m)).1.toNat = j := by
          show (hfA d rs k).toNat = j
          rw [hx]
          omega
        rw [hjt, List.getD_eq_getElem?_getD, List.getElem?_set_self (by omega)]
        rfl
      · have e2 : (rs.drop k).filter (goes d (j : Int)) = (rs.drop (k + m)).filter (goes d (j : Int)) := by
          have f1 : ((rs.drop k).take m).filter (goes d (j : Int)) = [] := by
            rw [List.filter_eq_nil_iff]
            intro e he hg
            rw [← r1] at he
            have h1 := (List.mem_filter.1 he).2
            unfold goes at hg h1
            simp only [Bool.and_eq_true, decide_eq_true_eq] at hg h1
            omega
          conv => lhs; rw [e1, List.filter_append, f1, List.nil_append]
        rw [e2]
        have hjt : (kdE nd d rs (k, m)).1.toNat ≠ j := by
          show (hfA d rs k).toNat ≠ j
          rw [hx]
          omega
        have hg : (l.set (kdE nd d rs (k, m)).1.toNat (refI (kdE nd d rs (k, m)).2.x)).getD j zIt = l.getD j zIt := by
          rw [List.getD_eq_getElem?_getD, List.getD_eq_getElem?_getD, List.getElem?_set_ne hjt]
        rw [hg]
    · simp only [pgF, if_neg hk, List.map_nil, List.foldl_nil]
      rw [List.drop_of_length_le (by omega), List.filter_nil, if_pos List.length_nil, List.getD_eq_getElem?_getD, List.getElem?_eq_getElem hj]
      rfl
/-- Who goes on: all but the one that ends here. -/
theorem goes_rest {d : Nat} {es : List Pr} (x : Int) : (rsE d es).filter (goes d x) = es.filter (goes d x) := by
  unfold rsE
  match es with
  | [] => rfl
  | e :: r =>
    dsimp only
    split
    · rename_i h
      rw [List.filter_cons, if_neg]
      unfold goes
      rw [decide_eq_false (by omega)]
      simp
    · rfl
/-- A list of 17 of sorted entries, half by half. -/
theorem fork_halves (nd : List Pr → Nd) {d : Nat} {es : List Pr} (h : Ok d es) (h2 : 2 ≤ es.length) : (fkN nd d es).x = .mk true ⟨#[]⟩ ((List.range 16).map (hvI nd d es) ++ [.mk false (vlE d es) []]) := by
  obtain ⟨k1, k2, _, _⟩ := h.rest h2
  show It.mk true ⟨#[]⟩ (fkI (vlE d es) ((pg d (rsE d es) 0).map (kdE nd d (rsE d es)))) = _
  congr 1
  refine List.ext_getElem? fun j => ?_
  have hlen := fkI_len (vlE d es) ((pg d (rsE d es) 0).map (kdE nd d (rsE d es)))
  by_cases hj : j < 17
  · have hf := fold_half nd k1 k2 ((rsE d es).length - 0) 0 (List.replicate 16 zIt ++ [.mk false (vlE d es) []]) j (by omega) (by simp; omega)
    unfold fkI
    show (((pgF d (rsE d es) ((rsE d es).length - 0) 0).map (kdE nd d (rsE d es))).foldl _ _)[j]? = _
    rw [hf, List.drop_zero, goes_rest]
    by_cases hj16 : j < 16
    · rw [List.getElem?_append_left (by simp; exact hj16), List.getElem?_map, List.getElem?_range hj16]
      show _ = some (hvI nd d es j)
      unfold hvI
      congr 2
      rw [List.getD_eq_getElem?_getD, List.getElem?_append_left (by simp; exact hj16), List.getElem?_replicate, if_pos hj16]
      rfl
    · obtain rfl : j = 16 := by omega
      have hn : es.filter (goes d ((16 : Nat) : Int)) = [] := by
        rw [List.filter_eq_nil_iff]
        intro e he hg
        obtain ⟨i, hi⟩ := List.getElem?_of_mem he
        have := h.hlf i e d hi
        unfold goes at hg
        simp only [Bool.and_eq_true, decide_eq_true_eq] at hg
        omega
      rw [hn, if_pos List.length_nil]
      rfl
  · rw [List.getElem?_eq_none (by omega), List.getElem?_eq_none (by simp; omega)]
end Go.Proofs.YtbpcciifaekffaaGreatDoor
