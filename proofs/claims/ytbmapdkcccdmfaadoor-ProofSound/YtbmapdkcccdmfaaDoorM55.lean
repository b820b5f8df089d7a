/- Lemmas: The law's few: the first pairs; what pairs have at a key. -/
import Derived.Test.YtbmapdkcccdmfaaDoorM1
import Derived.Test.YtbmapdkcccdmfaaDoorM10
import Derived.Test.YtbmapdkcccdmfaaDoorM11
import Derived.Test.YtbmapdkcccdmfaaDoorM12
import Derived.Test.YtbmapdkcccdmfaaDoorM13
import Derived.Test.YtbmapdkcccdmfaaDoorM14
import Derived.Test.YtbmapdkcccdmfaaDoorM15
import Derived.Test.YtbmapdkcccdmfaaDoorM16
import Derived.Test.YtbmapdkcccdmfaaDoorM17
import Derived.Test.YtbmapdkcccdmfaaDoorM18
import Derived.Test.YtbmapdkcccdmfaaDoorM19
import Derived.Test.YtbmapdkcccdmfaaDoorM2
import Derived.Test.YtbmapdkcccdmfaaDoorM20
import Derived.Test.YtbmapdkcccdmfaaDoorM21
import Derived.Test.YtbmapdkcccdmfaaDoorM22
import Derived.Test.YtbmapdkcccdmfaaDoorM23
import Derived.Test.YtbmapdkcccdmfaaDoorM24
import Derived.Test.YtbmapdkcccdmfaaDoorM25
import Derived.Test.YtbmapdkcccdmfaaDoorM26
import Derived.Test.YtbmapdkcccdmfaaDoorM27
import Derived.Test.YtbmapdkcccdmfaaDoorM28
import Derived.Test.YtbmapdkcccdmfaaDoorM29
import Derived.Test.YtbmapdkcccdmfaaDoorM3
import Derived.Test.YtbmapdkcccdmfaaDoorM30
import Derived.Test.YtbmapdkcccdmfaaDoorM31
import Derived.Test.YtbmapdkcccdmfaaDoorM32
import Derived.Test.YtbmapdkcccdmfaaDoorM33
import Derived.Test.YtbmapdkcccdmfaaDoorM34
import Derived.Test.YtbmapdkcccdmfaaDoorM35
import Derived.Test.YtbmapdkcccdmfaaDoorM36
import Derived.Test.YtbmapdkcccdmfaaDoorM37
import Derived.Test.YtbmapdkcccdmfaaDoorM38
import Derived.Test.YtbmapdkcccdmfaaDoorM39
import Derived.Test.YtbmapdkcccdmfaaDoorM4
import Derived.Test.YtbmapdkcccdmfaaDoorM40
import Derived.Test.YtbmapdkcccdmfaaDoorM41
import Derived.Test.YtbmapdkcccdmfaaDoorM42
import Derived.Test.YtbmapdkcccdmfaaDoorM43
import Derived.Test.YtbmapdkcccdmfaaDoorM44
import Derived.Test.YtbmapdkcccdmfaaDoorM45
import Derived.Test.YtbmapdkcccdmfaaDoorM46
import Derived.Test.YtbmapdkcccdmfaaDoorM47
import Derived.Test.YtbmapdkcccdmfaaDoorM48
import Derived.Test.YtbmapdkcccdmfaaDoorM49
import Derived.Test.YtbmapdkcccdmfaaDoorM5
import Derived.Test.YtbmapdkcccdmfaaDoorM50
import Derived.Test.YtbmapdkcccdmfaaDoorM51
import Derived.Test.YtbmapdkcccdmfaaDoorM53
import Derived.Test.YtbmapdkcccdmfaaDoorM54
import Derived.Test.YtbmapdkcccdmfaaDoorM6
import Derived.Test.YtbmapdkcccdmfaaDoorM7
import Derived.Test.YtbmapdkcccdmfaaDoorM8
import Derived.Test.YtbmapdkcccdmfaaDoorM9
import Derived.Test.YtbmapdkcccdmfaaDoorRows
namespace Go.Proofs.YtbmapdkcccdmfaaDoor
open Go.RowKit Go.Shelf Go.Sort

def fwE (es : List Pr) : List Pr := (es.take 30).map smP

set_option maxRecDepth 20000 in
set_option maxHeartbeats 4000000 in
theorem few_any (es : List Pr) (a : Option Addr) (c : Nat) (w : World) (hp : slP w.heap.size w a es) :
    Calls Tryd.prog 10 #[.slice a es.length c] w fun e w' => Below w.heap.size w w' ∧ SlR (fwE es) e w' := by
  obtain ⟨i0, hi0, hz0, hz1, hz2⟩ := info_parts info_pair
  obtain ⟨N, hN⟩ : ∃ N, es.length = N := ⟨_, rfl⟩
  have HN : Hid (es.length = N) := hN
  rw [hN]
  clear hN
  obtain ⟨z, hz⟩ : ∃ z, w.heap.size = z := ⟨_, rfl⟩
  have HZ : Hid (w.heap.size = z) := hz
  have B0 : Below z w w := Below.refl _ _
  rw [hz] at hp ⊢
  have hz' : z ≤ w.heap.size := by omega
  clear hz
  go_enter Tryd.func10, Tryd.ntmps10
  go_wp2_with fail
  go_loopg [3, 4] (min N 30) (fun gk v i wr => ∃ k : Nat, k + gk = min N 30 ∧ i = .int .i64 k ∧ Below z w wr ∧ z ≤ wr.heap.size ∧ wr.ownsRow z 57 2 v k (pC ((es.take k).map smP)))
  case atStart => exact ⟨0, by omega, rfl, B0, hz', World.ownsRow_nil _ _ _ _⟩
  case round =>
    clear B0
    obtain ⟨k, hk, rfl, BW, hzw, hown⟩ := hrel
    have hr3 : ∀ b, u3.ownBlock = some b → z ≤ b := fun b hb => (hown.lt b hb).1
    by_cases hlt : k < min N 30
    · have l0 : (k : Int) < N := by omega
      have l4 : (k : Int) < 30 := by omega
      obtain ⟨f, hf⟩ : ∃ f, es[k]? = some f := ⟨es[k]'(by have := HN.out; omega), List.getElem?_eq_getElem (by have := HN.out; omega)⟩
      obtain ⟨b, o, rfl, hb, c0, c1⟩ := slP_at hp k f hf
      replace c0 := (BW.cell (p := ⟨b, _, none⟩) (by show b < z; omega)).trans c0
      replace c1 := (BW.cell (p := ⟨b, _, none⟩) (by show b < z; omega)).trans c1
      obtain ⟨r, hr⟩ : ∃ p, o + 2 * k = p := ⟨_, rfl⟩
      rw [hr] at c0 c1
      have hr2 : o + k * 2 = r := by omega
      have wk : IntKind.i64.wrap ((k : Int) + 1) = ((k + 1 : Nat) : Int) := by rw [IntKind.wrap_i64]; omega
      obtain ⟨fk, fv⟩ := f
      dsimp only at c0 c1
      have hm : (min (fv.size : Int) 100).toNat = min fv.size 100 := by omega
      obtain ⟨fw, hfw⟩ : ∃ q, fv.extract 0 (min fv.size 100) = q := ⟨_, rfl⟩
      have HF : Hid (es[k]? = some (fk, fv) ∧ fv.extract 0 (min fv.size 100) = fw) := ⟨hf, hfw⟩
      have hbW : b < wr.heap.size := by omega
      clear hf
      go_wp2_with fail
      refine region_inv_tail 21 (fun S aa W => ∃ x15 x16 x17 x18 x19 x20 x21 x22 x23 x24 x25 x26 x27 x28 x29 x30 x31 x32 x33 x34 x35 : Value, aa = { tmps := #[Value.slice (some { block := b, off := o }) N c, undef, Value.slice none 0 0, u3, Value.int IntKind.i64 ↑k, Value.int IntKind.i64 ↑k, Value.slice (some { block := b, off := o }) N c, Value.int IntKind.i64 ↑N, Value.bool true, Value.bool true, Value.int IntKind.i64 ↑k, Value.bool true, Value.bool true, u13, u14, x15, x16, x17, x18, x19, x20, x21, x22, x23, x24, x25, x26, x27, x28, x29, x30, x31, x32, x33, x34, x35, u36, undef], defers := [] } ∧ SmK wr b o r N c k fk fv fw u3 S x15 x16 x17 x18 x19 x20 x21 x22 x23 x24 x25 x26 x27 x28 x29 x30 x31 x32 x33 x34 x35 W) (by kernel_rfl) (by kernel_rfl) ?_ ?_ ?_
      · exact ⟨u15, u16, u17, u18, u19, u20, u21, u22, u23, u24, u25, u26, u27, u28, u29, u30, u31, u32, u33, u34, u35, rfl, ⟨(Below.refl _ wr).drew, nofun, nofun, nofun, nofun, nofun, nofun, nofun, nofun, nofun, nofun, nofun, nofun, nofun, nofun, nofun, nofun, nofun, nofun, nofun, nofun, nofun⟩⟩
      · intro i o S aa W hin hi hun hJ hall K hK
        obtain ⟨x15, x16, x17, x18, x19, x20, x21, x22, x23, x24, x25, x26, x27, x28, x29, x30, x31, x32, x33, x34, x35, rfl, h⟩ := hJ
        have hlt : i < 21 := hin
        have hcase : i = 0 ∨ i = 1 ∨ i = 2 ∨ i = 3 ∨ i = 4 ∨ i = 5 ∨ i = 6 ∨ i = 7 ∨ i = 8 ∨ i = 9 ∨ i = 10 ∨ i = 11 ∨ i = 12 ∨ i = 13 ∨ i = 14 ∨ i = 15 ∨ i = 16 ∨ i = 17 ∨ i = 18 ∨ i = 19 ∨ i = 20 := by omega
        rcases hcase with rfl | rfl | rfl | rfl | rfl | rfl | rfl | rfl | rfl | rfl | rfl | rfl | rfl | rfl | rfl | rfl | rfl | rfl | rfl | rfl | rfl
        all_goals (have ho := (Option.some.inj hi).symm; subst ho; clear hi hlt hin)
        · go_simp
          exact hK _ _ ⟨_, x16, x17, x18, x19, x20, x21, x22, x23, x24, x25, x26, x27, x28, x29, x30, x31, x32, x33, x34, x35, rfl, ⟨h.e, fun _ => rfl, h.f1, h.f2, h.f3, h.f4, h.f5, h.f6, h.f7, h.f8, h.f9, h.f10, h.f11, h.f12, h.f13, h.f14, h.f15, h.f16, h.f17, h.f18, h.f19, h.f20⟩⟩
        · go_simp
          exact hK _ _ ⟨x15, _, x17, x18, x19, x20, x21, x22, x23, x24, x25, x26, x27, x28, x29, x30, x31, x32, x33, x34, x35, rfl, ⟨h.e, h.f0, fun _ => rfl, h.f2, h.f3, h.f4, h.f5, h.f6, h.f7, h.f8, h.f9, h.f10, h.f11, h.f12, h.f13, h.f14, h.f15, h.f16, h.f17, h.f18, h.f19, h.f20⟩⟩
        · go_simp
          exact hK _ _ ⟨x15, x16, _, x18, x19, x20, x21, x22, x23, x24, x25, x26, x27, x28, x29, x30, x31, x32, x33, x34, x35, rfl, ⟨h.e, h.f0, h.f1, fun _ => rfl, h.f3, h.f4, h.f5, h.f6, h.f7, h.f8, h.f9, h.f10, h.f11, h.f12, h.f13, h.f14, h.f15, h.f16, h.f17, h.f18, h.f19, h.f20⟩⟩
        · have s_1 : S 1 = true := hall ⟨1, .data⟩ (by simp) rfl
          obtain rfl := h.f1 s_1
          have s_2 : S 2 = true := hall ⟨2, .data⟩ (by simp) rfl
          obtain rfl := h.f2 s_2
          go_simp
          exact hK _ _ ⟨x15, _, _, _, x19, x20, x21, x22, x23, x24, x25, x26, x27, x28, x29, x30, x31, x32, x33, x34, x35, rfl, ⟨h.e, h.f0, h.f1, h.f2, fun _ => rfl, h.f4, h.f5, h.f6, h.f7, h.f8, h.f9, h.f10, h.f11, h.f12, h.f13, h.f14, h.f15, h.f16, h.f17, h.f18, h.f19, h.f20⟩⟩
        · have s_3 : S 3 = true := hall ⟨3, .data⟩ (by simp) rfl
          obtain rfl := h.f3 s_3
          go_simp
          exact hK _ _ ⟨x15, x16, x17, _, _, x20, x21, x22, x23, x24, x25, x26, x27, x28, x29, x30, x31, x32, x33, x34, x35, rfl, ⟨h.e, h.f0, h.f1, h.f2, h.f3, fun _ => rfl, h.f5, h.f6, h.f7, h.f8, h.f9, h.f10, h.f11, h.f12, h.f13, h.f14, h.f15, h.f16, h.f17, h.f18, h.f19, h.f20⟩⟩
        · have s_4 : S 4 = true := hall ⟨4, .data⟩ (by simp) rfl
          obtain rfl := h.f4 s_4
          have cW := (h.e.cell (p := ⟨b, r, none⟩) hbW).trans c0
          go_simp
          exact hK _ _ ⟨x15, x16, x17, x18, _, _, x21, x22, x23, x24, x25, x26, x27, x28, x29, x30, x31, x32, x33, x34, x35, rfl, ⟨h.e, h.f0, h.f1, h.f2, h.f3, h.f4, fun _ => rfl, h.f6, h.f7, h.f8, h.f9, h.f10, h.f11, h.f12, h.f13, h.f14, h.f15, h.f16, h.f17, h.f18, h.f19, h.f20⟩⟩
        · go_simp
          exact hK _ _ ⟨x15, x16, x17, x18, x19, x20, _, x22, x23, x24, x25, x26, x27, x28, x29, x30, x31, x32, x33, x34, x35, rfl, ⟨h.e, h.f0, h.f1, h.f2, h.f3, h.f4, h.f5, fun _ => rfl, h.f7, h.f8, h.f9, h.f10, h.f11, h.f12, h.f13, h.f14, h.f15, h.f16, h.f17, h.f18, h.f19, h.f20⟩⟩
        · go_simp
          exact hK _ _ ⟨x15, x16, x17, x18, x19, x20, x21, _, x23, x24, x25, x26, x27, x28, x29, x30, x31, x32, x33, x34, x35, rfl, ⟨h.e, h.f0, h.f1, h.f2, h.f3, h.f4, h.f5, h.f6, fun _ => rfl, h.f8, h.f9, h.f10, h.f11, h.f12, h.f13, h.f14, h.f15, h.f16, h.f17, h.f18, h.f19, h.f20⟩⟩
        · have s_6 : S 6 = true := hall ⟨6, .data⟩ (by simp) rfl
          obtain rfl := h.f6 s_6
          have s_7 : S 7 = true := hall ⟨7, .data⟩ (by simp) rfl
          obtain rfl := h.f7 s_7
          go_simp
          exact hK _ _ ⟨x15, x16, x17, x18, x19, x20, _, _, _, x24, x25, x26, x27, x28, x29, x30, x31, x32, x33, x34, x35, rfl, ⟨h.e, h.f0, h.f1, h.f2, h.f3, h.f4, h.f5, h.f6, h.f7, fun _ => rfl, h.f9, h.f10, h.f11, h.f12, h.f13, h.f14, h.f15, h.f16, h.f17, h.f18, h.f19, h.f20⟩⟩
        · have s_8 : S 8 = true := hall ⟨8, .data⟩ (by simp) rfl
          obtain rfl := h.f8 s_8
          go_simp
          exact hK _ _ ⟨x15, x16, x17, x18, x19, x20, x21, x22, _, _, x25, x26, x27, x28, x29, x30, x31, x32, x33, x34, x35, rfl, ⟨h.e, h.f0, h.f1, h.f2, h.f3, h.f4, h.f5, h.f6, h.f7, h.f8, fun _ => rfl, h.f10, h.f11, h.f12, h.f13, h.f14, h.f15, h.f16, h.f17, h.f18, h.f19, h.f20⟩⟩
        · have s_9 : S 9 = true := hall ⟨9, .data⟩ (by simp) rfl
          obtain rfl := h.f9 s_9
          have cW := (h.e.cell (p := ⟨b, r + 1, none⟩) hbW).trans c1
          go_simp
          exact hK _ _ ⟨x15, x16, x17, x18, x19, x20, x21, x22, x23, _, _, x26, x27, x28, x29, x30, x31, x32, x33, x34, x35, rfl, ⟨h.e, h.f0, h.f1, h.f2, h.f3, h.f4, h.f5, h.f6, h.f7, h.f8, h.f9, fun _ => rfl, h.f11, h.f12, h.f13, h.f14, h.f15, h.f16, h.f17, h.f18, h.f19, h.f20⟩⟩
        · go_simp
          exact hK _ _ ⟨x15, x16, x17, x18, x19, x20, x21, x22, x23, x24, x25, _, x27, x28, x29, x30, x31, x32, x33, x34, x35, rfl, ⟨h.e, h.f0, h.f1, h.f2, h.f3, h.f4, h.f5, h.f6, h.f7, h.f8, h.f9, h.f10, fun _ => rfl, h.f12, h.f13, h.f14, h.f15, h.f16, h.f17, h.f18, h.f19, h.f20⟩⟩
        · go_simp
          exact hK _ _ ⟨x15, x16, x17, x18, x19, x20, x21, x22, x23, x24, x25, x26, _, x28, x29, x30, x31, x32, x33, x34, x35, rfl, ⟨h.e, h.f0, h.f1, h.f2, h.f3, h.f4, h.f5, h.f6, h.f7, h.f8, h.f9, h.f10, h.f11, fun _ => rfl, h.f13, h.f14, h.f15, h.f16, h.f17, h.f18, h.f19, h.f20⟩⟩
        · have s_11 : S 11 = true := hall ⟨11, .data⟩ (by simp) rfl
          obtain rfl := h.f11 s_11
          have s_12 : S 12 = true := hall ⟨12, .data⟩ (by simp) rfl
          obtain rfl := h.f12 s_12
          go_simp
          exact hK _ _ ⟨x15, x16, x17, x18, x19, x20, x21, x22, x23, x24, x25, _, _, _, x29, x30, x31, x32, x33, x34, x35, rfl, ⟨h.e, h.f0, h.f1, h.f2, h.f3, h.f4, h.f5, h.f6, h.f7, h.f8, h.f9, h.f10, h.f11, h.f12, fun _ => rfl, h.f14, h.f15, h.f16, h.f17, h.f18, h.f19, h.f20⟩⟩
        · have s_13 : S 13 = true := hall ⟨13, .data⟩ (by simp) rfl
          obtain rfl := h.f13 s_13
          go_simp
          exact hK _ _ ⟨x15, x16, x17, x18, x19, x20, x21, x22, x23, x24, x25, x26, x27, _, _, x30, x31, x32, x33, x34, x35, rfl, ⟨h.e, h.f0, h.f1, h.f2, h.f3, h.f4, h.f5, h.f6, h.f7, h.f8, h.f9, h.f10, h.f11, h.f12, h.f13, fun _ => rfl, h.f15, h.f16, h.f17, h.f18, h.f19, h.f20⟩⟩
        · have s_14 : S 14 = true := hall ⟨14, .data⟩ (by simp) rfl
          obtain rfl := h.f14 s_14
          have cW := (h.e.cell (p := ⟨b, r + 1, none⟩) hbW).trans c1
          go_simp
          exact hK _ _ ⟨x15, x16, x17, x18, x19, x20, x21, x22, x23, x24, x25, x26, x27, x28, _, _, x31, x32, x33, x34, x35, rfl, ⟨h.e, h.f0, h.f1, h.f2, h.f3, h.f4, h.f5, h.f6, h.f7, h.f8, h.f9, h.f10, h.f11, h.f12, h.f13, h.f14, fun _ => rfl, h.f16, h.f17, h.f18, h.f19, h.f20⟩⟩
        · have s_15 : S 15 = true := hall ⟨15, .data⟩ (by simp) rfl
          obtain rfl := h.f15 s_15
          go_simp
          exact hK _ _ ⟨x15, x16, x17, x18, x19, x20, x21, x22, x23, x24, x25, x26, x27, x28, x29, _, _, x32, x33, x34, x35, rfl, ⟨h.e, h.f0, h.f1, h.f2, h.f3, h.f4, h.f5, h.f6, h.f7, h.f8, h.f9, h.f10, h.f11, h.f12, h.f13, h.f14, h.f15, fun _ => rfl, h.f17, h.f18, h.f19, h.f20⟩⟩
        · have s_16 : S 16 = true := hall ⟨16, .data⟩ (by simp) rfl
          obtain rfl := h.f16 s_16
          go_simp
          exact hK _ _ ⟨x15, x16, x17, x18, x19, x20, x21, x22, x23, x24, x25, x26, x27, x28, x29, x30, _, _, x33, x34, x35, rfl, ⟨h.e, h.f0, h.f1, h.f2, h.f3, h.f4, h.f5, h.f6, h.f7, h.f8, h.f9, h.f10, h.f11, h.f12, h.f13, h.f14, h.f15, h.f16, fun _ => rfl, h.f18, h.f19, h.f20⟩⟩
        · have s_10 : S 10 = true := hall ⟨10, .data⟩ (by simp) rfl
          obtain rfl := h.f10 s_10
          have s_17 : S 17 = true := hall ⟨17, .data⟩ (by simp) rfl
          obtain rfl := h.f17 s_17
          go_simp
          rw [if_pos (by constructor <;> omega)]
          exact hK _ _ ⟨x15, x16, x17, x18, x19, x20, x21, x22, x23, x24, _, x26, x27, x28, x29, x30, x31, _, _, x34, x35, rfl, ⟨h.e, h.f0, h.f1, h.f2, h.f3, h.f4, h.f5, h.f6, h.f7, h.f8, h.f9, h.f10, h.f11, h.f12, h.f13, h.f14, h.f15, h.f16, h.f17, fun _ => rfl, h.f19, h.f20⟩⟩
        · have s_5 : S 5 = true := hall ⟨5, .data⟩ (by simp) rfl
          obtain rfl := h.f5 s_5
          have s_18 : S 18 = true := hall ⟨18, .data⟩ (by simp) rfl
          obtain rfl := h.f18 s_18
          go_simp
          exact hK _ _ ⟨x15, x16, x17, x18, x19, _, x21, x22, x23, x24, x25, x26, x27, x28, x29, x30, x31, x32, _, _, x35, rfl, ⟨h.e, h.f0, h.f1, h.f2, h.f3, h.f4, h.f5, h.f6, h.f7, h.f8, h.f9, h.f10, h.f11, h.f12, h.f13, h.f14, h.f15, h.f16, h.f17, h.f18, fun _ => rfl, h.f20⟩⟩
        · have s_19 : S 19 = true := hall ⟨19, .data⟩ (by simp) rfl
          obtain rfl := h.f19 s_19
          go_simp
          have h1 := h.grow ((Below.refl _ W).alloc (Nat.le_refl _) (.cells #[.string fk, .string fw] 57))
          exact hK _ _ ⟨x15, x16, x17, x18, x19, x20, x21, x22, x23, x24, x25, x26, x27, x28, x29, x30, x31, x32, x33, _, _, rfl, ⟨h1.e, h1.f0, h1.f1, h1.f2, h1.f3, h1.f4, h1.f5, h1.f6, h1.f7, h1.f8, h1.f9, h1.f10, h1.f11, h1.f12, h1.f13, h1.f14, h1.f15, h1.f16, h1.f17, h1.f18, h1.f19, fun _ => ⟨W.heap.size, rfl, h.e.size, by simp, World.alloc_heap_new W _⟩⟩⟩
      · rintro S aa W hall ⟨x15, x16, x17, x18, x19, x20, x21, x22, x23, x24, x25, x26, x27, x28, x29, x30, x31, x32, x33, x34, x35, rfl, h⟩
        obtain rfl := h.f0 (hall 0 (by decide))
        obtain rfl := h.f1 (hall 1 (by decide))
        obtain rfl := h.f2 (hall 2 (by decide))
        obtain rfl := h.f3 (hall 3 (by decide))
        obtain rfl := h.f4 (hall 4 (by decide))
        obtain rfl := h.f5 (hall 5 (by decide))
        obtain rfl := h.f6 (hall 6 (by decide))
        obtain rfl := h.f7 (hall 7 (by decide))
        obtain rfl := h.f8 (hall 8 (by decide))
        obtain rfl := h.f9 (hall 9 (by decide))
        obtain rfl := h.f10 (hall 10 (by decide))
        obtain rfl := h.f11 (hall 11 (by decide))
        obtain rfl := h.f12 (hall 12 (by decide))
        obtain rfl := h.f13 (hall 13 (by decide))
        obtain rfl := h.f14 (hall 14 (by decide))
        obtain rfl := h.f15 (hall 15 (by decide))
        obtain rfl := h.f16 (hall 16 (by decide))
        obtain rfl := h.f17 (hall 17 (by decide))
        obtain rfl := h.f18 (hall 18 (by decide))
        obtain rfl := h.f19 (hall 19 (by decide))
        obtain ⟨gg, rfl, hgg, hhg, hcg⟩ := h.f20 (hall 20 (by decide))
        have BWD := h.e
        clear h hall
        simp only [List.drop_succ_cons, List.drop_zero]
        have hown2 := owns_below2 hown BWD
        have hzW : z ≤ W.heap.size := Nat.le_trans hzw BWD.size
        have BW2 := belowStep BW hzw BWD
        have HV : Hid (_ ∧ _) := ⟨hown2, hcg⟩
        clear hown BW BWD hown2 hcg c0 c1
        go_wp2_with (at_builtin; refine wpList_append_where _ rfl _ _ 29 rfl z 57 i0 _ 2 32 Tryd.underlying29 hi0 hz0 hz1 hz2 rfl (by decide) _ k _ rfl HV.out.1 ⟨gg, 0, none⟩ 1 1 [.string fk, .string fw] rfl rfl ?c1 ?c2 (by unfold maxLen; omega) (by omega) ?c3 (by decide) ?_)
        case c1 =>
          intro j u hj
          rw [Addr.add_lit, Lib.cell_of_heap HV.out.2, Nat.zero_add]
          simpa using hj
        case c2 =>
          intro u hu
          simp only [List.mem_cons, List.not_mem_nil, or_false] at hu
          rcases hu with rfl | rfl <;> rfl
        case c3 => omega
        intro v' w6 a2 a3 a4 a5
        have HW : Hid (_ ∧ _) := ⟨a2, a3⟩
        clear a2 a3 a4 a5
        go_wp2
        go_roundg (gk - 1)
        case measure => omega
        case rel =>
          obtain ⟨a2, a3⟩ := HW.out
          refine ⟨k + 1, by omega, by first | rfl | (congr 1; omega), BW2.grown a3 hzW (fun q e => hr3 q e), Nat.le_trans hzW a3.size, ?_⟩
          have e := sm_snoc HF.out.1
          rw [e, pC_snoc]
          have e2 : smP (fk, fv) = (fk, fw) := by rw [← HF.out.2]; rfl
          rw [e2, List.map_take]
          exact a2
    · have hk2 : k = min N 30 := by omega
      have he : (es.take k).map smP = fwE es := by
        unfold fwE
        congr 1
        rw [hk2]
        by_cases h30 : N ≤ 30
        · rw [List.take_of_length_le (by have := HN.out; omega), List.take_of_length_le (by have := HN.out; omega)]
        · rw [show min N 30 = 30 by omega]
      rw [he] at hown
      have hlen : (fwE es).length = k := by
        unfold fwE
        rw [List.length_map, List.length_take, HN.out, Nat.min_comm]
        exact hk2.symm
      rw [← hlen] at hown
      obtain ⟨a', c', rfl, hs⟩ := slP_owns hown
      have HF : Hid (Below z w wr ∧ SlR (fwE es) (.returned (.slice a' (fwE es).length c')) wr) := ⟨BW, a', c', rfl, hs⟩
      clear hown hs he hlen BW
      by_cases l0 : (k : Int) < N
      · have l4 : ¬ (k : Int) < 30 := by omega
        go_wp2
        go_ret
        exact HF.out
      · go_wp2
        go_ret
        exact HF.out

/-- What pairs have at a key. -/
def plE : List Pr → ByteArray → ByteArray × Bool
  | [], _ => (⟨#[]⟩, false)
  | e :: es, key => if e.1 = key then (e.2, true) else plE es key

set_option maxRecDepth 20000 in
set_option maxHeartbeats 4000000 in
theorem plain_any (es : List Pr) (key : ByteArray) (hl : es.length < 1000000000) (a : Option Addr) (c n : Nat) (w : World) (hn : n ≤ w.heap.size) (hp : slP n w a es) :
    Calls Tryd.prog 14 #[.slice a es.length c, .string key] w fun e w' => e = .returned (.tuple #[.string (plE es key).1, .bool (plE es key).2]) ∧ Below w.heap.size w w' := by
  obtain ⟨N, hN⟩ : ∃ N, es.length = N := ⟨_, rfl⟩
  have HN : Hid (es.length = N) := hN
  rw [hN] at hl ⊢
  clear hN
  obtain ⟨⟨rv, rb⟩, hres⟩ : ∃ q, plE es key = q := ⟨_, rfl⟩
  rw [hres]
  dsimp only
  have HR : Hid (plE es key = (rv, rb)) := hres
  clear hres
  go_enter Tryd.func14, Tryd.ntmps14
  go_wp2_with fail
  go_loopg [6] N (fun gk i wr => ∃ k : Nat, k + gk = N ∧ i = .int .i64 k ∧ Below w.heap.size w wr ∧ Hid (plE (es.drop k) key = (rv, rb)))
  case atStart => exact ⟨0, by omega, rfl, Below.refl _ _, HR.out⟩
  case round =>
    obtain ⟨k, hk, rfl, BW, hal⟩ := hrel
    by_cases hlt : k < N
    · have l0 : (k : Int) < N := by omega
      obtain ⟨f, hf⟩ : ∃ f, es[k]? = some f := ⟨es[k]'(by have := HN.out; omega), List.getElem?_eq_getElem (by have := HN.out; omega)⟩
      obtain ⟨b, o, rfl, hb, c0, c1⟩ := slP_at hp k f hf
      replace c0 := (BW.cell (p := ⟨b, _, none⟩) (by show b < w.heap.size; omega)).trans c0
      replace c1 := (BW.cell (p := ⟨b, _, none⟩) (by show b < w.heap.size; omega)).trans c1
      obtain ⟨r, hr⟩ : ∃ p, o + 2 * k = p := ⟨_, rfl⟩
      rw [hr] at c0 c1
      have hr2 : o + k * 2 = r := by omega
      have wk : IntKind.i64.wrap ((k : Int) + 1) = ((k + 1 : Nat) : Int) := by rw [IntKind.wrap_i64]; omega
      have hd : es.drop k = f :: es.drop (k + 1) := by
        obtain ⟨h, e⟩ := List.getElem?_eq_some_iff.1 hf
        rw [List.drop_eq_getElem_cons h, e]
      have hal2 := hal.out
      rw [hd, plE] at hal2
      obtain ⟨fk, fv⟩ := f
      dsimp only at c0 c1 hal2
      by_cases hkk : fk = key
      · rw [if_pos hkk] at hal2
        injection hal2 with e1 e2
        subst e1 e2
        have hse : (fk.toList == key.toList) = true := by rw [hkk]; exact beq_self_eq_true _
        clear hf hal hd hkk
        go_wp2_with fail
        refine bodyPost_ret (v := .tuple #[.string fv, .bool true]) (by simp [results, Tryd.results14, go_sem]) rfl ⟨rfl, BW⟩
      · rw [if_neg hkk] at hal2
        have hse := ne_list hkk
        have HA : Hid _ := hal2
        clear hf hal hd hkk hal2
        go_wp2_with fail
        go_roundg (gk - 1)
        case measure => omega
        case rel => exact ⟨k + 1, by omega, rfl, BW, HA.out⟩
    · have hkN : k = N := by omega
      subst hkN
      have l0 : ¬ (k : Int) < k := by omega
      have hal2 := hal.out
      rw [List.drop_eq_nil_of_le (by have := HN.out; omega)] at hal2
      have hal3 : ((⟨#[]⟩ : ByteArray), false) = (rv, rb) := hal2
      injection hal3 with e1 e2
      subst e1 e2
      clear hal hal2
      go_wp2_with fail
      refine bodyPost_ret (v := .tuple #[.string ⟨#[]⟩, .bool false]) (by simp [results, Tryd.results14, go_sem]) rfl ⟨rfl, BW⟩
end Go.Proofs.YtbmapdkcccdmfaaDoor
