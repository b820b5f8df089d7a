/- What two lists that prove unlike things have: two texts that are unlike, and have one digest. -/
import Derived.Test.YtbmapdkcccdmfaaGreatDoorM1
import Derived.Test.YtbmapdkcccdmfaaGreatDoorM10
import Derived.Test.YtbmapdkcccdmfaaGreatDoorM11
import Derived.Test.YtbmapdkcccdmfaaGreatDoorM12
import Derived.Test.YtbmapdkcccdmfaaGreatDoorM13
import Derived.Test.YtbmapdkcccdmfaaGreatDoorM14
import Derived.Test.YtbmapdkcccdmfaaGreatDoorM15
import Derived.Test.YtbmapdkcccdmfaaGreatDoorM16
import Derived.Test.YtbmapdkcccdmfaaGreatDoorM17
import Derived.Test.YtbmapdkcccdmfaaGreatDoorM18
import Derived.Test.YtbmapdkcccdmfaaGreatDoorM19
import Derived.Test.YtbmapdkcccdmfaaGreatDoorM2
import Derived.Test.YtbmapdkcccdmfaaGreatDoorM20
import Derived.Test.YtbmapdkcccdmfaaGreatDoorM21
import Derived.Test.YtbmapdkcccdmfaaGreatDoorM22
import Derived.Test.YtbmapdkcccdmfaaGreatDoorM23
import Derived.Test.YtbmapdkcccdmfaaGreatDoorM24
import Derived.Test.YtbmapdkcccdmfaaGreatDoorM25
import Derived.Test.YtbmapdkcccdmfaaGreatDoorM26
import Derived.Test.YtbmapdkcccdmfaaGreatDoorM27
import Derived.Test.YtbmapdkcccdmfaaGreatDoorM28
import Derived.Test.YtbmapdkcccdmfaaGreatDoorM29
import Derived.Test.YtbmapdkcccdmfaaGreatDoorM3
import Derived.Test.YtbmapdkcccdmfaaGreatDoorM30
import Derived.Test.YtbmapdkcccdmfaaGreatDoorM31
import Derived.Test.YtbmapdkcccdmfaaGreatDoorM32
import Derived.Test.YtbmapdkcccdmfaaGreatDoorM33
import Derived.Test.YtbmapdkcccdmfaaGreatDoorM34
import Derived.Test.YtbmapdkcccdmfaaGreatDoorM35
import Derived.Test.YtbmapdkcccdmfaaGreatDoorM36
import Derived.Test.YtbmapdkcccdmfaaGreatDoorM37
import Derived.Test.YtbmapdkcccdmfaaGreatDoorM38
import Derived.Test.YtbmapdkcccdmfaaGreatDoorM39
import Derived.Test.YtbmapdkcccdmfaaGreatDoorM4
import Derived.Test.YtbmapdkcccdmfaaGreatDoorM40
import Derived.Test.YtbmapdkcccdmfaaGreatDoorM41
import Derived.Test.YtbmapdkcccdmfaaGreatDoorM42
import Derived.Test.YtbmapdkcccdmfaaGreatDoorM43
import Derived.Test.YtbmapdkcccdmfaaGreatDoorM44
import Derived.Test.YtbmapdkcccdmfaaGreatDoorM45
import Derived.Test.YtbmapdkcccdmfaaGreatDoorM46
import Derived.Test.YtbmapdkcccdmfaaGreatDoorM47
import Derived.Test.YtbmapdkcccdmfaaGreatDoorM48
import Derived.Test.YtbmapdkcccdmfaaGreatDoorM49
import Derived.Test.YtbmapdkcccdmfaaGreatDoorM5
import Derived.Test.YtbmapdkcccdmfaaGreatDoorM50
import Derived.Test.YtbmapdkcccdmfaaGreatDoorM6
import Derived.Test.YtbmapdkcccdmfaaGreatDoorM7
import Derived.Test.YtbmapdkcccdmfaaGreatDoorM8
import Derived.Test.YtbmapdkcccdmfaaGreatDoorM9
import Derived.Test.YtbmapdkcccdmfaaGreatDoorRows
import Derived.Laws.StructEq
namespace Go.Proofs.YtbmapdkcccdmfaaGreatDoor
open Go.RowKit Go.Shelf Go.Sort

theorem askN_sum {d : ByteArray} {ts : List ByteArray} {n : PN} (h : askN d ts = some n) : ∃ x r, ts = x :: r ∧ sumOf x = d ∧ ndOf x = some n := by
 cases ts with
 | nil => cases h
 | cons x r =>
  have h' : (if sumOf x = d then ndOf x else none) = some n := h
  split at h'
  ·next hs => exact ⟨x, r, rfl, hs, h'⟩
  ·cases h'
theorem wk_first {f : Nat} {d p : ByteArray} {ts : List ByteArray} (h : (wkF (f + 1) (.dig d) p ts).2 = true) : ∃ x r n, ts = x :: r ∧ sumOf x = d ∧ ndOf x = some n := by
 cases ha : askN d ts with
 | none => rw [wk_no f d p ts ha] at h; cases h
 | some n =>
  obtain ⟨x, r, h1, h2, h3⟩ := askN_sum ha
  exact ⟨x, r, n, h1, h2, h3⟩
end Go.Proofs.YtbmapdkcccdmfaaGreatDoor
namespace Go.Proofs.YtbmapdkcccdmfaaGreatDoor
open Go.RowKit Go.Shelf Go.Sort

def fwE (es : List Pr) : List Pr := (es.take 30).map smP

set_option maxRecDepth 20000 in
set_option maxHeartbeats 4000000 in
theorem few_any (es : List Pr) (a : Option Addr) (c : Nat) (w : World) (hp : slP w.heap.size w a es) :
  Calls Tryz.prog 12 #[.slice a es.length c] w fun e w' => Below w.heap.size w w' ∧ SlR (fwE es) e w' := by
 obtain ⟨i0, hi0, hz0, hz1, hz2⟩ := info_parts info_pair
 obtain ⟨N, hN⟩ : ∃ N, es.length = N := ⟨_, rfl⟩
 have HN : Hid (es.length = N) := hN
 rw [hN]
 clear hN
 obtain ⟨z, hz⟩ : ∃ z, w.heap.size = z := ⟨_, rfl⟩
 have HZ : Hid (w.heap.size = z) := hz
 have B0 : Below z w w := Below.refl _ _
 rw [hz] at hp ⊢
 have hz' : z ≤ w.heap.size := by omega
 clear hz
 go_enter Tryz.func12, Tryz.ntmps12
 go_wp2_with fail
 go_loopg [3, 4] (min N 30) (fun gk v i wr => ∃ k : Nat, k + gk = min N 30 ∧ i = .int .i64 k ∧ Below z w wr ∧ z ≤ wr.heap.size ∧ wr.ownsRow z 55 2 v k (pC ((es.take k).map smP)))
 case atStart => exact ⟨0, by omega, rfl, B0, hz', World.ownsRow_nil _ _ _ _⟩
 case round =>
  clear B0
  obtain ⟨k, hk, rfl, BW, hzw, hown⟩ := hrel
  have hr3 : ∀ b, u3.ownBlock = some b → z ≤ b := fun b hb => (hown.lt b hb).1
  by_cases hlt : k < min N 30
  ·have l0 : (k : Int) < N := by omega
   have l4 : (k : Int) < 30 := by omega
   obtain ⟨f, hf⟩ : ∃ f, es[k]? = some f := ⟨es[k]'(by have := HN.out; omega), List.getElem?_eq_getElem (by have := HN.out; omega)⟩
   obtain ⟨b, o, rfl, hb, c0, c1⟩ := slP_at hp k f hf
   replace c0 := (BW.cell (p := ⟨b, _, none⟩) (by show b < z; omega)).trans c0
   replace c1 := (BW.cell (p := ⟨b, _, none⟩) (by show b < z; omega)).trans c1
   obtain ⟨r, hr⟩ : ∃ p, o + 2 * k = p := ⟨_, rfl⟩
   rw [hr] at c0 c1
   have hr2 : o + k * 2 = r := by omega
   have wk : IntKind.i64.wrap ((k : Int) + 1) = ((k + 1 : Nat) : Int) := by rw [IntKind.wrap_i64]; omega
   obtain ⟨fk, fv⟩ := f
   dsimp only at c0 c1
   have hm : (min (fv.size : Int) 100).toNat = min fv.size 100 := by omega
   obtain ⟨fw, hfw⟩ : ∃ q, fv.extract 0 (min fv.size 100) = q := ⟨_, rfl⟩
   have HF : Hid (es[k]? = some (fk, fv) ∧ fv.extract 0 (min fv.size 100) = fw) := ⟨hf, hfw⟩
   have hbW : b < wr.heap.size := by omega
   clear hf
   go_wp2_with fail
   refine region_inv_tail 21 (fun S aa W => ∃ x15 x16 x17 x18 x19 x20 x21 x22 x23 x24 x25 x26 x27 x28 x29 x30 x31 x32 x33 x34 x35 : Value, aa = { tmps := #[Value.slice (some { block := b, off := o }) N c, undef, Value.slice none 0 0, u3, Value.int IntKind.i64 ↑k, Value.int IntKind.i64 ↑k, Value.slice (some { block := b, off := o }) N c, Value.int IntKind.i64 ↑N, Value.bool true, Value.bool true, Value.int IntKind.i64 ↑k, Value.bool true, Value.bool true, u13, u14, x15, x16, x17, x18, x19, x20, x21, x22, x23, x24, x25, x26, x27, x28, x29, x30, x31, x32, x33, x34, x35, u36, undef], defers := [] } ∧ SmK wr b o r N c k fk fv fw u3 S x15 x16 x17 x18 x19 x20 x21 x22 x23 x24 x25 x26 x27 x28 x29 x30 x31 x32 x33 x34 x35 W) (by kernel_rfl) (by kernel_rfl) ?_ ?_ ?_
   ·exact ⟨u15, u16, u17, u18, u19, u20, u21, u22, u23, u24, u25, u26, u27, u28, u29, u30, u31, u32, u33, u34, u35, rfl, ⟨(Below.refl _ wr).drew, nofun, nofun, nofun, nofun, nofun, nofun, nofun, nofun, nofun, nofun, nofun, nofun, nofun, nofun, nofun, nofun, nofun, nofun, nofun, nofun, nofun⟩⟩
   ·intro i o S aa W hin hi hun hJ hall K hK
    obtain ⟨x15, x16, x17, x18, x19, x20, x21, x22, x23, x24, x25, x26, x27, x28, x29, x30, x31, x32, x33, x34, x35, rfl, h⟩ := hJ
    have hlt : i < 21 := hin
    have hcase : i = 0 ∨ i = 1 ∨ i = 2 ∨ i = 3 ∨ i = 4 ∨ i = 5 ∨ i = 6 ∨ i = 7 ∨ i = 8 ∨ i = 9 ∨ i = 10 ∨ i = 11 ∨ i = 12 ∨ i = 13 ∨ i = 14 ∨ i = 15 ∨ i = 16 ∨ i = 17 ∨ i = 18 ∨ i = 19 ∨ i = 20 := by omega
    rcases hcase with rfl | rfl | rfl | rfl | rfl | rfl | rfl | rfl | rfl | rfl | rfl | rfl | rfl | rfl | rfl | rfl | rfl | rfl | rfl | rfl | rfl
    all_goals (have ho := (Option.some.inj hi).symm; subst ho; clear hi hlt hin)
    ·go_simp
     exact hK _ _ ⟨_, _, _, _, _, _, _, _, _, _, _, _, _, _, _, _, _, _, _, _, _, rfl, { h with f0 := fun _ => rfl }⟩
    ·go_simp
     exact hK _ _ ⟨_, _, _, _, _, _, _, _, _, _, _, _, _, _, _, _, _, _, _, _, _, rfl, { h with f1 := fun _ => rfl }⟩
    ·go_simp
     exact hK _ _ ⟨_, _, _, _, _, _, _, _, _, _, _, _, _, _, _, _, _, _, _, _, _, rfl, { h with f2 := fun _ => rfl }⟩
    ·have s_1 : S 1 = true := hall ⟨1, .data⟩ (by simp) rfl
     obtain rfl := h.f1 s_1
     have s_2 : S 2 = true := hall ⟨2, .data⟩ (by simp) rfl
     obtain rfl := h.f2 s_2
     go_simp
     exact hK _ _ ⟨_, _, _, _, _, _, _, _, _, _, _, _, _, _, _, _, _, _, _, _, _, rfl, { h with f3 := fun _ => rfl }⟩
    ·have s_3 : S 3 = true := hall ⟨3, .data⟩ (by simp) rfl
     obtain rfl := h.f3 s_3
     go_simp
     exact hK _ _ ⟨_, _, _, _, _, _, _, _, _, _, _, _, _, _, _, _, _, _, _, _, _, rfl, { h with f4 := fun _ => rfl }⟩
    ·have s_4 : S 4 = true := hall ⟨4, .data⟩ (by simp) rfl
     obtain rfl := h.f4 s_4
     have cW := (h.e.cell (p := ⟨b, r, none⟩) hbW).trans c0
     go_simp
     exact hK _ _ ⟨_, _, _, _, _, _, _, _, _, _, _, _, _, _, _, _, _, _, _, _, _, rfl, { h with f5 := fun _ => rfl }⟩
    ·go_simp
     exact hK _ _ ⟨_, _, _, _, _, _, _, _, _, _, _, _, _, _, _, _, _, _, _, _, _, rfl, { h with f6 := fun _ => rfl }⟩
    ·go_simp
     exact hK _ _ ⟨_, _, _, _, _, _, _, _, _, _, _, _, _, _, _, _, _, _, _, _, _, rfl, { h with f7 := fun _ => rfl }⟩
    ·have s_6 : S 6 = true := hall ⟨6, .data⟩ (by simp) rfl
     obtain rfl := h.f6 s_6
     have s_7 : S 7 = true := hall ⟨7, .data⟩ (by simp) rfl
     obtain rfl := h.f7 s_7
     go_simp
     exact hK _ _ ⟨_, _, _, _, _, _, _, _, _, _, _, _, _, _, _, _, _, _, _, _, _, rfl, { h with f8 := fun _ => rfl }⟩
    ·have s_8 : S 8 = true := hall ⟨8, .data⟩ (by simp) rfl
     obtain rfl := h.f8 s_8
     go_simp
     exact hK _ _ ⟨_, _, _, _, _, _, _, _, _, _, _, _, _, _, _, _, _, _, _, _, _, rfl, { h with f9 := fun _ => rfl }⟩
    ·have s_9 : S 9 = true := hall ⟨9, .data⟩ (by simp) rfl
     obtain rfl := h.f9 s_9
     have cW := (h.e.cell (p := ⟨b, r + 1, none⟩) hbW).trans c1
     go_simp
     exact hK _ _ ⟨_, _, _, _, _, _, _, _, _, _, _, _, _, _, _, _, _, _, _, _, _, rfl, { h with f10 := fun _ => rfl }⟩
    ·go_simp
     exact hK _ _ ⟨_, _, _, _, _, _, _, _, _, _, _, _, _, _, _, _, _, _, _, _, _, rfl, { h with f11 := fun _ => rfl }⟩
    ·go_simp
     exact hK _ _ ⟨_, _, _, _, _, _, _, _, _, _, _, _, _, _, _, _, _, _, _, _, _, rfl, { h with f12 := fun _ => rfl }⟩
    ·have s_11 : S 11 = true := hall ⟨11, .data⟩ (by simp) rfl
     obtain rfl := h.f11 s_11
     have s_12 : S 12 = true := hall ⟨12, .data⟩ (by simp) rfl
     obtain rfl := h.f12 s_12
     go_simp
     exact hK _ _ ⟨_, _, _, _, _, _, _, _, _, _, _, _, _, _, _, _, _, _, _, _, _, rfl, { h with f13 := fun _ => rfl }⟩
    ·have s_13 : S 13 = true := hall ⟨13, .data⟩ (by simp) rfl
     obtain rfl := h.f13 s_13
     go_simp
     exact hK _ _ ⟨_, _, _, _, _, _, _, _, _, _, _, _, _, _, _, _, _, _, _, _, _, rfl, { h with f14 := fun _ => rfl }⟩
    ·have s_14 : S 14 = true := hall ⟨14, .data⟩ (by simp) rfl
     obtain rfl := h.f14 s_14
     have cW := (h.e.cell (p := ⟨b, r + 1, none⟩) hbW).trans c1
     go_simp
     exact hK _ _ ⟨_, _, _, _, _, _, _, _, _, _, _, _, _, _, _, _, _, _, _, _, _, rfl, { h with f15 := fun _ => rfl }⟩
    ·have s_15 : S 15 = true := hall ⟨15, .data⟩ (by simp) rfl
     obtain rfl := h.f15 s_15
     go_simp
     exact hK _ _ ⟨_, _, _, _, _, _, _, _, _, _, _, _, _, _, _, _, _, _, _, _, _, rfl, { h with f16 := fun _ => rfl }⟩
    ·have s_16 : S 16 = true := hall ⟨16, .data⟩ (by simp) rfl
     obtain rfl := h.f16 s_16
     go_simp
     exact hK _ _ ⟨_, _, _, _, _, _, _, _, _, _, _, _, _, _, _, _, _, _, _, _, _, rfl, { h with f17 := fun _ => rfl }⟩
    ·have s_10 : S 10 = true := hall ⟨10, .data⟩ (by simp) rfl
     obtain rfl := h.f10 s_10
     have s_17 : S 17 = true := hall ⟨17, .data⟩ (by simp) rfl
     obtain rfl := h.f17 s_17
     go_simp
     rw [if_pos (by constructor <;> omega)]
     exact hK _ _ ⟨_, _, _, _, _, _, _, _, _, _, _, _, _, _, _, _, _, _, _, _, _, rfl, { h with f18 := fun _ => rfl }⟩
    ·have s_5 : S 5 = true := hall ⟨5, .data⟩ (by simp) rfl
     obtain rfl := h.f5 s_5
     have s_18 : S 18 = true := hall ⟨18, .data⟩ (by simp) rfl
     obtain rfl := h.f18 s_18
     go_simp
     exact hK _ _ ⟨_, _, _, _, _, _, _, _, _, _, _, _, _, _, _, _, _, _, _, _, _, rfl, { h with f19 := fun _ => rfl }⟩
    ·have s_19 : S 19 = true := hall ⟨19, .data⟩ (by simp) rfl
     obtain rfl := h.f19 s_19
     go_simp
     have h1 := h.grow ((Below.refl _ W).alloc (Nat.le_refl _) (.cells #[.string fk, .string fw] 55))
     exact hK _ _ ⟨_, _, _, _, _, _, _, _, _, _, _, _, _, _, _, _, _, _, _, _, _, rfl, { h1 with f20 := fun _ => ⟨W.heap.size, rfl, h.e.size, by simp, World.alloc_heap_new W _⟩ }⟩
   ·rintro S aa W hall ⟨x15, x16, x17, x18, x19, x20, x21, x22, x23, x24, x25, x26, x27, x28, x29, x30, x31, x32, x33, x34, x35, rfl, h⟩
    obtain rfl := h.f0 (hall 0 (by decide))
    obtain rfl := h.f1 (hall 1 (by decide))
    obtain rfl := h.f2 (hall 2 (by decide))
    obtain rfl := h.f3 (hall 3 (by decide))
    obtain rfl := h.f4 (hall 4 (by decide))
    obtain rfl := h.f5 (hall 5 (by decide))
    obtain rfl := h.f6 (hall 6 (by decide))
    obtain rfl := h.f7 (hall 7 (by decide))
    obtain rfl := h.f8 (hall 8 (by decide))
    obtain rfl := h.f9 (hall 9 (by decide))
    obtain rfl := h.f10 (hall 10 (by decide))
    obtain rfl := h.f11 (hall 11 (by decide))
    obtain rfl := h.f12 (hall 12 (by decide))
    obtain rfl := h.f13 (hall 13 (by decide))
    obtain rfl := h.f14 (hall 14 (by decide))
    obtain rfl := h.f15 (hall 15 (by decide))
    obtain rfl := h.f16 (hall 16 (by decide))
    obtain rfl := h.f17 (hall 17 (by decide))
    obtain rfl := h.f18 (hall 18 (by decide))
    obtain rfl := h.f19 (hall 19 (by decide))
    obtain ⟨gg, rfl, hgg, hhg, hcg⟩ := h.f20 (hall 20 (by decide))
    have BWD := h.e
    clear h hall
    simp only [List.drop_succ_cons, List.drop_zero]
    have hown2 := owns_below2 hown BWD
    have hzW : z ≤ W.heap.size := Nat.le_trans hzw BWD.size
    have BW2 := belowStep BW hzw BWD
    have HV : Hid (_ ∧ _) := ⟨hown2, hcg⟩
    clear hown BW BWD hown2 hcg c0 c1
    go_wp2_with (at_builtin; refine wpList_append_where _ rfl _ _ 32 rfl z 55 i0 _ 2 32 Tryz.underlying32 hi0 hz0 hz1 hz2 rfl (by decide) _ k _ rfl HV.out.1 ⟨gg, 0, none⟩ 1 1 [.string fk, .string fw] rfl rfl ?c1 ?c2 (by unfold maxLen; omega) (by omega) ?c3 (by decide) ?_)
    case c1 =>
     intro j u hj
     rw [Addr.add_lit, Lib.cell_of_heap HV.out.2, Nat.zero_add]
     simpa using hj
    case c2 =>
     intro u hu
     simp only [List.mem_cons, List.not_mem_nil, or_false] at hu
     rcases hu with rfl | rfl <;> rfl
    case c3 => omega
    intro v' w6 a2 a3 a4 a5
    have HW : Hid (_ ∧ _) := ⟨a2, a3⟩
    clear a2 a3 a4 a5
    go_wp2
    go_roundg (gk - 1)
    case measure => omega
    case rel =>
     obtain ⟨a2, a3⟩ := HW.out
     refine ⟨k + 1, by omega, by first | rfl | (congr 1; omega), BW2.grown a3 hzW (fun q e => hr3 q e), Nat.le_trans hzW a3.size, ?_⟩
     have e := sm_snoc HF.out.1
     rw [e, pC_snoc]
     have e2 : smP (fk, fv) = (fk, fw) := by rw [← HF.out.2]; rfl
     rw [e2, List.map_take]
     exact a2
  ·have hk2 : k = min N 30 := by omega
   have he : (es.take k).map smP = fwE es := by
    unfold fwE
    congr 1
    rw [hk2]
    by_cases h30 : N ≤ 30
    ·rw [List.take_of_length_le (by have := HN.out; omega), List.take_of_length_le (by have := HN.out; omega)]
    ·rw [show min N 30 = 30 by omega]
   rw [he] at hown
   have hlen : (fwE es).length = k := by
    unfold fwE
    rw [List.length_map, List.length_take, HN.out, Nat.min_comm]
    exact hk2.symm
   rw [← hlen] at hown
   obtain ⟨a', c', rfl, hs⟩ := slP_owns hown
   have HF : Hid (Below z w wr ∧ SlR (fwE es) (.returned (.slice a' (fwE es).length c')) wr) := ⟨BW, a', c', rfl, hs⟩
   clear hown hs he hlen BW
   by_cases l0 : (k : Int) < N
   ·have l4 : ¬ (k : Int) < 30 := by omega
    go_wp2
    go_ret
    exact HF.out
   ·go_wp2
    go_ret
    exact HF.out

def plE : List Pr → ByteArray → ByteArray × Bool
 | [], _ => (⟨#[]⟩, false)
 | e :: es, key => if e.1 = key then (e.2, true) else plE es key

set_option maxRecDepth 20000 in
set_option maxHeartbeats 4000000 in
theorem plain_any (es : List Pr) (key : ByteArray) (hl : es.length < 1000000000) (a : Option Addr) (c n : Nat) (w : World) (hn : n ≤ w.heap.size) (hp : slP n w a es) :
  Calls Tryz.prog 15 #[.slice a es.length c, .string key] w fun e w' => e = .returned (.tuple #[.string (plE es key).1, .bool (plE es key).2]) ∧ Below w.heap.size w w' := by
 obtain ⟨N, hN⟩ : ∃ N, es.length = N := ⟨_, rfl⟩
 have HN : Hid (es.length = N) := hN
 rw [hN] at hl ⊢
 clear hN
 obtain ⟨⟨rv, rb⟩, hres⟩ : ∃ q, plE es key = q := ⟨_, rfl⟩
 rw [hres]
 dsimp only
 have HR : Hid (plE es key = (rv, rb)) := hres
 clear hres
 go_enter Tryz.func15, Tryz.ntmps15
 go_wp2_with fail
 go_loopg [6] N (fun gk i wr => ∃ k : Nat, k + gk = N ∧ i = .int .i64 k ∧ Below w.heap.size w wr ∧ Hid (plE (es.drop k) key = (rv, rb)))
 case atStart => exact ⟨0, by omega, rfl, Below.refl _ _, HR.out⟩
 case round =>
  obtain ⟨k, hk, rfl, BW, hal⟩ := hrel
  by_cases hlt : k < N
  ·have l0 : (k : Int) < N := by omega
   obtain ⟨f, hf⟩ : ∃ f, es[k]? = some f := ⟨es[k]'(by have := HN.out; omega), List.getElem?_eq_getElem (by have := HN.out; omega)⟩
   obtain ⟨b, o, rfl, hb, c0, c1⟩ := slP_at hp k f hf
   replace c0 := (BW.cell (p := ⟨b, _, none⟩) (by show b < w.heap.size; omega)).trans c0
   replace c1 := (BW.cell (p := ⟨b, _, none⟩) (by show b < w.heap.size; omega)).trans c1
   obtain ⟨r, hr⟩ : ∃ p, o + 2 * k = p := ⟨_, rfl⟩
   rw [hr] at c0 c1
   have hr2 : o + k * 2 = r := by omega
   have wk : IntKind.i64.wrap ((k : Int) + 1) = ((k + 1 : Nat) : Int) := by rw [IntKind.wrap_i64]; omega
   have hd : es.drop k = f :: es.drop (k + 1) := by
    obtain ⟨h, e⟩ := List.getElem?_eq_some_iff.1 hf
    rw [List.drop_eq_getElem_cons h, e]
   have hal2 := hal.out
   rw [hd, plE] at hal2
   obtain ⟨fk, fv⟩ := f
   dsimp only at c0 c1 hal2
   by_cases hkk : fk = key
   ·rw [if_pos hkk] at hal2
    injection hal2 with e1 e2
    subst e1 e2
    have hse : (fk.toList == key.toList) = true := by rw [hkk]; exact beq_self_eq_true _
    clear hf hal hd hkk
    go_wp2_with fail
    refine bodyPost_ret (v := .tuple #[.string fv, .bool true]) (by simp [results, Tryz.results15, go_sem]) rfl ⟨rfl, BW⟩
   ·rw [if_neg hkk] at hal2
    have hse := ne_list hkk
    have HA : Hid _ := hal2
    clear hf hal hd hkk hal2
    go_wp2_with fail
    go_roundg (gk - 1)
    case measure => omega
    case rel => exact ⟨k + 1, by omega, rfl, BW, HA.out⟩
  ·have hkN : k = N := by omega
   subst hkN
   have l0 : ¬ (k : Int) < k := by omega
   have hal2 := hal.out
   rw [List.drop_eq_nil_of_le (by have := HN.out; omega)] at hal2
   have hal3 : ((⟨#[]⟩ : ByteArray), false) = (rv, rb) := hal2
   injection hal3 with e1 e2
   subst e1 e2
   clear hal hal2
   go_wp2_with fail
   refine bodyPost_ret (v := .tuple #[.string ⟨#[]⟩, .bool false]) (by simp [results, Tryz.results15, go_sem]) rfl ⟨rfl, BW⟩
end Go.Proofs.YtbmapdkcccdmfaaGreatDoor
namespace Go.Proofs.YtbmapdkcccdmfaaGreatDoor
open Go.RowKit Go.Shelf Go.Sort

theorem info_text7 : (Tryz.prog.info? 9).map (fun i => (i.zero, i.size, i.bytes)) = some (some (.string ⟨#[]⟩), 1, 16) := by kernel_rfl
structure SmK7 (V : World) (b o N c k : Nat) (f fw : ByteArray) (u3 : Value) (S : Nat → Bool) (x15 x16 x17 x18 x19 x20 x21 x22 x23 x24 x25 x26 x27 : Value) (W : World) : Prop where
 e : Below V.heap.size V W
 f0 : S 0 = true → x15 = u3
 f1 : S 1 = true → x16 = Value.slice (some ⟨b, o, none⟩) N c
 f2 : S 2 = true → x17 = Value.int .i64 (k : Int)
 f3 : S 3 = true → x18 = Value.pointer (some ⟨b, o + k, none⟩)
 f4 : S 4 = true → x19 = Value.string f
 f5 : S 5 = true → x20 = Value.slice (some ⟨b, o, none⟩) N c
 f6 : S 6 = true → x21 = Value.int .i64 (k : Int)
 f7 : S 7 = true → x22 = Value.pointer (some ⟨b, o + k, none⟩)
 f8 : S 8 = true → x23 = Value.string f
 f9 : S 9 = true → x24 = Value.int .i64 (f.size : Int)
 f10 : S 10 = true → x25 = Value.int .i64 (min (f.size : Int) 3000)
 f11 : S 11 = true → x26 = Value.string fw
 f12 : S 12 = true → ∃ g, x27 = .slice (some ⟨g, 0, none⟩) 1 1 ∧ V.heap.size ≤ g ∧ g < W.heap.size ∧ W.heap[g]? = some (.cells #[.string fw] 9 (0, 0))
theorem SmK7.grow {V : World} {b o N c k : Nat} {f fw : ByteArray} {u3 : Value} {S : Nat → Bool} {x15 x16 x17 x18 x19 x20 x21 x22 x23 x24 x25 x26 x27 : Value} {W W' : World} (h : SmK7 V b o N c k f fw u3 S x15 x16 x17 x18 x19 x20 x21 x22 x23 x24 x25 x26 x27 W) (hb : Below W.heap.size W W') : SmK7 V b o N c k f fw u3 S x15 x16 x17 x18 x19 x20 x21 x22 x23 x24 x25 x26 x27 W' :=
 ⟨belowStep h.e h.e.size hb, h.f0, h.f1, h.f2, h.f3, h.f4, h.f5, h.f6, h.f7, h.f8, h.f9, h.f10, h.f11, fun s => (h.f12 s).imp fun _ ⟨j1, j0, j2, j3⟩ => ⟨j1, j0, Nat.lt_of_lt_of_le j2 hb.size, (hb.block _ j2).trans j3⟩⟩
end Go.Proofs.YtbmapdkcccdmfaaGreatDoor
namespace Go.Proofs.YtbmapdkcccdmfaaGreatDoor
open Go.RowKit Go.Shelf Go.Sort

theorem nd_enc {x : It} {t : ByteArray} (h : encI x = t) (hE : eE x = 0) (hd : dprI 12 x = false) (hz : t.size ≤ 65536) : ndOf t = rdN x := by
 have := dec_enc hE
 rw [h] at this
 rw [ndOf_one hz this, hd]
 rfl
theorem wk_go {f : Nat} {d p x : ByteArray} {r : List ByteArray} {n : PN} {rr : PR} {rest : ByteArray} (hs : sumOf x = d) (hn : ndOf x = some n) (hp : ¬ p = n.path) (hst : stepTo p n.ss = some (rr, rest)) : wkF (f + 1) (.dig d) p (x :: r) = wkF f rr rest r := by
 have ha : askN d (x :: r) = some n := by
  show (if sumOf x = d then ndOf x else none) = _
  rw [if_pos hs, hn]
 rw [wk_dig f d p x r n ha, wk_win, if_neg hp, hst]
theorem wk_in {f : Nat} {p : ByteArray} {ts : List ByteArray} {n : PN} {rr : PR} {rest : ByteArray} (hp : ¬ p = n.path) (hst : stepTo p n.ss = some (rr, rest)) : wkF (f + 1) (.win n) p ts = wkF f rr rest ts := by
 rw [wk_win, if_neg hp, hst]
theorem wk_at {f : Nat} {p : ByteArray} {ts : List ByteArray} {n : PN} (hp : p = n.path) : wkF (f + 1) (.win n) p ts = (n.val, ts.isEmpty) := by
 rw [wk_win, if_pos hp]
theorem wk_off {f : Nat} {d p x : ByteArray} {r : List ByteArray} {n : PN} (hs : sumOf x = d) (hn : ndOf x = some n) (hp : ¬ p = n.path) (hst : stepTo p n.ss = none) : wkF (f + 1) (.dig d) p (x :: r) = (⟨#[]⟩, r.isEmpty) := by
 have ha : askN d (x :: r) = some n := by
  show (if sumOf x = d then ndOf x else none) = _
  rw [if_pos hs, hn]
 rw [wk_dig f d p x r n ha, wk_win, if_neg hp, hst]
def m6 : PN := .mk ⟨#[]⟩ ⟨#[112, 117, 112, 112, 121]⟩ (.cons ⟨#[6]⟩ (.win (.mk ⟨#[5]⟩ ⟨#[99, 111, 105, 110]⟩ .nil)) .nil)
def m5 : PN := .mk ⟨#[]⟩ ⟨#[]⟩ (.cons ⟨#[7]⟩ (.win m6) .nil)
def m4 : PN := .mk ⟨#[]⟩ ⟨#[118, 101, 114, 98]⟩ (.cons ⟨#[6]⟩ (.win m5) .nil)
def m2' : PN := .mk ⟨#[]⟩ ⟨#[]⟩ (.cons ⟨#[6, 15]⟩ (.dig D1.d) .nil)
def mH : PN := .mk ⟨#[6, 15, 7, 2, 7, 3, 6, 5]⟩ ⟨#[115, 116, 97, 108, 108, 105, 111, 110]⟩ .nil
def m1 : PN := .mk ⟨#[]⟩ ⟨#[]⟩ (.cons ⟨#[4]⟩ (.dig D2.d) (.cons ⟨#[8]⟩ (.win mH) .nil))
def m0 : PN := .mk ⟨#[]⟩ ⟨#[]⟩ (.cons ⟨#[6]⟩ (.dig D3.d) .nil)
theorem k0 : ndOf D4.t = some m0 := by
 rw [nd_enc (x := X0) (by decide +kernel) (by decide +kernel) (by decide +kernel) (by decide +kernel)]
 kernel_rfl
theorem k1 : ndOf D3.t = some m1 := by
 rw [nd_enc (x := X1) (by decide +kernel) (by decide +kernel) (by decide +kernel) (by decide +kernel)]
 kernel_rfl
theorem k2 : ndOf D2.t = some m2' := by
 rw [nd_enc (x := X2) (by decide +kernel) (by decide +kernel) (by decide +kernel) (by decide +kernel)]
 kernel_rfl
theorem k4 : ndOf D1.t = some m4 := by
 rw [nd_enc (x := X4) (by decide +kernel) (by decide +kernel) (by decide +kernel) (by decide +kernel)]
 kernel_rfl
theorem wdog (ts : List ByteArray) : wkF 7 (.dig D4.d) ⟨#[6, 4, 6, 15, 6, 7]⟩ (D4.t :: D3.t :: D2.t :: D1.t :: ts) = (⟨#[112, 117, 112, 112, 121]⟩, ts.isEmpty) := by
 rw [wk_go (n := m0) (rr := .dig D3.d) (rest := ⟨#[4, 6, 15, 6, 7]⟩) D4.sum k0 (by decide) (by kernel_rfl)]
 rw [wk_go (n := m1) (rr := .dig D2.d) (rest := ⟨#[6, 15, 6, 7]⟩) D3.sum k1 (by decide) (by kernel_rfl)]
 rw [wk_go (n := m2') (rr := .dig D1.d) (rest := ⟨#[6, 7]⟩) D2.sum k2 (by decide) (by kernel_rfl)]
 rw [wk_go (n := m4) (rr := .win m5) (rest := ⟨#[7]⟩) D1.sum k4 (by decide) (by kernel_rfl)]
 rw [wk_in (n := m5) (rr := .win m6) (rest := ⟨#[]⟩) (by decide) (by kernel_rfl)]
 rw [wk_at (n := m6) (by decide)]
 rfl
theorem wcat : wkF 7 (.dig D4.d) ⟨#[6, 3, 6, 1, 7, 4]⟩ [D4.t, D3.t] = (⟨#[]⟩, true) := by
 rw [wk_go (n := m0) (rr := .dig D3.d) (rest := ⟨#[3, 6, 1, 7, 4]⟩) D4.sum k0 (by decide) (by kernel_rfl)]
 rw [wk_off (n := m1) D3.sum k1 (by decide) (by kernel_rfl)]
 rfl
def tDog : ByteArray := ⟨#[100, 111, 103]⟩
def tCat : ByteArray := ⟨#[99, 97, 116]⟩
def wDog : List ByteArray := [D4.t, D3.t, D2.t, D1.t]
def wCat : List ByteArray := [D4.t, D3.t]
theorem chk_dog : chkF D4.d tDog wDog = (⟨#[112, 117, 112, 112, 121]⟩, true, 0) := by
 unfold chkF
 have e : ofOf tDog = ⟨#[6, 4, 6, 15, 6, 7]⟩ := by decide +kernel
 have hw : wkF (2 * tDog.size + 1) (.dig D4.d) (ofOf tDog) wDog = (⟨#[112, 117, 112, 112, 121]⟩, true) := by rw [e]; exact wdog []
 rw [hw, if_pos (by decide +kernel), if_neg (by intro h; cases h.1), if_pos rfl]
 rfl
theorem chk_cat : chkF D4.d tCat wCat = (⟨#[]⟩, false, 0) := by
 unfold chkF
 have e : ofOf tCat = ⟨#[6, 3, 6, 1, 7, 4]⟩ := by decide +kernel
 have hw : wkF (2 * tCat.size + 1) (.dig D4.d) (ofOf tCat) wCat = (⟨#[]⟩, true) := by rw [e]; exact wcat
 rw [hw, if_pos (by decide +kernel), if_neg (by intro h; cases h.1), if_pos rfl]
 rfl
theorem chk_more : chkF D4.d tDog (wDog ++ [⟨#[120]⟩]) = (⟨#[]⟩, false, 70) := by
 unfold chkF
 have e : ofOf tDog = ⟨#[6, 4, 6, 15, 6, 7]⟩ := by decide +kernel
 have hw : wkF (2 * tDog.size + 1) (.dig D4.d) (ofOf tDog) (wDog ++ [⟨#[120]⟩]) = (⟨#[112, 117, 112, 112, 121]⟩, false) := by rw [e]; exact wdog [⟨#[120]⟩]
 rw [hw, if_pos (by decide +kernel), if_neg (by intro h; cases h.1), if_neg (by decide)]
theorem srt4 : srt four4 = four4 := only4 (srt_perm _) (srt_sorted _)
theorem rt4 : rtS true four4 = D4.d := by
 unfold rtS
 rw [if_pos rfl, srt4, topB4, D4.sum]
theorem td_dog : tdS true (wayL (kyP tDog)) four4 = wDog := by
 unfold tdS
 rw [if_pos rfl, srt4]
 exact way4
theorem td_cat : tdS true (wayL (kyP tCat)) four4 = wCat := by
 unfold tdS
 rw [if_pos rfl, srt4]
 unfold wyL
 rw [if_neg (by decide), top4]
 have hk : kyP tCat = ⟨#[6, 3, 6, 1, 7, 4]⟩ := by decide +kernel
 rw [hk]
 unfold wayL
 have o1 : ownT X1 = [D3.t] := by
  unfold ownT
  rw [t1, if_neg (by decide +kernel)]
 have w1 : wyN ⟨#[3, 6, 1, 7, 4]⟩ nod1 = [D3.t] := by
  show ownT X1 ++ (if pfx ⟨#[4]⟩ ⟨#[3, 6, 1, 7, 4]⟩ = true then _ else (if pfx ⟨#[8]⟩ ⟨#[3, 6, 1, 7, 4]⟩ = true then _ else [])) = _
  rw [o1, if_neg (by decide +kernel), if_neg (by decide +kernel)]
  rfl
 show eS X0 :: (if pfx ⟨#[6]⟩ ⟨#[6, 3, 6, 1, 7, 4]⟩ = true then wyN (rst ⟨#[6, 3, 6, 1, 7, 4]⟩ ⟨#[6]⟩) nod1 else []) = _
 rw [t0, if_pos (by decide +kernel), show rst ⟨#[6, 3, 6, 1, 7, 4]⟩ ⟨#[6]⟩ = ⟨#[3, 6, 1, 7, 4]⟩ by decide +kernel, w1]
 rfl
end Go.Proofs.YtbmapdkcccdmfaaGreatDoor
namespace Go.Proofs.YtbmapdkcccdmfaaGreatDoor
open Go.RowKit Go.Shelf Go.Sort

theorem own_mono7 {W : World} {z z' : Nat} {e : TypeId} {k : Nat} {v : Value} {n : Nat} {xs : List Value} (h : W.ownsRow z' e k v n xs) (hz : z ≤ z') : W.ownsRow z e k v n xs := by
 refine ⟨h.1, ?_⟩
 rcases h.2 with h1 | ⟨g, cap, cur, h1, h2, h3⟩
 ·exact .inl h1
 ·exact .inr ⟨g, cap, cur, h1, Nat.le_trans hz h2, h3⟩
set_option maxRecDepth 20000 in
set_option maxHeartbeats 1000000 in
theorem four7_any (w : World) :
  Calls Tryz.prog 17 #[] w fun e w' => Below w.heap.size w w' ∧ ∃ b, e = .returned (.slice (some ⟨b, 0, none⟩) 4 4) ∧ w.heap.size ≤ b ∧ slP w'.heap.size w' (some ⟨b, 0, none⟩) four4 := by
 go_enter Tryz.func17, Tryz.ntmps17
 go_wp2
 go_ret
 refine ⟨be_new w _, w.heap.size, rfl, Nat.le_refl _, .inr ⟨w.heap.size, 0, rfl, by simp, ?_⟩⟩
 intro j e he
 have hc := fun k => Lib.cell_of_heap (j := k) (World.alloc_heap_new w (.cells #[.string ⟨#[100, 111]⟩, .string ⟨#[118, 101, 114, 98]⟩, .string ⟨#[100, 111, 103]⟩, .string ⟨#[112, 117, 112, 112, 121]⟩, .string ⟨#[100, 111, 103, 101]⟩, .string ⟨#[99, 111, 105, 110]⟩, .string ⟨#[104, 111, 114, 115, 101]⟩, .string ⟨#[115, 116, 97, 108, 108, 105, 111, 110]⟩] 55))
 match j, he with
 | 0, he => cases he; exact ⟨hc 0, hc 1⟩
 | 1, he => cases he; exact ⟨hc 2, hc 3⟩
 | 2, he => cases he; exact ⟨hc 4, hc 5⟩
 | 3, he => cases he; exact ⟨hc 6, hc 7⟩
 | k + 4, he => cases he

set_option maxRecDepth 20000 in
set_option maxHeartbeats 1000000 in
theorem rprove_own {b : Bool} {es : List Pr} (hb0 : b = true ↔ RightP es) (key : ByteArray) (hkey : key.size ≤ 70368744177664) (a : Option Addr) (c n : Nat) (w : World) (hn : n ≤ w.heap.size) (hs : slP n w a es) :
  Calls Tryz.prog 18 #[.slice a es.length c, .string key] w fun e w' => (∃ v, e = .returned (.tuple #[v, .int .i64 (erS b)]) ∧ w'.ownsRow w.heap.size 9 1 v (tdS b (wayL (kyP key)) es).length ((tdS b (wayL (kyP key)) es).map .string)) ∧ Below w.heap.size w w' := by
 have K1 := rright6_any es a c n w hn hs
 have hlen := tdW_len (kyP key) es hb0
 obtain ⟨xs, hxs⟩ : ∃ xs, tdS b (wayL (kyP key)) es = xs := ⟨_, rfl⟩
 obtain ⟨N, hN⟩ : ∃ N, es.length = N := ⟨_, rfl⟩
 cases b with
 | false =>
  have hnr : ¬ RightP es := fun h => Bool.noConfusion (hb0.2 h)
  have HNR : Hid (¬ RightP es) := hnr
  have e1 : xs = [] := hxs.symm
  have e2 : erS false = 60 := rfl
  rw [hxs, e1, e2, hN] 
  rw [hN] at K1
  clear hxs hlen e1 e2 hb0 hnr hs hN
  go_enter Tryz.func18, Tryz.ntmps18
  go_wp2_with fail
  refine K1.mono ?_
  rintro e w1 ⟨⟨q, rfl, h1⟩, B1⟩
  obtain rfl : q = false := by
   cases q with
   | false => rfl
   | true => exact absurd (h1.1 rfl) HNR.out
  clear h1 K1
  go_wp2
  exact bodyPost_ret (v := .tuple #[.slice none 0 0, .int .i64 60]) (by simp [results, Tryz.results18, go_sem]) rfl ⟨⟨_, rfl, World.ownsRow_nil _ _ _ _⟩, B1⟩
 | true =>
  have hr : RightP es := hb0.1 rfl
  have HR : Hid (RightP es) := hr
  have e2 : erS true = 0 := rfl
  rw [e2]
  by_cases h0 : es.length = 0
  ·have e1 : xs = [] := by
    rw [← hxs]
    unfold tdS wyL
    rw [if_pos rfl, if_pos (by rw [(srt_perm es).length_eq]; exact h0)]
   rw [hxs, e1, h0]
   rw [h0] at K1
   clear hxs hlen e1 e2 hb0 hr hs hN h0
   go_enter Tryz.func18, Tryz.ntmps18
   go_wp2_with fail
   refine K1.mono ?_
   rintro e w1 ⟨⟨q, rfl, h1⟩, B1⟩
   obtain rfl : q = true := h1.2 HR.out
   clear h1 K1
   go_wp2
   exact bodyPost_ret (v := .tuple #[.slice none 0 0, .int .i64 0]) (by simp [results, Tryz.results18, go_sem]) rfl ⟨⟨_, rfl, World.ownsRow_nil _ _ _ _⟩, B1⟩
  ·have KN := fun W hn hp => ws_all (ofOf key) 129 es 0 (by omega) hr (ok_top hr h0) W.heap.size (.slice none 0 0) [] a c n W hn hp (World.ownsRow_nil _ _ _ _) (Nat.le_refl _) (by rw [ws_top hr h0]; simp; omega)
   rw [ws_top hr h0, hxs] at KN
   rw [hxs, hN]
   rw [hN] at K1 KN h0
   have l0 : ((N : Int) == 0) = false := by rw [beq_eq_false_iff_ne]; omega
   have HS : Hid _ := hs
   have HKN : Hid _ := KN
   clear hxs hlen e2 hb0 hr hs hN KN
   go_enter Tryz.func18, Tryz.ntmps18
   go_wp2_with fail
   refine K1.mono ?_
   rintro e w1 ⟨⟨q, rfl, h1⟩, B1⟩
   obtain rfl : q = true := h1.2 HR.out
   clear K1 h1
   have KO := rof_any key hkey w1
   go_wp2_with fail
   refine KO.mono ?_
   rintro e w2' ⟨rfl, B1'⟩
   replace B1 := belowStep B1 B1.size B1'
   clear KO B1'
   have hp1 := slP_below (B1.mono hn) HS.out
   have K2 := HKN.out w2' (Nat.le_trans hn B1.size) (hp1.elim .inl fun ⟨b, o, h1, h2, h3⟩ => .inr ⟨b, o, h1, h2, by simp [Value.ownBlock], h3⟩)
   rw [List.nil_append] at K2
   obtain ⟨G, hG⟩ : ∃ G, GrR w2'.heap.size (.slice none 0 0) xs w2' = G := ⟨_, rfl⟩
   have HG : Hid (GrR w2'.heap.size (.slice none 0 0) xs w2' = G) := hG
   have K3 : Calls Tryz.prog 37 #[.slice none 0 0, .slice a N c, .int .i64 0, .string (ofOf key)] w2' G := by rw [← hG]; exact K2
   clear K2 hG hp1
   go_wp2_with fail
   refine K3.mono ?_
   intro e w2 hg
   rw [← HG.out] at hg
   obtain ⟨v2, rfl, o1, o2, o3⟩ := hg
   obtain ⟨a2, c2, rfl, hsl⟩ := slS_owns o1
   have B2 : Below w2'.heap.size w2' w2 := ⟨o2.os, o2.tape, o2.output, o2.size, fun k hk => o2.block k hk (by simp [Value.ownBlock])⟩
   have BW := belowStep B1 B1.size B2
   have HF : Hid (_ ∧ _) := ⟨own_mono7 o1 B1.size, BW⟩
   clear o1 o2 o3 hsl K3 B2 BW
   go_wp2
   exact bodyPost_ret (v := .tuple #[.slice a2 xs.length c2, .int .i64 0]) (by simp [results, Tryz.results18, go_sem]) rfl ⟨⟨_, rfl, HF.out.1⟩, HF.out.2⟩
end Go.Proofs.YtbmapdkcccdmfaaGreatDoor
namespace Go.Proofs.YtbmapdkcccdmfaaGreatDoor
open Go.RowKit Go.Shelf Go.Sort

def wMore : List ByteArray := wDog ++ [⟨#[120]⟩]
theorem chk_more7 : chkF D4.d tDog wMore = (⟨#[]⟩, false, 70) := chk_more
theorem hb4 : true = true ↔ RightP four4 := ⟨fun _ => right4, fun _ => rfl⟩
theorem owns_cap7 {W : World} {z : Nat} {v : Value} {xs : List ByteArray} (h : W.ownsRow z 9 1 v xs.length (xs.map .string)) : ∃ a c, v = .slice a xs.length c ∧ xs.length ≤ c ∧ slS W.heap.size W a xs := by
 obtain ⟨a, c, rfl, hs⟩ := slS_owns h
 rcases h.2 with ⟨h1, h2⟩ | ⟨g, cap, cur, h1, h2, h3, h4, _⟩
 ·exact ⟨a, c, rfl, by omega, hs⟩
 ·injection h1 with e1 e2 e3
  subst e3
  exact ⟨a, c, rfl, h4, hs⟩
set_option maxRecDepth 20000 in
set_option maxHeartbeats 4000000 in
theorem shown7_any (w : World) (hl : Laid w) :
  Calls Tryz.prog 5 #[] w fun e w' => e = .returned (.bool true) ∧ Below w.heap.size w w' := by
 go_enter Tryz.func5, Tryz.ntmps5
 go_wp2_with fail
 refine (four7_any w).mono ?_
 rintro e w1 ⟨B1, b1, rfl, hb1, hp1⟩
 have KR := rroot_one hb4 (some ⟨b1, 0, none⟩) 4 w1.heap.size w1 (Nat.le_refl _) hp1
 rw [rt4, show erS true = 0 from rfl, show four4.length = 4 from rfl] at KR
 go_wp2_with fail
 refine KR.mono ?_
 rintro e w2 ⟨rfl, B2⟩
 have BW := belowStep B1 B1.size B2
 clear KR hp1 B1 B2
 go_wp2_with fail
 refine (four7_any w2).mono ?_
 rintro e w3 ⟨B3, b3, rfl, hb3, hp3⟩
 have KP := rprove_own hb4 tDog (by decide) (some ⟨b3, 0, none⟩) 4 w3.heap.size w3 (Nat.le_refl _) hp3
 rw [td_dog, show erS true = 0 from rfl, show four4.length = 4 from rfl] at KP
 replace BW := belowStep BW BW.size B3
 have hwz : w.heap.size ≤ w3.heap.size := BW.size
 clear B3 hp3
 go_wp2_with fail
 refine KP.mono ?_
 rintro e w4 ⟨⟨v, rfl, hown⟩, B4⟩
 clear KP
 obtain ⟨a4, c4, rfl, hc4, hs4⟩ := owns_cap7 hown
 replace BW := belowStep BW BW.size B4
 have KC := check_any D4.d tDog wDog (by decide) a4 c4 w4.heap.size hc4 w4 (Nat.le_refl _) (hl.below BW) hs4
 rw [chk_dog, show wDog.length = 4 from rfl] at KC
 dsimp only at KC
 have HO : Hid _ := hown
 have hz3 : w3.heap.size ≤ w4.heap.size := B4.size
 clear hown hs4 B4
 obtain ⟨z3, hz30⟩ : ∃ z, w3.heap.size = z := ⟨_, rfl⟩
 rw [hz30] at HO hz3 hwz
 clear hz30
 rw [show wDog.length = 4 from rfl] at hc4 ⊢
 go_wp2_with fail
 refine KC.mono ?_
 rintro e w5 ⟨rfl, B5⟩
 have hO5 : Hid _ := owns_below HO.out B5
 replace hz3 : z3 ≤ w5.heap.size := Nat.le_trans hz3 B5.size
 replace BW := belowStep BW BW.size B5
 clear KC B5 HO
 go_wp2_with fail
 refine (four7_any w5).mono ?_
 rintro e w6 ⟨B6, b6, rfl, hb6, hp6⟩
 have KP := rprove_own hb4 tCat (by decide) (some ⟨b6, 0, none⟩) 4 w6.heap.size w6 (Nat.le_refl _) hp6
 rw [td_cat, show erS true = 0 from rfl, show four4.length = 4 from rfl] at KP
 have hO6 : Hid _ := owns_below hO5.out B6
 replace hz3 : z3 ≤ w6.heap.size := Nat.le_trans hz3 B6.size
 replace BW := belowStep BW BW.size B6
 clear B6 hp6 hO5
 go_wp2_with fail
 refine KP.mono ?_
 rintro e w7 ⟨⟨v7, rfl, hown7⟩, B7⟩
 clear KP
 obtain ⟨a7, c7, rfl, hc7, hs7⟩ := owns_cap7 hown7
 have hO7 : Hid _ := owns_below hO6.out B7
 replace hz3 : z3 ≤ w7.heap.size := Nat.le_trans hz3 B7.size
 replace BW := belowStep BW BW.size B7
 have KC := check_any D4.d tCat wCat (by decide) a7 c7 w7.heap.size hc7 w7 (Nat.le_refl _) (hl.below BW) hs7
 rw [chk_cat, show wCat.length = 2 from rfl] at KC
 dsimp only at KC
 clear hown7 hs7 B7 hO6
 rw [show wCat.length = 2 from rfl] at hc7 ⊢
 go_wp2_with fail
 refine KC.mono ?_
 rintro e w8 ⟨rfl, B8⟩
 have hO8 : Hid _ := owns_below hO7.out B8
 replace hz3 : z3 ≤ w8.heap.size := Nat.le_trans hz3 B8.size
 replace BW := belowStep BW BW.size B8
 clear KC B8 hO7
 obtain ⟨i0, hi0, hj0, hj1, hj2⟩ := info_parts info_text7
 have A8 := (Below.refl w8.heap.size w8).alloc (Nat.le_refl _) (.cells #[.string ⟨#[120]⟩] 9)
 have hN8 := World.alloc_heap_new w8 (.cells #[.string ⟨#[120]⟩] 9)
 have hO9 : Hid (_ ∧ _ ∧ _) := ⟨owns_below hO8.out A8, hN8, A8⟩
 clear A8 hN8 hO8
 go_wp2_with (at_builtin; refine wpList_append_where _ rfl _ _ 22 rfl z3 9 i0 _ 1 16 Tryz.underlying22 hi0 hj0 hj1 hj2 rfl (by decide) _ 4 _ rfl hO9.out.1 ⟨w8.heap.size, 0, none⟩ 1 1 [.string ⟨#[120]⟩] rfl rfl ?c1 ?c2 (by unfold maxLen; omega) (by omega) ?c3 (by decide) ?_)
 case c1 =>
  intro j u hj
  rw [Addr.add_lit, Lib.cell_of_heap hO9.out.2.1, Nat.zero_add]
  simpa using hj
 case c2 =>
  intro u hu
  simp only [List.mem_cons, List.not_mem_nil, or_false] at hu
  subst hu
  rfl
 case c3 =>
  have := hO9.out.2.2.size
  omega
 intro v' w9 a2 a3 a4 a5
 have hO9' := hO9.out
 have hownM : w9.ownsRow z3 9 1 v' wMore.length (wMore.map .string) := a2
 obtain ⟨a9, c9, rfl, hc9, hs9⟩ := owns_cap7 hownM
 have hA8 := hO9'.2.2
 have BX := belowStep BW BW.size hA8
 have BY : Below w.heap.size w w9 := BX.grown a3 (by have := BX.size; omega) (fun b e => Nat.le_trans hwz (hO9'.1.lt b e).1)
 have KC := check_any D4.d tDog wMore (by decide) a9 c9 w9.heap.size hc9 w9 (Nat.le_refl _) (hl.below BY) hs9
 rw [chk_more7, show wMore.length = 5 from rfl] at KC
 dsimp only at KC
 rw [show wMore.length = 5 from rfl]
 have HB : Hid _ := BY
 clear a2 a3 a4 a5 hO9 hO9' hownM hs9 hA8 BX BY BW
 go_wp2_with fail
 refine KC.mono ?_
 rintro e w10 ⟨rfl, B10⟩
 have BZ := belowStep HB.out HB.out.size B10
 clear KC B10
 go_wp2
 go_ret
 exact ⟨rfl, BZ⟩
end Go.Proofs.YtbmapdkcccdmfaaGreatDoor
