/- Lemmas: The halves of a form, gone through. -/
import Derived.Test.YtbmapdkcccdmfaaGreatDoorM1
import Derived.Test.YtbmapdkcccdmfaaGreatDoorM11
import Derived.Test.YtbmapdkcccdmfaaGreatDoorM18
import Derived.Test.YtbmapdkcccdmfaaGreatDoorM19
import Derived.Test.YtbmapdkcccdmfaaGreatDoorM20
import Derived.Test.YtbmapdkcccdmfaaGreatDoorM21
import Derived.Test.YtbmapdkcccdmfaaGreatDoorM22
import Derived.Test.YtbmapdkcccdmfaaGreatDoorM23
import Derived.Test.YtbmapdkcccdmfaaGreatDoorM3
import Derived.Test.YtbmapdkcccdmfaaGreatDoorRows
namespace Go.Proofs.YtbmapdkcccdmfaaGreatDoor
open Go.RowKit Go.Shelf
attribute [local go_sem] Oper.semAt_some

def full (p : ByteArray) (leaf : Bool) : ByteArray := hdOf p.size leaf ++ p
theorem hd_size (n : Nat) (leaf : Bool) : (hdOf n leaf).size = 2 - n % 2 := by
 cases leaf <;> unfold hdOf <;> by_cases h : n % 2 = 0 <;> simp only [h, if_true, if_false] <;> first | rfl | (rw [show n % 2 = 1 by omega]; rfl)
theorem full_size (p : ByteArray) (leaf : Bool) : (full p leaf).size = (hdOf p.size leaf).size + p.size := by
 unfold full
 rw [ByteArray.size_append]
theorem n_bt_app (a b : ByteArray) (j : Nat) : n_bt (a ++ b) j = if j < a.size then n_bt a j else n_bt b (j - a.size) := by
 unfold n_bt
 have e : (a ++ b).data = a.data ++ b.data := by simp
 rw [e]
 have hz : a.data.size = a.size := rfl
 have hs : (a.data ++ b.data).size = a.size + b.size := by rw [Array.size_append]; rfl
 by_cases h : j < a.size
 ·rw [if_pos h]
  simp [Array.getD, hz, h, Nat.lt_of_lt_of_le h (Nat.le_add_right _ _)]
 ·rw [if_neg h]
  congr 2
  rw [Array.getD_eq_getD_getElem?, Array.getD_eq_getD_getElem?, Array.getElem?_append_right (by rw [hz]; omega), hz]
def fEnc (p : ByteArray) (leaf : Bool) (x : Nat) : Array Value := #[.int .i64 ((x % 4294967296 : Nat) : Int), .int .u8 (n_bt (full p leaf) x)]
def BolIn (bL : Nat) (v : Bool) (W : World) : Prop := W.heap[bL]? = some (.cells #[.bool v] 4 (0, 0))

theorem run_index0 (a b : ByteArray) (W : World) : (Instr.index 223 (.agg #[.string a, .string b]) (.int .i64 0)).run Tryz.prog W = .ok (.string a) W := by
 simp [Instr.index, asIntOf, run_underlying Tryz.underlying223, part, Tryz.isAgg9, Tryz.sizeOf9]
theorem run_index1 (a b : ByteArray) (W : World) : (Instr.index 223 (.agg #[.string a, .string b]) (.int .i64 1)).run Tryz.prog W = .ok (.string b) W := by
 simp [Instr.index, asIntOf, run_underlying Tryz.underlying223, part, Tryz.isAgg9, Tryz.sizeOf9]

set_option maxRecDepth 100000 in
set_option maxHeartbeats 2000000 in
theorem formHalves1_in (n l bX bL : Nat) (p : ByteArray) (leaf : Bool) (ht : p.size < 1000000000) (J Jx : List Nat → World → Prop) (B : Nat) (hJ : AbidesFrom B J)
  (hY : ∀ m pre x W, J pre W → pre.length < (full p leaf).size → YieldAt Fence.wide m Tryz.prog l (fEnc p leaf x) W fun e W' =>
   (e = .returned (.bool true) ∧ J (pre ++ [x]) W') ∨ (e = .returned (.bool false) ∧ Jx (pre ++ [x]) W'))
  (W : World) (hc : TxtIn bX p W) (hl : BolIn bL leaf W) (h0 : J [] W) :
  CallsIn Fence.wide n Tryz.prog 169 #[.func (.yield l) #[] #[], .pointer (some ⟨bX, 0, none⟩), .pointer (some ⟨bL, 0, none⟩)] W fun e W' => (∃ v, e = .returned v) ∧
   (J (List.range (full p leaf).size) W' ∨ (∃ q, q ≤ (full p leaf).size ∧ Jx (List.range q) W')) := by
 have hc0 := hc.cell
 have hl0 : W.cell? ⟨bL, 0, none⟩ = some (.bool leaf) := by rw [Lib.cell_of_heap hl]; rfl
 refine callsIn_of_wp Tryz.func169 rfl trivial ?_ rfl
 simp only [Tryz.ntmps169, List.size_toArray, List.length_cons, List.length_nil, Nat.reduceAdd, Nat.reduceSub, Array.replicate_succ, Array.replicate_zero, List.push_toArray, List.append_toArray, List.nil_append, List.cons_append]
 gi_wp2_with fail
 refine wpIn_wide.2 ?_
 have KH : Hid (∀ w : World, _) := fun w : World => n_headOf_any p.size leaf w
 have k0 := cell_regrown hc0
 have k1 := cell_regrown hl0
 have c0 := inClass (w := W) KH.out
 refine wp_region_quiet_below (by kernel_rfl) (by kernel_rfl) ?_
 iterate 3 (quiet_step (fail))
 quiet_step (exact c0 _ _)
 iterate 3 (quiet_step (fail))
 refine wpQuiet_nil ?_
 intro w8 hw8
 have hb8 : Below W.heap.size W w8 := by
  obtain ⟨p, rfl⟩ := hw8
  exact below_regrown _ _ _
 have J8 := hJ _ _ _ none h0 (n_grown_of hb8) (fun r h => by cases h)
 have hc8 : TxtIn bX p w8 := (hb8.block _ hc.lt).trans hc
 have hl8 : BolIn bL leaf w8 := (hb8.block _ (Array.getElem?_eq_some_iff.1 hl).1).trans hl
 clear hw8 k0 k1 c0 KH h0 hc hl hb8 hJ hc0 hl0 hc8 hl8
 obtain ⟨hd, hhd⟩ : ∃ hd, hdOf p.size leaf = hd := ⟨_, rfl⟩
 have hhs : hd.size = 2 - p.size % 2 := by rw [← hhd]; exact hd_size _ _
 have hfs : (full p leaf).size = hd.size + p.size := by rw [full_size, hhd]
 have hb1 : ∀ j, j < hd.size → n_bt (full p leaf) j = n_bt hd j := fun j hj => by unfold full; rw [n_bt_app, hhd, if_pos hj]
 have hb2 : ∀ j, j < p.size → n_bt (full p leaf) (hd.size + j) = n_bt p j := fun j hj => by unfold full; rw [n_bt_app, hhd, if_neg (by omega), show hd.size + j - hd.size = j by omega]
 rw [hhd]
 have H1 : Hid (_ ∧ _) := ⟨hb1, hb2⟩
 clear hb1 hb2 hhd
 gi_wp2
 gi_loopw [4, 14] (fun at1 i1 wr1 => ∃ k : Nat, k ≤ 2 ∧ i1 = .int .i64 (k : Int) ∧ at1 = .int .i64 (((if k = 0 then 0 else if k = 1 then hd.size else hd.size + p.size) : Nat) : Int) ∧ J (List.range (if k = 0 then 0 else if k = 1 then hd.size else hd.size + p.size)) wr1)
  (fun _ i1 _ => (2 - (intOf i1).toNat))
 case atStart => exact ⟨0, by omega, rfl, rfl, by simpa using J8⟩
 case round =>
  obtain ⟨k, hk, rfl, rfl, hJ1⟩ := hrel
  have hk3 : k = 0 ∨ k = 1 ∨ k = 2 := by omega
  rcases hk3 with rfl | rfl | rfl
  ·simp only [if_true] at hJ1 ⊢
   rw [show ((0 : Nat) : Int) = 0 from rfl]
   have hix := run_index0 hd p wr
   gi_wp2
   gi_loopw [4, 19] (fun at2 i2 wr2 => ∃ j : Nat, j ≤ hd.size ∧ i2 = .int .i64 (j : Int) ∧ at2 = .int .i64 ((0 + j : Nat) : Int) ∧ J (List.range (0 + j)) wr2)
    (fun _ i2 _ => (hd.size - (intOf i2).toNat))
   case atStart => exact ⟨0, by omega, rfl, rfl, by simpa using hJ1⟩
   case round =>
    obtain ⟨j, hj, rfl, rfl, hJs⟩ := hrel
    by_cases hlt : j < hd.size
    ·have l0 : (j : Int) < hd.size := by omega
     obtain ⟨q, hq⟩ : ∃ q, 0 + j = q := ⟨_, rfl⟩
     obtain ⟨u, hu⟩ : ∃ u : Int, n_bt (full p leaf) q = u := ⟨_, rfl⟩
     have hsk : (((hd[j]'hlt).toNat : Nat) : Int) = u := by rw [n_bt_get, ← hu, ← hq]; rw [Nat.zero_add]; exact (H1.out.1 j hlt).symm
     rw [hq] at hJs ⊢
     obtain ⟨fn, tmps, assign, body, hy, hR⟩ := hY (n - 1) _ q wr hJs (by rw [List.length_range]; omega)
     unfold fEnc at hy
     rw [show q % 4294967296 = q by omega, hu] at hy
     have HH : Hid (_ ∧ _) := ⟨hJs, hu⟩
     have wq : IntKind.i64.wrap ((q : Int) + 1) = ((0 + (j + 1) : Nat) : Int) := by rw [IntKind.wrap_i64]; omega
     clear hJs hu
     gi_wp2
     refine ⟨fun h => (by cases h), hR.mono ?_⟩
     rintro e W3 (⟨rfl, hJ3⟩ | ⟨rfl, hJx3⟩)
     ·clear hy hR
      gi_wp2
      go_roundw
      case rel =>
       refine ⟨j + 1, by omega, rfl, by congr 1; omega, ?_⟩
       rw [show 0 + (j + 1) = q + 1 by omega, List.range_succ]
       exact hJ3
      case measure => simp [intOf]; omega
     ·clear hy hR
      gi_wp2
      refine bodyPost_ret (v := .tuple #[]) (by simp [results, Tryz.results169, go_sem]) rfl ⟨⟨_, rfl⟩, .inr ⟨q + 1, by omega, ?_⟩⟩
      rw [List.range_succ]
      exact hJx3
    ·have hjk : j = hd.size := by omega
     subst hjk
     have l0 : ¬ (hd.size : Int) < hd.size := by omega
     gi_wp2
     go_roundw
     case rel => exact ⟨1, by omega, rfl, by simp, by simpa using hJs⟩
     case measure => simp [intOf]
  ·simp only [Nat.one_ne_zero, if_true, if_false] at hJ1 ⊢
   rw [show ((1 : Nat) : Int) = 1 from rfl]
   have hix := run_index1 hd p wr
   gi_wp2
   gi_loopw [4, 19] (fun at2 i2 wr2 => ∃ j : Nat, j ≤ p.size ∧ i2 = .int .i64 (j : Int) ∧ at2 = .int .i64 ((hd.size + j : Nat) : Int) ∧ J (List.range (hd.size + j)) wr2)
    (fun _ i2 _ => (p.size - (intOf i2).toNat))
   case atStart => exact ⟨0, by omega, rfl, rfl, hJ1⟩
   case round =>
    obtain ⟨j, hj, rfl, rfl, hJs⟩ := hrel
    by_cases hlt : j < p.size
    ·have l0 : (j : Int) < p.size := by omega
     obtain ⟨q, hq⟩ : ∃ q, hd.size + j = q := ⟨_, rfl⟩
     obtain ⟨u, hu⟩ : ∃ u : Int, n_bt (full p leaf) q = u := ⟨_, rfl⟩
     have hsk : (((p[j]'hlt).toNat : Nat) : Int) = u := by rw [n_bt_get, ← hu, ← hq]; exact (H1.out.2 j hlt).symm
     rw [hq] at hJs ⊢
     obtain ⟨fn, tmps, assign, body, hy, hR⟩ := hY (n - 1) _ q wr hJs (by rw [List.length_range]; omega)
     unfold fEnc at hy
     rw [show q % 4294967296 = q by omega, hu] at hy
     have HH : Hid (_ ∧ _) := ⟨hJs, hu⟩
     have wq : IntKind.i64.wrap ((q : Int) + 1) = ((hd.size + (j + 1) : Nat) : Int) := by rw [IntKind.wrap_i64]; omega
     clear hJs hu
     gi_wp2
     refine ⟨fun h => (by cases h), hR.mono ?_⟩
     rintro e W3 (⟨rfl, hJ3⟩ | ⟨rfl, hJx3⟩)
     ·clear hy hR
      gi_wp2
      go_roundw
      case rel =>
       refine ⟨j + 1, by omega, rfl, by congr 1; omega, ?_⟩
       rw [show hd.size + (j + 1) = q + 1 by omega, List.range_succ]
       exact hJ3
      case measure => simp [intOf]; omega
     ·clear hy hR
      gi_wp2
      refine bodyPost_ret (v := .tuple #[]) (by simp [results, Tryz.results169, go_sem]) rfl ⟨⟨_, rfl⟩, .inr ⟨q + 1, by omega, ?_⟩⟩
      rw [List.range_succ]
      exact hJx3
    ·have hjk : j = p.size := by omega
     subst hjk
     have l0 : ¬ (p.size : Int) < p.size := by omega
     gi_wp2
     go_roundw
     case rel => exact ⟨2, by omega, rfl, by simp, by simpa using hJs⟩
     case measure => simp [intOf]
  ·gi_wp2
   go_end0
   refine ⟨⟨_, rfl⟩, .inl ?_⟩
   rw [hfs]
   simpa using hJ1
end Go.Proofs.YtbmapdkcccdmfaaGreatDoor
