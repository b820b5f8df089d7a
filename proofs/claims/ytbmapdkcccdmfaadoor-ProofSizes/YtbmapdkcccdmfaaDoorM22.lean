/- Lemmas: The halves of a text, gone through. -/
import Derived.Test.YtbmapdkcccdmfaaDoorM1
import Derived.Test.YtbmapdkcccdmfaaDoorM11
import Derived.Test.YtbmapdkcccdmfaaDoorM18
import Derived.Test.YtbmapdkcccdmfaaDoorM19
import Derived.Test.YtbmapdkcccdmfaaDoorM20
import Derived.Test.YtbmapdkcccdmfaaDoorM21
import Derived.Test.YtbmapdkcccdmfaaDoorM3
import Derived.Test.YtbmapdkcccdmfaaDoorRows
namespace Go.Proofs.YtbmapdkcccdmfaaDoor
open Go.RowKit Go.Shelf
attribute [local go_sem] Oper.semAt_some

def half (s : ByteArray) (j : Nat) : Int := if j % 2 = 0 then n_bt s (j / 2) / 16 else n_bt s (j / 2) % 16
theorem half_bd (s : ByteArray) (j : Nat) : 0 ≤ half s j ∧ half s j < 16 := by
 unfold half
 have := n_bt_bd s (j / 2)
 split <;> omega
theorem and_15 (y : Nat) (h : y < 256) : bits .and .u8 (y : Int) 15 = ((y % 16 : Nat) : Int) := by
 have e : ∀ j : Fin 256, bits .and .u8 ((j.val : Nat) : Int) 15 = ((j.val % 16 : Nat) : Int) := by decide +kernel
 exact e ⟨y, h⟩
def hEnc (s : ByteArray) (x : Nat) : Array Value := #[.int .i64 ((x % 4294967296 : Nat) : Int), .int .u8 (half s x)]
def TxtIn (bX : Nat) (T : ByteArray) (W : World) : Prop := W.heap[bX]? = some (.cells #[.string T] 9 (0, 0))
theorem TxtIn.cell {bX : Nat} {T : ByteArray} {W : World} (h : TxtIn bX T W) : W.cell? ⟨bX, 0, none⟩ = some (.string T) := by rw [Lib.cell_of_heap h]; rfl
theorem TxtIn.lt {bX : Nat} {T : ByteArray} {W : World} (h : TxtIn bX T W) : bX < W.heap.size := (Array.getElem?_eq_some_iff.1 h).1
def TxtK (bX : Nat) (T : ByteArray) (W W' : World) : Prop := TxtIn bX T W → TxtIn bX T W'
theorem n_grown_of {W W' : World} (h : Below W.heap.size W W') : W.grownBy W' none := ⟨h.os, h.tape, h.output, h.size, fun k hk _ => h.block k hk⟩
theorem TxtK.of_below {bX : Nat} {T : ByteArray} {W W' : World} (h : Below W.heap.size W W') : TxtK bX T W W' := fun hc => (h.block bX hc.lt).trans hc
theorem TxtK.trans {bX : Nat} {T : ByteArray} {W W' V : World} (h : TxtK bX T W W') (g : TxtK bX T W' V) : TxtK bX T W V := fun hc => g (h hc)
theorem n_room_of_none' {FN : Fence} (hd : FN.depth = none) (k : Nat) : FN.room k := fun d h => by rw [hd] at h; cases h
theorem n_yieldAny {m : Nat} (m' : Nat) {P : Program} {l : Nat} {args : Array Value} {W : World} {R : Ending → World → Prop} (h : YieldAt Fence.wide m P l args W R) : YieldAt Fence.wide m' P l args W R := by
 obtain ⟨fn, tmps, assign, body, hy, hR⟩ := h
 exact ⟨fn, tmps, assign, body, hy, hR.1, fun c cs _ => hR.2 c cs (n_room_of_none' rfl _)⟩

set_option maxRecDepth 100000 in
set_option maxHeartbeats 2000000 in
theorem halves1_in (n l bX : Nat) (t : ByteArray) (ht : t.size < 1000000000) (J Jx : List Nat → World → Prop)
  (hY : ∀ m pre x W, J pre W → pre.length < 2 * t.size → YieldAt Fence.wide m Tryd.prog l (hEnc t x) W fun e W' =>
   (e = .returned (.bool true) ∧ J (pre ++ [x]) W' ∧ TxtK bX t W W') ∨ (e = .returned (.bool false) ∧ Jx (pre ++ [x]) W'))
  (W : World) (hc : TxtIn bX t W) (h0 : J [] W) :
  CallsIn Fence.wide n Tryd.prog 65 #[.func (.yield l) #[] #[], .pointer (some ⟨bX, 0, none⟩)] W fun e W' => (∃ v, e = .returned v) ∧
   (J (List.range (2 * t.size)) W' ∨ (∃ q, q ≤ 2 * t.size ∧ Jx (List.range q) W')) := by
 have hc0 := hc.cell
 refine callsIn_of_wp Tryd.func65 rfl trivial ?_ rfl
 simp only [Tryd.ntmps65, List.size_toArray, List.length_cons, List.length_nil, Nat.reduceAdd, Nat.reduceSub, Array.replicate_succ, Array.replicate_zero, List.push_toArray, List.append_toArray, List.nil_append, List.cons_append]
 gi_wp2
 gi_loopw [6] (fun i wr => ∃ j : Nat, j ≤ t.size ∧ i = .int .i64 (j : Int) ∧ J (List.range (2 * j)) wr ∧ TxtK bX t W wr)
  (fun i _ => (t.size - (intOf i).toNat))
 case atStart => exact ⟨0, by omega, rfl, by simpa using h0, fun h => h⟩
 case round =>
  obtain ⟨j, hj, rfl, hJs, hkt⟩ := hrel
  by_cases hlt : j < t.size
  ·have l0 : (j : Int) < t.size := by omega
   obtain ⟨y, hy, hy2⟩ : ∃ y : Nat, n_bt t j = (y : Int) ∧ y < 256 := ⟨(n_bt t j).toNat, by have := n_bt_bd t j; omega, by have := n_bt_bd t j; omega⟩
   have hsk : (((t[j]'hlt).toNat : Nat) : Int) = y := by rw [n_bt_get, hy]
   obtain ⟨p, hp⟩ : ∃ p, 2 * j = p := ⟨_, rfl⟩
   obtain ⟨q, hq⟩ : ∃ q, p + 1 = q := ⟨_, rfl⟩
   have wp : IntKind.i64.wrap (2 * (j : Int)) = p := by rw [IntKind.wrap_i64]; omega
   have wq : IntKind.i64.wrap ((p : Int) + 1) = q := by rw [IntKind.wrap_i64]; omega
   obtain ⟨u, hu⟩ : ∃ u : Int, half t p = u := ⟨_, rfl⟩
   obtain ⟨v, hv⟩ : ∃ v : Int, half t q = v := ⟨_, rfl⟩
   have hsh : (y : Int) / 16 = u := by rw [← hu]; unfold half; rw [if_pos (by omega), show p / 2 = j by omega, hy]
   have hsh2 : (y : Int) / 2 ^ 4 = u := hsh
   have han : bits .and .u8 (y : Int) 15 = v := by rw [and_15 y hy2, ← hv]; unfold half; rw [if_neg (by omega), show q / 2 = j by omega, hy]; omega
   have hc1 := (hkt hc).cell
   obtain ⟨fn, tmps, assign, body, hy, hR⟩ := hY (n - 1) _ p wr hJs (by rw [List.length_range]; omega)
   unfold hEnc at hy
   rw [show p % 4294967296 = p by omega, hu] at hy
   have HH : Hid (_ ∧ _ ∧ _ ∧ _) := ⟨hJs, hkt, hu, hv⟩
   clear hJs hkt hu hv
   gi_wp2
   refine ⟨fun h => (by cases h), hR.mono ?_⟩
   rintro e W3 (⟨rfl, hJ3, hk3⟩ | ⟨rfl, hJx3⟩)
   ·have hc3 := (hk3 (HH.out.2.1 hc)).cell
    have e3 : List.range (2 * j) ++ [p] = List.range q := by rw [hp, ← hq, List.range_succ]
    rw [e3] at hJ3
    clear hy hR hc1
    obtain ⟨fn, tmps, assign, body, hy, hR⟩ := hY (n - 1) _ q W3 hJ3 (by rw [List.length_range]; omega)
    unfold hEnc at hy
    rw [show q % 4294967296 = q by omega, HH.out.2.2.2] at hy
    have HJ3 : Hid (_ ∧ _) := ⟨hJ3, hk3⟩
    clear hJ3 hk3 e3
    gi_wp2
    refine ⟨fun h => (by cases h), hR.mono ?_⟩
    rintro e W4 (⟨rfl, hJ4, hk4⟩ | ⟨rfl, hJx4⟩)
    ·clear hy hR
     gi_wp2
     go_roundw
     case rel =>
      refine ⟨j + 1, by omega, rfl, ?_, (HH.out.2.1.trans HJ3.out.2).trans hk4⟩
      rw [show 2 * (j + 1) = q + 1 by omega, List.range_succ]
      exact hJ4
     case measure => simp [intOf]; omega
    ·clear hy hR
     gi_wp2
     refine bodyPost_ret (v := .tuple #[]) (by simp [results, Tryd.results65, go_sem]) rfl ⟨⟨_, rfl⟩, .inr ⟨q + 1, by omega, ?_⟩⟩
     rw [List.range_succ]
     exact hJx4
   ·clear hy hR
    gi_wp2
    all_goals (refine ⟨fun _ _ => trivial, ?_⟩)
    all_goals gi_wp2
    all_goals (refine bodyPost_ret (v := .tuple #[]) (by simp [results, Tryd.results65, go_sem]) rfl ⟨⟨_, rfl⟩, .inr ⟨p + 1, by omega, ?_⟩⟩)
    all_goals (rw [List.range_succ, ← hp]; rw [← hp] at hJx3; exact hJx3)
  ·have hjk : j = t.size := by omega
   subst hjk
   have l0 : ¬ (t.size : Int) < t.size := by omega
   gi_wp2
   go_end0
   exact ⟨⟨_, rfl⟩, .inl hJs⟩

theorem halves_stops (n bX : Nat) (t : ByteArray) (ht : t.size < 1000000000) (w : World) (hc : TxtIn bX t w) :
  SeqStopsK Fence.wide n Tryd.prog 65 #[.pointer (some ⟨bX, 0, none⟩)] (hEnc t) (TxtK bX t) (fun ys => ys = List.range (2 * t.size)) (fun pre => ∃ q, q ≤ 2 * t.size ∧ pre = List.range q) (2 * t.size) w := fun l J Jx W hW _ _ hY h0 => by
 refine (halves1_in n l bX t ht J Jx (fun m pre x W1 hj hl => n_yieldAny m (hY pre x W1 hj hl)) W ((hW.block bX hc.lt).trans hc) h0).mono ?_
 rintro e W' ⟨he, hj | ⟨q, hq, hj⟩⟩
 ·exact ⟨he, .inl ⟨_, rfl, hj⟩⟩
 ·exact ⟨he, .inr ⟨_, ⟨q, hq, rfl⟩, hj⟩⟩

set_option maxHeartbeats 1000000 in
theorem halves_any (t : ByteArray) (w : World) :
  Calls Tryd.prog 41 #[.string t] w fun e w' => e = .returned (.func (.func 65) #[] #[.pointer (some ⟨w.heap.size, 0, none⟩)]) ∧ w' = w.alloc (.cells #[.string t] 9) := by
 go_enter Tryd.func41, Tryd.ntmps41
 go_wp2
 go_ret
 exact ⟨rfl, rfl⟩
end Go.Proofs.YtbmapdkcccdmfaaDoor
