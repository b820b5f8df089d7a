/- Lemmas: Numbers as chunks, noughts, what a chunk is, a root with a length: the program's and the reference's. Slices of texts; Same, of the reference. -/
import Derived.Test.YtoddangedbefgabGreatDoorM1
import Derived.Test.YtoddangedbefgabGreatDoorM10
import Derived.Test.YtoddangedbefgabGreatDoorM11
import Derived.Test.YtoddangedbefgabGreatDoorM12
import Derived.Test.YtoddangedbefgabGreatDoorM13
import Derived.Test.YtoddangedbefgabGreatDoorM16
import Derived.Test.YtoddangedbefgabGreatDoorM17
import Derived.Test.YtoddangedbefgabGreatDoorM18
import Derived.Test.YtoddangedbefgabGreatDoorM3
import Derived.Test.YtoddangedbefgabGreatDoorM5
import Derived.Test.YtoddangedbefgabGreatDoorM8
import Derived.Test.YtoddangedbefgabGreatDoorM9
import Derived.Test.YtoddangedbefgabGreatDoorRows
import Derived.Deep.OwnRows
namespace Go.Proofs.YtoddangedbefgabGreatDoor
open Go.RowKit Go.Sort

theorem by8_ext8 (n : Nat) (f g : Nat → Int) (h : ∀ j, j < n → f j = g j) : s_by8 n f = s_by8 n g := by
 unfold s_by8
 exact List.map_congr_left fun j hj => by rw [h j (List.mem_range.1 hj)]
theorem by8_size8 (n : Nat) (f : Nat → Int) : (⟨(s_by8 n f).toArray⟩ : ByteArray).size = n := by
 show (s_by8 n f).toArray.size = n
 rw [List.size_toArray, s_by8_len]

set_option maxRecDepth 20000 in
set_option maxHeartbeats 1000000 in
theorem isChunk_any (s : ByteArray) (w : World) :
  Calls Tryz.prog 116 #[.string s] w fun e w' => e = .returned (.bool (decide (s.size = 32))) ∧ w' = w := by
 by_cases h : s.size = 32
 ·have h1 : (s.size : Int) = 32 := by omega
  go_enter Tryz.func116, Tryz.ntmps116
  go_wp2
  go_ret
  exact ⟨by simp [h], rfl⟩
 ·have h1 : ¬ (s.size : Int) = 32 := by omega
  go_enter Tryz.func116, Tryz.ntmps116
  go_wp2
  go_ret
  exact ⟨by simp [h]; omega, rfl⟩



def nbAt (n : Int) (j : Nat) : Int := if j < 8 then n / 2 ^ (8 * j) % 256 else 0
theorem nb_bd (n : Int) (j : Nat) : 0 ≤ nbAt n j ∧ nbAt n j < 256 := by unfold nbAt; split <;> omega
def z_numOf (n : Int) : ByteArray := ⟨(s_by8 32 (nbAt n)).toArray⟩

set_option maxRecDepth 20000 in
set_option maxHeartbeats 4000000 in
theorem z_number_any (n : Int) (w : World) :
  Calls Tryz.prog 83 #[.int .u64 n] w fun e w' => e = .returned (.string (z_numOf n)) ∧ Below w.heap.size w w' := by
 go_enter Tryz.func83, Tryz.ntmps83
 go_wp2
 go_loopg [5] 8 (fun gk i wr => ∃ k : Nat, ∃ h : Nat → Int, k + gk = 8 ∧ i = .int .i64 k ∧ Below w.heap.size w wr ∧ Fw w.heap.size 32 (fun j => .int .u8 (h j)) wr ∧ Hid (∀ j, j < 32 → h j = if j < k then nbAt n j else 0))
 case atStart => exact ⟨0, fun _ => 0, rfl, rfl, by go_grown, Fw.lit _ _ rfl rfl, fun j _ => by rw [if_neg (by omega)]⟩
 case round =>
  obtain ⟨k, h, hk, rfl, EW, CU, hH⟩ := hrel
  have zu := CU.z
  have uf := CU.f
  by_cases hlt : k < 8
  ·obtain ⟨r8, hr8⟩ : ∃ s : Nat, 8 * k = s := ⟨_, rfl⟩
   have hm : IntKind.i64.wrap (8 * (k : Int)) = r8 := by rw [IntKind.wrap_i64]; omega
   have e64 : (r8 : Int) ≤ 64 := by omega
   have e0 : (0 : Int) ≤ r8 := by omega
   have emin : min r8 64 = r8 := by omega
   have l0 : (k : Int) < 8 := by omega
   have l1 : (k : Int) < 32 := by omega
   have n0 := CU.c k (by omega)
   obtain ⟨t, ht⟩ : ∃ t, n / 2 ^ r8 % 256 = t := ⟨_, rfl⟩
   have hu : IntKind.u8.wrap (n / 2 ^ r8) = t := by rw [IntKind.wrap_u8]; exact ht
   have HB : Hid (nbAt n k = t) := by
    show _ = _
    rw [nbAt, if_pos hlt, hr8, ht]
   clear ht hr8
   go_wp2
   go_roundg (gk - 1)
   case measure => omega
   case rel =>
    refine ⟨k + 1, fun j => if j = k then t else h j, by omega, rfl, by go_grown, CU.put k (by omega) (.int .u8 t) (fun j _ => by by_cases e : j = k <;> simp [e]), ?_⟩
    intro j hj
    have hJ := hH.out j hj
    show (if j = k then t else h j) = _
    by_cases e : j = k
    ·rw [if_pos e, e, if_pos (by omega), HB.out]
    rw [if_neg e, hJ]
    by_cases h1 : j < k
    ·rw [if_pos h1, if_pos (by omega)]
    ·rw [if_neg h1, if_neg (by omega)]
  ·have hk2 : k = 8 := by omega
   subst hk2
   clear hlt
   have hcv := Fw.text (nb_bd n) (CU.ext (h := fun j => .int .u8 (nbAt n j)) (fun j hj => by
    show Value.int .u8 _ = .int .u8 _
    rw [hH.out j hj]
    by_cases h8 : j < 8
    ·rw [if_pos h8]
    ·rw [if_neg h8, nbAt, if_neg h8]))
   go_wp2
   go_ret
   exact ⟨rfl, EW⟩

theorem owns_below8 {w w' : World} {b : Nat} {e : TypeId} {size : Nat} {v : Value} {n : Nat} {xs : List Value} (h : w.ownsRow b e size v n xs) (hb : Below w.heap.size w w') : w'.ownsRow b e size v n xs :=
 h.kept (row := none) ⟨hb.os, hb.tape, hb.output, hb.size, fun k hk _ => hb.block k hk⟩ (by cases v.ownBlock <;> simp)



end Go.Proofs.YtoddangedbefgabGreatDoor
namespace Go.Proofs.YtoddangedbefgabGreatDoor
open Go.RowKit Go.Shelf Go.Sort

theorem toList_inj {s t : ByteArray} (h : s.toList = t.toList) : s = t := by
 rw [ByteArray.toList_eq, ByteArray.toList_eq] at h
 have h2 : s.data = t.data := Array.toList_inj.1 h
 cases s
 cases t
 cases h2
 rfl

def slS (n : Nat) (W : World) (a : Option Addr) (xs : List ByteArray) : Prop := xs = [] ∨ ∃ b o, a = some ⟨b, o, none⟩ ∧ b < n ∧ ∀ j x, xs[j]? = some x → W.cell? ⟨b, o + j, none⟩ = some (.string x)
theorem slS_below {n : Nat} {W W' : World} (hb : Below n W W') {a : Option Addr} {xs : List ByteArray} (hp : slS n W a xs) : slS n W' a xs := by
 rcases hp with h | ⟨b, o, h1, h2, h3⟩
 ·exact .inl h
 ·exact .inr ⟨b, o, h1, h2, fun j x hx => (hb.cell (p := ⟨b, _, none⟩) h2).trans (h3 j x hx)⟩
theorem slS_at {n : Nat} {W : World} {a : Option Addr} {xs : List ByteArray} (hp : slS n W a xs) (j : Nat) (x : ByteArray) (hx : xs[j]? = some x) : ∃ b o, a = some ⟨b, o, none⟩ ∧ b < n ∧ W.cell? ⟨b, o + j, none⟩ = some (.string x) := by
 rcases hp with h | ⟨b, o, h1, h2, h3⟩
 ·subst h
  cases hx
 ·exact ⟨b, o, h1, h2, h3 j x hx⟩
theorem slS_owns {z : Nat} {v : Value} {xs : List ByteArray} {W : World} (h : W.ownsRow z 9 1 v xs.length (xs.map .string)) : ∃ a c, v = .slice a xs.length c ∧ slS W.heap.size W a xs := by
 rcases h.2 with ⟨h1, h2⟩ | ⟨g, c, cur, h1, h2, h3, h4, h5, h6, h7⟩
 ·exact ⟨none, 0, by rw [h1, h2], .inl (List.length_eq_zero_iff.1 h2)⟩
 ·refine ⟨_, c, h1, .inr ⟨g, 0, rfl, (Array.getElem?_eq_some_iff.1 h3).1, fun j x hx => ?_⟩⟩
  have hj : j < xs.length := (List.getElem?_eq_some_iff.1 hx).1
  subst h1
  rw [h.cellAt (0 + j) (by omega), Nat.zero_add, List.getElem?_map, hx]
  rfl
end Go.Proofs.YtoddangedbefgabGreatDoor
