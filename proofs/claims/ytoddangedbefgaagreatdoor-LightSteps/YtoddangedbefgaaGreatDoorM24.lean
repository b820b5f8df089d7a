/- Lemmas: Numbers as chunks, noughts, what a chunk is, a root with a length: the program's and the reference's. Slices of texts; Same, of the reference. -/
import Derived.Test.YtoddangedbefgaaGreatDoorM1
import Derived.Test.YtoddangedbefgaaGreatDoorM12
import Derived.Test.YtoddangedbefgaaGreatDoorM13
import Derived.Test.YtoddangedbefgaaGreatDoorM14
import Derived.Test.YtoddangedbefgaaGreatDoorM15
import Derived.Test.YtoddangedbefgaaGreatDoorM16
import Derived.Test.YtoddangedbefgaaGreatDoorM17
import Derived.Test.YtoddangedbefgaaGreatDoorM21
import Derived.Test.YtoddangedbefgaaGreatDoorM22
import Derived.Test.YtoddangedbefgaaGreatDoorM23
import Derived.Test.YtoddangedbefgaaGreatDoorM5
import Derived.Test.YtoddangedbefgaaGreatDoorM7
import Derived.Test.YtoddangedbefgaaGreatDoorRows
import Derived.Deep.OwnRows
namespace Go.Proofs.YtoddangedbefgaaGreatDoor
open Go.RowKit Go.Sort

theorem by8_ext8 (n : Nat) (f g : Nat → Int) (h : ∀ j, j < n → f j = g j) : s_by8 n f = s_by8 n g := by
 unfold s_by8
 exact List.map_congr_left fun j hj => by rw [h j (List.mem_range.1 hj)]
theorem by8_size8 (n : Nat) (f : Nat → Int) : (⟨(s_by8 n f).toArray⟩ : ByteArray).size = n := by
 show (s_by8 n f).toArray.size = n
 rw [List.size_toArray, s_by8_len]

set_option maxRecDepth 20000 in
set_option maxHeartbeats 1000000 in
theorem isChunk_any (s : ByteArray) (w : World) :
  Calls Tryz.prog 105 #[.string s] w fun e w' => e = .returned (.bool (decide (s.size = 32))) ∧ w' = w := by
 by_cases h : s.size = 32
 ·have h1 : (s.size : Int) = 32 := by omega
  go_enter Tryz.func105, Tryz.ntmps105
  go_wp2
  go_ret
  exact ⟨by simp [h], rfl⟩
 ·have h1 : ¬ (s.size : Int) = 32 := by omega
  go_enter Tryz.func105, Tryz.ntmps105
  go_wp2
  go_ret
  exact ⟨by simp [h]; omega, rfl⟩



def nbAt (n : Int) (j : Nat) : Int := if j < 8 then n / 2 ^ (8 * j) % 256 else 0
theorem nb_bd (n : Int) (j : Nat) : 0 ≤ nbAt n j ∧ nbAt n j < 256 := by unfold nbAt; split <;> omega
def z_numOf (n : Int) : ByteArray := ⟨(s_by8 32 (nbAt n)).toArray⟩
theorem z_num_size (n : Int) : (z_numOf n).size = 32 := by8_size8 _ _

set_option maxRecDepth 20000 in
set_option maxHeartbeats 4000000 in
theorem z_number_any (n : Int) (w : World) :
  Calls Tryz.prog 67 #[.int .u64 n] w fun e w' => e = .returned (.string (z_numOf n)) ∧ Below w.heap.size w w' := by
 go_enter Tryz.func67, Tryz.ntmps67
 go_wp2
 go_loopg [5] 8 (fun gk i wr => ∃ k : Nat, ∃ h : Nat → Int, k + gk = 8 ∧ i = .int .i64 k ∧ Below w.heap.size w wr ∧ Fw w.heap.size 32 (fun j => .int .u8 (h j)) wr ∧ Hid (∀ j, j < 32 → h j = if j < k then nbAt n j else 0))
 case atStart => exact ⟨0, fun _ => 0, rfl, rfl, by go_grown, Fw.lit _ _ rfl rfl, fun j _ => by rw [if_neg (by omega)]⟩
 case round =>
  obtain ⟨k, h, hk, rfl, EW, CU, hH⟩ := hrel
  have zu := CU.z
  have uf := CU.f
  by_cases hlt : k < 8
  ·obtain ⟨r8, hr8⟩ : ∃ s : Nat, 8 * k = s := ⟨_, rfl⟩
   have hm : IntKind.i64.wrap (8 * (k : Int)) = r8 := by rw [IntKind.wrap_i64]; omega
   have e64 : (r8 : Int) ≤ 64 := by omega
   have e0 : (0 : Int) ≤ r8 := by omega
   have emin : min r8 64 = r8 := by omega
   have l0 : (k : Int) < 8 := by omega
   have l1 : (k : Int) < 32 := by omega
   have n0 := CU.c k (by omega)
   obtain ⟨t, ht⟩ : ∃ t, n / 2 ^ r8 % 256 = t := ⟨_, rfl⟩
   have hu : IntKind.u8.wrap (n / 2 ^ r8) = t := by rw [IntKind.wrap_u8]; exact ht
   have HB : Hid (nbAt n k = t) := by
    show _ = _
    rw [nbAt, if_pos hlt, hr8, ht]
   clear ht hr8
   go_wp2
   go_roundg (gk - 1)
   case measure => omega
   case rel =>
    refine ⟨k + 1, fun j => if j = k then t else h j, by omega, rfl, by go_grown, CU.put k (by omega) (.int .u8 t) (fun j _ => by by_cases e : j = k <;> simp [e]), ?_⟩
    intro j hj
    have hJ := hH.out j hj
    show (if j = k then t else h j) = _
    by_cases e : j = k
    ·rw [if_pos e, e, if_pos (by omega), HB.out]
    rw [if_neg e, hJ]
    by_cases h1 : j < k
    ·rw [if_pos h1, if_pos (by omega)]
    ·rw [if_neg h1, if_neg (by omega)]
  ·have hk2 : k = 8 := by omega
   subst hk2
   clear hlt
   have hcv := Fw.text (nb_bd n) (CU.ext (h := fun j => .int .u8 (nbAt n j)) (fun j hj => by
    show Value.int .u8 _ = .int .u8 _
    rw [hH.out j hj]
    by_cases h8 : j < 8
    ·rw [if_pos h8]
    ·rw [if_neg h8, nbAt, if_neg h8]))
   go_wp2
   go_ret
   exact ⟨rfl, EW⟩

theorem owns_below8 {w w' : World} {b : Nat} {e : TypeId} {size : Nat} {v : Value} {n : Nat} {xs : List Value} (h : w.ownsRow b e size v n xs) (hb : Below w.heap.size w w') : w'.ownsRow b e size v n xs :=
 h.kept (row := none) ⟨hb.os, hb.tape, hb.output, hb.size, fun k hk _ => hb.block k hk⟩ (by cases v.ownBlock <;> simp)



end Go.Proofs.YtoddangedbefgaaGreatDoor
namespace Go.Proofs.YtoddangedbefgaaGreatDoor
open Go.RowKit Go.Shelf Go.Sort

theorem toList_inj {s t : ByteArray} (h : s.toList = t.toList) : s = t := by
 rw [ByteArray.toList_eq, ByteArray.toList_eq] at h
 have h2 : s.data = t.data := Array.toList_inj.1 h
 cases s
 cases t
 cases h2
 rfl

def slS (n : Nat) (W : World) (a : Option Addr) (xs : List ByteArray) : Prop := xs = [] ∨ ∃ b o, a = some ⟨b, o, none⟩ ∧ b < n ∧ ∀ j x, xs[j]? = some x → W.cell? ⟨b, o + j, none⟩ = some (.string x)
theorem slS_below {n : Nat} {W W' : World} (hb : Below n W W') {a : Option Addr} {xs : List ByteArray} (hp : slS n W a xs) : slS n W' a xs := by
 rcases hp with h | ⟨b, o, h1, h2, h3⟩
 ·exact .inl h
 ·exact .inr ⟨b, o, h1, h2, fun j x hx => (hb.cell (p := ⟨b, _, none⟩) h2).trans (h3 j x hx)⟩
theorem slS_at {n : Nat} {W : World} {a : Option Addr} {xs : List ByteArray} (hp : slS n W a xs) (j : Nat) (x : ByteArray) (hx : xs[j]? = some x) : ∃ b o, a = some ⟨b, o, none⟩ ∧ b < n ∧ W.cell? ⟨b, o + j, none⟩ = some (.string x) := by
 rcases hp with h | ⟨b, o, h1, h2, h3⟩
 ·subst h
  cases hx
 ·exact ⟨b, o, h1, h2, h3 j x hx⟩
theorem slS_owns {z : Nat} {v : Value} {xs : List ByteArray} {W : World} (h : W.ownsRow z 9 1 v xs.length (xs.map .string)) : ∃ a c, v = .slice a xs.length c ∧ slS W.heap.size W a xs := by
 rcases h.2 with ⟨h1, h2⟩ | ⟨g, c, cur, h1, h2, h3, h4, h5, h6, h7⟩
 ·exact ⟨none, 0, by rw [h1, h2], .inl (List.length_eq_zero_iff.1 h2)⟩
 ·refine ⟨_, c, h1, .inr ⟨g, 0, rfl, (Array.getElem?_eq_some_iff.1 h3).1, fun j x hx => ?_⟩⟩
  have hj : j < xs.length := (List.getElem?_eq_some_iff.1 hx).1
  subst h1
  rw [h.cellAt (0 + j) (by omega), Nat.zero_add, List.getElem?_map, hx]
  rfl
set_option maxRecDepth 20000 in
set_option maxHeartbeats 1000000 in
theorem same8_any (xs ys : List ByteArray) (hx : xs.length < 1000000000000000000) (hy : ys.length < 1000000000000000000) (a a' : Option Addr) (c c' n : Nat) (w : World) (hn : n ≤ w.heap.size) (h1 : slS n w a xs) (h2 : slS n w a' ys) :
  Calls Tryz.prog 77 #[.slice a xs.length c, .slice a' ys.length c'] w fun e w' => e = .returned (.bool (decide (xs = ys))) ∧ Below w.heap.size w w' := by
 obtain ⟨N, hN⟩ : ∃ N, xs.length = N := ⟨_, rfl⟩
 obtain ⟨M, hM⟩ : ∃ M, ys.length = M := ⟨_, rfl⟩
 have HN : Hid (xs.length = N ∧ ys.length = M) := ⟨hN, hM⟩
 rw [hN] at hx ⊢
 rw [hM] at hy ⊢
 clear hN hM
 by_cases hne : N = M
 ·subst hne
  obtain ⟨q, hq⟩ : ∃ q, decide (xs = ys) = q := ⟨_, rfl⟩
  have HQ : Hid _ := hq
  rw [hq]
  clear hq
  obtain ⟨z, hz⟩ : ∃ z, w.heap.size = z := ⟨_, rfl⟩
  rw [hz] at hn ⊢
  have B0 : Below z w w := by rw [← hz]; exact Below.refl _ _
  have HZ : Hid _ := hz
  clear hz
  go_enter Tryz.func77, Tryz.ntmps77
  go_wp2_with fail
  go_loopg [5] N (fun gk i wr => ∃ k : Nat, k + gk = N ∧ i = .int .i64 k ∧ Hid (∀ j, j < k → xs[j]? = ys[j]?) ∧ Below z w wr)
  case atStart => exact ⟨0, by omega, rfl, (fun j h => by omega), B0⟩
  case round =>
   obtain ⟨k, hk, rfl, hA, BW⟩ := hrel
   have hwz : z ≤ wr.heap.size := by have := BW.size; have := HZ.out; omega
   by_cases hlt : k < N
   ·have l1 : (k : Int) < N := by omega
    obtain ⟨f, hf⟩ : ∃ f, xs[k]? = some f := ⟨xs[k]'(by have := HN.out; omega), List.getElem?_eq_getElem (by have := HN.out; omega)⟩
    obtain ⟨g, hg⟩ : ∃ f, ys[k]? = some f := ⟨ys[k]'(by have := HN.out; omega), List.getElem?_eq_getElem (by have := HN.out; omega)⟩
    obtain ⟨b, o, rfl, hb, c0⟩ := slS_at h1 k f hf
    obtain ⟨b', o', rfl, hb', c1⟩ := slS_at h2 k g hg
    have hbv : b < wr.heap.size := by omega
    have hbv' : b' < wr.heap.size := by omega
    replace c0 := (BW.cell (p := ⟨b, _, none⟩) (by show b < z; omega)).trans c0
    replace c1 := (BW.cell (p := ⟨b', _, none⟩) (by show b' < z; omega)).trans c1
    obtain ⟨r, hr⟩ : ∃ p, o + k = p := ⟨_, rfl⟩
    obtain ⟨r', hr'⟩ : ∃ p, o' + k = p := ⟨_, rfl⟩
    rw [hr] at c0
    rw [hr'] at c1
    have q0 : ∀ d os, (grow (redrawn wr d) os).cell? ⟨b, r, none⟩ = some (.string f) := fun d os => ((below_regrown wr d os).cell (p := ⟨b, r, none⟩) hbv).trans c0
    have q1 : ∀ d os, (grow (redrawn wr d) os).cell? ⟨b', r', none⟩ = some (.string g) := fun d os => ((below_regrown wr d os).cell (p := ⟨b', r', none⟩) hbv').trans c1
    have wk : IntKind.i64.wrap ((k : Int) + 1) = ((k + 1 : Nat) : Int) := by rw [IntKind.wrap_i64]; omega
    clear c0 c1
    by_cases hsame : f = g
    ·have hs : (f.toList == g.toList) = true := by rw [hsame]; exact beq_self_eq_true _
     have HG : Hid (xs[k]? = ys[k]?) := (show xs[k]? = ys[k]? by rw [hf, hg, hsame])
     clear hsame hg hf
     go_wp2_with fail
     refine wp_region_quiet_below (by kernel_rfl) (by kernel_rfl) ?_
     repeat (quiet_step (fail))
     refine wpQuiet_nil ?_
     intro w8 hw8
     have B8 : Below wr.heap.size wr w8 := by
      obtain ⟨p, rfl⟩ := hw8
      exact below_regrown _ _ _
     have BW8 := belowStep BW hwz B8
     clear hw8 q0 q1
     go_wp2
     go_roundg (gk - 1)
     case measure => omega
     case rel =>
      refine ⟨k + 1, by omega, by first | rfl | (congr 1; omega), ?_, BW8⟩
      intro j hj
      by_cases e : j = k
      ·subst e
       exact HG.out
      ·exact hA.out j (by omega)
    ·have hs : (f.toList == g.toList) = false := by rw [beq_eq_false_iff_ne]; exact fun e => hsame (toList_inj e)
     have hqf : q = false := by
      rw [← HQ.out]
      refine decide_eq_false fun e => hsame ?_
      rw [e, hg] at hf
      exact (Option.some.inj hf).symm
     have HG : Hid (q = false) := hqf
     clear hqf
     clear hsame hg hf
     go_wp2_with fail
     refine wp_region_quiet_below (by kernel_rfl) (by kernel_rfl) ?_
     repeat (quiet_step (fail))
     refine wpQuiet_nil ?_
     intro w8 hw8
     have B8 : Below wr.heap.size wr w8 := by
      obtain ⟨p, rfl⟩ := hw8
      exact below_regrown _ _ _
     have BW8 := belowStep BW hwz B8
     clear hw8 q0 q1
     go_wp2
     go_ret
     exact ⟨by rw [HG.out]; rfl, BW8⟩
   ·have l1 : ¬ (k : Int) < N := by omega
    have hqf : q = true := by
     rw [← HQ.out]
     refine decide_eq_true (List.ext_getElem? fun j => ?_)
     by_cases hj : j < k
     ·exact hA.out j hj
     ·have := HN.out
      rw [List.getElem?_eq_none (by omega), List.getElem?_eq_none (by omega)]
    have HG : Hid (q = true) := hqf
    clear hqf
    go_wp2
    go_ret
    exact ⟨by rw [HG.out]; rfl, BW⟩
 ·have hd : decide (xs = ys) = false := by
   refine decide_eq_false fun e => hne ?_
   have := congrArg List.length e
   have := HN.out
   omega
  rw [hd]
  have hb : ((N : Int) == M) = false := by rw [beq_eq_false_iff_ne]; omega
  go_enter Tryz.func77, Tryz.ntmps77
  go_wp2
  go_ret
  exact ⟨rfl, Below.refl _ _⟩
end Go.Proofs.YtoddangedbefgaaGreatDoor
