/- Lemmas: The reference's constant, at this translation: that of the program's table. The first part of the reference's round: the columns. The reference's round, at this translation: the program's. -/
import Derived.Test.YtbmapdkcccdmfaaGreatDoorM1
import Derived.Test.YtbmapdkcccdmfaaGreatDoorM2
import Derived.Test.YtbmapdkcccdmfaaGreatDoorM20
import Derived.Test.YtbmapdkcccdmfaaGreatDoorM3
import Derived.Test.YtbmapdkcccdmfaaGreatDoorM37
import Derived.Test.YtbmapdkcccdmfaaGreatDoorM38
import Derived.Test.YtbmapdkcccdmfaaGreatDoorM4
import Derived.Test.YtbmapdkcccdmfaaGreatDoorRows
namespace Go.Proofs.YtbmapdkcccdmfaaGreatDoor
open Go.RowKit Go.Sort

def crow (n : Nat) : Int := [1, 2, 4, 8, 16, 32, 64, 128, 113, 226, 181, 27, 54, 108, 216, 193, 243, 151, 95, 190, 13, 26, 52, 104, 208, 209, 211, 215, 223, 207, 239, 175, 47, 94, 188, 9, 18, 36, 72, 144, 81, 162, 53, 106, 212, 217, 195, 247, 159, 79, 158, 77, 154, 69, 138, 101, 202, 229, 187, 7, 14, 28, 56, 112, 224, 177, 19, 38, 76, 152, 65, 130, 117, 234, 165, 59, 118, 236, 169, 35, 70, 140, 105, 210, 213, 219, 199, 255, 143, 111, 222, 205, 235, 167, 63, 126, 252, 137, 99, 198, 253, 139, 103, 206, 237, 171, 39, 78, 156, 73, 146, 85, 170, 37, 74, 148, 89, 178, 21, 42, 84, 168, 33, 66, 132, 121, 242, 149, 91, 182, 29, 58, 116, 232, 161, 51, 102, 204, 233, 163, 55, 110, 220, 201, 227, 183, 31, 62, 124, 248, 129, 115, 230, 189, 11, 22, 44, 88, 176, 17, 34, 68, 136, 97, 194, 245, 155, 71, 142].getD n 0
theorem crow_step (n : Nat) (h : n < 168) : crow (n + 1) = if 256 ≤ 2 * crow n then bits .xor .i64 (2 * crow n) 369 else 2 * crow n :=
 (by decide +kernel : ∀ n : Fin 168, crow (n.val + 1) = if 256 ≤ 2 * crow n.val then bits .xor .i64 (2 * crow n.val) 369 else 2 * crow n.val) ⟨n, h⟩
theorem crow_bd (n : Nat) (h : n < 169) : 0 ≤ crow n ∧ crow n < 256 := (by decide +kernel : ∀ n : Fin 169, 0 ≤ crow n.val ∧ crow n.val < 256) ⟨n, h⟩
def co (i : Nat) : Nat → Int
 | 0 => 0
 | j + 1 => if crow (7 * i + j) % 2 = 1 then bits .or .u64 (co i j) ([1, 2, 8, 128, 32768, 2147483648, 9223372036854775808].getD j 0) else co i j
theorem co_is (i : Nat) (h : i < 24) : co i 7 = cn i := (by decide +kernel : ∀ i : Fin 24, co i.val 7 = cn i.val) ⟨i, h⟩

set_option maxRecDepth 20000 in
set_option maxHeartbeats 4000000 in
theorem rconst_any (i : Nat) (hi : i < 24) (w : World) :
  Calls Tryz.prog 76 #[.int .i64 i] w fun e w' => e = .returned (.int .u64 (cn i)) ∧ Below w.heap.size w w' := by
 obtain ⟨p, hp⟩ : ∃ p, 7 * i = p := ⟨_, rfl⟩
 obtain ⟨m, hm⟩ : ∃ m, p + 7 = m := ⟨_, rfl⟩
 have w1 : IntKind.i64.wrap (7 * (i : Int)) = p := by rw [IntKind.wrap_i64]; omega
 have w2 : IntKind.i64.wrap ((p : Int) + 7) = m := by rw [IntKind.wrap_i64]; omega
 have hp2 : p ≤ 161 := by omega
 have HP : Hid (7 * i = p ∧ co i 7 = cn i) := ⟨hp, co_is i hi⟩
 clear hp
 go_enter Tryz.func76, Tryz.ntmps76
 go_wp2
 go_loopg [3, 4, 5] m (fun gk a b c wr => ∃ n : Nat, ∃ r o : Int, n + gk = m ∧ a = .int .i64 r ∧ b = .int .u64 o ∧ c = .int .i64 n ∧ Below w.heap.size w wr ∧ Hid (r = crow n ∧ o = co i (n - p)))
 case atStart => exact ⟨0, 1, 0, by omega, rfl, rfl, rfl, Below.refl _ _, ⟨rfl, by rw [Nat.zero_sub]; rfl⟩⟩
 case round =>
  obtain ⟨n, r, o, hn, rfl, rfl, rfl, BW, hH⟩ := hrel
  by_cases hlt : n < m
  ·have l0 : (n : Int) < m := by omega
   have hr := crow_bd n (by omega)
   rw [← hH.out.1] at hr
   have hst := crow_step n (by omega)
   rw [← hH.out.1] at hst
   obtain ⟨r2, hr2⟩ : ∃ q, 2 * r = q := ⟨_, rfl⟩
   have hw2 : IntKind.i64.wrap r2 = r2 := by rw [IntKind.wrap_i64]; omega
   rw [hr2] at hst
   have wd : IntKind.i64.wrap ((n : Int) - p) = (n : Int) - p := by rw [IntKind.wrap_i64]; omega
   have hrm : r.tmod 2 = r % 2 := Int.tmod_eq_emod_of_nonneg hr.1
   obtain ⟨r3, hr3⟩ : ∃ q, bits .xor .i64 r2 369 = q := ⟨_, rfl⟩
   rw [hr3] at hst
   have HS : Hid (_ = _) := hst
   clear hst
   by_cases hneg : n < p
   ·have ln : ¬ (0 : Int) ≤ (n : Int) - p := by omega
    have hco : co i (n + 1 - p) = o := by rw [hH.out.2, show n + 1 - p = 0 by omega, show n - p = 0 by omega]
    have HO : Hid (_ = _) := hco
    clear hco
    by_cases hbig : 256 ≤ r2
    ·go_wp2
     go_roundg (gk - 1)
     case measure => omega
     case rel => exact ⟨n + 1, _, _, by omega, rfl, rfl, rfl, BW, ⟨by rw [HS.out, if_pos (by omega)], HO.out.symm⟩⟩
    ·go_wp2
     go_roundg (gk - 1)
     case measure => omega
     case rel => exact ⟨n + 1, _, _, by omega, rfl, rfl, rfl, BW, ⟨by rw [HS.out, if_neg (by omega)], HO.out.symm⟩⟩
   ·obtain ⟨j, hj⟩ : ∃ j, n - p = j := ⟨_, rfl⟩
    have hnj : (n : Int) - p = (j : Int) := by omega
    rw [hnj] at wd
    have lj : (0 : Int) ≤ (j : Int) := by omega
    obtain ⟨o2, ho2⟩ : ∃ q, bits .or .u64 o ([1, 2, 8, 128, 32768, 2147483648, 9223372036854775808].getD j 0) = q := ⟨_, rfl⟩
    have hco : co i (n + 1 - p) = if r % 2 = 1 then o2 else o := by
     rw [show n + 1 - p = j + 1 by omega, co, HP.out.1, show p + j = n by omega, ← hH.out.1]
     have e := hH.out.2
     rw [hj] at e
     rw [← e, ho2]
    have HO : Hid (_ = _) := hco
    clear hco
    have hj6 : j = 0 ∨ j = 1 ∨ j = 2 ∨ j = 3 ∨ j = 4 ∨ j = 5 ∨ j = 6 := by omega
    have HJ : Hid (n - p = j) := hj
    clear hj
    by_cases hodd : r % 2 = 1
    ·have HQ : Hid (co i (n + 1 - p) = o2) := by show _ = _; rw [HO.out, if_pos hodd]
     rcases hj6 with rfl | rfl | rfl | rfl | rfl | rfl | rfl
     ·simp only [List.getD_cons_zero] at ho2
      by_cases hbig : 256 ≤ r2
      ·go_wp2
       go_roundg (gk - 1)
       case measure => omega
       case rel => exact ⟨n + 1, _, _, by omega, rfl, rfl, rfl, BW, ⟨by rw [HS.out, if_pos (by omega)], HQ.out.symm⟩⟩
      ·go_wp2
       go_roundg (gk - 1)
       case measure => omega
       case rel => exact ⟨n + 1, _, _, by omega, rfl, rfl, rfl, BW, ⟨by rw [HS.out, if_neg (by omega)], HQ.out.symm⟩⟩
     ·simp only [List.getD_cons_zero, List.getD_cons_succ] at ho2
      by_cases hbig : 256 ≤ r2
      ·go_wp2
       go_roundg (gk - 1)
       case measure => omega
       case rel => exact ⟨n + 1, _, _, by omega, rfl, rfl, rfl, BW, ⟨by rw [HS.out, if_pos (by omega)], HQ.out.symm⟩⟩
      ·go_wp2
       go_roundg (gk - 1)
       case measure => omega
       case rel => exact ⟨n + 1, _, _, by omega, rfl, rfl, rfl, BW, ⟨by rw [HS.out, if_neg (by omega)], HQ.out.symm⟩⟩
     ·simp only [List.getD_cons_zero, List.getD_cons_succ] at ho2
      by_cases hbig : 256 ≤ r2
      ·go_wp2
       go_roundg (gk - 1)
       case measure => omega
       case rel => exact ⟨n + 1, _, _, by omega, rfl, rfl, rfl, BW, ⟨by rw [HS.out, if_pos (by omega)], HQ.out.symm⟩⟩
      ·go_wp2
       go_roundg (gk - 1)
       case measure => omega
       case rel => exact ⟨n + 1, _, _, by omega, rfl, rfl, rfl, BW, ⟨by rw [HS.out, if_neg (by omega)], HQ.out.symm⟩⟩
     ·simp only [List.getD_cons_zero, List.getD_cons_succ] at ho2
      by_cases hbig : 256 ≤ r2
      ·go_wp2
       go_roundg (gk - 1)
       case measure => omega
       case rel => exact ⟨n + 1, _, _, by omega, rfl, rfl, rfl, BW, ⟨by rw [HS.out, if_pos (by omega)], HQ.out.symm⟩⟩
      ·go_wp2
       go_roundg (gk - 1)
       case measure => omega
       case rel => exact ⟨n + 1, _, _, by omega, rfl, rfl, rfl, BW, ⟨by rw [HS.out, if_neg (by omega)], HQ.out.symm⟩⟩
     ·simp only [List.getD_cons_zero, List.getD_cons_succ] at ho2
      by_cases hbig : 256 ≤ r2
      ·go_wp2
       go_roundg (gk - 1)
       case measure => omega
       case rel => exact ⟨n + 1, _, _, by omega, rfl, rfl, rfl, BW, ⟨by rw [HS.out, if_pos (by omega)], HQ.out.symm⟩⟩
      ·go_wp2
       go_roundg (gk - 1)
       case measure => omega
       case rel => exact ⟨n + 1, _, _, by omega, rfl, rfl, rfl, BW, ⟨by rw [HS.out, if_neg (by omega)], HQ.out.symm⟩⟩
     ·simp only [List.getD_cons_zero, List.getD_cons_succ] at ho2
      by_cases hbig : 256 ≤ r2
      ·go_wp2
       go_roundg (gk - 1)
       case measure => omega
       case rel => exact ⟨n + 1, _, _, by omega, rfl, rfl, rfl, BW, ⟨by rw [HS.out, if_pos (by omega)], HQ.out.symm⟩⟩
      ·go_wp2
       go_roundg (gk - 1)
       case measure => omega
       case rel => exact ⟨n + 1, _, _, by omega, rfl, rfl, rfl, BW, ⟨by rw [HS.out, if_neg (by omega)], HQ.out.symm⟩⟩
     ·simp only [List.getD_cons_zero, List.getD_cons_succ] at ho2
      by_cases hbig : 256 ≤ r2
      ·go_wp2
       go_roundg (gk - 1)
       case measure => omega
       case rel => exact ⟨n + 1, _, _, by omega, rfl, rfl, rfl, BW, ⟨by rw [HS.out, if_pos (by omega)], HQ.out.symm⟩⟩
      ·go_wp2
       go_roundg (gk - 1)
       case measure => omega
       case rel => exact ⟨n + 1, _, _, by omega, rfl, rfl, rfl, BW, ⟨by rw [HS.out, if_neg (by omega)], HQ.out.symm⟩⟩
    ·have HQ : Hid (co i (n + 1 - p) = o) := by show _ = _; rw [HO.out, if_neg hodd]
     clear hj6
     by_cases hbig : 256 ≤ r2
     ·go_wp2
      go_roundg (gk - 1)
      case measure => omega
      case rel => exact ⟨n + 1, _, _, by omega, rfl, rfl, rfl, BW, ⟨by rw [HS.out, if_pos (by omega)], HQ.out.symm⟩⟩
     ·go_wp2
      go_roundg (gk - 1)
      case measure => omega
      case rel => exact ⟨n + 1, _, _, by omega, rfl, rfl, rfl, BW, ⟨by rw [HS.out, if_neg (by omega)], HQ.out.symm⟩⟩
  ·have hn2 : n = m := by omega
   subst hn2
   clear hlt
   have ho := hH.out.2
   rw [show n - p = 7 by omega, HP.out.2] at ho
   have HO : Hid (_ = _) := ho
   clear ho
   go_wp2
   go_ret
   exact ⟨by rw [← HO.out]; rfl, BW⟩
end Go.Proofs.YtbmapdkcccdmfaaGreatDoor
namespace Go.Proofs.YtbmapdkcccdmfaaGreatDoor
open Go.RowKit Go.Sort

abbrev La (x : Int) : Prop := 0 ≤ x ∧ x < 18446744073709551616
theorem xr_la (x y : Int) : La (xr x y) := by
 have e : xr x y = IntKind.u64.wrap (((BitVec.ofInt 64 x) ^^^ (BitVec.ofInt 64 y)).toNat : Int) := rfl
 rw [e, IntKind.wrap_u64]
 omega
theorem ofInt_wrap (b : BitVec 64) : BitVec.ofInt 64 (IntKind.u64.wrap (b.toNat : Int)) = b := by
 have h : b.toNat < 18446744073709551616 := b.isLt
 apply BitVec.eq_of_toNat_eq
 rw [BitVec.toNat_ofInt, IntKind.wrap_u64]
 omega
theorem xr_assoc (x y z : Int) : xr (xr x y) z = xr x (xr y z) := by
 have e : ∀ a b : Int, xr a b = IntKind.u64.wrap (((BitVec.ofInt 64 a) ^^^ (BitVec.ofInt 64 b)).toNat : Int) := fun _ _ => rfl
 rw [e, e x y, e x, e y z, ofInt_wrap, ofInt_wrap, BitVec.xor_assoc]
theorem xr_zero (x : Int) (h : La x) : xr 0 x = x := by
 have e : xr 0 x = IntKind.u64.wrap (((BitVec.ofInt 64 0) ^^^ (BitVec.ofInt 64 x)).toNat : Int) := rfl
 obtain ⟨n, rfl⟩ := Int.eq_ofNat_of_zero_le h.1
 have hn : n < 18446744073709551616 := by have := h.2; omega
 rw [e, BitVec.toNat_xor, k_ofInt_nat64 n hn]
 have : (BitVec.ofInt 64 0).toNat = 0 := by decide
 rw [this, Nat.zero_xor, IntKind.wrap_u64]
 omega
def cpart (f : Nat → Int) (x : Nat) : Nat → Int
 | 0 => 0
 | y + 1 => xr (cpart f x y) (f (x + 5 * y))
theorem cpart_is (f : Nat → Int) (x : Nat) (h : La (f x)) : cpart f x 5 = colOf f x := by
 show xr (xr (xr (xr (xr 0 (f (x + 5 * 0))) (f (x + 5 * 1))) (f (x + 5 * 2))) (f (x + 5 * 3))) (f (x + 5 * 4)) = _
 rw [show x + 5 * 0 = x by omega, xr_zero _ h]
 rfl
end Go.Proofs.YtbmapdkcccdmfaaGreatDoor
namespace Go.Proofs.YtbmapdkcccdmfaaGreatDoor
open Go.RowKit Go.Sort

theorem Fw.arr {W : World} {n N : Nat} {g : Nat → Value} (A : Array Value) (t : TypeId) (hn : W.heap.size = n) (h : ∀ j, j < N → A[j]? = some (g j)) : Fw n N g (W.alloc (.cells A t)) := by
 subst hn
 exact ⟨by simp, fun j hj => by simp [go_sem, h j hj], fun o => by simp [go_sem]⟩
theorem fl_arr (N : Nat) (g : Nat → Value) (j : Nat) (hj : j < N) : (fl N g).toArray[j]? = some (g j) := by simpa using fl_at N g j hj
theorem size_rst : (Tryz.prog.info? 100).map (·.size) = some 25 := by kernel_rfl

structure RB (w : World) (z : Nat) (f : Nat → Int) (W : World) : Prop where
 b : Below z w W
 a : Fw z 25 (fun j => .int .u64 (f j)) W
 t : Fw (z + 1) 25 (fun j => .int .i64 (tn j)) W
 r : Fw (z + 2) 25 (fun _ => .int .u64 0) W
theorem RB.below {w : World} {z : Nat} {f : Nat → Int} {W W' : World} (h : RB w z f W) (hb : Below W.heap.size W W') : RB w z f W' :=
 ⟨belowStep h.b (Nat.le_of_lt h.a.z) hb, h.a.below hb, h.t.below hb, h.r.below hb⟩
theorem RB.setCell {w : World} {z : Nat} {f : Nat → Int} {W : World} (h : RB w z f W) (p : Addr) (hp : z + 2 < p.block) (v : Value) : RB w z f (W.setCell p v) :=
 ⟨h.b.setCell (p := p) (by omega) v, h.a.setCell p (by omega) v, h.t.setCell p (by omega) v, h.r.setCell p (by omega) v⟩

def ordp (p : Nat) : Nat := 5 * (p % 5) + p / 5
theorem moved_step (f : Nat → Int) (x y : Nat) (hx : x < 5) (hy : y < 5) : movedOf (colsOf f) (pl (x + 5 * y)) = rot (xr (xr (f (x + 5 * y)) (colOf f ((x + 4) % 5))) (rot (colOf f ((x + 1) % 5)) 1)) (tn (x + 5 * y)) := by
 rw [movedOf, fr_pl _ (by omega), colsOf, byOf, show (x + 5 * y) % 5 = x by omega, xr_assoc]
theorem pl_is (x y : Nat) (hx : x < 5) (hy : y < 5) : y % 5 + 5 * ((2 * x + 3 * y) % 5) = pl (x + 5 * y) :=
 (by decide : ∀ x y : Fin 5, y.val % 5 + 5 * ((2 * x.val + 3 * y.val) % 5) = pl (x.val + 5 * y.val)) ⟨x, hx⟩ ⟨y, hy⟩
theorem ord_step (x y j : Nat) (hy : y < 5) (hj : j < 25) (h : j ≠ pl (x + 5 * y)) : (ordp (fr j) < 5 * x + (y + 1)) ↔ (ordp (fr j) < 5 * x + y) := by
 have h1 := fr_bd j hj
 constructor
 ·intro h2
  refine Nat.lt_of_le_of_ne (by omega) fun e => h ?_
  have : fr j = x + 5 * y := by unfold ordp at e; omega
  rw [← this, pl_fr j hj]
 ·omega
theorem ord_self (x y : Nat) (hx : x < 5) (hy : y < 5) : ordp (fr (pl (x + 5 * y))) < 5 * x + (y + 1) := by
 rw [fr_pl _ (by omega)]
 unfold ordp
 omega
theorem ord_all (j : Nat) (hj : j < 25) : ordp (fr j) < 25 := by
 have h1 := fr_bd j hj
 unfold ordp
 omega

theorem ord2_step (x y j : Nat) (hy : y < 5) (hj : j < 25) (h : j ≠ x + 5 * y) : (ordp j < 5 * x + (y + 1)) ↔ (ordp j < 5 * x + y) := by
 unfold ordp
 omega
theorem ord2_self (x y : Nat) (hx : x < 5) : ordp (x + 5 * y) < 5 * x + (y + 1) := by
 unfold ordp
 omega
theorem ord2_all (j : Nat) (hj : j < 25) : ordp j < 25 := by
 unfold ordp
 omega

set_option maxRecDepth 20000 in
set_option maxHeartbeats 4000000 in
theorem rround_any (f : Nat → Int) (hf : ∀ j, j < 25 → La (f j)) (k : Nat) (hk : k < 24) (w : World) :
  Calls Tryz.prog 48 #[.agg (fl 25 fun j => .int .u64 (f j)).toArray, .int .i64 k, .agg (fl 25 fun j => .int .i64 (tn j)).toArray] w fun e w' =>
   e = .returned (.agg (fl 25 fun j => .int .u64 (roundOf k f j)).toArray) ∧ Below w.heap.size w w' := by
 have HF : Hid (∀ j, j < 25 → La (f j)) := hf
 have km : IntKind.u64.max = 18446744073709551615 := by decide
 have ks : IntKind.u64.signed = false := rfl
 clear hf
 obtain ⟨A, hA⟩ : ∃ A, (fl 25 fun j => .int .u64 (f j)).toArray = A := ⟨_, rfl⟩
 obtain ⟨A2, hA2⟩ : ∃ A, (fl 25 fun j => .int .i64 (tn j)).toArray = A := ⟨_, rfl⟩
 have HA : Hid (∀ j, j < 25 → A[j]? = some (.int .u64 (f j))) := fun j hj => by rw [← hA]; exact fl_arr 25 _ j hj
 have HA2 : Hid (∀ j, j < 25 → A2[j]? = some (.int .i64 (tn j))) := fun j hj => by rw [← hA2]; exact fl_arr 25 _ j hj
 rw [hA, hA2]
 clear hA hA2
 go_enter Tryz.func48, Tryz.ntmps48
 go_wp2
 refine wpOf (fun W => RB w w.heap.size f W ∧ Fw (w.heap.size + 3) 5 (fun _ => .int .u64 0) W) ⟨⟨((((Below.refl _ w).alloc (Nat.le_refl _) _).alloc (by simp) _).alloc (by simp; omega) _).alloc (by simp; omega) _, ((Fw.arr _ _ rfl HA.out).alloc _).alloc _ |>.alloc _, ((Fw.arr _ _ (by simp) HA2.out).alloc _).alloc _, Fw.alloc (Fw.lit _ _ (by simp) rfl) _⟩, Fw.lit _ _ (by simp) rfl⟩ ?_
 rintro V ⟨RV, CV⟩
 obtain ⟨z, hz⟩ : ∃ c, w.heap.size = c := ⟨_, rfl⟩
 have HZ : Hid (w.heap.size = z) := hz
 rw [hz] at RV CV ⊢
 clear hz HA HA2
 rw [show z + 1 + 1 + 1 = z + 3 by omega, show z + 1 + 1 = z + 2 by omega]
 obtain ⟨c, hc⟩ : ∃ c, z + 3 = c := ⟨_, rfl⟩
 rw [hc] at CV ⊢
 go_loopg [8] 5 (fun gk i wr => ∃ x : Nat, ∃ h : Nat → Int, x + gk = 5 ∧ i = .int .i64 x ∧ RB w z f wr ∧ Fw c 5 (fun j => .int .u64 (h j)) wr ∧ Hid (∀ j, j < 5 → h j = if j < x then colOf f j else 0))
 case atStart => exact ⟨0, fun _ => 0, rfl, rfl, RV, CV, fun j _ => by rw [if_neg (by omega)]⟩
 case round =>
  clear RV CV
  obtain ⟨x, h, hx, rfl, RW, CW, hH⟩ := hrel
  by_cases hlt : x < 5
  ·have l0 : (x : Int) < 5 := by omega
   go_wp2
   go_loopg [9] 5 (fun gk i wr => ∃ y : Nat, ∃ h : Nat → Int, y + gk = 5 ∧ i = .int .i64 y ∧ RB w z f wr ∧ Fw c 5 (fun j => .int .u64 (h j)) wr ∧ Hid (∀ j, j < 5 → h j = if j < x then colOf f j else if j = x then cpart f x y else 0))
   case atStart => exact ⟨0, h, rfl, rfl, RW, CW, fun j hj => by rw [hH.out j hj]; by_cases q : j < x <;> simp [q, cpart]⟩
   case round =>
    clear RW CW hH
    obtain ⟨y, h, hy, rfl, RW, CW, hH⟩ := hrel
    by_cases hly : y < 5
    ·have l1 : (y : Int) < 5 := by omega
     have KA : Hid (∀ w : World, _) := fun w : World => rat_any x y (by omega) (by omega) w
     obtain ⟨p, hp, hp2⟩ : ∃ p, x % 5 + 5 * (y % 5) = p ∧ p < 25 := ⟨_, rfl, by omega⟩
     rw [hp] at KA
     have lp : (p : Int) < 25 := by omega
     have hpx : x + 5 * y = p := by omega
     have m0 := CW.c x hlt
     have m1 := RW.a.c p hp2
     obtain ⟨v0, hv0⟩ : ∃ v, h x = v := ⟨_, rfl⟩
     obtain ⟨v1, hv1⟩ : ∃ v, f p = v := ⟨_, rfl⟩
     rw [hv0] at m0
     rw [hv1] at m1
     have HV : Hid (cpart f x (y + 1) = bits .xor .u64 v0 v1) := by
      show xr (cpart f x y) (f (x + 5 * y)) = _
      have := hH.out x hlt
      rw [if_neg (by omega), if_pos rfl] at this
      rw [← this, hv0, hpx, hv1]
     clear hp hpx hv0 hv1
     go_wp2
     have k0 := cell_regrown m0
     have k1 := cell_regrown m1
     have cA := inClass (w := wr) KA.out
     refine region_tail 10 (by kernel_rfl) (by kernel_rfl) ?_
     simp only [List.take_succ_cons, List.take_zero, List.drop_succ_cons, List.drop_zero]
     iterate 6 (quiet_step (fail))
     quiet_step (exact cA _ _)
     iterate 3 (quiet_step (fail))
     refine wpQuiet_nil ?_
     intro w8 hw8
     have hb8 : Below wr.heap.size wr w8 := by
      obtain ⟨p, rfl⟩ := hw8
      exact below_regrown _ _ _
     have R8 := RW.below hb8
     have C8 := CW.below hb8
     clear hw8 hb8 k0 k1 cA KA RW CW m0 m1
     have n0 := C8.c x hlt
     have sf := C8.f
     have sz := C8.z
     go_wp2
     go_roundg (gk - 1)
     case measure => omega
     case rel =>
      refine ⟨y + 1, fun j => if j = x then bits .xor .u64 v0 v1 else h j, by omega, rfl, R8.setCell ⟨c, x, none⟩ (by dsimp only; omega) _, C8.put x hlt _ (fun j _ => by by_cases e : j = x <;> simp [e]), ?_⟩
      intro j hj
      have hJ := hH.out j hj
      show (if j = x then bits .xor .u64 v0 v1 else h j) = _
      by_cases e : j = x
      ·rw [if_pos e, if_neg (by omega), if_pos e, HV.out]
      ·rw [if_neg e, hJ, if_neg e, if_neg e]
    ·have hy2 : y = 5 := by omega
     subst hy2
     clear hly
     go_wp2
     go_roundg (4 - x)
     case measure => omega
     case rel =>
      refine ⟨x + 1, h, by omega, rfl, RW, CW, fun j hj => ?_⟩
      rw [hH.out j hj]
      by_cases q : j < x
      ·rw [if_pos q, if_pos (by omega)]
      ·rw [if_neg q]
       by_cases e : j = x
       ·rw [if_pos e, if_pos (by omega), e, cpart_is f x (HF.out x (by omega))]
       ·rw [if_neg e, if_neg (by omega)]
  ·have hx2 : x = 5 := by omega
   subst hx2
   clear hlt
   have C5 : Fw c 5 (fun j => .int .u64 (colOf f j)) wr := CW.ext fun j hj => by show Value.int .u64 _ = .int .u64 _; rw [hH.out j hj, if_pos hj]
   clear CW hH hx h
   go_wp2
   refine wpOf (fun W => RB w z f W ∧ Fw c 5 (fun j => .int .u64 (colOf f j)) W ∧ Fw wr.heap.size 25 (fun _ => .int .u64 0) W) ⟨RW.below ((Below.refl _ wr).alloc (Nat.le_refl _) _), C5.alloc _, Fw.lit _ _ rfl rfl⟩ ?_
   rintro V2 ⟨RV, CV, DV⟩
   have hdc := C5.z
   obtain ⟨d, hd⟩ : ∃ d, wr.heap.size = d := ⟨_, rfl⟩
   rw [hd] at hdc DV ⊢
   clear hd C5 RW
   go_loopg [11] 5 (fun gk i wr => ∃ x : Nat, ∃ g : Nat → Int, x + gk = 5 ∧ i = .int .i64 x ∧ RB w z f wr ∧ Fw c 5 (fun j => .int .u64 (colOf f j)) wr ∧ Fw d 25 (fun j => .int .u64 (g j)) wr ∧ Hid (∀ j, j < 25 → g j = if ordp (fr j) < 5 * x then movedOf (colsOf f) j else 0))
   case atStart => exact ⟨0, fun _ => 0, rfl, rfl, RV, CV, DV, fun j _ => by rw [if_neg (by omega)]⟩
   case round =>
    clear RV CV DV
    obtain ⟨x, g, hx, rfl, RW, CW, DW, hH⟩ := hrel
    by_cases hlt : x < 5
    ·have l0 : (x : Int) < 5 := by omega
     go_wp2
     go_loopg [12] 5 (fun gk i wr => ∃ y : Nat, ∃ g : Nat → Int, y + gk = 5 ∧ i = .int .i64 y ∧ RB w z f wr ∧ Fw c 5 (fun j => .int .u64 (colOf f j)) wr ∧ Fw d 25 (fun j => .int .u64 (g j)) wr ∧ Hid (∀ j, j < 25 → g j = if ordp (fr j) < 5 * x + y then movedOf (colsOf f) j else 0))
     case atStart => exact ⟨0, g, rfl, rfl, RW, CW, DW, hH⟩
     case round =>
      clear RW CW DW hH g
      obtain ⟨y, g, hy, rfl, RW, CW, DW, hH⟩ := hrel
      by_cases hly : y < 5
      ·have l1 : (y : Int) < 5 := by omega
       have KA : Hid (∀ w : World, _) := fun w : World => rat_any x y (by omega) (by omega) w
       have KB : Hid (∀ w : World, Calls Tryz.prog 74 #[.int .i64 y, .int .i64 (2 * (x : Int) + 3 * (y : Int))] w fun e w' => e = .returned (.int .i64 ((y % 5 + 5 * ((2 * x + 3 * y) % 5) : Nat) : Int)) ∧ Below w.heap.size w w') := fun w : World => by
        have e : 2 * (x : Int) + 3 * (y : Int) = ((2 * x + 3 * y : Nat) : Int) := by omega
        rw [e]
        exact rat_any y (2 * x + 3 * y) (by omega) (by omega) w
       have HV := moved_step f x y hlt hly
       have HO := ord_self x y hlt hly
       have HS : ∀ j, j < 25 → j ≠ pl (x + 5 * y) → ((ordp (fr j) < 5 * x + (y + 1)) ↔ (ordp (fr j) < 5 * x + y)) := fun j hj hne => ord_step x y j hly hj hne
       rw [pl_is x y hlt hly] at KB
       have hpl := pl_bd (x + 5 * y) (by omega)
       have htn := tn_bd (x + 5 * y) (by omega)
       obtain ⟨p, hp, hp2⟩ : ∃ p, x + 5 * y = p ∧ p < 25 := ⟨_, rfl, by omega⟩
       rw [show x % 5 + 5 * (y % 5) = p by omega] at KA
       rw [hp] at KB HV HO HS hpl htn
       obtain ⟨q, hq⟩ : ∃ q, pl p = q := ⟨_, rfl⟩
       obtain ⟨u, hu⟩ : ∃ q, tn p = q := ⟨_, rfl⟩
       obtain ⟨x4, hx4⟩ : ∃ q : Nat, x + 4 = q := ⟨_, rfl⟩
       obtain ⟨x1, hx1⟩ : ∃ q : Nat, x + 1 = q := ⟨_, rfl⟩
       obtain ⟨r4, hr4⟩ : ∃ q : Nat, x4 % 5 = q := ⟨_, rfl⟩
       obtain ⟨r1, hr1⟩ : ∃ q : Nat, x1 % 5 = q := ⟨_, rfl⟩
       rw [hx4, hx1, hr4, hr1] at HV
       rw [hq] at KB HV HO HS hpl
       rw [hu] at HV htn
       have w2 : IntKind.i64.wrap ((x : Int) + 4) = x4 := by rw [IntKind.wrap_i64]; omega
       have w3 : IntKind.i64.wrap ((x : Int) + 1) = x1 := by rw [IntKind.wrap_i64]; omega
       have w4 : (x4 : Int).tmod 5 = r4 := by rw [Int.tmod_eq_emod_of_nonneg (by omega)]; omega
       have w5 : (x1 : Int).tmod 5 = r1 := by rw [Int.tmod_eq_emod_of_nonneg (by omega)]; omega
       have w4' : IntKind.i64.wrap (r4 : Int) = r4 := by rw [IntKind.wrap_i64]; omega
       have w5' : IntKind.i64.wrap (r1 : Int) = r1 := by rw [IntKind.wrap_i64]; omega
       have l2 : (r4 : Int) < 5 := by omega
       have l3 : (r1 : Int) < 5 := by omega
       have l4 : (p : Int) < 25 := by omega
       have l5 : (q : Int) < 25 := by omega
       have m0 := RW.a.c p hp2
       have m4 := CW.c r4 (by omega)
       have m1 := CW.c r1 (by omega)
       have HC1 : La (colOf f r1) := xr_la _ _
       obtain ⟨v0, hv0⟩ : ∃ v, f p = v := ⟨_, rfl⟩
       obtain ⟨c4, hc4⟩ : ∃ q, colOf f r4 = q := ⟨_, rfl⟩
       obtain ⟨c1, hc1⟩ : ∃ q, colOf f r1 = q := ⟨_, rfl⟩
       obtain ⟨c2, hc2⟩ : ∃ q, rot c1 1 = q := ⟨_, rfl⟩
       rw [hv0] at m0
       rw [hc4] at m4
       rw [hc1] at m1 HC1
       rw [hv0, hc4, hc1, hc2] at HV
       have KL : Hid (∀ w : World, Calls Tryz.prog 75 #[.int .u64 c1, .int .i64 1] w fun e w' => e = .returned (.int .u64 (rot c1 1)) ∧ Below w.heap.size w w') := fun w => rleft_any c1 HC1 1 (by omega) w
       rw [hc2] at KL
       have HVL : La (xr (xr v0 c4) c2) := xr_la _ _
       obtain ⟨v, hv⟩ : ∃ v, bits .xor .u64 (bits .xor .u64 v0 c4) c2 = v := ⟨_, rfl⟩
       have HV2 : Hid (movedOf (colsOf f) q = rot v u) := by rw [← hv]; exact HV
       have HVL2 : La v := by rw [← hv]; exact HVL
       have KM : Hid (∀ w : World, Calls Tryz.prog 75 #[.int .u64 v, .int .i64 u] w fun e w' => e = .returned (.int .u64 (rot v u)) ∧ Below w.heap.size w w') := fun w => rleft_any v HVL2 u htn w
       obtain ⟨rv, hrv⟩ : ∃ q, rot v u = q := ⟨_, rfl⟩
       rw [hrv] at KM HV2
       have HS2 : Hid (∀ j, j < 25 → j ≠ q → ((ordp (fr j) < 5 * x + (y + 1)) ↔ (ordp (fr j) < 5 * x + y))) := HS
       have HO2 : Hid (ordp (fr q) < 5 * x + (y + 1)) := HO
       have HU : Hid (tn p = u) := hu
       have HW : Hid (bits .xor .u64 (bits .xor .u64 v0 c4) c2 = v) := hv
       clear hv HV HVL HVL2 hc1 hc2 hc4 hv0 HC1 HS HO hu hrv hq hr4 hr1 hx4 hx1 htn hp
       go_wp2
       have k0 := cell_regrown m0
       have k4 := cell_regrown m4
       have k1 := cell_regrown m1
       have cA := inClass (w := wr) KA.out
       have cL := inClass (w := wr) KL.out
       refine wp_region_quiet_below (by kernel_rfl) (by kernel_rfl) ?_
       iterate 2 (quiet_step (fail))
       quiet_step (exact cA _ _)
       iterate 13 (quiet_step (fail))
       quiet_step (exact cL _ _)
       iterate 2 (quiet_step (fail))
       refine wpQuiet_nil ?_
       intro w8 hw8
       have hb8 : Below wr.heap.size wr w8 := by
        obtain ⟨p, rfl⟩ := hw8
        exact below_regrown _ _ _
       have R8 := RW.below hb8
       have C8 := CW.below hb8
       have D8 := DW.below hb8
       clear hw8 hb8 k0 k4 k1 cA cL KL RW CW DW m0 m4 m1
       rw [HW.out]
       go_wp2_with fail
       refine (KB.out _).mono ?_
       rintro e w2 ⟨rfl, B2⟩
       have E2 := R8.below B2
       have C2 := C8.below B2
       have D2 := D8.below B2
       clear KB B2 R8 C8 D8
       go_wp2_with fail
       refine (KA.out _).mono ?_
       rintro e w3 ⟨rfl, B3⟩
       have E3 := E2.below B3
       have C3 := C2.below B3
       have D3 := D2.below B3
       clear KA B3 E2 C2 D2
       have nt := E3.t.c p hp2
       rw [HU.out] at nt
       go_wp2_with fail
       refine (KM.out _).mono ?_
       rintro e w4 ⟨rfl, B4⟩
       have E4 := E3.below B4
       have C4 := C3.below B4
       have D4 := D3.below B4
       clear KM B4 E3 C3 D3 nt
       have n0 := D4.c q hpl
       have sf := D4.f
       have sz := D4.z
       go_wp2
       go_roundg (gk - 1)
       case measure => omega
       case rel =>
        refine ⟨y + 1, fun j => if j = q then rv else g j, by omega, rfl, E4.setCell ⟨d, q, none⟩ (by dsimp only; omega) _, C4.setCell ⟨d, q, none⟩ (by dsimp only; omega) _, D4.put q hpl _ (fun j _ => by by_cases e : j = q <;> simp [e]), ?_⟩
        intro j hj
        show (if j = q then rv else g j) = _
        by_cases e : j = q
        ·rw [if_pos e, e, if_pos HO2.out, HV2.out]
        ·rw [if_neg e, hH.out j hj]
         by_cases e2 : ordp (fr j) < 5 * x + y
         ·rw [if_pos e2, if_pos ((HS2.out j hj e).2 e2)]
         ·rw [if_neg e2, if_neg fun e3 => e2 ((HS2.out j hj e).1 e3)]
      ·have hy2 : y = 5 := by omega
       subst hy2
       clear hly
       go_wp2
       go_roundg (4 - x)
       case measure => omega
       case rel => exact ⟨x + 1, g, by omega, rfl, RW, CW, DW, fun j hj => by rw [hH.out j hj, show 5 * (x + 1) = 5 * x + 5 by omega]⟩
    ·have hx2 : x = 5 := by omega
     subst hx2
     clear hlt
     have D5 : Fw d 25 (fun j => .int .u64 (movedOf (colsOf f) j)) wr := DW.ext fun j hj => by show Value.int .u64 _ = .int .u64 _; rw [hH.out j hj, if_pos (ord_all j hj)]
     clear DW hH hx g CW
     have KC : Hid (∀ w : World, _) := fun w : World => rconst_any k hk w
     have HR : Hid ((fl 25 fun j => .int .u64 (roundOf k f j)) = fl 25 fun j => .int .u64 (if j = 0 then xr (rowsOf (movedOf (colsOf f)) 0) (cn k) else rowsOf (movedOf (colsOf f)) j)) := rfl
     obtain ⟨G, hG⟩ : ∃ G, movedOf (colsOf f) = G := ⟨_, rfl⟩
     rw [hG] at D5 HR
     clear hG
     go_wp2
     refine wpOf (fun W => RB w z f W ∧ Fw d 25 (fun j => .int .u64 (G j)) W ∧ Fw wr.heap.size 25 (fun _ => .int .u64 0) W) ⟨RW.below ((Below.refl _ wr).alloc (Nat.le_refl _) _), D5.alloc _, Fw.lit _ _ rfl rfl⟩ ?_
     rintro V3 ⟨RV, DV, OV⟩
     have hod := D5.z
     obtain ⟨o, ho⟩ : ∃ d, wr.heap.size = d := ⟨_, rfl⟩
     rw [ho] at hod OV ⊢
     clear ho D5 RW
     go_loopg [15] 5 (fun gk i wr => ∃ x : Nat, ∃ h : Nat → Int, x + gk = 5 ∧ i = .int .i64 x ∧ RB w z f wr ∧ Fw d 25 (fun j => .int .u64 (G j)) wr ∧ Fw o 25 (fun j => .int .u64 (h j)) wr ∧ Hid (∀ j, j < 25 → h j = if ordp j < 5 * x then rowsOf G j else 0))
     case atStart => exact ⟨0, fun _ => 0, rfl, rfl, RV, DV, OV, fun j _ => by rw [if_neg (by omega)]⟩
     case round =>
      clear RV DV OV
      obtain ⟨x, h, hx, rfl, RW, DW, OW, hH⟩ := hrel
      by_cases hlt : x < 5
      ·have l0 : (x : Int) < 5 := by omega
       go_wp2
       go_loopg [16] 5 (fun gk i wr => ∃ y : Nat, ∃ h : Nat → Int, y + gk = 5 ∧ i = .int .i64 y ∧ RB w z f wr ∧ Fw d 25 (fun j => .int .u64 (G j)) wr ∧ Fw o 25 (fun j => .int .u64 (h j)) wr ∧ Hid (∀ j, j < 25 → h j = if ordp j < 5 * x + y then rowsOf G j else 0))
       case atStart => exact ⟨0, h, rfl, rfl, RW, DW, OW, hH⟩
       case round =>
        clear RW DW OW hH h
        obtain ⟨y, h, hy, rfl, RW, DW, OW, hH⟩ := hrel
        by_cases hly : y < 5
        ·have l1 : (y : Int) < 5 := by omega
         obtain ⟨x1, hx1⟩ : ∃ q : Nat, x + 1 = q := ⟨_, rfl⟩
         obtain ⟨x2, hx2⟩ : ∃ q : Nat, x + 2 = q := ⟨_, rfl⟩
         have w1 : IntKind.i64.wrap ((x : Int) + 1) = x1 := by rw [IntKind.wrap_i64]; omega
         have w2 : IntKind.i64.wrap ((x : Int) + 2) = x2 := by rw [IntKind.wrap_i64]; omega
         have KA : Hid (∀ w : World, _) := fun w : World => rat_any x y (by omega) (by omega) w
         have KB : Hid (∀ w : World, _) := fun w : World => rat_any x1 y (by omega) (by omega) w
         have KD : Hid (∀ w : World, _) := fun w : World => rat_any x2 y (by omega) (by omega) w
         have HV := rows_at G y x hlt
         rw [hx1, hx2] at HV
         obtain ⟨p, hp, hp2⟩ : ∃ p, x + 5 * y = p ∧ p < 25 := ⟨_, rfl, by omega⟩
         obtain ⟨p1, hp1, hp12⟩ : ∃ p, x1 % 5 + 5 * y = p ∧ p < 25 := ⟨_, rfl, by omega⟩
         obtain ⟨p3, hp3, hp32⟩ : ∃ p, x2 % 5 + 5 * y = p ∧ p < 25 := ⟨_, rfl, by omega⟩
         rw [show x % 5 + 5 * (y % 5) = p by omega] at KA
         rw [show x1 % 5 + 5 * (y % 5) = p1 by omega] at KB
         rw [show x2 % 5 + 5 * (y % 5) = p3 by omega] at KD
         rw [show 5 * y + x = p by omega, show 5 * y + x1 % 5 = p1 by omega, show 5 * y + x2 % 5 = p3 by omega] at HV
         have HO2 : Hid (ordp p < 5 * x + (y + 1)) := by rw [← hp]; exact ord2_self x y hlt
         have HS2 : Hid (∀ j, j < 25 → j ≠ p → ((ordp j < 5 * x + (y + 1)) ↔ (ordp j < 5 * x + y))) := by rw [← hp]; exact fun j hj hne => ord2_step x y j hly hj hne
         have l2 : (p : Int) < 25 := by omega
         have l3 : (p1 : Int) < 25 := by omega
         have l4 : (p3 : Int) < 25 := by omega
         have m0 := DW.c p hp2
         have m1 := DW.c p1 hp12
         have m2 := DW.c p3 hp32
         obtain ⟨v0, hv0⟩ : ∃ v, G p = v := ⟨_, rfl⟩
         obtain ⟨v1, hv1⟩ : ∃ v, G p1 = v := ⟨_, rfl⟩
         obtain ⟨v2, hv2⟩ : ∃ v, G p3 = v := ⟨_, rfl⟩
         rw [hv0] at m0
         rw [hv1] at m1
         rw [hv2] at m2
         rw [hv0, hv1, hv2] at HV
         have HV2 : Hid (rowsOf G p = xr v0 (an (nt v1) v2)) := HV
         clear HV hv0 hv1 hv2 hp hp1 hp3 hx1 hx2
         go_wp2
         have k0 := cell_regrown m0
         have k1 := cell_regrown m1
         have k2 := cell_regrown m2
         have cA := inClass (w := wr) KA.out
         have cB := inClass (w := wr) KB.out
         have cD := inClass (w := wr) KD.out
         refine region_tail 23 (by kernel_rfl) (by kernel_rfl) ?_
         simp only [List.take_succ_cons, List.take_zero, List.drop_succ_cons, List.drop_zero]
         iterate 2 (quiet_step (fail))
         quiet_step (exact cA _ _)
         iterate 2 (quiet_step (fail))
         quiet_step (exact cA _ _)
         iterate 5 (quiet_step (fail))
         quiet_step (exact cB _ _)
         iterate 6 (quiet_step (fail))
         quiet_step (exact cD _ _)
         iterate 4 (quiet_step (fail))
         refine wpQuiet_nil ?_
         intro w8 hw8
         have hb8 : Below wr.heap.size wr w8 := by
          obtain ⟨p, rfl⟩ := hw8
          exact below_regrown _ _ _
         have E8 := RW.below hb8
         have D8 := DW.below hb8
         have O8 := OW.below hb8
         clear hw8 hb8 k0 k1 k2 cA cB cD KA KB KD RW DW OW m0 m1 m2
         have n0 := O8.c p hp2
         have sf := O8.f
         have sz := O8.z
         go_wp2
         go_roundg (gk - 1)
         case measure => omega
         case rel =>
          refine ⟨y + 1, fun j => if j = p then xr v0 (an (nt v1) v2) else h j, by omega, rfl, E8.setCell ⟨o, p, none⟩ (by dsimp only; omega) _, D8.setCell ⟨o, p, none⟩ (by dsimp only; omega) _, O8.put p hp2 _ (fun j _ => by by_cases e : j = p <;> simp [e]), ?_⟩
          intro j hj
          show (if j = p then xr v0 (an (nt v1) v2) else h j) = _
          by_cases e : j = p
          ·rw [if_pos e, e, if_pos HO2.out, HV2.out]
          ·rw [if_neg e, hH.out j hj]
           by_cases e2 : ordp j < 5 * x + y
           ·rw [if_pos e2, if_pos ((HS2.out j hj e).2 e2)]
           ·rw [if_neg e2, if_neg fun e3 => e2 ((HS2.out j hj e).1 e3)]
        ·have hy2 : y = 5 := by omega
         subst hy2
         clear hly
         go_wp2
         go_roundg (4 - x)
         case measure => omega
         case rel => exact ⟨x + 1, h, by omega, rfl, RW, DW, OW, fun j hj => by rw [hH.out j hj, show 5 * (x + 1) = 5 * x + 5 by omega]⟩
      ·have hx2 : x = 5 := by omega
       subst hx2
       clear hlt
       have O5 : Fw o 25 (fun j => .int .u64 (rowsOf G j)) wr := OW.ext fun j hj => by show Value.int .u64 _ = .int .u64 _; rw [hH.out j hj, if_pos (ord2_all j hj)]
       clear DW hH hx h OW
       have m0 := O5.c 0 (by omega)
       obtain ⟨v0, hv0⟩ : ∃ v, rowsOf G 0 = v := ⟨_, rfl⟩
       rw [hv0] at m0 HR
       go_wp2
       have k0 := cell_regrown m0
       have cC := inClass (w := wr) KC.out
       refine region_tail 5 (by kernel_rfl) (by kernel_rfl) ?_
       simp only [List.take_succ_cons, List.take_zero, List.drop_succ_cons, List.drop_zero]
       iterate 3 (quiet_step (fail))
       quiet_step (exact cC _ _)
       quiet_step (fail)
       refine wpQuiet_nil ?_
       intro w8 hw8
       have hb8 : Below wr.heap.size wr w8 := by
        obtain ⟨p, rfl⟩ := hw8
        exact below_regrown _ _ _
       have E8 := RW.below hb8
       have O8 := O5.below hb8
       clear hw8 hb8 k0 cC KC RW O5 m0
       obtain ⟨v, hv⟩ : ∃ v, bits .xor .u64 v0 (cn k) = v := ⟨_, rfl⟩
       have hv2 : xr v0 (cn k) = v := hv
       rw [hv2] at HR
       rw [hv]
       clear hv hv2 hv0
       have n0 := O8.c 0 (by omega)
       have sf := O8.f
       have sz := O8.z
       have E9 := E8.setCell ⟨o, 0, none⟩ (by dsimp only; omega) (.int .u64 v)
       have O9 : Fw o 25 (fun j => .int .u64 (if j = 0 then v else rowsOf G j)) (w8.setCell ⟨o, 0, none⟩ (.int .u64 v)) := O8.put 0 (by omega) _ (fun j _ => by by_cases e : j = 0 <;> simp [e])
       have hst := E9.r.run (P := Tryz.prog) (fun j => .int .u64 (if j = 0 then v else rowsOf G j)) (fun _ => rfl)
       have hr := O9.range
       have hr2 := (E9.r.store (fun j => .int .u64 (if j = 0 then v else rowsOf G j))).range
       have HB : Hid (Below z w (w8.setCell ⟨o, 0, none⟩ (.int .u64 v))) := E9.b
       obtain ⟨l, hl⟩ : ∃ l, (fl 25 fun j => .int .u64 (if j = 0 then v else rowsOf G j)) = l := ⟨_, rfl⟩
       have hlen : l.length = 25 := by rw [← hl]; exact fl_len _ _
       rw [hl] at HR hst hr hr2
       clear hl E8 O8 E9 O9
       go_wp2_with (refine wpList_load_mid rfl 100 _ rfl o 0 rfl l _ hr Tryz.underlying100 rfl (by rw [hlen]; exact size_rst) ?_)
       refine bodyPost_ret (v := .agg l.toArray) (results_mid Tryz.results48 _ _ (z + 2) l _ rfl hr2 Tryz.underlying100 rfl (by rw [hlen]; exact size_rst)) rfl ⟨by rw [HR.out], ?_⟩
       rw [HZ.out]
       exact below_setCells' (by omega) _ _ _ HB.out
end Go.Proofs.YtbmapdkcccdmfaaGreatDoor
