/- Lemmas: What textOf and lengthOf do at this translation. The reference's turn and spread, at this translation. -/
import Derived.Test.YtoddangedbefgabGreatDoorM16
set_option maxRecDepth 20000
set_option maxHeartbeats 4000000
namespace Go.Proofs.YtoddangedbefgabGreatDoor
open Go.RowKit Go.Sort
def Ei.at (v : Ei) (j : Nat) : Int := [v.a, v.b, v.c, v.d, v.e, v.f, v.g, v.h].getD j 0
def jbk (n : Nat) (f : Nat → Int) : List UInt8 := (List.range n).map fun j => UInt8.ofNat (f j).toNat
theorem jbf (n : Nat) (f : Nat → Int) : (jbk n f).length = n := by simp [jbk]
theorem jdr (n : Nat) (f : Nat → Int) (hf : ∀ j, 0 ≤ f j ∧ f j < 256) (j : Nat) (hj : j < (jbk n f).length) : ((jbk n f)[j].toNat : Int) = f j := by
 have h := hf j
 simp only [jbk, List.getElem_map, List.getElem_range, UInt8.toNat_ofNat']
 omega
theorem Fw.text {N n : Nat} {f : Nat → Int} (hf : ∀ j, 0 ≤ f j ∧ f j < 256) {W : World} (k : Fw n N (fun j => .int .u8 (f j)) W) : (convert 116 9 (.slice (some ⟨n, 0, none⟩) N N)).run Tryz.prog W = .ok (.string ⟨(jbk N f).toArray⟩) W := by
 have := run_convert_bytes_back (P := Tryz.prog) W 116 9 5 ⟨n, 0, none⟩ N (jbk N f) Tryz.underlying116 Tryz.underlying5 Tryz.underlying9 (fun j hj => by
  rw [Addr.add_mid, Nat.zero_add, jdr N f hf]
  exact k.c j (by rw [jbf] at hj; exact hj))
 rwa [jbf] at this
def sbAt (v : Ei) (i : Nat) : Int := v.at (i / 4) / 2 ^ (24 - i % 4 * 8) % 256
def lbAt (n : Nat) (i : Nat) : Int := ((n : Int) * 8 % 18446744073709551616) / 2 ^ (56 - i * 8) % 256
def textOf (v : Ei) : ByteArray := ⟨(jbk 32 (sbAt v)).toArray⟩
def lenOf (n : Nat) : ByteArray := ⟨(jbk 8 (lbAt n)).toArray⟩
theorem sb_bd (v : Ei) (i : Nat) : 0 ≤ sbAt v i ∧ sbAt v i < 256 := by unfold sbAt; omega
theorem lb_bd (n i : Nat) : 0 ≤ lbAt n i ∧ lbAt n i < 256 := by unfold lbAt; omega
theorem lengthOf_any (n : Nat) (hn : n < 9223372036854775808) (w : World) :
  Calls Tryz.prog 150 #[.int .i64 n] w fun e w' => e = .returned (.string (lenOf n)) ∧ Below w.heap.size w w' := by
 go_enter Tryz.func150, Tryz.ntmps150
 go_wp2
 obtain ⟨y, hy⟩ : ∃ y, (n : Int) * 8 % 18446744073709551616 = y := ⟨_, rfl⟩
 have hwy : IntKind.u64.wrap ((n : Int) * 8) = y := by rw [IntKind.wrap_u64]; exact hy
 have HY : Hid (_ = _) := hy
 rw [hwy]
 clear hy hwy
 go_loopg [9] 8 (fun gk i wr => ∃ k : Nat, ∃ h : Nat → Int, k + gk = 8 ∧ i = .int .i64 k ∧ Below w.heap.size w wr ∧ Fw w.heap.size 8 (fun j => .int .u8 (h j)) wr ∧ Hid (∀ j, j < 8 → h j = if j < k then lbAt n j else 0))
 case atStart => exact ⟨0, fun _ => 0, rfl, rfl, by go_grown, Fw.lit _ _ rfl rfl, fun j _ => by rw [if_neg (by omega)]⟩
 case round =>
  obtain ⟨k, h, hk, rfl, EW, CU, hH⟩ := hrel
  have zu := CU.z
  have uf := CU.f
  by_cases hlt : k < 8
  ·obtain ⟨e, he⟩ : ∃ s : Nat, 56 - k * 8 = s := ⟨_, rfl⟩
   have e64 : (e : Int) ≤ 64 := by omega
   have e0 : (0 : Int) ≤ e := by omega
   have emin : min e 64 = e := by omega
   obtain ⟨r8, hr8⟩ : ∃ s : Nat, k * 8 = s := ⟨_, rfl⟩
   have hm : IntKind.i64.wrap ((k : Int) * 8) = r8 := by rw [IntKind.wrap_i64]; omega
   have hm2 : IntKind.i64.wrap (56 - (r8 : Int)) = e := by rw [IntKind.wrap_i64]; omega
   have l0 : (k : Int) < 8 := by omega
   have n0 := CU.c k hlt
   obtain ⟨t, ht⟩ : ∃ t, y / 2 ^ e % 256 = t := ⟨_, rfl⟩
   have hu : IntKind.u8.wrap (y / 2 ^ e) = t := by rw [IntKind.wrap_u8]; exact ht
   have HB : Hid (lbAt n k = t) := by
    show _ = _
    rw [lbAt, he, HY.out, ht]
   clear ht he hr8
   go_wp2
   go_roundg (gk - 1)
   case measure => omega
   case rel =>
    refine ⟨k + 1, fun j => if j = k then t else h j, by omega, rfl, by go_grown, CU.put k hlt (.int .u8 t) (fun j _ => by by_cases e : j = k <;> simp [e]), ?_⟩
    intro j hj
    have hJ := hH.out j hj
    show (if j = k then t else h j) = _
    by_cases e : j = k
    ·rw [if_pos e, e, if_pos (by omega), HB.out]
    rw [if_neg e, hJ]
    by_cases h1 : j < k
    ·rw [if_pos h1, if_pos (by omega)]
    ·rw [if_neg h1, if_neg (by omega)]
  ·have hk2 : k = 8 := by omega
   subst hk2
   clear hlt
   have hcv := Fw.text (lb_bd n) (CU.ext (h := fun j => .int .u8 (lbAt n j)) (fun j hj => by show Value.int .u8 _ = .int .u8 _; rw [hH.out j hj, if_pos (by omega)]))
   go_wp2
   go_ret
   exact ⟨rfl, EW⟩
theorem textOf_any (v : Ei) (w : World) :
  Calls Tryz.prog 115 #[.agg v.l] w fun e w' => e = .returned (.string (textOf v)) ∧ Below w.heap.size w w' := by
 go_enter Tryz.func115, Tryz.ntmps115
 go_wp2
 have z0 : Fw w.heap.size 8 (fun j => .int .u32 (v.at j)) (w.alloc (.cells v.l 149)) := Fw.lit _ _ rfl rfl
 refine wpOf (fun W => Below w.heap.size w W ∧ Fw w.heap.size 8 (fun j => .int .u32 (v.at j)) W ∧ Fw (w.heap.size + 1) 32 (fun _ => .int .u8 0) W) ⟨((Below.refl _ w).alloc (Nat.le_refl _) _).alloc (by simp) _, z0.alloc _, Fw.lit _ _ (by simp) rfl⟩ ?_
 rintro V ⟨BV, SV, CV⟩
 clear z0
 obtain ⟨z, hz⟩ : ∃ c, w.heap.size = c := ⟨_, rfl⟩
 have HZ : Hid (w.heap.size = z) := hz
 rw [hz] at BV SV CV ⊢
 clear hz
 obtain ⟨c, hc⟩ : ∃ c, z + 1 = c := ⟨_, rfl⟩
 rw [hc] at CV ⊢
 go_loopg [5] 32 (fun gk i wr => ∃ k : Nat, ∃ h : Nat → Int, k + gk = 32 ∧ i = .int .i64 k ∧ Below z w wr ∧ Fw z 8 (fun j => .int .u32 (v.at j)) wr ∧ Fw c 32 (fun j => .int .u8 (h j)) wr ∧ Hid (∀ j, j < 32 → h j = if j < k then sbAt v j else 0))
 case atStart => exact ⟨0, fun _ => 0, rfl, rfl, BV, SV, CV, fun j _ => by rw [if_neg (by omega)]⟩
 case round =>
  clear BV SV CV
  obtain ⟨k, h, hk, rfl, BW, CS, CU, hH⟩ := hrel
  have zu := CU.z
  have uf := CU.f
  by_cases hlt : k < 32
  ·obtain ⟨q, hqk, hq4⟩ : ∃ q : Nat, k / 4 = q ∧ q < 8 := ⟨k / 4, rfl, by omega⟩
   obtain ⟨r, hrk, hr4⟩ : ∃ r : Nat, k % 4 = r ∧ r < 4 := ⟨k % 4, rfl, by omega⟩
   have hq : (k : Int).tdiv 4 = q := by rw [Int.tdiv_eq_ediv_of_nonneg (by omega)]; omega
   have hr : (k : Int).tmod 4 = r := by rw [Int.tmod_eq_emod_of_nonneg (by omega)]; omega
   obtain ⟨e, he⟩ : ∃ s : Nat, 24 - r * 8 = s := ⟨_, rfl⟩
   have e64 : (e : Int) ≤ 64 := by omega
   have e0 : (0 : Int) ≤ e := by omega
   have emin : min e 32 = e := by omega
   obtain ⟨r8, hr8⟩ : ∃ s : Nat, r * 8 = s := ⟨_, rfl⟩
   have hm : IntKind.i64.wrap ((r : Int) * 8) = r8 := by rw [IntKind.wrap_i64]; omega
   have hm2 : IntKind.i64.wrap (24 - (r8 : Int)) = e := by rw [IntKind.wrap_i64]; omega
   have wq : IntKind.i64.wrap (q : Int) = q := by rw [IntKind.wrap_i64]; omega
   have lq : (q : Int) < 8 := by omega
   have l0 : (k : Int) < 32 := by omega
   have m0 := CS.c q (by omega)
   have n0 := CU.c k hlt
   obtain ⟨y, hy⟩ : ∃ y, v.at q = y := ⟨_, rfl⟩
   rw [hy] at m0
   obtain ⟨t, ht⟩ : ∃ t, y / 2 ^ e % 256 = t := ⟨_, rfl⟩
   have hu : IntKind.u8.wrap (y / 2 ^ e) = t := by rw [IntKind.wrap_u8]; exact ht
   have HB : Hid (sbAt v k = t) := by
    show _ = _
    rw [sbAt, hqk, hrk, hy, he, ht]
   clear hqk hrk hy ht he hr8
   go_wp2
   go_roundg (gk - 1)
   case measure => omega
   case rel =>
    refine ⟨k + 1, fun j => if j = k then t else h j, by omega, rfl, BW.setCell (p := ⟨c, k, none⟩) (by dsimp only; omega) _, CS.setCell _ (by dsimp only; omega) _, CU.put k hlt (.int .u8 t) (fun j _ => by by_cases e : j = k <;> simp [e]), ?_⟩
    intro j hj
    have hJ := hH.out j hj
    show (if j = k then t else h j) = _
    by_cases e : j = k
    ·rw [if_pos e, e, if_pos (by omega), HB.out]
    rw [if_neg e, hJ]
    by_cases h1 : j < k
    ·rw [if_pos h1, if_pos (by omega)]
    ·rw [if_neg h1, if_neg (by omega)]
  ·have hk2 : k = 32 := by omega
   subst hk2
   clear hlt
   have hcv := Fw.text (sb_bd v) (CU.ext (h := fun j => .int .u8 (sbAt v j)) (fun j hj => by show Value.int .u8 _ = .int .u8 _; rw [hH.out j hj, if_pos (by omega)]))
   go_wp2
   go_ret
   rw [HZ.out]
   exact ⟨rfl, BW⟩
theorem or_comm32 (x y : Int) : bits .or .u32 x y = bits .or .u32 y x := by
 unfold bits
 simp only [BitVec.or_comm]
theorem ofInt_nat (x : Nat) (hx : x < 4294967296) : (BitVec.ofInt 32 (x : Int)).toNat = x := by
 rw [BitVec.toNat_ofInt]
 omega
theorem or_nat (x y : Nat) (hx : x < 4294967296) (hy : y < 4294967296) : bits .or .u32 (x : Int) (y : Int) = ((x ||| y : Nat) : Int) := by
 have h : (x ||| y) < 2 ^ 32 := Nat.or_lt_two_pow hx hy
 have e : bits .or .u32 (x : Int) (y : Int) = IntKind.u32.wrap (((BitVec.ofInt 32 (x : Int)) ||| (BitVec.ofInt 32 (y : Int))).toNat : Int) := rfl
 rw [e, BitVec.toNat_or, ofInt_nat x hx, ofInt_nat y hy, IntKind.wrap_u32]
 omega
theorem or_add (x y k : Nat) (hy : y < 2 ^ k) (h : x * 2 ^ k + y < 4294967296) : bits .or .u32 ((x * 2 ^ k : Nat) : Int) (y : Int) = ((x * 2 ^ k + y : Nat) : Int) := by
 rw [or_nat _ _ (by omega) (by omega)]
 have := Nat.shiftLeft_add_eq_or_of_lt hy x
 rw [Nat.shiftLeft_eq] at this
 rw [this]
theorem jce (x : Int) (k : Nat) (h1 : 1 ≤ k) (hk : k < 32) (w : World) :
  Calls Tryz.prog 108 #[.int .u32 x, .int .i64 k] w fun e w' => e = .returned (.int .u32 (ror x k)) ∧ Below w.heap.size w w' := by
 obtain ⟨m, hm⟩ : ∃ m : Nat, 32 - k = m := ⟨_, rfl⟩
 have w2 : IntKind.i64.wrap (32 - (k : Int)) = m := by rw [IntKind.wrap_i64]; omega
 have w3 : IntKind.i64.wrap (m : Int) = m := by rw [IntKind.wrap_i64]; omega
 have w4 : IntKind.i64.wrap (k : Int) = k := by rw [IntKind.wrap_i64]; omega
 have l1 : (k : Int) ≤ 64 := by omega
 have l2 : (m : Int) ≤ 64 := by omega
 have z1 : 0 ≤ (k : Int) := by omega
 have z2 : 0 ≤ (m : Int) := by omega
 have hmm : min m 32 = m := by omega
 have hkk : min k 32 = k := by omega
 have n1 : ¬ (k : Int) < 0 := by omega
 have n2 : ¬ (m : Int) < 0 := by omega
 have HM : Hid (32 - k = m) := hm
 clear hm
 go_enter Tryz.func108, Tryz.ntmps108
 go_wp2
 refine wp_region_quiet_below (by kernel_rfl) (by kernel_rfl) ?_
 iterate 9 (quiet_step (fail))
 refine wpQuiet_nil ?_
 intro w8 hw8
 have hb8 : Below w.heap.size w w8 := by
  obtain ⟨p, rfl⟩ := hw8
  exact below_regrown _ _ _
 go_wp2
 go_ret
 refine ⟨?_, hb8⟩
 rw [ror, HM.out, or_comm32]
 rfl
end Go.Proofs.YtoddangedbefgabGreatDoor
