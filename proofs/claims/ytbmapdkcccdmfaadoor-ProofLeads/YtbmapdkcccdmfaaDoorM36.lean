/- Lemmas: What digestOf does at this translation: for all lanes. -/
import Derived.Test.YtbmapdkcccdmfaaDoorM1
import Derived.Test.YtbmapdkcccdmfaaDoorM2
import Derived.Test.YtbmapdkcccdmfaaDoorM3
import Derived.Test.YtbmapdkcccdmfaaDoorM4
import Derived.Test.YtbmapdkcccdmfaaDoorRows
import Derived.Laws.IdiomStrings
namespace Go.Proofs.YtbmapdkcccdmfaaDoor
open Go.RowKit Go.Sort

def dgAt (f : Nat → Int) (i : Nat) : Int := f (i / 8) / 2 ^ (8 * (i % 8)) % 256
def dg (f : Nat → Int) : List UInt8 := (List.range 32).map fun j => UInt8.ofNat (dgAt f j).toNat
theorem dg_len (f : Nat → Int) : (dg f).length = 32 := by simp [dg]
theorem dg_at (f : Nat → Int) (j : Nat) (hj : j < (dg f).length) : ((dg f)[j].toNat : Int) = dgAt f j := by
 have h : 0 ≤ dgAt f j ∧ dgAt f j < 256 := by unfold dgAt; omega
 simp only [dg, List.getElem_map, List.getElem_range, UInt8.toNat_ofNat']
 omega
theorem Fw.text {n : Nat} {f : Nat → Int} {W : World} (k : Fw n 32 (fun j => .int .u8 (dgAt f j)) W) : (convert 24 9 (.slice (some ⟨n, 0, none⟩) 32 32)).run Tryd.prog W = .ok (.string ⟨(dg f).toArray⟩) W := by
 have := run_convert_bytes_back (P := Tryd.prog) W 24 9 5 ⟨n, 0, none⟩ 32 (dg f) Tryd.underlying24 Tryd.underlying5 Tryd.underlying9 (fun j hj => by
  rw [Addr.add_mid, Nat.zero_add, dg_at]
  exact k.c j (by rw [dg_len] at hj; exact hj))
 rwa [dg_len] at this

set_option maxRecDepth 20000 in
set_option maxHeartbeats 4000000 in
theorem digestOf_any (s : Nat) (f : Nat → Int) (w : World) (hs : Fw s 25 (fun j => .int .u64 (f j)) w) :
  Calls Tryd.prog 37 #[.pointer (some ⟨s, 0, none⟩)] w fun e w' =>
   e = .returned (.string ⟨(dg f).toArray⟩) ∧ Below w.heap.size w w' := by
 have km : IntKind.u64.max = 18446744073709551615 := by decide
 have ks : IntKind.u64.signed = false := rfl
 go_enter Tryd.func37, Tryd.ntmps37
 go_wp2
 have hsz : s ≠ w.heap.size := Nat.ne_of_lt hs.z
 go_loopg [5] 32 (fun gk i wr => ∃ k : Nat, ∃ h : Nat → Int, k + gk = 32 ∧ i = .int .i64 k ∧ Below w.heap.size w wr ∧ Fw s 25 (fun j => .int .u64 (f j)) wr ∧ Fw w.heap.size 32 (fun j => .int .u8 (h j)) wr ∧ Hid (∀ j, j < 32 → h j = if j < k then dgAt f j else 0))
 case atStart => exact ⟨0, fun _ => 0, rfl, rfl, by go_grown, hs.alloc _, Fw.lit _ _ rfl rfl, fun j _ => by rw [if_neg (by omega)]⟩
 case round =>
  clear hs
  obtain ⟨k, h, hk, rfl, EW, CS, CU, hH⟩ := hrel
  have zu := CU.z
  have uf := CU.f
  by_cases hlt : k < 32
  ·obtain ⟨q, hqk, hq4⟩ : ∃ q : Nat, k / 8 = q ∧ q < 4 := ⟨k / 8, rfl, by omega⟩
   obtain ⟨r, hrk, hr4⟩ : ∃ r : Nat, k % 8 = r ∧ r < 8 := ⟨k % 8, rfl, by omega⟩
   have hq : (k : Int).tdiv 8 = q := by rw [Int.tdiv_eq_ediv_of_nonneg (by omega)]; omega
   have hr : (k : Int).tmod 8 = r := by rw [Int.tmod_eq_emod_of_nonneg (by omega)]; omega
   obtain ⟨e, he⟩ : ∃ s : Nat, 8 * r = s := ⟨_, rfl⟩
   have e64 : (e : Int) ≤ 64 := by omega
   have e0 : (0 : Int) ≤ e := by omega
   have hm : IntKind.i64.wrap (8 * (r : Int)) = e := by rw [IntKind.wrap_i64]; omega
   have wq : IntKind.i64.wrap (q : Int) = q := by rw [IntKind.wrap_i64]; omega
   have lq : (q : Int) < 25 := by omega
   have l0 : (k : Int) < 32 := by omega
   have m0 := CS.c q (by omega)
   have n0 := CU.c k hlt
   obtain ⟨v, hv⟩ : ∃ v, f q = v := ⟨_, rfl⟩
   rw [hv] at m0
   obtain ⟨t, ht⟩ : ∃ t, v / 2 ^ e % 256 = t := ⟨_, rfl⟩
   have hu : IntKind.u8.wrap (v / 2 ^ e) = t := by rw [IntKind.wrap_u8]; exact ht
   have HB : Hid (dgAt f k = t) := by
    show _ = _
    rw [dgAt, hqk, hrk, hv, he, ht]
   clear hqk hrk hv ht he
   go_wp2
   go_roundg (gk - 1)
   case measure => omega
   case rel =>
    refine ⟨k + 1, fun j => if j = k then t else h j, by omega, rfl, by go_grown, CS.setCell _ (fun e => hsz e.symm) _, CU.put k hlt (.int .u8 t) (fun j _ => by by_cases e : j = k <;> simp [e]), ?_⟩
    intro j hj
    have hJ := hH.out j hj
    show (if j = k then t else h j) = _
    by_cases e : j = k
    ·rw [if_pos e, e, if_pos (by omega), HB.out]
    rw [if_neg e, hJ]
    by_cases h1 : j < k
    ·rw [if_pos h1, if_pos (by omega)]
    ·rw [if_neg h1, if_neg (by omega)]
  ·have hk2 : k = 32 := by omega
   subst hk2
   clear hlt
   have hcv := Fw.text (CU.ext (h := fun j => .int .u8 (dgAt f j)) (fun j hj => by show Value.int .u8 _ = .int .u8 _; rw [hH.out j hj, if_pos (by omega)]))
   go_wp2
   go_ret
   exact ⟨rfl, EW⟩
end Go.Proofs.YtbmapdkcccdmfaaDoor
