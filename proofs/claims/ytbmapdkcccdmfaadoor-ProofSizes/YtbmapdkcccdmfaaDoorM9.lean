/- Lemmas: A number as bytes: what Number answers, the program's and the document's. No condition. -/
import Derived.Test.YtbmapdkcccdmfaaDoorM1
import Derived.Test.YtbmapdkcccdmfaaDoorM2
import Derived.Test.YtbmapdkcccdmfaaDoorM6
import Derived.Test.YtbmapdkcccdmfaaDoorM8
import Derived.Test.YtbmapdkcccdmfaaDoorRows
import Derived.Deep.OwnRows
import Derived.Laws.IdiomStrings
namespace Go.Proofs.YtbmapdkcccdmfaaDoor
open Go.RowKit Go.Sort

theorem info_u8 : (Tryd.prog.info? 5).map (fun i => (i.zero, i.size, i.bytes)) = some (some (.int .u8 0), 1, 1) := by kernel_rfl
def nAt (n m j : Nat) : Int := ((n / 256 ^ (m - 1 - j) % 256 : Nat) : Int)
def numOf (n : Nat) : ByteArray := ⟨(by8 (blen n) (nAt n (blen n))).toArray⟩
theorem nAt_bd (n m j : Nat) : 0 ≤ nAt n m j ∧ nAt n m j < 256 := by unfold nAt; omega
theorem blen_le (n : Nat) : ∀ k, n < 256 ^ k → blen n ≤ k
 | 0, h => by rw [show n = 0 by rw [Nat.pow_zero] at h; omega, blen_0]; exact Nat.le_refl _
 | k + 1, h => by
  by_cases h0 : n = 0
  ·rw [h0, blen_0]; omega
  ·rw [blen_pos n h0]
   have := blen_le (n / 256) k (Nat.div_lt_of_lt_mul (by rw [Nat.pow_succ] at h; omega))
   omega
termination_by k => k

theorem conv_new (w : World) (l : List UInt8) : (convert 24 9 (.slice (some ⟨w.heap.size, 0, none⟩) l.length l.length)).run Tryd.prog (w.alloc (.cells (l.map fun b => Value.int .u8 b.toNat).toArray 5)) = .ok (.string ⟨l.toArray⟩) (w.alloc (.cells (l.map fun b => Value.int .u8 b.toNat).toArray 5)) :=
 run_convert_bytes_back (P := Tryd.prog) _ 24 9 5 ⟨w.heap.size, 0, none⟩ l.length l Tryd.underlying24 Tryd.underlying5 Tryd.underlying9 (fun j hj => by
  rw [Addr.add_mid, Nat.zero_add]
  simp [go_sem, hj])
theorem blen_div (n : Nat) : ∀ k, blen (n / 256 ^ k) = blen n - k
 | 0 => by rw [Nat.pow_zero, Nat.div_one]; rfl
 | k + 1 => by
  have h := blen_div n k
  rw [Nat.pow_succ, ← Nat.div_div_eq_div_mul]
  by_cases h0 : n / 256 ^ k = 0
  ·rw [h0] at h ⊢
   rw [Nat.zero_div, blen_0] at *
   omega
  ·have := blen_pos _ h0
   omega
theorem div_pos (n k : Nat) : 0 < n / 256 ^ k ↔ k < blen n := by
 have h := blen_div n k
 constructor
 ·intro h0
  have := blen_pos (n / 256 ^ k) (by omega)
  omega
 ·intro h1
  refine Nat.pos_of_ne_zero fun e => ?_
  rw [e, blen_0] at h
  omega
theorem num_step (n k : Nat) (d : Nat) (hd : n / 256 ^ k % 256 = d) : (⟨#[UInt8.ofNat d]⟩ : ByteArray) ++ ⟨(by8 k (nAt n k)).toArray⟩ = ⟨(by8 (k + 1) (nAt n (k + 1))).toArray⟩ := by
 have hs1 : (⟨#[UInt8.ofNat d]⟩ : ByteArray).size = 1 := rfl
 refine ext_bt _ _ (by rw [ByteArray.size_append, by8_size, by8_size, hs1]; omega) fun j hj => ?_
 rw [ByteArray.size_append, by8_size, hs1] at hj
 rw [bt_app, hs1, bt_by8 _ _ (nAt_bd n (k + 1)) j (by omega)]
 by_cases h0 : j < 1
 ·rw [if_pos h0, show j = 0 by omega]
  unfold nAt
  rw [show k + 1 - 1 - 0 = k by omega, hd]
  show ((UInt8.ofNat d).toNat : Int) = d
  rw [UInt8.toNat_ofNat']
  omega
 ·rw [if_neg h0, bt_by8 _ _ (nAt_bd n k) _ (by omega)]
  unfold nAt
  rw [show k - 1 - (j - 1) = k + 1 - 1 - j by omega]

--[R4
set_option maxRecDepth 20000 in
set_option maxHeartbeats 2000000 in
theorem rnumber_any (n : Nat) (hn : n < 18446744073709551616) (w : World) :
  Calls Tryd.prog 98 #[.int .u64 n] w fun e w' => e = .returned (.string (numOf n)) ∧ Below w.heap.size w w' := by
 go_enter Tryd.func98, Tryd.ntmps98
 go_wp2
 go_loopg [0, 3] (blen n) (fun gk x t wr => ∃ k : Nat, k + gk = blen n ∧ x = .int .u64 ((n / 256 ^ k : Nat) : Int) ∧ t = .string ⟨(by8 k (nAt n k)).toArray⟩ ∧ Below w.heap.size w wr)
 case atStart => exact ⟨0, by omega, by rw [Nat.pow_zero, Nat.div_one], rfl, Below.refl _ _⟩
 case round =>
  obtain ⟨k, hk, rfl, rfl, BW⟩ := hrel
  have hdp := div_pos n k
  obtain ⟨q, hq⟩ : ∃ q, n / 256 ^ k = q := ⟨_, rfl⟩
  rw [hq] at hdp ⊢
  obtain ⟨t, ht⟩ : ∃ t : ByteArray, ⟨(by8 k (nAt n k)).toArray⟩ = t := ⟨_, rfl⟩
  rw [ht]
  by_cases hlt : k < blen n
  ·have h0 : (0 : Int) < q := by have := hdp.2 hlt; omega
   have hqn : q < 18446744073709551616 := Nat.lt_of_le_of_lt (by rw [← hq]; exact Nat.div_le_self _ _) hn
   obtain ⟨d, hd⟩ : ∃ d, q % 256 = d := ⟨_, rfl⟩
   have hw : IntKind.u8.wrap (q : Int) = d := by rw [IntKind.wrap_u8]; omega
   have hw2 : (q : Int) % 256 = d := by omega
   obtain ⟨q2, hq2⟩ : ∃ x, q / 256 = x := ⟨_, rfl⟩
   have hs : (q : Int) / 256 = q2 := by omega
   have hs2 : (q : Int) / 2 ^ 8 = q2 := hs
   have hcv : (convert 24 9 (.slice (some ⟨wr.heap.size, 0, none⟩) 1 1)).run Tryd.prog (wr.alloc (.cells #[.int .u8 d] 5)) = .ok (.string ⟨#[UInt8.ofNat d]⟩) (wr.alloc (.cells #[.int .u8 d] 5)) := by
    have := conv_new wr [UInt8.ofNat d]
    simp only [List.map_cons, List.map_nil, UInt8.toNat_ofNat'] at this
    rw [show ((d % 2 ^ 8 : Nat) : Int) = d by omega] at this
    exact this
   have hstep := num_step n k d (by rw [hq, hd])
   rw [ht] at hstep
   obtain ⟨one, hone, hos⟩ : ∃ x : ByteArray, ⟨#[UInt8.ofNat d]⟩ = x ∧ x.size = 1 := ⟨_, rfl, rfl⟩
   rw [hone] at hcv hstep
   have hts : t.size = k := by rw [← ht]; exact by8_size _ _
   have hk8 := blen_le n 8 (by exact hn)
   have hts8 : t.size ≤ 8 := by omega
   have hsz : (one.size : Int) + t.size ≤ 9 := by omega
   have hsz2 : one.size + t.size ≤ 9 := by omega
   clear hone
   have HQ : Hid (_ ∧ _ ∧ _) := ⟨hq, hq2, hstep⟩
   clear hstep hq hq2 ht
   go_wp2
   go_roundg (gk - 1)
   case measure => omega
   case rel =>
    obtain ⟨hq, hq2, hstep⟩ := HQ.out
    refine ⟨k + 1, by omega, ?_, by rw [hstep], BW.alloc BW.size _⟩
    rw [Nat.pow_succ, ← Nat.div_div_eq_div_mul, hq, hq2]
  ·have h0 : q = 0 := Nat.eq_zero_of_not_pos fun h => hlt (hdp.1 h)
   subst h0
   have hk2 : k = blen n := by omega
   have HO : Hid (numOf n = t) := by unfold numOf; rw [← hk2, ht]; exact rfl
   clear hq ht hdp
   go_wp2
   go_ret
   exact ⟨by rw [HO.out]; rfl, BW⟩
--R4]
end Go.Proofs.YtbmapdkcccdmfaaDoor
