/- Lemmas: A number as bytes: what Number answers, the program's and the document's. No condition. -/
import Derived.Test.YtmefanagpkbjeaaDoorM1
import Derived.Test.YtmefanagpkbjeaaDoorM2
import Derived.Test.YtmefanagpkbjeaaDoorM6
import Derived.Test.YtmefanagpkbjeaaDoorM8
import Derived.Test.YtmefanagpkbjeaaDoorRows
import Derived.Deep.OwnRows
import Derived.Laws.IdiomStrings
namespace Go.Proofs.YtmefanagpkbjeaaDoor
open Go.RowKit Go.Sort

theorem info_u8 : (Tryd.prog.info? 5).map (fun i => (i.zero, i.size, i.bytes)) = some (some (.int .u8 0), 1, 1) := by kernel_rfl
theorem Fw_made (w : World) (n : Nat) (z : Value) (t : TypeId) : Fw w.heap.size n (fun _ => z) (w.alloc (.cells (madeCells #[z] n) t)) :=
  ⟨by simp, fun j hj => by simp [go_sem, madeCells, hj, Nat.mod_one], fun o => by simp [go_sem]⟩
/-- A number's byte, and its bytes. -/
def nAt (n m j : Nat) : Int := ((n / 256 ^ (m - 1 - j) % 256 : Nat) : Int)
def numOf (n : Nat) : ByteArray := ⟨(by8 (blen n) (nAt n (blen n))).toArray⟩
theorem nAt_bd (n m j : Nat) : 0 ≤ nAt n m j ∧ nAt n m j < 256 := by unfold nAt; omega
theorem blen_le (n : Nat) : ∀ k, n < 256 ^ k → blen n ≤ k
  | 0, h => by rw [show n = 0 by rw [Nat.pow_zero] at h; omega, blen_0]; exact Nat.le_refl _
  | k + 1, h => by
    by_cases h0 : n = 0
    · rw [h0, blen_0]; omega
    · rw [blen_pos n h0]
      have := blen_le (n / 256) k (Nat.div_lt_of_lt_mul (by rw [Nat.pow_succ] at h; omega))
      omega
termination_by k => k

set_option maxRecDepth 20000 in
set_option maxHeartbeats 2000000 in
theorem number_any (n : Nat) (hn : n < 18446744073709551616) (w : World) :
    Calls Tryd.prog 134 #[.int .u64 n] w fun e w' => e = .returned (.string (numOf n)) ∧ Below w.heap.size w w' := by
  have hm8 := blen_le n 8 (by exact hn)
  have KL : Hid (∀ w : World, _) := fun w : World => len64_any n hn w
  go_enter Tryd.func134, Tryd.ntmps134
  go_wp2_with fail
  refine (KL.out _).mono ?_
  rintro e w1 ⟨⟨L, rfl, hL, hLm⟩, B1⟩
  obtain ⟨m, hm⟩ : ∃ m, blen n = m := ⟨_, rfl⟩
  rw [hm] at hLm hm8
  have l1 : ((L : Int) + 7).tdiv 8 = m := by rw [Int.tdiv_eq_ediv_of_nonneg (by omega)]; omega
  have l2 : ((L : Int) + 7) / 8 = m := by omega
  clear KL
  obtain ⟨i0, hi0, hz0, hz1, hz2⟩ := info_parts info_u8
  go_wp2_with (at_make; refine wpList_make_row _ rfl _ _ 58 rfl 5 i0 (.int .u8 0) Tryd.underlying58 hi0 hz0 hz1 rfl .i64 .i64 m rfl rfl (by rw [hz2]; omega) (by omega) ?_)
  have F2 : Fw w1.heap.size m (fun _ => .int .u8 0) (w1.alloc (.cells (madeCells #[.int .u8 0] m) 5)) := Fw_made _ _ _ _
  have BN : Below w1.heap.size w1 (w1.alloc (.cells (madeCells #[.int .u8 0] m) 5)) := (Below.refl _ w1).alloc (Nat.le_refl _) _
  have HB : Hid (_ ∧ _ ∧ _) := ⟨F2, belowStep B1 B1.size BN, hm⟩
  have hzw := B1.size
  clear F2 BN B1
  obtain ⟨z, hz⟩ : ∃ c, w1.heap.size = c := ⟨_, rfl⟩
  rw [hz] at HB hzw ⊢
  go_wp2
  go_loopg [12] m (fun gk i wr => ∃ k : Nat, k + gk = m ∧ i = .int .i64 k ∧ Below w.heap.size w wr ∧ Fw z m (fun j => if m ≤ j + k then .int .u8 (nAt n m j) else .int .u8 0) wr)
  case atStart => exact ⟨0, by omega, rfl, HB.out.2.1, HB.out.1.ext fun j hj => if_neg (by omega)⟩
  case round =>
    obtain ⟨k, hk, rfl, BW, F2⟩ := hrel
    by_cases hlt : k < m
    · have c0 : (k : Int) < m := by omega
      obtain ⟨p, hp⟩ : ∃ p, m - 1 - k = p := ⟨_, rfl⟩
      obtain ⟨q, hq⟩ : ∃ q, 8 * k = q := ⟨_, rfl⟩
      have w1' : IntKind.i64.wrap ((m : Int) - 1 - k) = p := by rw [IntKind.wrap_i64]; omega
      have w2' : (m : Int) - 1 - k = p := by omega
      have w3' : IntKind.i64.wrap (8 * (k : Int)) = q := by rw [IntKind.wrap_i64]; omega
      have w4' : 8 * (k : Int) = q := by omega
      obtain ⟨e, he⟩ : ∃ e : Nat, n / 2 ^ q = e := ⟨_, rfl⟩
      have he2 : (n : Int) / 2 ^ q = e := by rw [← he]; exact_mod_cast rfl
      have hpw : nAt n m p = ((e % 256 : Nat) : Int) := by
        unfold nAt
        rw [show m - 1 - p = k by omega, ← he, ← hq, show (256 : Nat) = 2 ^ 8 from rfl, ← Nat.pow_mul]
      obtain ⟨d, hd⟩ : ∃ d : Nat, e % 256 = d := ⟨_, rfl⟩
      have hw : IntKind.u8.wrap (e : Int) = d := by rw [IntKind.wrap_u8]; omega
      have hw2 : (e : Int) % 256 = d := by omega
      have hpm : (p : Int) < m := by omega
      have hpm2 : p < m := by omega
      have cP := F2.c p hpm2
      rw [if_neg (by omega)] at cP
      have fP := F2.f p
      have HP : Hid (_ ∧ _ ∧ _) := ⟨hpw, hd, F2⟩
      clear hpw hd F2 he
      go_wp2
      go_roundg (gk - 1)
      case measure => omega
      case rel =>
        obtain ⟨hpw, hd, F2⟩ := HP.out
        refine ⟨k + 1, by omega, by congr 1, BW.setCell (p := ⟨z, p, none⟩) hzw _, F2.put p (by omega) _ fun j hj => ?_⟩
        by_cases e1 : j = p
        · rw [if_pos e1, if_pos (by omega), e1, hpw, hd]
        · rw [if_neg e1]
          by_cases e2 : m ≤ j + k
          · rw [if_pos e2, if_pos (by omega)]
          · rw [if_neg e2, if_neg (by omega)]
    · have hk2 : k = m := by omega
      subst hk2
      have l0 : ¬ (k : Int) < k := by omega
      have hcv := run_convert_bytes_back (P := Tryd.prog) wr 58 9 5 ⟨z, 0, none⟩ k (by8 k (nAt n k)) Tryd.underlying58 Tryd.underlying5 Tryd.underlying9 (fun j hj => by
        have hj' : j < k := by rw [by8_len] at hj; exact hj
        rw [by8_at _ _ (nAt_bd n k), Addr.add_mid, Nat.zero_add, F2.c j hj', if_pos (by omega)])
      rw [by8_len] at hcv
      have HO : Hid (numOf n = ⟨(by8 k (nAt n k)).toArray⟩) := by unfold numOf; rw [hm]; exact rfl
      clear F2
      go_wp2
      go_ret
      exact ⟨by rw [HO.out]; rfl, BW⟩

/-- New bytes turned to a text. -/
theorem conv_new (w : World) (l : List UInt8) : (convert 58 9 (.slice (some ⟨w.heap.size, 0, none⟩) l.length l.length)).run Tryd.prog (w.alloc (.cells (l.map fun b => Value.int .u8 b.toNat).toArray 5)) = .ok (.string ⟨l.toArray⟩) (w.alloc (.cells (l.map fun b => Value.int .u8 b.toNat).toArray 5)) :=
  run_convert_bytes_back (P := Tryd.prog) _ 58 9 5 ⟨w.heap.size, 0, none⟩ l.length l Tryd.underlying58 Tryd.underlying5 Tryd.underlying9 (fun j hj => by
    rw [Addr.add_mid, Nat.zero_add]
    simp [go_sem, hj])
theorem blen_div (n : Nat) : ∀ k, blen (n / 256 ^ k) = blen n - k
  | 0 => by rw [Nat.pow_zero, Nat.div_one]; rfl
  | k + 1 => by
    have h := blen_div n k
    rw [Nat.pow_succ, ← Nat.div_div_eq_div_mul]
    by_cases h0 : n / 256 ^ k = 0
    · rw [h0] at h ⊢
      rw [Nat.zero_div, blen_0] at *
      omega
    · have := blen_pos _ h0
      omega
theorem div_pos (n k : Nat) : 0 < n / 256 ^ k ↔ k < blen n := by
  have h := blen_div n k
  constructor
  · intro h0
    have := blen_pos (n / 256 ^ k) (by omega)
    omega
  · intro h1
    refine Nat.pos_of_ne_zero fun e => ?_
    rw [e, blen_0] at h
    omega
theorem num_step (n k : Nat) (d : Nat) (hd : n / 256 ^ k % 256 = d) : (⟨#[UInt8.ofNat d]⟩ : ByteArray) ++ ⟨(by8 k (nAt n k)).toArray⟩ = ⟨(by8 (k + 1) (nAt n (k + 1))).toArray⟩ := by
  have hs1 : (⟨#[UInt8.ofNat d]⟩ : ByteArray).size = 1 := rfl
  refine ext_bt _ _ (by rw [ByteArray.size_append, by8_size, by8_size, hs1]; omega) fun j hj => ?_
  rw [ByteArray.size_append, by8_size, hs1] at hj
  rw [bt_app, hs1, bt_by8 _ _ (nAt_bd n (k + 1)) j (by omega)]
  by_cases h0 : j < 1
  · rw [if_pos h0, show j = 0 by omega]
    unfold nAt
    rw [show k + 1 - 1 - 0 = k by omega, hd]
    show ((UInt8.ofNat d).toNat : Int) = d
    rw [UInt8.toNat_ofNat']
    omega
  · rw [if_neg h0, bt_by8 _ _ (nAt_bd n k) _ (by omega)]
    unfold nAt
    rw [show k - 1 - (j - 1) = k + 1 - 1 - j by omega]

--[R4
set_option maxRecDepth 20000 in
set_option maxHeartbeats 2000000 in
theorem rnumber_any (n : Nat) (hn : n < 18446744073709551616) (w : World) :
    Calls Tryd.prog 92 #[.int .u64 n] w fun e w' => e = .returned (.string (numOf n)) ∧ Below w.heap.size w w' := by
  go_enter Tryd.func92, Tryd.ntmps92
  go_wp2
  go_loopg [0, 3] (blen n) (fun gk x t wr => ∃ k : Nat, k + gk = blen n ∧ x = .int .u64 ((n / 256 ^ k : Nat) : Int) ∧ t = .string ⟨(by8 k (nAt n k)).toArray⟩ ∧ Below w.heap.size w wr)
  case atStart => exact ⟨0, by omega, by rw [Nat.pow_zero, Nat.div_one], rfl, Below.refl _ _⟩
  case round =>
    obtain ⟨k, hk, rfl, rfl, BW⟩ := hrel
    have hdp := div_pos n k
    obtain ⟨q, hq⟩ : ∃ q, n / 256 ^ k = q := ⟨_, rfl⟩
    rw [hq] at hdp ⊢
    obtain ⟨t, ht⟩ : ∃ t : ByteArray, ⟨(by8 k (nAt n k)).toArray⟩ = t := ⟨_, rfl⟩
    rw [ht]
    by_cases hlt : k < blen n
    · have h0 : (0 : Int) < q := by have := hdp.2 hlt; omega
      have hqn : q < 18446744073709551616 := Nat.lt_of_le_of_lt (by rw [← hq]; exact Nat.div_le_self _ _) hn
      obtain ⟨d, hd⟩ : ∃ d, q % 256 = d := ⟨_, rfl⟩
      have hw : IntKind.u8.wrap (q : Int) = d := by rw [IntKind.wrap_u8]; omega
      have hw2 : (q : Int) % 256 = d := by omega
      obtain ⟨q2, hq2⟩ : ∃ x, q / 256 = x := ⟨_, rfl⟩
      have hs : (q : Int) / 256 = q2 := by omega
      have hs2 : (q : Int) / 2 ^ 8 = q2 := hs
      have hcv : (convert 58 9 (.slice (some ⟨wr.heap.size, 0, none⟩) 1 1)).run Tryd.prog (wr.alloc (.cells #[.int .u8 d] 5)) = .ok (.string ⟨#[UInt8.ofNat d]⟩) (wr.alloc (.cells #[.int .u8 d] 5)) := by
        have := conv_new wr [UInt8.ofNat d]
        simp only [List.map_cons, List.map_nil, UInt8.toNat_ofNat'] at this
        rw [show ((d % 2 ^ 8 : Nat) : Int) = d by omega] at this
        exact this
      have hstep := num_step n k d (by rw [hq, hd])
      rw [ht] at hstep
      obtain ⟨one, hone, hos⟩ : ∃ x : ByteArray, ⟨#[UInt8.ofNat d]⟩ = x ∧ x.size = 1 := ⟨_, rfl, rfl⟩
      rw [hone] at hcv hstep
      have hts : t.size = k := by rw [← ht]; exact by8_size _ _
      have hk8 := blen_le n 8 (by exact hn)
      have hts8 : t.size ≤ 8 := by omega
      have hsz : (one.size : Int) + t.size ≤ 9 := by omega
      have hsz2 : one.size + t.size ≤ 9 := by omega
      clear hone
      have HQ : Hid (_ ∧ _ ∧ _) := ⟨hq, hq2, hstep⟩
      clear hstep hq hq2 ht
      go_wp2
      go_roundg (gk - 1)
      case measure => omega
      case rel =>
        obtain ⟨hq, hq2, hstep⟩ := HQ.out
        refine ⟨k + 1, by omega, ?_, by rw [hstep], BW.alloc BW.size _⟩
        rw [Nat.pow_succ, ← Nat.div_div_eq_div_mul, hq, hq2]
    · have h0 : q = 0 := Nat.eq_zero_of_not_pos fun h => hlt (hdp.1 h)
      subst h0
      have hk2 : k = blen n := by omega
      have HO : Hid (numOf n = t) := by unfold numOf; rw [← hk2, ht]; exact rfl
      clear hq ht hdp
      go_wp2
      go_ret
      exact ⟨by rw [HO.out]; rfl, BW⟩
--R4]
end Go.Proofs.YtmefanagpkbjeaaDoor
