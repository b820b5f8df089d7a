/- Lemmas: Bytes read: Decode. Numbers as bytes, and back. What bytes from a place on begin with, told by places. Where an item begins and ends: the reference's measure. How deep an item is: the reference's Deep. What the reference's take answers, by places, and that it is what the parts of bytes are. -/
import Derived.Test.YtmefanagpkbjeaaDoorM1
import Derived.Test.YtmefanagpkbjeaaDoorM10
import Derived.Test.YtmefanagpkbjeaaDoorM11
import Derived.Test.YtmefanagpkbjeaaDoorM12
import Derived.Test.YtmefanagpkbjeaaDoorM13
import Derived.Test.YtmefanagpkbjeaaDoorM14
import Derived.Test.YtmefanagpkbjeaaDoorM15
import Derived.Test.YtmefanagpkbjeaaDoorM16
import Derived.Test.YtmefanagpkbjeaaDoorM2
import Derived.Test.YtmefanagpkbjeaaDoorM3
import Derived.Test.YtmefanagpkbjeaaDoorM6
import Derived.Test.YtmefanagpkbjeaaDoorM7
import Derived.Test.YtmefanagpkbjeaaDoorM8
import Derived.Test.YtmefanagpkbjeaaDoorM9
import Derived.Test.YtmefanagpkbjeaaDoorRows
namespace Go.Proofs.YtmefanagpkbjeaaDoor
open Go.RowKit Go.Shelf Go.Sort

theorem ps_mem : ∀ (N : Nat) (s : ByteArray), s.size ≤ N → ∀ e, e ∈ ps s → e.2.size ≤ s.size ∧ (e.1 = 2 → e.2.size < s.size)
  | N, s, h, e, he => by
    rw [ps_eq] at he
    split at he
    · cases he
    · split at he
      · simp at he
        subst he
        exact ⟨Nat.zero_le _, fun h => by cases h⟩
      · rename_i h0 h1
        have h2 := cutK_lt s (by omega) h1
        rcases List.mem_cons.1 he with he | he
        · obtain ⟨q1, q2, q3⟩ := h2
          generalize (cutK s).1 = a1 at *
          generalize (cutK s).2.1 = a2 at *
          subst he
          exact ⟨q1, q2⟩
        · match N, h with
          | 0, h => omega
          | N + 1, h =>
            have := ps_mem N (cutK s).2.2 (by omega) e he
            exact ⟨by omega, fun h => by have := this.2 h; omega⟩

theorem itemsOf_all : ∀ (N : Nat) (s : ByteArray), s.size ≤ N → s.size < 1000000 → ∀ w : World, Calls Tryd.prog 125 #[.string s] w fun r w' => Below w.heap.size w w' ∧
      ((decF (N + 1) s = none ∧ r = .returned (.tuple #[.slice none 0 0, .bool false])) ∨ ∃ a c ys, decF (N + 1) s = some (ers ys) ∧ r = .returned (.tuple #[.slice a ys.length c, .bool true]) ∧ rowP (fun b => w.heap.size ≤ b ∧ b < w'.heap.size) w' a 0 ys)
  | 0, s, h, h2, w => itemsOf_of 0 s h2 (fun e he hk w' => by
      have := (ps_mem s.size s (Nat.le_refl _) e he).2 hk
      omega) (fun e he => by have := (ps_mem s.size s (Nat.le_refl _) e he).1; omega) w
  | N + 1, s, h, h2, w => itemsOf_of (N + 1) s h2 (fun e he hk w' => by
      have := (ps_mem s.size s (Nat.le_refl _) e he).2 hk
      exact itemsOf_all N e.2 (by omega) (by omega) w') (fun e he => by have := (ps_mem s.size s (Nat.le_refl _) e he).1; omega) w

def zeroI : Im := .mk false ⟨#[]⟩ none 0 []
/-- What Decode answers. -/
def DecR (s : ByteArray) (x : Im) (e : Int) : Prop :=
  (65536 < s.size ∧ e = 42 ∧ x = zeroI) ∨ (s.size ≤ 65536 ∧ (∀ y, decF 65537 s ≠ some [y]) ∧ e = 40 ∧ x = zeroI) ∨
    (s.size ≤ 65536 ∧ ∃ y : Im, decF 65537 s = some [er y] ∧ ((deep y = true ∧ e = 41 ∧ x = zeroI) ∨ (deep y = false ∧ e = 0 ∧ x = y)))

set_option maxRecDepth 20000 in
set_option maxHeartbeats 2000000 in
theorem decode_any (s : ByteArray) (hc : ∀ y : Im, decF 65537 s = some [er y] → cnt y < 100000000000000000) (w : World) :
    Calls Tryd.prog 93 #[.string s] w fun r w' => Below w.heap.size w w' ∧ ∃ x e, r = .returned (.tuple #[x.val, .int .i64 e]) ∧ DecR s x e ∧ inMem w'.heap.size w' x := by
  have A1 : Below w.heap.size w (w.alloc (.cells #[.bool false, .string ⟨#[]⟩, .slice none 0 0] 70)) := (Below.refl _ w).alloc (Nat.le_refl _) _
  have hR0 : ItIn w.heap.size zeroI (w.alloc (.cells #[.bool false, .string ⟨#[]⟩, .slice none 0 0] 70)) := World.alloc_heap_new w _
  by_cases h0 : 65536 < s.size
  · have l0 : (65536 : Int) < s.size := by omega
    go_enter Tryd.func93, Tryd.ntmps93
    go_wp2
    refine bodyPost_ret (v := .tuple #[.agg #[.bool false, .string ⟨#[]⟩, .slice none 0 0], .int .i64 42]) (by simp [results, Tryd.results93, go_sem]) rfl ⟨A1, zeroI, 42, rfl, .inl ⟨h0, rfl, rfl⟩, trivial⟩
  · have l0 : ¬ (65536 : Int) < s.size := by omega
    have hs6 : s.size ≤ 65536 := by omega
    have KI := itemsOf_all 65536 s (by omega) (by omega)
    go_enter Tryd.func93, Tryd.ntmps93
    go_wp2_with fail
    refine (KI _).mono ?_
    rintro e w1 ⟨B1, hcase⟩
    have hR : ItIn w.heap.size zeroI w1 := (B1.block _ (by simp)).trans hR0
    have BA := belowStep A1 (by simp) B1
    rw [World.size_alloc] at hcase
    clear A1 hR0 B1 KI
    obtain ⟨bR, hbR⟩ : ∃ c, w.heap.size = c := ⟨_, rfl⟩
    have HZ : Hid (w.heap.size = bR) := hbR
    rw [hbR] at hR hcase BA ⊢
    clear hbR
    have d0 : w1.cell? ⟨bR, 0, none⟩ = some (.bool false) := by rw [Lib.cell_of_heap hR]; rfl
    have d1 : w1.cell? ⟨bR, 1, none⟩ = some (.string ⟨#[]⟩) := by rw [Lib.cell_of_heap hR]; rfl
    have d2 : w1.cell? ⟨bR, 2, none⟩ = some (.slice none 0 0) := by rw [Lib.cell_of_heap hR]; rfl
    have f0 := Lib.frozen_of_heap hR 0
    have f1 := Lib.frozen_of_heap hR 1
    have f2 := Lib.frozen_of_heap hR 2
    rcases hcase with ⟨hn, rfl⟩ | ⟨a, c, ys, hd, rfl, hrow⟩
    · go_wp2
      refine bodyPost_ret (v := .tuple #[.agg #[.bool false, .string ⟨#[]⟩, .slice none 0 0], .int .i64 40]) (by simp [results, Tryd.results93, go_sem, d0, d1, d2]) rfl ⟨?_, zeroI, 40, rfl, .inr (.inl ⟨hs6, fun y h => ?_, rfl, rfl⟩), trivial⟩
      · rw [HZ.out]
        exact below_set (below_set (below_set BA bR 0 (Nat.le_refl _) _) bR 1 (Nat.le_refl _) _) bR 2 (Nat.le_refl _) _
      · have h2 := hn.symm.trans h
        cases h2
    · by_cases h1 : ys.length = 1
      · obtain ⟨y, rfl⟩ : ∃ y, ys = [y] := List.length_eq_one_iff.1 h1
        have hcy := hc y hd
        obtain ⟨⟨b, o, hb, rfl, c0, c1, c2⟩, hy, -⟩ := hrow
        rw [show o + 3 * 0 = o by omega] at c0 c1 c2
        have hym : inMem w1.heap.size w1 y := inMem_of (fun b hb => hb.2) y hy
        have KD := isDeep_any y hcy w1.heap.size
        obtain ⟨yl, yt, ya, yc, yx⟩ := y
        simp only [Im.l, Im.t, Im.sl, Im.a, Im.xs, Im.c] at c0 c1 c2
        have HX : Hid (_ ∧ _ ∧ _) := ⟨hy, BA, hd⟩
        clear hc hy BA hd h1
        dsimp only [List.length_cons, List.length_nil]
        go_wp2_with fail
        refine (KD _ (Nat.le_refl _) hym).mono ?_
        rintro e w2 ⟨rfl, B2⟩
        have e0 := (B2.cell (p := ⟨bR, 0, none⟩) hR.lt).trans d0
        have e1 := (B2.cell (p := ⟨bR, 1, none⟩) hR.lt).trans d1
        have e2 := (B2.cell (p := ⟨bR, 2, none⟩) hR.lt).trans d2
        have hR2 : ItIn bR zeroI w2 := (B2.block _ hR.lt).trans hR
        have g0 := Lib.frozen_of_heap hR2 0
        have g1 := Lib.frozen_of_heap hR2 1
        have g2 := Lib.frozen_of_heap hR2 2
        have m0 := (B2.cell (p := ⟨b, o, none⟩) hb.2).trans c0
        have m1 := (B2.cell (p := ⟨b, o + 1, none⟩) hb.2).trans c1
        have m2 := (B2.cell (p := ⟨b, o + 2, none⟩) hb.2).trans c2
        obtain ⟨dp, hdp⟩ : ∃ q, deep (.mk yl yt ya yc yx) = q := ⟨_, rfl⟩
        rw [hdp]
        have hbne : b ≠ bR := by omega
        have HY : Hid (_ ∧ _) := ⟨hdp, B2⟩
        clear hdp B2 hym KD c0 c1 c2 d0 d1 d2 f0 f1 f2 hR
        cases dp with
        | true =>
          go_wp2
          obtain ⟨hy, BA, hd⟩ := HX.out
          obtain ⟨hdp, B2⟩ := HY.out
          refine bodyPost_ret (v := .tuple #[.agg #[.bool false, .string ⟨#[]⟩, .slice none 0 0], .int .i64 41]) (by simp [results, Tryd.results93, go_sem, e0, e1, e2]) rfl ⟨?_, zeroI, 41, rfl, .inr (.inr ⟨hs6, _, hd, .inl ⟨hdp, rfl, rfl⟩⟩), trivial⟩
          rw [HZ.out]
          exact below_set (below_set (below_set (belowStep BA (by rw [← HZ.out]; exact BA.size) B2) bR 0 (Nat.le_refl _) _) bR 1 (Nat.le_refl _) _) bR 2 (Nat.le_refl _) _
        | false =>
          go_wp2
          obtain ⟨hy, BA, hd⟩ := HX.out
          obtain ⟨hdp, B2⟩ := HY.out
          refine bodyPost_ret (v := .tuple #[.agg #[.bool yl, .string yt, .slice ya yx.length yc], .int .i64 0]) (by simp [results, Tryd.results93, go_sem, e0, e1, e2]) rfl ⟨?_, .mk yl yt ya yc yx, 0, rfl, .inr (.inr ⟨hs6, _, hd, .inr ⟨hdp, rfl, rfl⟩⟩), ?_⟩
          · rw [HZ.out]
            exact below_set (below_set (below_set (belowStep BA (by rw [← HZ.out]; exact BA.size) B2) bR 0 (Nat.le_refl _) _) bR 1 (Nat.le_refl _) _) bR 2 (Nat.le_refl _) _
          · refine inMem_of (p := fun b => bR + 1 ≤ b ∧ b < w1.heap.size) (fun b hb => by have := hb.2; have := B2.size; simp [World.setCell]; omega) _ (inP_of ?_ _ hy)
            intro b hb
            refine ⟨hb, fun j => ?_⟩
            rw [cell_ne _ _ _ _ _ (by show b ≠ bR; omega), cell_ne _ _ _ _ _ (by show b ≠ bR; omega), cell_ne _ _ _ _ _ (by show b ≠ bR; omega)]
            exact B2.cell (p := ⟨b, j, none⟩) hb.2
      · have l1 : ¬ (ys.length : Int) = 1 := by omega
        have l2 : ((ys.length : Int) == 1) = false := by rw [beq_eq_false_iff_ne]; exact l1
        clear hrow
        go_wp2
        refine bodyPost_ret (v := .tuple #[.agg #[.bool false, .string ⟨#[]⟩, .slice none 0 0], .int .i64 40]) (by simp [results, Tryd.results93, go_sem, d0, d1, d2]) rfl ⟨?_, zeroI, 40, rfl, .inr (.inl ⟨hs6, fun y h => ?_, rfl, rfl⟩), trivial⟩
        · rw [HZ.out]
          exact below_set (below_set (below_set BA bR 0 (Nat.le_refl _) _) bR 1 (Nat.le_refl _) _) bR 2 (Nat.le_refl _) _
        · have := Option.some.inj (hd.symm.trans h)
          have := congrArg List.length this
          rw [ers_map, List.length_map] at this
          exact h1 this
end Go.Proofs.YtmefanagpkbjeaaDoor
namespace Go.Proofs.YtmefanagpkbjeaaDoor
open Go.RowKit Go.Shelf Go.Sort

theorem num_size (n : Nat) : (numOf n).size = blen n := by8_size _ _
theorem num_at (n j : Nat) (h : j < blen n) : bt (numOf n) j = nAt n (blen n) j := bt_by8 _ _ (nAt_bd n _) j h
theorem num_8 (n : Nat) (hn : n < 18446744073709551616) : blen n ≤ 8 := blen_le n 8 hn
theorem blen_zero (n : Nat) : blen n = 0 ↔ n = 0 := by
  constructor
  · intro h
    by_cases h0 : n = 0
    · exact h0
    · rw [blen_pos n h0] at h
      cases h
  · intro h
    rw [h, blen_0]
theorem num_first (n : Nat) (h : 0 < blen n) : bt (numOf n) 0 ≠ 0 := by
  rw [num_at n 0 h]
  unfold nAt
  rw [Nat.sub_zero]
  have h1 := (div_pos n (blen n - 1)).2 (by omega)
  have h2 : ¬ 0 < n / 256 ^ blen n := fun h2 => by have := (div_pos n (blen n)).1 h2; omega
  have h3 : n / 256 ^ (blen n - 1) / 256 = n / 256 ^ blen n := by
    rw [Nat.div_div_eq_div_mul, ← Nat.pow_succ, show (blen n - 1).succ = blen n by omega]
  obtain ⟨q, hq⟩ : ∃ q, n / 256 ^ (blen n - 1) = q := ⟨_, rfl⟩
  rw [hq] at h1 h3 ⊢
  omega
theorem num_good (n : Nat) (hn : n < 18446744073709551616) : vGood (numOf n) = true := by
  unfold vGood
  rw [num_size, decide_eq_true (num_8 n hn), Bool.true_and]
  by_cases h : blen n = 0
  · rw [decide_eq_true h]; rfl
  · rw [decide_eq_true (num_first n (by omega)), Bool.or_true]
theorem num_val (n : Nat) : ∀ k, k ≤ blen n → val (numOf n) k = n / 256 ^ (blen n - k)
  | 0, _ => by
    show 0 = _
    have h2 : ¬ 0 < n / 256 ^ blen n := fun h2 => by have := (div_pos n (blen n)).1 h2; omega
    rw [Nat.sub_zero]
    obtain ⟨q, hq⟩ : ∃ q, n / 256 ^ blen n = q := ⟨_, rfl⟩
    rw [hq] at h2 ⊢
    omega
  | k + 1, h => by
    show val (numOf n) k * 256 + (bt (numOf n) k).toNat = _
    rw [num_val n k (by omega), num_at n k (by omega)]
    unfold nAt
    rw [show blen n - 1 - k = blen n - (k + 1) by omega, Int.toNat_natCast]
    have h3 : n / 256 ^ (blen n - (k + 1)) / 256 = n / 256 ^ (blen n - k) := by
      rw [Nat.div_div_eq_div_mul, ← Nat.pow_succ, show (blen n - (k + 1)).succ = blen n - k by omega]
    rw [← h3]
    omega
theorem num_back (n : Nat) (hn : n < 18446744073709551616) : vN (numOf n) = n ∧ vE (numOf n) = 0 := by
  unfold vN vE
  rw [num_good n hn, if_pos rfl, if_pos rfl, num_size, num_val n _ (Nat.le_refl _), Nat.sub_self, Nat.pow_zero, Nat.div_one]
  exact ⟨rfl, rfl⟩
theorem num_inj (n m : Nat) (hn : n < 18446744073709551616) (hm : m < 18446744073709551616) (h : numOf n = numOf m) : n = m := by
  rw [← (num_back n hn).1, h, (num_back m hm).1]
theorem blen_mono (n m : Nat) (h : n ≤ m) : blen n ≤ blen m := by
  by_cases h0 : blen n = 0
  · omega
  · have h1 := (div_pos n (blen n - 1)).2 (by omega)
    have h2 : 0 < m / 256 ^ (blen n - 1) := Nat.lt_of_lt_of_le h1 (Nat.div_le_div_right h)
    have := (div_pos m (blen n - 1)).1 h2
    omega
theorem val_div (s : ByteArray) (j : Nat) : ∀ k, val s (j + k) / 256 ^ k = val s j
  | 0 => by rw [Nat.pow_zero, Nat.div_one]; rfl
  | k + 1 => by
    have h := val_div s j k
    have hb := bt_bd s (j + k)
    show (val s (j + k) * 256 + (bt s (j + k)).toNat) / 256 ^ (k + 1) = _
    rw [Nat.pow_succ, Nat.mul_comm (256 ^ k) 256, ← Nat.div_div_eq_div_mul, show (val s (j + k) * 256 + (bt s (j + k)).toNat) / 256 = val s (j + k) by omega]
    exact h
theorem val_blen (s : ByteArray) (h : s.size = 0 ∨ bt s 0 ≠ 0) : blen (val s s.size) = s.size := by
  have hlt := val_lt s s.size
  have h1 : ¬ s.size < blen (val s s.size) := fun hc => by
    have := (div_pos _ _).2 hc
    rw [Nat.div_eq_of_lt hlt] at this
    omega
  by_cases h0 : s.size = 0
  · omega
  · have h2 := val_div s 1 (s.size - 1)
    rw [show 1 + (s.size - 1) = s.size by omega] at h2
    have hb := bt_bd s 0
    have h3 : val s 1 = (bt s 0).toNat := by show 0 * 256 + (bt s 0).toNat = _; omega
    have := (div_pos (val s s.size) (s.size - 1)).1 (by rw [h2, h3]; have := h.resolve_left h0; omega)
    omega
theorem val_num (s : ByteArray) (h : vE s = 0) : numOf (vN s) = s := by
  have hg : vGood s = true := by
    unfold vE at h
    split at h
    · assumption
    · cases h
  unfold vN
  rw [hg, if_pos rfl]
  have h2 : s.size = 0 ∨ bt s 0 ≠ 0 := by
    unfold vGood at hg
    simp only [Bool.and_eq_true, Bool.or_eq_true, decide_eq_true_eq] at hg
    exact hg.2
  have hb := val_blen s h2
  refine ext_bt _ _ (by rw [num_size, hb]) fun j hj => ?_
  rw [num_size, hb] at hj
  rw [num_at _ j (by rw [hb]; exact hj), hb]
  unfold nAt
  have h3 := val_div s (j + 1) (s.size - 1 - j)
  rw [show j + 1 + (s.size - 1 - j) = s.size by omega] at h3
  rw [h3]
  have hbd := bt_bd s j
  show (((val s j * 256 + (bt s j).toNat) % 256 : Nat) : Int) = _
  omega
theorem vN_lt (s : ByteArray) : vN s < 18446744073709551616 := by
  unfold vN
  split
  · rename_i hg
    unfold vGood at hg
    simp only [Bool.and_eq_true, decide_eq_true_eq] at hg
    refine Nat.lt_of_lt_of_le (val_lt s s.size) ?_
    have : 256 ^ s.size ≤ 256 ^ 8 := Nat.pow_le_pow_right (by decide) hg.1
    exact Nat.le_trans this (by decide)
  · decide
end Go.Proofs.YtmefanagpkbjeaaDoor
namespace Go.Proofs.YtmefanagpkbjeaaDoor
open Go.RowKit Go.Shelf Go.Sort

theorem bt_ext (s : ByteArray) (p j : Nat) (h : p + j < s.size) : bt (s.extract p s.size) j = bt s (p + j) := by
  have h1 : j < (s.extract p s.size).size := by rw [ByteArray.size_extract]; omega
  rw [← bt_get _ j h1, ← bt_get _ (p + j) h]
  congr 2
  exact ByteArray.getElem_extract h1
theorem ext_ext (s : ByteArray) (p a b : Nat) (h : p + b ≤ s.size) : (s.extract p s.size).extract a b = s.extract (p + a) (p + b) := by
  rw [ByteArray.extract_extract]
  congr 1
  omega
theorem ext_end (s : ByteArray) (p a : Nat) : (s.extract p s.size).extract a (s.extract p s.size).size = s.extract (p + a) s.size := by
  rw [ByteArray.extract_extract]
  congr 1
  rw [ByteArray.size_extract]
  omega
/-- The body behind a head's first byte, by places: where it begins and ends. -/
def atP (s : ByteArray) (q k : Nat) : Option (Nat × Nat) :=
  if k < 56 then (if s.size < q + k then none else some (q, q + k))
  else if s.size < q + (k - 55) then none
  else if vE (s.extract q (q + (k - 55))) = 0 ∧ 56 ≤ vN (s.extract q (q + (k - 55))) ∧ vN (s.extract q (q + (k - 55))) ≤ s.size - (q + (k - 55)) then some (q + (k - 55), q + (k - 55) + vN (s.extract q (q + (k - 55)))) else none
theorem cutAt_at (s : ByteArray) (q k : Nat) (hq : q ≤ s.size) : cutAt k (s.extract q s.size) = (atP s q k).map fun e => (e.1 - q, e.2 - e.1) := by
  have hz : (s.extract q s.size).size = s.size - q := by rw [ByteArray.size_extract]; omega
  unfold cutAt atP
  rw [hz]
  by_cases h1 : k < 56
  · rw [if_pos h1, if_pos h1]
    by_cases h2 : s.size - q < k
    · rw [if_pos h2, if_pos (by omega)]
      rfl
    · rw [if_neg h2, if_neg (by omega)]
      show _ = some (q - q, q + k - q)
      rw [Nat.sub_self, Nat.add_sub_cancel_left]
  · rw [if_neg h1, if_neg h1]
    by_cases h2 : s.size - q < k - 55
    · rw [if_pos h2, if_pos (show s.size < q + (k - 55) by omega)]
      rfl
    · rw [if_neg h2, if_neg (show ¬ s.size < q + (k - 55) by omega), ext_ext s q 0 (k - 55) (by omega), Nat.add_zero]
      obtain ⟨v, hv⟩ : ∃ v, vN (s.extract q (q + (k - 55))) = v := ⟨_, rfl⟩
      rw [hv]
      by_cases h3 : vE (s.extract q (q + (k - 55))) = 0 ∧ 56 ≤ v ∧ v ≤ s.size - q - (k - 55)
      · rw [if_pos h3, if_pos ⟨h3.1, h3.2.1, by omega⟩]
        show _ = some (q + (k - 55) - q, q + (k - 55) + v - (q + (k - 55)))
        rw [Nat.add_sub_cancel_left, Nat.add_sub_cancel_left]
      · rw [if_neg h3, if_neg (fun h => h3 ⟨h.1, h.2.1, by omega⟩)]
        rfl
theorem atP_le {s : ByteArray} {q k f t : Nat} (h : atP s q k = some (f, t)) : q ≤ f ∧ f ≤ t ∧ t ≤ s.size := by
  unfold atP at h
  split at h
  · split at h
    · cases h
    · cases h
      omega
  · split at h
    · cases h
    · split at h
      · cases h
        omega
      · cases h
/-- The item that begins at a place, by places: where its inside begins and ends, and whether it is a list. -/
def itP (s : ByteArray) (p : Nat) : Option (Nat × Nat × Bool) :=
  if bt s p < 128 then some (p, p + 1, false)
  else if bt s p < 192 then (match atP s (p + 1) ((bt s p).toNat - 128) with | none => none | some (f, t) => if bare (s.extract f t) then none else some (f, t, false))
  else (match atP s (p + 1) ((bt s p).toNat - 192) with | none => none | some (f, t) => some (f, t, true))
def itK (s : ByteArray) : Option (Nat × Nat × Bool) → Nat × ByteArray × ByteArray
  | none => (0, ⟨#[]⟩, ⟨#[]⟩)
  | some (f, t, l) => (if l then 2 else 1, s.extract f t, s.extract t s.size)
theorem cutK_at (s : ByteArray) (p : Nat) (hp : p < s.size) : cutK (s.extract p s.size) = itK s (itP s p) := by
  have h0 := bt_ext s p 0 (by omega)
  have h1 := ext_end s p 1
  rw [Nat.add_zero] at h0
  unfold cutK itP
  rw [h0, h1]
  by_cases c1 : bt s p < 128
  · rw [if_pos c1, if_pos c1, ext_ext s p 0 1 (by omega)]
    rfl
  · rw [if_neg c1, if_neg c1]
    by_cases c2 : bt s p < 192
    · rw [if_pos c2, if_pos c2, cutAt_at s (p + 1) _ (by omega)]
      cases ha : atP s (p + 1) ((bt s p).toNat - 128) with
      | none => rfl
      | some e =>
        obtain ⟨f, t⟩ := e
        obtain ⟨k1, k2, k3⟩ := atP_le ha
        simp only [Option.map_some]
        rw [show f - (p + 1) + (t - f) = t - (p + 1) by omega, ext_ext s (p + 1) _ _ (by omega), ext_end s (p + 1) _, show p + 1 + (f - (p + 1)) = f by omega, show p + 1 + (t - (p + 1)) = t by omega]
        by_cases hb : bare (s.extract f t) = true
        · rw [if_pos hb, if_pos hb]; rfl
        · rw [if_neg hb, if_neg hb]; rfl
    · rw [if_neg c2, if_neg c2, cutAt_at s (p + 1) _ (by omega)]
      cases ha : atP s (p + 1) ((bt s p).toNat - 192) with
      | none => rfl
      | some e =>
        obtain ⟨f, t⟩ := e
        obtain ⟨k1, k2, k3⟩ := atP_le ha
        simp only [Option.map_some]
        rw [show f - (p + 1) + (t - f) = t - (p + 1) by omega, ext_ext s (p + 1) _ _ (by omega), ext_end s (p + 1) _, show p + 1 + (f - (p + 1)) = f by omega, show p + 1 + (t - (p + 1)) = t by omega]
        rfl
end Go.Proofs.YtmefanagpkbjeaaDoor
namespace Go.Proofs.YtmefanagpkbjeaaDoor
open Go.RowKit Go.Shelf Go.Sort

theorem bt_ext2 (s : ByteArray) (f t : Nat) (h : f < t) (ht : t ≤ s.size) : bt (s.extract f t) 0 = bt s f := by
  have h1 : 0 < (s.extract f t).size := by rw [ByteArray.size_extract]; omega
  rw [← bt_get _ 0 h1, ← bt_get _ f (by omega)]
  congr 2
  exact ByteArray.getElem_extract h1
theorem bare_ext (s : ByteArray) (f t : Nat) (ht : t ≤ s.size) : bare (s.extract f t) = (decide (t - f = 1) && decide (bt s f < 128)) := by
  unfold bare
  rw [ByteArray.size_extract, Nat.min_eq_left ht]
  by_cases h : t - f = 1
  · rw [bt_ext2 s f t (by omega) ht]
  · rw [decide_eq_false h, Bool.false_and, Bool.false_and]
/-- What measure answers. -/
def MsR (s : ByteArray) (p : Nat) (f t : Int) (l ok : Bool) : Prop := (ok = false ∧ (s.size ≤ p ∨ itP s p = none)) ∨ (ok = true ∧ p < s.size ∧ ∃ f' t' : Nat, f = f' ∧ t = t' ∧ itP s p = some (f', t', l))
def MsP (s : ByteArray) (p : Nat) (e : Ending) : Prop := ∃ f t l ok, e = .returned (.tuple #[.int .i64 f, .int .i64 t, .bool l, .bool ok]) ∧ MsR s p f t l ok
theorem itP_list (s : ByteArray) (p : Nat) (h : ¬ bt s p < 192) : itP s p = (match atP s (p + 1) ((bt s p).toNat - 192) with | none => none | some (f, t) => some (f, t, true)) := by
  unfold itP
  rw [if_neg (by omega), if_neg h]
  try (cases atP s (p + 1) ((bt s p).toNat - 192) <;> rfl)
theorem itP_text (s : ByteArray) (p : Nat) (h : ¬ bt s p < 128) (h2 : bt s p < 192) : itP s p = (match atP s (p + 1) ((bt s p).toNat - 128) with | none => none | some (f, t) => if bare (s.extract f t) then none else some (f, t, false)) := by
  unfold itP
  rw [if_neg h, if_pos h2]
  try (cases atP s (p + 1) ((bt s p).toNat - 128) <;> rfl)
theorem atP_short (s : ByteArray) (q k : Nat) (h : k < 56) : atP s q k = if s.size < q + k then none else some (q, q + k) := by
  unfold atP
  rw [if_pos h]
theorem atP_long (s : ByteArray) (q k : Nat) (h : ¬ k < 56) : atP s q k = if s.size < q + (k - 55) then none
  else if vE (s.extract q (q + (k - 55))) = 0 ∧ 56 ≤ vN (s.extract q (q + (k - 55))) ∧ vN (s.extract q (q + (k - 55))) ≤ s.size - (q + (k - 55)) then some (q + (k - 55), q + (k - 55) + vN (s.extract q (q + (k - 55)))) else none := by
  unfold atP
  rw [if_neg h]

set_option maxRecDepth 20000 in
set_option maxHeartbeats 2000000 in
theorem rmeasure_any (s : ByteArray) (p : Nat) (hs : s.size < 1000000) (hp : p ≤ s.size) (w : World) :
    Calls Tryd.prog 126 #[.string s, .int .i64 p] w fun e w' => MsP s p e ∧ Below w.heap.size w w' := by
  have BW : Below w.heap.size w w := Below.refl _ _
  by_cases h0 : s.size ≤ p
  · have l0 : (s.size : Int) ≤ p := by omega
    go_enter Tryd.func126, Tryd.ntmps126
    go_wp2
    refine bodyPost_ret (v := .tuple #[.int .i64 0, .int .i64 0, .bool false, .bool false]) (by simp [results, Tryd.results126, go_sem]) rfl ⟨⟨_, _, _, _, rfl, .inl ⟨rfl, .inl h0⟩⟩, BW⟩
  · have hlt : p < s.size := by omega
    have l0 : ¬ (s.size : Int) ≤ p := by omega
    have l1 : (p : Int) < s.size := by omega
    have g0 := bt_get s p hlt
    have hu := bt_bd s p
    have HL := itP_list s p
    have HT := itP_text s p
    have HB : Hid (bt s p < 128 → itP s p = some (p, p + 1, false)) := fun h => by unfold itP; rw [if_pos h]
    obtain ⟨i, hi⟩ : ∃ i, bt s p = i := ⟨_, rfl⟩
    rw [hi] at g0 hu HL HT HB
    clear hi
    obtain ⟨u, rfl⟩ : ∃ u : Nat, i = u := ⟨i.toNat, by omega⟩
    rw [Int.toNat_natCast] at HL HT
    have wu : IntKind.i64.wrap (u : Int) = u := by rw [IntKind.wrap_i64]; omega
    have HLT : Hid _ := And.intro HL HT
    clear HL HT
    go_enter Tryd.func126, Tryd.ntmps126
    by_cases h1 : (u : Int) < 128
    · have c1 : ¬ (192 : Int) ≤ u := by omega
      go_wp2
      refine bodyPost_ret (v := .tuple #[.int .i64 p, .int .i64 (p + 1), .bool false, .bool true]) (by simp [results, Tryd.results126, go_sem]) rfl ⟨⟨_, _, _, _, rfl, .inr ⟨rfl, hlt, p, p + 1, rfl, by omega, HB.out h1⟩⟩, BW⟩
    · clear HB
      by_cases h2 : (192 : Int) ≤ u
      · obtain ⟨k, hk⟩ : ∃ k, u - 192 = k := ⟨_, rfl⟩
        have wk : (u : Int) - 192 = k := by omega
        have wk1 : IntKind.i64.wrap (k : Int) = k := by rw [IntKind.wrap_i64]; omega
        have HI := HLT.out.1 (by omega)
        rw [hk] at HI
        clear HLT
        by_cases h3 : (k : Int) < 56
        · rw [atP_short s (p + 1) k (by omega)] at HI
          by_cases h4 : s.size < p + 1 + k
          · have c4 : ¬ ((p : Int) + 1 + k ≤ s.size) := by omega
            rw [if_pos h4] at HI
            have HX : Hid _ := HI
            clear HI
            go_wp2
            refine bodyPost_ret (v := .tuple #[.int .i64 (p + 1), .int .i64 (p + 1 + k), .bool true, .bool false]) (by simp [results, Tryd.results126, go_sem]) rfl ⟨⟨_, _, _, _, rfl, .inl ⟨rfl, .inr HX.out⟩⟩, BW⟩
          · have c4 : (p : Int) + 1 + k ≤ s.size := by omega
            rw [if_neg h4] at HI
            have HX : Hid _ := HI
            clear HI
            go_wp2
            refine bodyPost_ret (v := .tuple #[.int .i64 (p + 1), .int .i64 (p + 1 + k), .bool true, .bool true]) (by simp [results, Tryd.results126, go_sem]) rfl ⟨⟨_, _, _, _, rfl, .inr ⟨rfl, hlt, _, _, by omega, by omega, HX.out⟩⟩, BW⟩
        · have h3' : ¬ k < 56 := by omega
          rw [atP_long s (p + 1) k (by omega)] at HI
          obtain ⟨d, hd⟩ : ∃ d, k - 55 = d := ⟨_, rfl⟩
          rw [hd] at HI
          obtain ⟨q, hq⟩ : ∃ q, p + 1 + d = q := ⟨_, rfl⟩
          rw [hq] at HI
          have wq : (p : Int) + 1 + k - 55 = q := by omega
          have wp1 : ((p : Int) + 1).toNat = p + 1 := by omega
          by_cases h4 : s.size < q
          · have c4 : (s.size : Int) < q := by omega
            rw [if_pos h4] at HI
            have HX : Hid _ := HI
            clear HI
            go_wp2
            refine bodyPost_ret (v := .tuple #[.int .i64 0, .int .i64 0, .bool false, .bool false]) (by simp [results, Tryd.results126, go_sem]) rfl ⟨⟨_, _, _, _, rfl, .inl ⟨rfl, .inr HX.out⟩⟩, BW⟩
          · have c4 : ¬ (s.size : Int) < q := by omega
            rw [if_neg h4] at HI
            have KV := rvalue_any (s.extract (p + 1) q)
            have hE := vE_or (s.extract (p + 1) q)
            obtain ⟨v, hv⟩ : ∃ v, vN (s.extract (p + 1) q) = v := ⟨_, rfl⟩
            obtain ⟨e, he⟩ : ∃ e, vE (s.extract (p + 1) q) = e := ⟨_, rfl⟩
            rw [hv, he] at HI KV
            rw [he] at hE
            clear hv he
            have c5 : (p : Int) + 1 ≤ q := by omega
            have c6 : p + 1 ≤ q := by omega
            have HX : Hid _ := HI
            clear HI
            go_wp2_with fail
            refine (KV _).mono ?_
            rintro e0 w1 ⟨rfl, B1⟩
            replace BW := B1
            clear B1 KV
            obtain ⟨r, hr⟩ : ∃ r, s.size - q = r := ⟨_, rfl⟩
            have wr : (s.size : Int) - q = r := by omega
            rw [hr] at HX
            rcases hE with rfl | rfl
            · by_cases h5 : v < 56
              · have c7 : (v : Int) < 56 := by omega
                go_wp2
                refine bodyPost_ret (v := .tuple #[.int .i64 0, .int .i64 0, .bool false, .bool false]) (by simp [results, Tryd.results126, go_sem]) rfl ⟨⟨_, _, _, _, rfl, .inl ⟨rfl, .inr (HX.out.trans (by rw [if_neg (fun h => by omega)]))⟩⟩, BW⟩
              · have c7 : ¬ (v : Int) < 56 := by omega
                by_cases h6 : r < v
                · have c8 : (r : Int) < v := by omega
                  go_wp2
                  refine bodyPost_ret (v := .tuple #[.int .i64 0, .int .i64 0, .bool false, .bool false]) (by simp [results, Tryd.results126, go_sem]) rfl ⟨⟨_, _, _, _, rfl, .inl ⟨rfl, .inr (HX.out.trans (by rw [if_neg (fun h => by omega)]))⟩⟩, BW⟩
                · have c8 : ¬ (r : Int) < v := by omega
                  go_wp2
                  refine bodyPost_ret (v := .tuple #[.int .i64 q, .int .i64 (q + v), .bool true, .bool true]) (by simp [results, Tryd.results126, go_sem]) rfl ⟨⟨_, _, _, _, rfl, .inr ⟨rfl, hlt, q, q + v, rfl, by omega, HX.out.trans (by rw [if_pos ⟨by trivial, by omega, by omega⟩])⟩⟩, BW⟩
            · go_wp2
              refine bodyPost_ret (v := .tuple #[.int .i64 0, .int .i64 0, .bool false, .bool false]) (by simp [results, Tryd.results126, go_sem]) rfl ⟨⟨_, _, _, _, rfl, .inl ⟨rfl, .inr (HX.out.trans (by rw [if_neg (fun h => by omega)]))⟩⟩, BW⟩
      · obtain ⟨k, hk⟩ : ∃ k, u - 128 = k := ⟨_, rfl⟩
        have wk : (u : Int) - 128 = k := by omega
        have wk1 : IntKind.i64.wrap (k : Int) = k := by rw [IntKind.wrap_i64]; omega
        have HI := HLT.out.2 (by omega) (by omega)
        rw [hk] at HI
        clear HLT
        by_cases h3 : (k : Int) < 56
        · rw [atP_short s (p + 1) k (by omega)] at HI
          by_cases h4 : s.size < p + 1 + k
          · have c4 : ¬ ((p : Int) + 1 + k ≤ s.size) := by omega
            rw [if_pos h4] at HI
            have HX : Hid _ := HI
            clear HI
            by_cases h5 : k = 1
            · have c5 : (k : Int) = 1 := by omega
              go_wp2
              refine bodyPost_ret (v := .tuple #[.int .i64 (p + 1), .int .i64 (p + 1 + 1), .bool false, .bool false]) (by simp [results, Tryd.results126, go_sem]) rfl ⟨⟨_, _, _, _, rfl, .inl ⟨rfl, .inr HX.out⟩⟩, BW⟩
            · have c5 : ((k : Int) == 1) = false := by rw [beq_eq_false_iff_ne]; omega
              go_wp2
              refine bodyPost_ret (v := .tuple #[.int .i64 (p + 1), .int .i64 (p + 1 + k), .bool false, .bool false]) (by simp [results, Tryd.results126, go_sem]) rfl ⟨⟨_, _, _, _, rfl, .inl ⟨rfl, .inr HX.out⟩⟩, BW⟩
          · have c4 : (p : Int) + 1 + k ≤ s.size := by omega
            rw [if_neg h4] at HI
            dsimp only at HI
            rw [bare_ext s (p + 1) (p + 1 + k) (by omega), Nat.add_sub_cancel_left] at HI
            have HX : Hid _ := HI
            clear HI
            by_cases h5 : k = 1
            · subst h5
              have hl1 : p + 1 < s.size := by omega
              have c6 : (p : Int) + 1 < s.size := by omega
              have c7 : (p : Int) + 1 + 1 ≤ s.size := by omega
              have g1 := bt_get s (p + 1) hl1
              obtain ⟨y, hy⟩ : ∃ y, bt s (p + 1) = y := ⟨_, rfl⟩
              rw [hy] at g1 HX
              clear hy
              by_cases h6 : y < 128
              · go_wp2
                refine bodyPost_ret (v := .tuple #[.int .i64 (p + 1), .int .i64 (p + 1 + 1), .bool false, .bool false]) (by simp [results, Tryd.results126, go_sem]) rfl ⟨⟨_, _, _, _, rfl, .inl ⟨rfl, .inr (HX.out.trans (by rw [decide_eq_true h6]; simp))⟩⟩, BW⟩
              · go_wp2
                refine bodyPost_ret (v := .tuple #[.int .i64 (p + 1), .int .i64 (p + 1 + 1), .bool false, .bool true]) (by simp [results, Tryd.results126, go_sem]) rfl ⟨⟨_, _, _, _, rfl, .inr ⟨rfl, hlt, p + 1, p + 1 + 1, by omega, by omega, HX.out.trans (by rw [decide_eq_false (show ¬ y < 128 by omega)]; simp)⟩⟩, BW⟩
            · have c5 : ((k : Int) == 1) = false := by rw [beq_eq_false_iff_ne]; omega
              go_wp2
              refine bodyPost_ret (v := .tuple #[.int .i64 (p + 1), .int .i64 (p + 1 + k), .bool false, .bool true]) (by simp [results, Tryd.results126, go_sem]) rfl ⟨⟨_, _, _, _, rfl, .inr ⟨rfl, hlt, p + 1, p + 1 + k, by omega, by omega, HX.out.trans (by rw [decide_eq_false h5]; rfl)⟩⟩, BW⟩
        · have h3' : ¬ k < 56 := by omega
          rw [atP_long s (p + 1) k (by omega)] at HI
          obtain ⟨d, hd⟩ : ∃ d, k - 55 = d := ⟨_, rfl⟩
          rw [hd] at HI
          obtain ⟨q, hq⟩ : ∃ q, p + 1 + d = q := ⟨_, rfl⟩
          rw [hq] at HI
          have wq : (p : Int) + 1 + k - 55 = q := by omega
          have wp1 : ((p : Int) + 1).toNat = p + 1 := by omega
          by_cases h4 : s.size < q
          · have c4 : (s.size : Int) < q := by omega
            rw [if_pos h4] at HI
            have HX : Hid _ := HI
            clear HI
            go_wp2
            refine bodyPost_ret (v := .tuple #[.int .i64 0, .int .i64 0, .bool false, .bool false]) (by simp [results, Tryd.results126, go_sem]) rfl ⟨⟨_, _, _, _, rfl, .inl ⟨rfl, .inr HX.out⟩⟩, BW⟩
          · have c4 : ¬ (s.size : Int) < q := by omega
            rw [if_neg h4] at HI
            have KV := rvalue_any (s.extract (p + 1) q)
            have hE := vE_or (s.extract (p + 1) q)
            obtain ⟨v, hv⟩ : ∃ v, vN (s.extract (p + 1) q) = v := ⟨_, rfl⟩
            obtain ⟨e, he⟩ : ∃ e, vE (s.extract (p + 1) q) = e := ⟨_, rfl⟩
            rw [hv, he] at HI KV
            rw [he] at hE
            clear hv he
            have c5 : (p : Int) + 1 ≤ q := by omega
            have c6 : p + 1 ≤ q := by omega
            have HX : Hid _ := HI
            clear HI
            go_wp2_with fail
            refine (KV _).mono ?_
            rintro e0 w1 ⟨rfl, B1⟩
            replace BW := B1
            clear B1 KV
            obtain ⟨r, hr⟩ : ∃ r, s.size - q = r := ⟨_, rfl⟩
            have wr : (s.size : Int) - q = r := by omega
            rw [hr] at HX
            rcases hE with rfl | rfl
            · by_cases h5 : v < 56
              · have c7 : (v : Int) < 56 := by omega
                go_wp2
                refine bodyPost_ret (v := .tuple #[.int .i64 0, .int .i64 0, .bool false, .bool false]) (by simp [results, Tryd.results126, go_sem]) rfl ⟨⟨_, _, _, _, rfl, .inl ⟨rfl, .inr (HX.out.trans (by rw [if_neg (fun h => by omega)]))⟩⟩, BW⟩
              · have c7 : ¬ (v : Int) < 56 := by omega
                by_cases h6 : r < v
                · have c8 : (r : Int) < v := by omega
                  go_wp2
                  refine bodyPost_ret (v := .tuple #[.int .i64 0, .int .i64 0, .bool false, .bool false]) (by simp [results, Tryd.results126, go_sem]) rfl ⟨⟨_, _, _, _, rfl, .inl ⟨rfl, .inr (HX.out.trans (by rw [if_neg (fun h => by omega)]))⟩⟩, BW⟩
                · have c8 : ¬ (r : Int) < v := by omega
                  go_wp2
                  refine bodyPost_ret (v := .tuple #[.int .i64 q, .int .i64 (q + v), .bool false, .bool true]) (by simp [results, Tryd.results126, go_sem]) rfl ⟨⟨_, _, _, _, rfl, .inr ⟨rfl, hlt, q, q + v, rfl, by omega, HX.out.trans (by rw [if_pos ⟨by trivial, by omega, by omega⟩]; show (if bare (s.extract q (q + v)) then _ else _) = _; rw [bare_ext s q (q + v) (by omega), decide_eq_false (by omega), Bool.false_and]; rfl)⟩⟩, BW⟩
            · go_wp2
              refine bodyPost_ret (v := .tuple #[.int .i64 0, .int .i64 0, .bool false, .bool false]) (by simp [results, Tryd.results126, go_sem]) rfl ⟨⟨_, _, _, _, rfl, .inl ⟨rfl, .inr (HX.out.trans (by rw [if_neg (fun h => by omega)]))⟩⟩, BW⟩
end Go.Proofs.YtmefanagpkbjeaaDoor
namespace Go.Proofs.YtmefanagpkbjeaaDoor
open Go.RowKit Go.Shelf Go.Sort

/-- Deeper than so much? -/
def dpr : Nat → Im → Bool
  | 0, _ => true
  | m + 1, x => x.xs.any (dpr m)
theorem any_take (xs : List Im) (g : Im → Bool) (k : Nat) (y : Im) (h : xs[k]? = some y) : (xs.take (k + 1)).any g = ((xs.take k).any g || g y) := by
  rw [List.take_add_one, h, List.any_append]
  simp

set_option maxRecDepth 20000 in
set_option maxHeartbeats 2000000 in
theorem rdeep_any : ∀ (m : Nat) (x : Im), m < 100 → cnt x < 100000000000000000 → ∀ (n : Nat) (w : World), n ≤ w.heap.size → inMem n w x →
    Calls Tryd.prog 89 #[x.val, .int .i64 m] w fun e w' => e = .returned (.bool (dpr m x)) ∧ Below w.heap.size w w'
  | 0, x, _, _, n, w, hn, hm => by
    obtain ⟨l, t, a, c, xs⟩ := x
    show Calls Tryd.prog 89 #[.agg #[.bool l, .string t, .slice a xs.length c], .int .i64 0] w _
    go_enter Tryd.func89, Tryd.ntmps89
    go_wp2
    go_ret
    exact ⟨rfl, (Below.refl _ w).alloc (Nat.le_refl _) _⟩
  | m + 1, x, hm100, hcnt, n, w, hn, hm => by
    have IH := fun (j : Nat) (y : Im) (hy : x.xs[j]? = some y) (w : World) hn hm => rdeep_any m y (by omega) (by have := cnts_at x.xs j y hy; rw [cnt_eq] at hcnt; omega) n w hn hm
    rw [inMem_eq] at hm
    have hl := len_cnts x.xs
    rw [cnt_eq] at hcnt
    obtain ⟨l, t, a, c, xs⟩ := x
    replace hm : rowMem n w a 0 xs := hm
    replace hl : xs.length ≤ cnts xs := hl
    replace hcnt : cnts xs + 1 < 100000000000000000 := hcnt
    show Calls Tryd.prog 89 #[.agg #[.bool l, .string t, .slice a xs.length c], .int .i64 ((m + 1 : Nat) : Int)] w fun e w' => e = .returned (.bool (xs.any (dpr m))) ∧ _
    have IH' : ∀ (j : Nat) (y : Im), xs[j]? = some y → ∀ w : World, n ≤ w.heap.size → inMem n w y → Calls Tryd.prog 89 #[y.val, .int .i64 m] w fun e w' => e = .returned (.bool (dpr m y)) ∧ Below w.heap.size w w' := IH
    clear IH
    have l0 : ¬ ((m + 1 : Nat) : Int) < 1 := by omega
    have wm : ((m + 1 : Nat) : Int) - 1 = m := by omega
    obtain ⟨M, hM⟩ : ∃ M, m + 1 = M := ⟨_, rfl⟩
    rw [hM] at l0 wm ⊢
    clear hM
    go_enter Tryd.func89, Tryd.ntmps89
    go_wp2_with fail
    have hbx : ItIn w.heap.size (.mk l t a c xs) (w.alloc (.cells #[.bool l, .string t, .slice a xs.length c] 70)) := World.alloc_heap_new w _
    refine wpOf (fun W => Below w.heap.size w W ∧ ItIn w.heap.size (.mk l t a c xs) W) ⟨(Below.refl _ w).alloc (Nat.le_refl _) _, hbx⟩ ?_
    rintro w1 ⟨B1, hb1⟩
    clear hbx
    obtain ⟨z, hz⟩ : ∃ z, w.heap.size = z := ⟨_, rfl⟩
    have HZ : Hid (w.heap.size = z) := hz
    rw [hz] at B1 hb1 hn ⊢
    obtain ⟨N, hN⟩ : ∃ N, xs.length = N := ⟨_, rfl⟩
    rw [hN] at hl ⊢
    go_loopg [5] N (fun gk i wr => ∃ k : Nat, k + gk = N ∧ i = .int .i64 k ∧ (xs.take k).any (dpr m) = false ∧ Below z w wr ∧ ItIn z (.mk l t a c xs) wr)
    case atStart => exact ⟨0, by omega, rfl, rfl, B1, hb1⟩
    case round =>
      obtain ⟨k, hk, rfl, hany, BW, hbx⟩ := hrel
      have hzr := hbx.lt
      have d2 : wr.cell? ⟨z, 2, none⟩ = some (.slice a N c) := by rw [Lib.cell_of_heap hbx, ← hN]; rfl
      by_cases hlt : k < N
      · have l1 : (k : Int) < N := by omega
        obtain ⟨y, hy⟩ : ∃ y, xs[k]? = some y := ⟨xs[k]'(by omega), List.getElem?_eq_getElem (by omega)⟩
        obtain ⟨⟨b, o, hb, rfl, c0, c1, c2⟩, hy2⟩ := row_at xs 0 hm k y hy
        have hy3 := inMem_below (by rw [hz]; exact hn) (BW.mono hn) y hy2
        have hbz : b < z := by omega
        replace c0 := (BW.cell (p := ⟨b, _, none⟩) hbz).trans c0
        replace c1 := (BW.cell (p := ⟨b, _, none⟩) hbz).trans c1
        replace c2 := (BW.cell (p := ⟨b, _, none⟩) hbz).trans c2
        obtain ⟨p, hp⟩ : ∃ p, o + 3 * k = p := ⟨_, rfl⟩
        rw [show o + 3 * (0 + k) = p by omega] at c0 c1 c2
        have hp2 : o + k * 3 = p := by omega
        have KS := IH' k y hy
        have hst := any_take xs (dpr m) k y hy
        rw [hany, Bool.false_or] at hst
        obtain ⟨dy, hdy⟩ : ∃ q, dpr m y = q := ⟨_, rfl⟩
        rw [hdy] at KS hst
        have wk : IntKind.i64.wrap ((k : Int) + 1) = ((k + 1 : Nat) : Int) := by rw [IntKind.wrap_i64]; omega
        have HD : Hid _ := hdy
        clear hdy
        have hmem : Hid (y ∈ xs) := List.mem_of_getElem? hy
        obtain ⟨yl, yt, ya, yc, yx⟩ := y
        simp only [Im.l, Im.t, Im.sl, Im.a, Im.xs, Im.c] at c0 c1 c2
        have HX : Hid (_ ∧ _ ∧ _ ∧ _) := ⟨hst, BW, hbx, hany⟩
        clear hst hany
        go_wp2_with fail
        refine (KS _ (by omega) hy3).mono ?_
        rintro e w3 ⟨rfl, B3⟩
        clear KS hy3 hy2 c0 c1 c2
        cases dy with
        | true =>
          go_wp2
          go_ret
          refine ⟨?_, by rw [hz]; exact belowStep HX.out.2.1 (by omega) B3⟩
          rw [show xs.any (dpr m) = true from List.any_eq_true.2 ⟨_, hmem.out, HD.out⟩]
          rfl
        | false =>
          go_wp2
          go_roundg (gk - 1)
          case measure => omega
          case rel =>
            obtain ⟨hst, BW, hbx, _⟩ := HX.out
            exact ⟨k + 1, by omega, by first | rfl | (congr 1; omega), hst, belowStep BW (by omega) B3, (B3.block z hzr).trans hbx⟩
      · have hk2 : k = N := by omega
        have l1 : ¬ (k : Int) < N := by omega
        rw [hk2, ← hN, List.take_length] at hany
        have HX : Hid _ := hany
        clear hany
        go_wp2
        go_ret
        exact ⟨by rw [HX.out]; rfl, BW⟩
end Go.Proofs.YtmefanagpkbjeaaDoor
namespace Go.Proofs.YtmefanagpkbjeaaDoor
open Go.RowKit Go.Shelf Go.Sort

theorem itP_le {s : ByteArray} {p f t : Nat} {l : Bool} (hp : p < s.size) (h : itP s p = some (f, t, l)) : p ≤ f ∧ f ≤ t ∧ t ≤ s.size ∧ p < t ∧ (l = true → p < f) := by
  unfold itP at h
  split at h
  · cases h
    exact ⟨Nat.le_refl _, by omega, by omega, by omega, nofun⟩
  · split at h
    · cases ha : atP s (p + 1) ((bt s p).toNat - 128) with
      | none => rw [ha] at h; cases h
      | some e =>
        obtain ⟨a, b⟩ := e
        have := atP_le ha
        rw [ha] at h
        dsimp only at h
        split at h
        · cases h
        · cases h
          exact ⟨by omega, by omega, by omega, by omega, nofun⟩
    · cases ha : atP s (p + 1) ((bt s p).toNat - 192) with
      | none => rw [ha] at h; cases h
      | some e =>
        obtain ⟨a, b⟩ := e
        have := atP_le ha
        rw [ha] at h
        cases h
        exact ⟨by omega, by omega, by omega, by omega, fun _ => by omega⟩
theorem ext0_size (s : ByteArray) (e : Nat) (h : e ≤ s.size) : (s.extract 0 e).size = e := by rw [ByteArray.size_extract]; omega
theorem ext0_ext (s : ByteArray) (e a b : Nat) (h : b ≤ e) : (s.extract 0 e).extract a b = s.extract a b := by
  rw [ByteArray.extract_extract]
  congr 1 <;> omega
/-- What the reference's take answers: the item that begins at a place, and the place behind it. -/
def tkR (F : Nat) (s : ByteArray) (p e : Nat) : Option (It × Nat) :=
  if e ≤ p then none else match itP (s.extract 0 e) p with
  | none => none
  | some (f, t, l) => (one F (if l then 2 else 1, s.extract f t)).map fun x => (x, t)
theorem comb_cons (g : Nat × ByteArray → Option It) (e : Nat × ByteArray) (r : List (Nat × ByteArray)) : comb g (e :: r) = match g e, comb g r with
    | some x, some l => some (x :: l)
    | _, _ => none := rfl
theorem ps_itP (s : ByteArray) (p e : Nat) (he : e ≤ s.size) (hp : p < e) : ps (s.extract p e) = match itP (s.extract 0 e) p with
    | none => [(0, ⟨#[]⟩)]
    | some (f, t, l) => (if l then 2 else 1, s.extract f t) :: ps (s.extract t e) := by
  have hz : (s.extract p e).size ≠ 0 := by rw [ByteArray.size_extract]; omega
  have h0 := ext0_size s e he
  have hk := cutK_at (s.extract 0 e) p (by rw [h0]; exact hp)
  rw [h0, ext0_ext s e p e (Nat.le_refl _)] at hk
  rw [ps_eq, if_neg hz, hk]
  cases hi : itP (s.extract 0 e) p with
  | none => rfl
  | some q =>
    obtain ⟨f, t, l⟩ := q
    have hb := itP_le (by rw [h0]; exact hp) hi
    rw [h0] at hb
    cases l
    · show (if (1 : Nat) = 0 then _ else (1, (s.extract 0 e).extract f t) :: ps ((s.extract 0 e).extract t (s.extract 0 e).size)) = _
      rw [if_neg (by decide), h0, ext0_ext s e f t hb.2.2.1, ext0_ext s e t e (Nat.le_refl _)]
      rfl
    · show (if (2 : Nat) = 0 then _ else (2, (s.extract 0 e).extract f t) :: ps ((s.extract 0 e).extract t (s.extract 0 e).size)) = _
      rw [if_neg (by decide), h0, ext0_ext s e f t hb.2.2.1, ext0_ext s e t e (Nat.le_refl _)]
      rfl
theorem tk_none {F : Nat} {s : ByteArray} {p e : Nat} (he : e ≤ s.size) (hp : p < e) (h : tkR F s p e = none) : comb (one F) (ps (s.extract p e)) = none := by
  rw [ps_itP s p e he hp]
  unfold tkR at h
  rw [if_neg (by omega)] at h
  cases hi : itP (s.extract 0 e) p with
  | none => rfl
  | some q =>
    obtain ⟨f, t, l⟩ := q
    rw [hi] at h
    dsimp only at h ⊢
    rw [comb_cons]
    cases ho : one F (if l = true then 2 else 1, s.extract f t) with
    | none => rfl
    | some x => rw [ho] at h; cases h
theorem tk_some {F : Nat} {s : ByteArray} {p e t : Nat} {x : It} (he : e ≤ s.size) (h : tkR F s p e = some (x, t)) : p < t ∧ t ≤ e ∧ comb (one F) (ps (s.extract p e)) = (comb (one F) (ps (s.extract t e))).map (x :: ·) := by
  unfold tkR at h
  by_cases hp : e ≤ p
  · rw [if_pos hp] at h; cases h
  · rw [if_neg hp] at h
    rw [ps_itP s p e he (by omega)]
    have h0 := ext0_size s e he
    cases hi : itP (s.extract 0 e) p with
    | none => rw [hi] at h; cases h
    | some q =>
      obtain ⟨f, t', l⟩ := q
      have hb := itP_le (by rw [h0]; omega) hi
      rw [h0] at hb
      rw [hi] at h
      dsimp only at h ⊢
      cases ho : one F (if l = true then 2 else 1, s.extract f t') with
      | none => rw [ho] at h; cases h
      | some y =>
        rw [ho] at h
        cases h
        refine ⟨hb.2.2.2.1, hb.2.2.1, ?_⟩
        rw [comb_cons, ho]
        cases comb (one F) (ps (s.extract t e)) <;> rfl
theorem ps_none (s : ByteArray) (p e : Nat) (h : e ≤ p) : ps (s.extract p e) = [] := by
  rw [ps_eq, if_pos (by rw [ByteArray.size_extract]; omega)]
theorem decF_succ (F : Nat) (s : ByteArray) : decF (F + 1) s = comb (one F) (ps s) := rfl
theorem ext_all (s : ByteArray) : s.extract 0 s.size = s := by
  exact ByteArray.extract_zero_size
/-- What the whole of take says of all bytes. -/
theorem tk_all (F : Nat) (s : ByteArray) (y : It) : decF (F + 1) s = some [y] ↔ tkR F s 0 s.size = some (y, s.size) := by
  rw [decF_succ]
  by_cases hz : s.size = 0
  · have e1 : ps s = [] := by rw [ps_eq, if_pos hz]
    rw [e1]
    unfold tkR
    rw [if_pos (by omega)]
    constructor <;> intro h <;> cases h
  · cases ht : tkR F s 0 s.size with
    | none =>
      have := tk_none (Nat.le_refl _) (by omega) ht
      rw [ext_all] at this
      rw [this]
      constructor <;> intro h <;> cases h
    | some q =>
      obtain ⟨x, t⟩ := q
      obtain ⟨h1, h2, h3⟩ := tk_some (Nat.le_refl _) ht
      rw [ext_all] at h3
      rw [h3]
      by_cases h4 : t = s.size
      · subst h4
        rw [ps_none s s.size s.size (Nat.le_refl _)]
        show some [x] = some [y] ↔ some (x, s.size) = some (y, s.size)
        constructor
        · intro h; cases h; rfl
        · intro h; cases h; rfl
      · constructor
        · intro h
          exfalso
          have h5 := ps_itP s t s.size (Nat.le_refl _) (by omega)
          cases hc : comb (one F) (ps (s.extract t s.size)) with
          | none => rw [hc] at h; cases h
          | some l =>
            rw [hc] at h
            cases h
            have h6 : ps (s.extract t s.size) ≠ [] := by
              rw [h5]
              cases itP (s.extract 0 s.size) t with
              | none => exact List.cons_ne_nil _ _
              | some q => exact List.cons_ne_nil _ _
            cases hq : ps (s.extract t s.size) with
            | nil => exact h6 hq
            | cons a r =>
              rw [hq, comb_cons] at hc
              cases h7 : one F a <;> cases h8 : comb (one F) r <;> rw [h7, h8] at hc <;> cases hc
        · intro h
          cases h
          exact absurd rfl h4
end Go.Proofs.YtmefanagpkbjeaaDoor
