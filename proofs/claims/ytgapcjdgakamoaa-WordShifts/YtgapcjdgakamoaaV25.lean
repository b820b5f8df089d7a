/- What the reference's Extend and Byte do at this translation: for all words, whatever the memory. -/
import Derived.Test.YtgapcjdgakamoaaV24
import Derived.Test.YtgapcjdgakamoaaV20
namespace Go.Proofs.Ytgapcjdgakamoaa
open Go.RowKit Go.Shelf Go.Sort

theorem bit_mod (X : Int) (j : Nat) (hj : j < 256) : bitAt (X % 115792089237316195423570985008687907853269984665640564039457584007913129639936) j = bitAt X j := by
  unfold bitAt
  have hp : (2 : Int) ^ j ≠ 0 := Int.ne_of_gt (Int.pow_pos (by decide))
  have e : (115792089237316195423570985008687907853269984665640564039457584007913129639936 : Int) = 2 ^ j * (2 * 2 ^ (255 - j)) := by
    rw [show (2 : Int) * 2 ^ (255 - j) = 2 ^ (256 - j) by rw [show 256 - j = 255 - j + 1 by omega, Int.pow_succ, Int.mul_comm], ← Int.pow_add, show j + (256 - j) = 256 by omega]; rfl
  have k1 : X = X % 115792089237316195423570985008687907853269984665640564039457584007913129639936 + 2 ^ j * (2 * (2 ^ (255 - j) * (X / 115792089237316195423570985008687907853269984665640564039457584007913129639936))) := by
    have h := Int.mul_ediv_add_emod X 115792089237316195423570985008687907853269984665640564039457584007913129639936
    rw [show 2 ^ j * (2 * (2 ^ (255 - j) * (X / 115792089237316195423570985008687907853269984665640564039457584007913129639936))) = 2 ^ j * (2 * 2 ^ (255 - j)) * (X / 115792089237316195423570985008687907853269984665640564039457584007913129639936) by rw [Int.mul_assoc, Int.mul_assoc], ← e]
    omega
  have k2 : X / 2 ^ j = X % 115792089237316195423570985008687907853269984665640564039457584007913129639936 / 2 ^ j + 2 * (2 ^ (255 - j) * (X / 115792089237316195423570985008687907853269984665640564039457584007913129639936)) := by
    conv => lhs; rw [k1]
    rw [Int.add_mul_ediv_left _ _ hp]
  rw [k2]
  generalize X % 115792089237316195423570985008687907853269984665640564039457584007913129639936 / 2 ^ j = A
  generalize 2 ^ (255 - j) * (X / 115792089237316195423570985008687907853269984665640564039457584007913129639936) = B
  rw [show (A + 2 * B) % 2 = A % 2 by omega]
theorem top_bit (Y : Int) (hY : 0 ≤ Y ∧ Y < 115792089237316195423570985008687907853269984665640564039457584007913129639936) : decide (57896044618658097711785492504343953926634992332820282019728792003956564819968 ≤ Y) = bitAt Y 255 := by
  unfold bitAt
  rw [show ((2 : Int) ^ 255) = 57896044618658097711785492504343953926634992332820282019728792003956564819968 from rfl, Bool.eq_iff_iff]
  simp only [decide_eq_true_eq]
  omega
theorem ext_bits (x n : Int) (i : Nat) (hi : i ≤ 30) (hni : n = i) (f : Nat → Bool) (hf : ∀ t, t < 256 → f t = if 8 * i + 8 ≤ t then bitAt x (8 * i + 7) else bitAt x t) : sumb f 256 = ext n x := by
  unfold ext
  rw [if_pos (by omega)]
  obtain ⟨s, hs⟩ : ∃ s : Nat, s + 8 * i = 248 := ⟨248 - 8 * i, by omega⟩
  have hsn : 8 * (31 - n) = (s : Int) := by omega
  rw [hsn]
  have hY := up_bd (s : Int) x
  rw [← rgt_sar (s : Int) (up s x) hY s (fun _ => by omega) (fun h => by omega)]
  unfold rgt
  have hup : up (s : Int) x = x * 2 ^ s % 115792089237316195423570985008687907853269984665640564039457584007913129639936 := by
    unfold up; rw [if_pos (by omega)]; rfl
  apply sumb_ext
  intro t ht
  rw [hf t ht]
  by_cases h : t + s < 256
  · rw [if_neg (by omega), if_pos h, hup, bit_mod _ _ h, bit_up, if_neg (by omega), show t + s - s = t by omega]
  · rw [if_pos (by omega), if_neg h, top_bit _ hY, hup, bit_mod _ _ (by decide), bit_up, if_neg (by omega), show 255 - s = 8 * i + 7 by omega]

set_option maxRecDepth 20000 in
set_option maxHeartbeats 4000000 in
theorem rextend_any (n0 n1 n2 n3 a0 a1 a2 a3 : Int) (hn : Ws n0 n1 n2 n3) (ha : Ws a0 a1 a2 a3) (w : World) :
    Calls Try.prog 39 #[.agg #[.int .u64 n0, .int .u64 n1, .int .u64 n2, .int .u64 n3], .agg #[.int .u64 a0, .int .u64 a1, .int .u64 a2, .int .u64 a3]] w fun e w' =>
      ∃ r0 r1 r2 r3 : Int, e = .returned (.agg #[.int .u64 r0, .int .u64 r1, .int .u64 r2, .int .u64 r3]) ∧ Ws r0 r1 r2 r3 ∧ Hid (val r0 r1 r2 r3 = ext (val n0 n1 n2 n3) (val a0 a1 a2 a3)) ∧ Below w.heap.size w w' := by
  have z0 := zero_bits.1
  have bN := (val_bd _ _ _ _ hn).1
  obtain ⟨i, hk1, hk2, hk3, hk4⟩ : ∃ k : Nat, lid (val n0 n1 n2 n3) 31 = k ∧ k ≤ 31 ∧ (val n0 n1 n2 n3 < 31 → (val n0 n1 n2 n3).toNat = k) ∧ (¬ val n0 n1 n2 n3 < 31 → k = 31) := lid_nat (val n0 n1 n2 n3) bN 31
  obtain ⟨y, hy⟩ : ∃ y, val a0 a1 a2 a3 = y := ⟨_, rfl⟩
  have cU := rupto_any n0 n1 n2 n3 31 hn (by decide)
  rw [hk1] at cU
  have cB := rbits_any a0 a1 a2 a3 ha
  rw [hy] at cB ⊢
  have CB : Hid (∀ w : World, _) := cB
  have CU : Hid (∀ w : World, _) := cU
  have HK : Hid (0 ≤ val n0 n1 n2 n3 ∧ (val n0 n1 n2 n3 < 31 → (val n0 n1 n2 n3).toNat = i) ∧ (¬ val n0 n1 n2 n3 < 31 → i = 31)) := ⟨bN, hk3, hk4⟩
  have HY : Hid (_ = _) := hy
  clear cB cU hy hk1 hk3 hk4 bN
  go_enter Try.func39, Try.ntmps39
  go_wp2_with fail
  refine (CU.out _).mono ?_
  rintro e w1 ⟨rfl, hb1⟩
  have m1 : SD w.heap.size n0 n1 n2 n3 a0 a1 a2 a3 w1 := SD.below (⟨by simp, by simp [go_sem], by simp [go_sem], by simp [go_sem], by simp [go_sem], by simp [go_sem], by simp [go_sem], by simp [go_sem], by simp [go_sem], by simp [go_sem], by simp [go_sem], by simp [go_sem], by simp [go_sem], fun o => by simp [go_sem]⟩) hb1
  have E1 := belowStep (n := w.heap.size) (w := w) (by go_grown) (by (try simp) <;> omega) hb1
  clear hb1
  obtain ⟨zz, c0, c1, c2, c3, d0, d1, d2, d3, y0, y1, y2, y3, yf⟩ := id m1
  by_cases h30 : 30 < i
  · have h30' : (30 : Int) < (i : Int) := by omega
    have hE : Hid (val a0 a1 a2 a3 = ext (val n0 n1 n2 n3) y) := by
      show _ = _
      obtain ⟨q0, q1, q2⟩ := HK.out
      unfold ext
      rw [if_neg (fun h => by have := q1 h; omega)]
      exact HY.out
    go_wp2
    refine bodyPost_ret (v := .agg #[.int .u64 a0, .int .u64 a1, .int .u64 a2, .int .u64 a3]) (by simp [results, Try.results39, go_sem, *]) rfl ⟨a0, a1, a2, a3, rfl, ha, hE, ?_⟩
    go_grown
  · have h30' : (i : Int) ≤ 30 := by omega
    go_wp2_with fail
    refine (CB.out _).mono ?_
    rintro e w2 ⟨rfl, hb2⟩
    have Z2 := (SD.rw m1).2.2.below hb2
    have E2 := belowStep E1 E1.size hb2
    clear hb2 m1 E1 zz c0 c1 c2 c3 d0 d1 d2 d3 y0 y1 y2 y3 yf
    have z2 := Z2.w.z
    obtain ⟨p, hp⟩ : ∃ p : Nat, 8 * i = p := ⟨_, rfl⟩
    have hw1 : IntKind.i64.wrap (8 * (i : Int)) = p := by rw [IntKind.wrap_i64]; omega
    have hw1' : IntKind.i64.wrap ((p : Nat) : Int) = p := by rw [IntKind.wrap_i64]; omega
    have hw2 : IntKind.i64.wrap ((p : Int) + 8) = ((p + 8 : Nat) : Int) := by rw [IntKind.wrap_i64]; omega
    obtain ⟨q, hq⟩ : ∃ q : Nat, p + 7 = q := ⟨_, rfl⟩
    have hw3 : IntKind.i64.wrap ((p : Int) + 7) = q := by rw [IntKind.wrap_i64]; omega
    obtain ⟨j0, hj0⟩ : ∃ j : Nat, p + 8 = j := ⟨_, rfl⟩
    rw [hj0] at hw2
    have hst := (Fw.new w2 256 (fun _ => .bool false) 43).run (P := Try.prog) (fun j => .bool (bitAt y j)) (fun _ => rfl)
    go_wp2_with fail
    refine wpOf (fun W => Below w.heap.size w W ∧ Rw (w.heap.size + 1 + 1) 0 0 0 0 W ∧ Fw w2.heap.size 256 (fun j => .bool (bitAt y j)) W) ⟨?_, ?_, ?_⟩ ?_
    · exact below_setCells' E2.size _ _ _ (E2.alloc E2.size _)
    · have hb : Below w2.heap.size w2 ((w2.alloc (.cells (row fun _ => false).toArray 43)).setCells w2.heap.size 0 (fl 256 fun j => .bool (bitAt y j))) := below_setCells' (Nat.le_refl _) _ _ _ ((Below.refl _ _).alloc (Nat.le_refl _) _)
      exact Z2.below hb
    · exact (Fw.new w2 256 (fun _ => .bool false) 43).store _
    rintro V ⟨EV, ZV, FV⟩
    clear Z2 E2 hst
    generalize w2.heap.size = g at FV z2 ⊢
    clear w1 w2
    go_loopg [7] (256 - j0) (fun gk v wr => ∃ j : Nat, ∃ f : Nat → Bool, j + gk = 256 ∧ j0 ≤ j ∧ v = .int .i64 j ∧ Below w.heap.size w wr ∧ Rw (w.heap.size + 1 + 1) 0 0 0 0 wr ∧ Fw g 256 (fun j => .bool (f j)) wr ∧ Hid (∀ t, t < 256 → f t = if j0 ≤ t ∧ t < j then bitAt y q else bitAt y t))
    case atStart => exact ⟨j0, bitAt y, by omega, Nat.le_refl _, rfl, EV, ZV, FV, fun t _ => by rw [if_neg (by omega)]⟩
    case round =>
      obtain ⟨j, f, hj, hkj, rfl, EW, CZ, CO, hH⟩ := hrel
      have zf := CO.f
      have zo := CO.z
      by_cases hlt : j < 256
      · have lc := CO.c q (by omega)
        have oc := CO.c j hlt
        have hfq : f q = bitAt y q := by rw [hH.out q (by omega), if_neg (by omega)]
        obtain ⟨b, hb⟩ : ∃ b, bitAt y q = b := ⟨_, rfl⟩
        rw [hfq, hb] at lc
        have HB : Hid (_ = _) := hb
        have hq2 : (q : Int) < 256 := by omega
        clear hb hfq
        go_wp2
        go_roundg (gk - 1)
        case measure => omega
        case rel =>
          refine ⟨j + 1, fun i => if i = j then b else f i, by omega, by omega, rfl, by go_grown, CZ.setCell _ (by dsimp only; omega) _, CO.put j hlt (.bool b) (fun i _ => by by_cases e : i = j <;> simp [e]), ?_⟩
          intro t ht
          by_cases e : t = j
          · subst e
            simp only [if_true]
            rw [if_pos (by omega), HB.out]
          · have := hH.out t ht
            simp only [e, if_false, this]
            by_cases h1 : j0 ≤ t ∧ t < j
            · rw [if_pos h1, if_pos (by omega)]
            · rw [if_neg h1, if_neg (by omega)]
      · have hj2 : j = 256 := by omega
        subst hj2
        clear hlt
        obtain ⟨⟨z, c0, c1, c2, c3⟩, cf⟩ := id CZ
        have cO := rofbits_any f
        have KO : Hid (∀ w : World, _) := cO
        clear cO
        go_wp2_with (refine wpList_load_mid rfl 43 _ rfl g 0 rfl (row f) _ CO.range Try.underlying43 rfl (by rw [row_len]; exact zero_bits.2) ?_)
        refine (KO.out _).mono ?_
        rintro e w3 ⟨r0, r1, r2, r3, rfl, hr, hrv, hb3⟩
        have Z3 := CZ.below hb3
        have E3 := belowStep EW EW.size hb3
        clear hb3 z c0 c1 c2 c3 cf
        obtain ⟨⟨z, c0, c1, c2, c3⟩, cf⟩ := id Z3
        go_wp2
        refine bodyPost_ret (v := .agg #[.int .u64 r0, .int .u64 r1, .int .u64 r2, .int .u64 r3]) (by simp [results, Try.results39, go_sem, *]) rfl ⟨r0, r1, r2, r3, rfl, hr, ?_, ?_⟩
        · show _ = _
          rw [hrv.out]
          obtain ⟨q0, q1, q2⟩ := HK.out
          refine ext_bits y _ i (by omega) ?_ f (fun t ht => ?_)
          · by_cases h : val n0 n1 n2 n3 < 31
            · have := q1 h; omega
            · have := q2 (by omega); omega
          · rw [hH.out t ht, show 8 * i + 8 = j0 by omega, show 8 * i + 7 = q by omega]
            by_cases h : j0 ≤ t
            · rw [if_pos ⟨h, ht⟩, if_pos h]
            · rw [if_neg (fun z => h z.1), if_neg h]
        · go_grown

set_option maxRecDepth 20000 in
set_option maxHeartbeats 4000000 in
theorem rbyte_any (n0 n1 n2 n3 a0 a1 a2 a3 : Int) (hn : Ws n0 n1 n2 n3) (ha : Ws a0 a1 a2 a3) (w : World) :
    Calls Try.prog 41 #[.agg #[.int .u64 n0, .int .u64 n1, .int .u64 n2, .int .u64 n3], .agg #[.int .u64 a0, .int .u64 a1, .int .u64 a2, .int .u64 a3]] w fun e w' =>
      ∃ r0 r1 r2 r3 : Int, e = .returned (.agg #[.int .u64 r0, .int .u64 r1, .int .u64 r2, .int .u64 r3]) ∧ Ws r0 r1 r2 r3 ∧ Hid (val r0 r1 r2 r3 = byt (val n0 n1 n2 n3) (val a0 a1 a2 a3)) ∧ Below w.heap.size w w' := by
  have ho : Pt 0 := ⟨by decide, by decide⟩
  have bN := (val_bd _ _ _ _ hn).1
  obtain ⟨i, hk1, hk2, hk3, hk4⟩ : ∃ k : Nat, lid (val n0 n1 n2 n3) 32 = k ∧ k ≤ 32 ∧ (val n0 n1 n2 n3 < 32 → (val n0 n1 n2 n3).toNat = k) ∧ (¬ val n0 n1 n2 n3 < 32 → k = 32) := lid_nat (val n0 n1 n2 n3) bN 32
  have cU := rupto_any n0 n1 n2 n3 32 hn (by decide)
  rw [hk1] at cU
  obtain ⟨T, hT⟩ : ∃ T : ByteArray, (⟨(octs (val a0 a1 a2 a3)).toArray⟩ : ByteArray) = T := ⟨_, rfl⟩
  have hTs : T.size = 32 := by rw [← hT]; exact octs_size _
  have cB := rbytes_any a0 a1 a2 a3 ha
  rw [hT] at cB
  have CB : Hid (∀ w : World, _) := cB
  have CU : Hid (∀ w : World, _) := cU
  have HK : Hid (0 ≤ val n0 n1 n2 n3 ∧ (val n0 n1 n2 n3 < 32 → (val n0 n1 n2 n3).toNat = i) ∧ (¬ val n0 n1 n2 n3 < 32 → i = 32)) := ⟨bN, hk3, hk4⟩
  have HT : Hid (_ = _) := hT
  clear cB cU hk1 hk3 hk4 bN hT
  go_enter Try.func41, Try.ntmps41
  go_wp2_with fail
  refine (CU.out _).mono ?_
  rintro e w1 ⟨rfl, hb1⟩
  have m1 : SD w.heap.size n0 n1 n2 n3 a0 a1 a2 a3 w1 := SD.below (⟨by simp, by simp [go_sem], by simp [go_sem], by simp [go_sem], by simp [go_sem], by simp [go_sem], by simp [go_sem], by simp [go_sem], by simp [go_sem], by simp [go_sem], by simp [go_sem], by simp [go_sem], by simp [go_sem], fun o => by simp [go_sem]⟩) hb1
  have E1 := belowStep (n := w.heap.size) (w := w) (by go_grown) (by (try simp) <;> omega) hb1
  clear hb1
  obtain ⟨zz, c0, c1, c2, c3, d0, d1, d2, d3, y0, y1, y2, y3, yf⟩ := id m1
  by_cases h31 : 31 < i
  · have h31' : (31 : Int) < (i : Int) := by omega
    have hE : Hid (val 0 0 0 0 = byt (val n0 n1 n2 n3) (val a0 a1 a2 a3)) := by
      show _ = _
      obtain ⟨q0, q1, q2⟩ := HK.out
      unfold byt
      rw [if_neg (fun h => by have := q1 h; omega)]
      rfl
    go_wp2
    refine bodyPost_ret (v := .agg #[.int .u64 0, .int .u64 0, .int .u64 0, .int .u64 0]) (by simp [results, Try.results41, go_sem, *]) rfl ⟨0, 0, 0, 0, rfl, ⟨ho, ho, ho, ho⟩, hE, ?_⟩
    go_grown
  · have h31' : (i : Int) ≤ 31 := by omega
    have his : i < T.size := by omega
    have hi32 : (i : Int) < 32 := by omega
    obtain ⟨t, ht⟩ : ∃ t, bt T i = t := ⟨_, rfl⟩
    have htb := bt_bd T i
    rw [ht] at htb
    have hu1 : IntKind.u64.wrap (((T[i]'his).toNat : Nat) : Int) = t := by rw [bt_get, ht, IntKind.wrap_u64]; omega
    have HB : Hid (_ = _) := ht
    clear ht
    go_wp2_with fail
    refine (CB.out _).mono ?_
    rintro e w2 ⟨rfl, hb2⟩
    have m2 := SD.below m1 hb2
    have E2 := belowStep E1 E1.size hb2
    clear hb2 m1 E1 zz c0 c1 c2 c3 d0 d1 d2 d3 y0 y1 y2 y3 yf
    go_wp2_with fail
    refine (rof_any t _).mono ?_
    rintro e w3 ⟨rfl, hb3⟩
    have m3 := SD.below m2 hb3
    have E3 := belowStep E2 E2.size hb3
    clear hb3 m2 E2
    obtain ⟨zz, _, _, _, _, _, _, _, _, y0, y1, y2, y3, yf⟩ := id m3
    go_wp2
    refine bodyPost_ret (v := .agg #[.int .u64 t, .int .u64 0, .int .u64 0, .int .u64 0]) (by simp [results, Try.results41, go_sem, *]) rfl ⟨t, 0, 0, 0, rfl, ⟨⟨htb.1, by omega⟩, ho, ho, ho⟩, ?_, ?_⟩
    · show _ = _
      obtain ⟨q0, q1, q2⟩ := HK.out
      have hv : val n0 n1 n2 n3 < 32 := by
        by_cases h : val n0 n1 n2 n3 < 32
        · exact h
        · have := q2 (by omega); omega
      have hvi := q1 hv
      unfold byt
      rw [val_small, if_pos hv, ← HB.out, ← HT.out]
      have h := be_octs (val a0 a1 a2 a3) (31 - i) (by omega)
      unfold be at h
      rw [octs_size, show 32 - 1 - (31 - i) = i by omega] at h
      rw [h, show (31 - val n0 n1 n2 n3).toNat = 31 - i by omega]
    · go_grown
end Go.Proofs.Ytgapcjdgakamoaa
