/- What the reference's Shl and right do at this translation: for all words, whatever the memory. -/
import Derived.Test.YtgapcjdgakamoaaV21
import Derived.Test.YtgapcjdgakamoaaW17
namespace Go.Proofs.Ytgapcjdgakamoaa
open Go.RowKit Go.Shelf Go.Sort

theorem bit_up (x : Int) (k i : Nat) : bitAt (x * 2 ^ k) i = if i < k then false else bitAt x (i - k) := by
  unfold bitAt
  have hp : (2 : Int) ^ i ≠ 0 := Int.ne_of_gt (Int.pow_pos (by decide))
  by_cases h : i < k
  · rw [if_pos h, show k = i + (k - i - 1 + 1) by omega, Int.pow_add, Int.pow_succ, ← Int.mul_assoc, Int.mul_comm x, Int.mul_assoc, Int.mul_ediv_cancel_left _ hp, ← Int.mul_assoc, Int.mul_emod_left]
    rfl
  · rw [if_neg h, show (2 : Int) ^ i = 2 ^ k * 2 ^ (i - k) by rw [← Int.pow_add, show k + (i - k) = i by omega], Int.mul_comm x, Int.mul_ediv_mul_of_pos _ _ (Int.pow_pos (by decide))]
theorem bit_dn (x : Int) (k i : Nat) : bitAt (x / 2 ^ k) i = bitAt x (i + k) := by
  unfold bitAt
  rw [Int.ediv_ediv_of_nonneg (Int.le_of_lt (Int.pow_pos (by decide))), ← Int.pow_add, show k + i = i + k by omega]
theorem bit_no (x : Int) (hx : 0 ≤ x ∧ x < 115792089237316195423570985008687907853269984665640564039457584007913129639936) (i : Nat) (hi : 256 ≤ i) : bitAt x i = false := by
  unfold bitAt
  have h : x / 2 ^ i = 0 := by
    apply Int.ediv_eq_zero_of_lt hx.1
    have e : (2 : Int) ^ i = 115792089237316195423570985008687907853269984665640564039457584007913129639936 * 2 ^ (i - 256) := by rw [show (115792089237316195423570985008687907853269984665640564039457584007913129639936 : Int) = 2 ^ 256 from rfl, ← Int.pow_add, show 256 + (i - 256) = i by omega]
    have hp : (0 : Int) < 2 ^ (i - 256) := Int.pow_pos (by decide)
    have h3 : (115792089237316195423570985008687907853269984665640564039457584007913129639936 : Int) * 1 ≤ 115792089237316195423570985008687907853269984665640564039457584007913129639936 * 2 ^ (i - 256) := Int.mul_le_mul_of_nonneg_left (by omega) (by decide)
    rw [e]; omega
  rw [h]; rfl
/-- How far a shift goes. -/
theorem lid_nat (x : Int) (hx : 0 ≤ x) (m : Nat) : ∃ k : Nat, lid x m = k ∧ k ≤ m ∧ (x < m → x.toNat = k) ∧ (¬ x < m → k = m) := by
  unfold lid
  by_cases h : x ≤ m
  · rw [if_pos h]; exact ⟨x.toNat, by omega, by omega, fun _ => rfl, fun h2 => by omega⟩
  · rw [if_neg h]; exact ⟨m, rfl, Nat.le_refl _, fun h2 => by omega, fun _ => rfl⟩
theorem up_bits (n x : Int) (k : Nat) (h1 : n < 256 → n.toNat = k) (h2 : ¬ n < 256 → k = 256) (f : Nat → Bool) (hf : ∀ i, i < 256 → f i = if k ≤ i then bitAt x (i - k) else false) : sumb f 256 = up n x := by
  rw [sumb_ext f (bitAt (x * 2 ^ k)) 256 (fun i hi => by
    rw [hf i hi, bit_up]
    by_cases h : i < k
    · rw [if_neg (by omega), if_pos h]
    · rw [if_pos (by omega), if_neg h]), sumb_bits, show ((2 : Int) ^ 256) = 115792089237316195423570985008687907853269984665640564039457584007913129639936 from rfl]
  unfold up
  by_cases h : n < 256
  · rw [if_pos h, h1 h]
  · rw [if_neg h, h2 h, show ((2 : Int) ^ 256) = 115792089237316195423570985008687907853269984665640564039457584007913129639936 from rfl, Int.mul_emod_left]
/-- Shifted down, with a bit that comes in. -/
def rgt (k : Nat) (x : Int) (b : Bool) : Int := sumb (fun i => if i + k < 256 then bitAt x (i + k) else b) 256

set_option maxRecDepth 20000 in
set_option maxHeartbeats 4000000 in
theorem rshl_any (n0 n1 n2 n3 a0 a1 a2 a3 : Int) (hn : Ws n0 n1 n2 n3) (ha : Ws a0 a1 a2 a3) (w : World) :
    Calls Try.prog 33 #[.agg #[.int .u64 n0, .int .u64 n1, .int .u64 n2, .int .u64 n3], .agg #[.int .u64 a0, .int .u64 a1, .int .u64 a2, .int .u64 a3]] w fun e w' =>
      ∃ r0 r1 r2 r3 : Int, e = .returned (.agg #[.int .u64 r0, .int .u64 r1, .int .u64 r2, .int .u64 r3]) ∧ Ws r0 r1 r2 r3 ∧ Hid (val r0 r1 r2 r3 = up (val n0 n1 n2 n3) (val a0 a1 a2 a3)) ∧ Below w.heap.size w w' := by
  have ho : Pt 0 := ⟨by decide, by decide⟩
  have z0 := zero_bits.1
  obtain ⟨k, hk1, hk2, hk3, hk4⟩ : ∃ k : Nat, lid (val n0 n1 n2 n3) 256 = k ∧ k ≤ 256 ∧ (val n0 n1 n2 n3 < 256 → (val n0 n1 n2 n3).toNat = k) ∧ (¬ val n0 n1 n2 n3 < 256 → k = 256) := lid_nat (val n0 n1 n2 n3) (val_bd _ _ _ _ hn).1 256
  obtain ⟨y, hy⟩ : ∃ y, val a0 a1 a2 a3 = y := ⟨_, rfl⟩
  have cU := rupto_any n0 n1 n2 n3 256 hn (by decide)
  rw [hk1] at cU
  have cB := rbits_any a0 a1 a2 a3 ha
  rw [hy] at cB ⊢
  have CB : Hid (∀ w : World, _) := cB
  have CU : Hid (∀ w : World, _) := cU
  have HK : Hid (_ ∧ _) := ⟨hk3, hk4⟩
  clear cB cU hy hk1 hk3 hk4
  go_enter Try.func33, Try.ntmps33
  go_wp2_with fail
  refine (CU.out _).mono ?_
  rintro e w1 ⟨rfl, hb1⟩
  have A1 : Cw (w.heap.size + 1) a0 a1 a2 a3 w1 := Cw.below (by repeat' (first | (simpa using Cw.new (w.alloc _) a0 a1 a2 a3 _) | apply Cw.alloc | apply Cw.drew)) hb1
  have Z1 : Rw (w.heap.size + 1 + 1) 0 0 0 0 w1 := Rw.below (by simpa using Rw.new ((w.alloc (.cells #[.int .u64 n0, .int .u64 n1, .int .u64 n2, .int .u64 n3] 24)).alloc (.cells #[.int .u64 a0, .int .u64 a1, .int .u64 a2, .int .u64 a3] 24)) 0 0 0 0 24) hb1
  have E1 := belowStep (n := w.heap.size) (w := w) (by go_grown) (by (try simp) <;> omega) hb1
  clear hb1
  obtain ⟨za, ca0, ca1, ca2, ca3⟩ := id A1
  go_wp2_with fail
  refine (CB.out _).mono ?_
  rintro e w2 ⟨rfl, hb2⟩
  have Z2 := Z1.below hb2
  have E2 := belowStep E1 E1.size hb2
  clear hb2 A1 Z1 E1 za ca0 ca1 ca2 ca3
  have z2 := Z2.w.z
  have hst := (Fw.new w2 256 (fun _ => .bool false) 43).run (P := Try.prog) (fun j => .bool (bitAt y j)) (fun _ => rfl)
  have hz1 : (w2.alloc (.cells (row fun _ => false).toArray 43)).heap.size = w2.heap.size + 1 := by simp
  have HZ1 : Hid (_ = _) := hz1
  clear hz1
  go_wp2_with fail
  rw [setCells_size, HZ1.out]
  refine wpOf (fun W => Below w.heap.size w W ∧ Rw (w.heap.size + 1 + 1) 0 0 0 0 W ∧ Fw w2.heap.size 256 (fun j => .bool (bitAt y j)) W ∧ Fw (w2.heap.size + 1) 256 (fun _ => .bool false) W) ⟨?_, ?_, ?_, ?_⟩ ?_
  · have h := below_setCells' E2.size (fl 256 fun j => .bool (bitAt y j)) 0 _ (E2.alloc E2.size (.cells (row fun _ => false).toArray 43))
    exact h.alloc (by rw [setCells_size]; have := E2.size; simp; omega) _
  · have hb : Below w2.heap.size w2 ((w2.alloc (.cells (row fun _ => false).toArray 43)).setCells w2.heap.size 0 (fl 256 fun j => .bool (bitAt y j))) := below_setCells' (Nat.le_refl _) _ _ _ ((Below.refl _ _).alloc (Nat.le_refl _) _)
    exact (Z2.below hb).below ((Below.refl _ _).alloc (Nat.le_refl _) _)
  · exact Fw.alloc ((Fw.new w2 256 (fun _ => .bool false) 43).store _) _
  · exact Fw.lit _ _ (by rw [setCells_size]; simp) rfl
  rintro V ⟨EV, ZV, FV, OV⟩
  clear Z2 E2 hst HZ1
  generalize w2.heap.size = g at FV OV z2 ⊢
  clear w1 w2
  go_loopg [8] (256 - k) (fun gk i wr => ∃ j : Nat, ∃ f : Nat → Bool, j + gk = 256 ∧ k ≤ j ∧ i = .int .i64 j ∧ Below w.heap.size w wr ∧ Rw (w.heap.size + 1 + 1) 0 0 0 0 wr ∧ Fw g 256 (fun j => .bool (bitAt y j)) wr ∧ Fw (g + 1) 256 (fun j => .bool (f j)) wr ∧ Hid (∀ i, i < 256 → f i = if k ≤ i ∧ i < j then bitAt y (i - k) else false))
  case atStart => exact ⟨k, fun _ => false, by omega, Nat.le_refl _, rfl, EV, ZV, FV, OV, fun i _ => by rw [if_neg (by omega)]⟩
  case round =>
    obtain ⟨j, f, hj, hkj, rfl, EW, CZ, CF, CO, hH⟩ := hrel
    have zf := CO.f
    have zo := CO.z
    by_cases hlt : j < 256
    · obtain ⟨d, hd⟩ : ∃ d : Nat, d + k = j := ⟨j - k, by omega⟩
      have hsub : IntKind.i64.wrap ((j : Int) - k) = d := by rw [IntKind.wrap_i64]; omega
      have hd2 : (d : Int) < 256 := by omega
      have lc := CF.c d (by omega)
      have oc := CO.c j hlt
      obtain ⟨b, hb⟩ : ∃ b, bitAt y d = b := ⟨_, rfl⟩
      rw [hb] at lc
      have HB : Hid (_ = _) := hb
      clear hb
      go_wp2
      go_roundg (gk - 1)
      case measure => omega
      case rel =>
        refine ⟨j + 1, fun i => if i = j then b else f i, by omega, by omega, rfl, by go_grown, CZ.setCell _ (by dsimp only; omega) _, CF.setCell _ (by dsimp only; omega) _, CO.put j hlt (.bool b) (fun i _ => by by_cases e : i = j <;> simp [e]), ?_⟩
        intro i hi
        by_cases e : i = j
        · subst e
          simp only [if_true]
          rw [if_pos (by omega), ← HB.out, show i - k = d by omega]
        · have := hH.out i hi
          simp only [e, if_false, this]
          by_cases h1 : k ≤ i ∧ i < j
          · rw [if_pos h1, if_pos (by omega)]
          · rw [if_neg h1, if_neg (by omega)]
    · have hj2 : j = 256 := by omega
      subst hj2
      clear hlt
      obtain ⟨⟨z, c0, c1, c2, c3⟩, cf⟩ := id CZ
      have cO := rofbits_any f
      have KO : Hid (∀ w : World, _) := cO
      clear cO
      go_wp2_with (refine wpList_load_mid rfl 43 _ rfl (g + 1) 0 rfl (row f) _ CO.range Try.underlying43 rfl (by rw [row_len]; exact zero_bits.2) ?_)
      refine (KO.out _).mono ?_
      rintro e w3 ⟨r0, r1, r2, r3, rfl, hr, hrv, hb3⟩
      have Z3 := CZ.below hb3
      have E3 := belowStep EW EW.size hb3
      clear hb3 z c0 c1 c2 c3 cf
      obtain ⟨⟨z, c0, c1, c2, c3⟩, cf⟩ := id Z3
      go_wp2
      refine bodyPost_ret (v := .agg #[.int .u64 r0, .int .u64 r1, .int .u64 r2, .int .u64 r3]) (by simp [results, Try.results33, go_sem, *]) rfl ⟨r0, r1, r2, r3, rfl, hr, ?_, ?_⟩
      · show _ = _
        rw [hrv.out]
        exact up_bits _ _ k HK.out.1 (fun h => HK.out.2 (by omega)) f (fun i hi => by
          rw [hH.out i hi]
          by_cases h : k ≤ i
          · rw [if_pos ⟨h, hi⟩, if_pos h]
          · rw [if_neg (fun q => h q.1), if_neg h])
      · go_grown

set_option maxRecDepth 20000 in
set_option maxHeartbeats 4000000 in
theorem rright_any (n0 n1 n2 n3 a0 a1 a2 a3 : Int) (b : Bool) (hn : Ws n0 n1 n2 n3) (ha : Ws a0 a1 a2 a3) (k : Nat) (hk1 : lid (val n0 n1 n2 n3) 256 = k) (hk2 : k ≤ 256) (w : World) :
    Calls Try.prog 71 #[.agg #[.int .u64 n0, .int .u64 n1, .int .u64 n2, .int .u64 n3], .agg #[.int .u64 a0, .int .u64 a1, .int .u64 a2, .int .u64 a3], .bool b] w fun e w' =>
      ∃ r0 r1 r2 r3 : Int, e = .returned (.agg #[.int .u64 r0, .int .u64 r1, .int .u64 r2, .int .u64 r3]) ∧ Ws r0 r1 r2 r3 ∧ Hid (val r0 r1 r2 r3 = rgt k (val a0 a1 a2 a3) b) ∧ Below w.heap.size w w' := by
  have ho : Pt 0 := ⟨by decide, by decide⟩
  have z0 := zero_bits.1
  have hk3 : True := trivial
  have hk4 : True := trivial
  obtain ⟨y, hy⟩ : ∃ y, val a0 a1 a2 a3 = y := ⟨_, rfl⟩
  have cU := rupto_any n0 n1 n2 n3 256 hn (by decide)
  rw [hk1] at cU
  have cB := rbits_any a0 a1 a2 a3 ha
  rw [hy] at cB ⊢
  have CB : Hid (∀ w : World, _) := cB
  have CU : Hid (∀ w : World, _) := cU
  have HK : Hid (_ ∧ _) := ⟨hk3, hk4⟩
  clear cB cU hy hk1 hk3 hk4
  go_enter Try.func71, Try.ntmps71
  go_wp2_with fail
  refine (CU.out _).mono ?_
  rintro e w1 ⟨rfl, hb1⟩
  have A1 : Cw (w.heap.size + 1) a0 a1 a2 a3 w1 := Cw.below (by repeat' (first | (simpa using Cw.new (w.alloc _) a0 a1 a2 a3 _) | apply Cw.alloc | apply Cw.drew)) hb1
  have Z1 : Rw (w.heap.size + 1 + 1) 0 0 0 0 w1 := Rw.below (by simpa using Rw.new ((w.alloc (.cells #[.int .u64 n0, .int .u64 n1, .int .u64 n2, .int .u64 n3] 24)).alloc (.cells #[.int .u64 a0, .int .u64 a1, .int .u64 a2, .int .u64 a3] 24)) 0 0 0 0 24) hb1
  have E1 := belowStep (n := w.heap.size) (w := w) (by go_grown) (by (try simp) <;> omega) hb1
  clear hb1
  obtain ⟨za, ca0, ca1, ca2, ca3⟩ := id A1
  go_wp2_with fail
  refine (CB.out _).mono ?_
  rintro e w2 ⟨rfl, hb2⟩
  have Z2 := Z1.below hb2
  have E2 := belowStep E1 E1.size hb2
  clear hb2 A1 Z1 E1 za ca0 ca1 ca2 ca3
  have z2 := Z2.w.z
  have hst := (Fw.new w2 256 (fun _ => .bool false) 43).run (P := Try.prog) (fun j => .bool (bitAt y j)) (fun _ => rfl)
  have hz1 : (w2.alloc (.cells (row fun _ => false).toArray 43)).heap.size = w2.heap.size + 1 := by simp
  have HZ1 : Hid (_ = _) := hz1
  clear hz1
  go_wp2_with fail
  rw [setCells_size, HZ1.out]
  refine wpOf (fun W => Below w.heap.size w W ∧ Rw (w.heap.size + 1 + 1) 0 0 0 0 W ∧ Fw w2.heap.size 256 (fun j => .bool (bitAt y j)) W ∧ Fw (w2.heap.size + 1) 256 (fun _ => .bool false) W) ⟨?_, ?_, ?_, ?_⟩ ?_
  · have h := below_setCells' E2.size (fl 256 fun j => .bool (bitAt y j)) 0 _ (E2.alloc E2.size (.cells (row fun _ => false).toArray 43))
    exact h.alloc (by rw [setCells_size]; have := E2.size; simp; omega) _
  · have hb : Below w2.heap.size w2 ((w2.alloc (.cells (row fun _ => false).toArray 43)).setCells w2.heap.size 0 (fl 256 fun j => .bool (bitAt y j))) := below_setCells' (Nat.le_refl _) _ _ _ ((Below.refl _ _).alloc (Nat.le_refl _) _)
    exact (Z2.below hb).below ((Below.refl _ _).alloc (Nat.le_refl _) _)
  · exact Fw.alloc ((Fw.new w2 256 (fun _ => .bool false) 43).store _) _
  · exact Fw.lit _ _ (by rw [setCells_size]; simp) rfl
  rintro V ⟨EV, ZV, FV, OV⟩
  clear Z2 E2 hst HZ1
  generalize w2.heap.size = g at FV OV z2 ⊢
  clear w1 w2
  go_loopg [10] 256 (fun gk i wr => ∃ j : Nat, ∃ f : Nat → Bool, j + gk = 256 ∧ i = .int .i64 j ∧ Below w.heap.size w wr ∧ Rw (w.heap.size + 1 + 1) 0 0 0 0 wr ∧ Fw g 256 (fun j => .bool (bitAt y j)) wr ∧ Fw (g + 1) 256 (fun j => .bool (f j)) wr ∧ Hid (∀ i, i < 256 → f i = if i < j then (if i + k < 256 then bitAt y (i + k) else b) else false))
  case atStart => exact ⟨0, fun _ => false, rfl, rfl, EV, ZV, FV, OV, fun i _ => by rw [if_neg (by omega)]⟩
  case round =>
    obtain ⟨j, f, hj, rfl, EW, CZ, CF, CO, hH⟩ := hrel
    have zf := CO.f
    have zo := CO.z
    by_cases hlt : j < 256
    · have oc := CO.c j hlt
      have hadd : IntKind.i64.wrap ((j : Int) + k) = ((j + k : Nat) : Int) := by rw [IntKind.wrap_i64]; omega
      by_cases hin : j + k < 256
      · obtain ⟨d, hd⟩ : ∃ d : Nat, j + k = d := ⟨_, rfl⟩
        rw [hd] at hadd
        have hd2 : (d : Int) < 256 := by omega
        have lc := CF.c d (by omega)
        obtain ⟨x, hx⟩ : ∃ x, bitAt y d = x := ⟨_, rfl⟩
        rw [hx] at lc
        have HB : Hid (_ = _) := hx
        clear hx
        go_wp2
        go_roundg (gk - 1)
        case measure => omega
        case rel =>
          refine ⟨j + 1, fun i => if i = j then x else f i, by omega, rfl, by go_grown, (CZ.setCell _ (by dsimp only; omega) _).setCell _ (by dsimp only; omega) _, (CF.setCell _ (by dsimp only; omega) _).setCell _ (by dsimp only; omega) _, (CO.put j hlt (.bool b) (h := fun i => .bool (if i = j then b else f i)) (fun i _ => by by_cases e : i = j <;> simp [e])).put j hlt (.bool x) (fun i _ => by by_cases e : i = j <;> simp [e]), ?_⟩
          intro i hi
          by_cases e : i = j
          · subst e
            simp only [if_true]
            rw [if_pos (by omega), if_pos (by omega), ← HB.out, hd]
          · have := hH.out i hi
            simp only [e, if_false, this]
            by_cases h1 : i < j
            · rw [if_pos h1, if_pos (show i < j + 1 by omega)]
            · rw [if_neg h1, if_neg (show ¬ i < j + 1 by omega)]
      · obtain ⟨d, hd⟩ : ∃ d : Nat, j + k = d := ⟨_, rfl⟩
        rw [hd] at hadd
        have hd2 : 256 ≤ (d : Int) := by omega
        go_wp2
        go_roundg (gk - 1)
        case measure => omega
        case rel =>
          refine ⟨j + 1, fun i => if i = j then b else f i, by omega, rfl, by go_grown, CZ.setCell _ (by dsimp only; omega) _, CF.setCell _ (by dsimp only; omega) _, CO.put j hlt (.bool b) (fun i _ => by by_cases e : i = j <;> simp [e]), ?_⟩
          intro i hi
          by_cases e : i = j
          · subst e
            simp only [if_true]
            rw [if_pos (by omega), if_neg (by omega)]
          · have := hH.out i hi
            simp only [e, if_false, this]
            by_cases h1 : i < j
            · rw [if_pos h1, if_pos (show i < j + 1 by omega)]
            · rw [if_neg h1, if_neg (show ¬ i < j + 1 by omega)]
    · have hj2 : j = 256 := by omega
      subst hj2
      clear hlt
      obtain ⟨⟨z, c0, c1, c2, c3⟩, cf⟩ := id CZ
      have cO := rofbits_any f
      have KO : Hid (∀ w : World, _) := cO
      clear cO
      go_wp2_with (refine wpList_load_mid rfl 43 _ rfl (g + 1) 0 rfl (row f) _ CO.range Try.underlying43 rfl (by rw [row_len]; exact zero_bits.2) ?_)
      refine (KO.out _).mono ?_
      rintro e w3 ⟨r0, r1, r2, r3, rfl, hr, hrv, hb3⟩
      have Z3 := CZ.below hb3
      have E3 := belowStep EW EW.size hb3
      clear hb3 z c0 c1 c2 c3 cf
      obtain ⟨⟨z, c0, c1, c2, c3⟩, cf⟩ := id Z3
      go_wp2
      refine bodyPost_ret (v := .agg #[.int .u64 r0, .int .u64 r1, .int .u64 r2, .int .u64 r3]) (by simp [results, Try.results71, go_sem, *]) rfl ⟨r0, r1, r2, r3, rfl, hr, ?_, ?_⟩
      · show _ = _
        rw [hrv.out]
        exact sumb_ext _ _ 256 (fun i hi => by rw [hH.out i hi, if_pos hi])
      · go_grown

end Go.Proofs.Ytgapcjdgakamoaa
