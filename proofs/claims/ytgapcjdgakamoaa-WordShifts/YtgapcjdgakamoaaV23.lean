/- What not, Sar and the reference's Shr and Sar do at this translation: for all words, whatever the memory. -/
import Derived.Test.YtgapcjdgakamoaaV22
namespace Go.Proofs.Ytgapcjdgakamoaa
open Go.RowKit Go.Shelf Go.Sort

set_option maxHeartbeats 1000000 in
theorem not_any (a0 a1 a2 a3 : Int) (ha : Ws a0 a1 a2 a3) (w : World) :
    Calls Try.prog 72 #[.agg #[.int .u64 a0, .int .u64 a1, .int .u64 a2, .int .u64 a3]] w fun e w' =>
      ∃ r0 r1 r2 r3 : Int, e = .returned (.agg #[.int .u64 r0, .int .u64 r1, .int .u64 r2, .int .u64 r3]) ∧ Ws r0 r1 r2 r3 ∧ Hid (val r0 r1 r2 r3 = 115792089237316195423570985008687907853269984665640564039457584007913129639936 - 1 - val a0 a1 a2 a3) ∧ Below w.heap.size w w' := by
  obtain ⟨⟨h00, h01⟩, ⟨h10, h11⟩, ⟨h20, h21⟩, ⟨h30, h31⟩⟩ := id ha
  have n0 := not_part a0 ha.1
  have n1 := not_part a1 ha.2.1
  have n2 := not_part a2 ha.2.2.1
  have n3 := not_part a3 ha.2.2.2
  have km : IntKind.u64.max = 18446744073709551615 := by decide
  have ks : IntKind.u64.signed = false := rfl
  go_enter Try.func72, Try.ntmps72
  go_wp2
  refine bodyPost_ret (v := .agg #[.int .u64 (18446744073709551615 - a0), .int .u64 (18446744073709551615 - a1), .int .u64 (18446744073709551615 - a2), .int .u64 (18446744073709551615 - a3)]) (by simp [results, Try.results72, go_sem, *]) rfl ⟨_, _, _, _, rfl, ⟨⟨by omega, by omega⟩, ⟨by omega, by omega⟩, ⟨by omega, by omega⟩, ⟨by omega, by omega⟩⟩, ?_, ?_⟩
  · show _ = _
    unfold val; omega
  · go_grown


/-- Shifted down with a sign. -/
def sar (n x : Int) (b : Bool) : Int := if b then 115792089237316195423570985008687907853269984665640564039457584007913129639936 - 1 - dn n (115792089237316195423570985008687907853269984665640564039457584007913129639936 - 1 - x) else dn n x
theorem sar_bd (n x : Int) (b : Bool) (hx : 0 ≤ x ∧ x < 115792089237316195423570985008687907853269984665640564039457584007913129639936) : 0 ≤ sar n x b ∧ sar n x b < 115792089237316195423570985008687907853269984665640564039457584007913129639936 := by
  unfold sar
  cases b
  · simpa using dn_bd n x hx
  · have := dn_bd n (115792089237316195423570985008687907853269984665640564039457584007913129639936 - 1 - x) (by omega)
    simp only [if_true]; omega
theorem bit_not (x : Int) (i : Nat) (hi : i < 256) : bitAt (115792089237316195423570985008687907853269984665640564039457584007913129639936 - 1 - x) i = !bitAt x i := by
  unfold bitAt
  have hp : (0 : Int) < 2 ^ i := Int.pow_pos (by decide)
  have e : (115792089237316195423570985008687907853269984665640564039457584007913129639936 : Int) = 2 ^ i * (2 * 2 ^ (255 - i)) := by
    rw [show (2 : Int) * 2 ^ (255 - i) = 2 ^ (256 - i) by rw [show 256 - i = 255 - i + 1 by omega, Int.pow_succ, Int.mul_comm], ← Int.pow_add, show i + (256 - i) = 256 by omega]; rfl
  have k1 := Int.mul_ediv_add_emod x (2 ^ i)
  have k2 := Int.emod_nonneg x (Int.ne_of_gt hp)
  have k3 := Int.emod_lt_of_pos x hp
  have h : (115792089237316195423570985008687907853269984665640564039457584007913129639936 - 1 - x) / 2 ^ i = 2 * 2 ^ (255 - i) - 1 - x / 2 ^ i := by
    refine ((Int.ediv_emod_unique (r := 2 ^ i - 1 - x % 2 ^ i) hp).2 ⟨?_, ?_, ?_⟩).1
    · rw [Int.mul_sub, Int.mul_sub, ← e, Int.mul_one]; omega
    · omega
    · omega
  rw [h]
  generalize (2 : Int) ^ (255 - i) = T
  generalize x / 2 ^ i = Y
  have hy : Y % 2 = 0 ∨ Y % 2 = 1 := by omega
  rcases hy with hy | hy
  · rw [show (2 * T - 1 - Y) % 2 = 1 by omega, hy]; rfl
  · rw [show (2 * T - 1 - Y) % 2 = 0 by omega, hy]; rfl
theorem dn_k (n x : Int) (hx : 0 ≤ x ∧ x < 115792089237316195423570985008687907853269984665640564039457584007913129639936) (k : Nat) (h1 : n < 256 → n.toNat = k) (h2 : ¬ n < 256 → k = 256) : dn n x = x / 2 ^ k := by
  unfold dn
  by_cases h : n < 256
  · rw [if_pos h, h1 h]
  · rw [if_neg h, h2 h, show ((2 : Int) ^ 256) = 115792089237316195423570985008687907853269984665640564039457584007913129639936 from rfl]; omega
theorem rgt_sar (n x : Int) (hx : 0 ≤ x ∧ x < 115792089237316195423570985008687907853269984665640564039457584007913129639936) (k : Nat) (h1 : n < 256 → n.toNat = k) (h2 : ¬ n < 256 → k = 256) (b : Bool) : rgt k x b = sar n x b := by
  have hs := sar_bd n x b hx
  unfold rgt
  have e : sumb (fun i => if i + k < 256 then bitAt x (i + k) else b) 256 = sumb (bitAt (sar n x b)) 256 := by
    apply sumb_ext
    intro i hi
    cases b with
    | false =>
      show (if i + k < 256 then bitAt x (i + k) else false) = bitAt (dn n x) i
      rw [dn_k n x hx k h1 h2, bit_dn]
      by_cases h : i + k < 256
      · rw [if_pos h]
      · rw [if_neg h, bit_no x hx _ (by omega)]
    | true =>
      have hx2 : 0 ≤ 115792089237316195423570985008687907853269984665640564039457584007913129639936 - 1 - x ∧ 115792089237316195423570985008687907853269984665640564039457584007913129639936 - 1 - x < 115792089237316195423570985008687907853269984665640564039457584007913129639936 := by omega
      show (if i + k < 256 then bitAt x (i + k) else true) = bitAt (115792089237316195423570985008687907853269984665640564039457584007913129639936 - 1 - dn n (115792089237316195423570985008687907853269984665640564039457584007913129639936 - 1 - x)) i
      rw [bit_not _ i hi, dn_k n _ hx2 k h1 h2, bit_dn]
      by_cases h : i + k < 256
      · rw [if_pos h, bit_not x _ h]; simp
      · rw [if_neg h, bit_no _ hx2 _ (by omega)]; rfl
  rw [e, sumb_bits, show ((2 : Int) ^ 256) = 115792089237316195423570985008687907853269984665640564039457584007913129639936 from rfl]
  omega

set_option maxHeartbeats 2000000 in
theorem sar_any (n0 n1 n2 n3 a0 a1 a2 a3 : Int) (hn : Ws n0 n1 n2 n3) (ha : Ws a0 a1 a2 a3) (w : World) :
    Calls Try.prog 36 #[.agg #[.int .u64 n0, .int .u64 n1, .int .u64 n2, .int .u64 n3], .agg #[.int .u64 a0, .int .u64 a1, .int .u64 a2, .int .u64 a3]] w fun e w' =>
      ∃ r0 r1 r2 r3 : Int, e = .returned (.agg #[.int .u64 r0, .int .u64 r1, .int .u64 r2, .int .u64 r3]) ∧ Ws r0 r1 r2 r3 ∧ Hid (val r0 r1 r2 r3 = sar (val n0 n1 n2 n3) (val a0 a1 a2 a3) (neg a3)) ∧ Below w.heap.size w w' := by
  have bA := val_bd _ _ _ _ ha
  obtain ⟨u, hu⟩ : ∃ u, neg a3 = u := ⟨_, rfl⟩
  have cn := negative_any a0 a1 a2 a3 ha
  rw [hu] at cn ⊢
  obtain ⟨p0, p1, p2, p3, hP, vP, cP⟩ := exact4 (by omega) (not_any a0 a1 a2 a3 ha)
  have bP := val_bd _ _ _ _ hP
  obtain ⟨q0, q1, q2, q3, hQ, vQ, cQ⟩ := exact4 (dn_bd _ _ bP) (shr_any n0 n1 n2 n3 p0 p1 p2 p3 hn hP)
  have bQ := val_bd _ _ _ _ hQ
  obtain ⟨s0, s1, s2, s3, hS, vS, cS⟩ := exact4 (by omega) (not_any q0 q1 q2 q3 hQ)
  obtain ⟨t0, t1, t2, t3, hT, vT, cT⟩ := exact4 (dn_bd _ _ bA) (shr_any n0 n1 n2 n3 a0 a1 a2 a3 hn ha)
  have KN : Hid (∀ w : World, _) := cn
  have KP : Hid (∀ w : World, _) := cP
  have KQ : Hid (∀ w : World, _) := cQ
  have KS : Hid (∀ w : World, _) := cS
  have KT : Hid (∀ w : World, _) := cT
  have VS : Hid (_ ∧ _) := ⟨(show val s0 s1 s2 s3 = sar (val n0 n1 n2 n3) (val a0 a1 a2 a3) true by rw [vS.out, vQ.out, vP.out]; rfl), (show val t0 t1 t2 t3 = sar (val n0 n1 n2 n3) (val a0 a1 a2 a3) false by rw [vT.out]; rfl)⟩
  clear cn cP cQ cS cT vP vQ vS vT bA bP bQ hu
  go_enter Try.func36, Try.ntmps36
  go_wp2_with fail
  refine (KN.out _).mono ?_
  rintro e w1 ⟨rfl, hb1⟩
  have m1 : SD w.heap.size n0 n1 n2 n3 a0 a1 a2 a3 w1 := SD.below (⟨by simp, by simp [go_sem], by simp [go_sem], by simp [go_sem], by simp [go_sem], by simp [go_sem], by simp [go_sem], by simp [go_sem], by simp [go_sem], by simp [go_sem], by simp [go_sem], by simp [go_sem], by simp [go_sem], fun o => by simp [go_sem]⟩) hb1
  have E1 := belowStep (n := w.heap.size) (w := w) (by go_grown) (by (try simp) <;> omega) hb1
  clear hb1
  cases u with
  | true =>
    go_wp2
    refine wpOf (fun W => Below w.heap.size w W ∧ SD w.heap.size n0 n1 n2 n3 a0 a1 a2 a3 W) ⟨E1, m1⟩ ?_
    clear E1 m1
    rintro V ⟨EV, mV⟩
    obtain ⟨zz, c0, c1, c2, c3, d0, d1, d2, d3, _, _, _, _, _⟩ := id mV
    have k0 := cell_regrown c0
    have k1 := cell_regrown c1
    have k2 := cell_regrown c2
    have k3 := cell_regrown c3
    have l0 := cell_regrown d0
    have l1 := cell_regrown d1
    have l2 := cell_regrown d2
    have l3 := cell_regrown d3
    have cP := inClass (w := V) KP.out
    have cQ := inClass (w := V) KQ.out
    have cS := inClass (w := V) KS.out
    refine region_tail 5 (by kernel_rfl) (by kernel_rfl) ?_
    simp only [List.take_succ_cons, List.take_zero, List.drop_succ_cons, List.drop_zero]
    iterate 2 (quiet_step (fail))
    quiet_step (exact cP _ _)
    quiet_step (exact cQ _ _)
    quiet_step (exact cS _ _)
    refine wpQuiet_nil ?_
    intro w8 hw8
    have hb8 : Below V.heap.size V w8 := by
      obtain ⟨p, rfl⟩ := hw8
      exact below_regrown _ _ _
    have m8 := SD.below mV hb8
    have E8 := belowStep EV EV.size hb8
    clear hw8 hb8
    obtain ⟨zz8, _, _, _, _, _, _, _, _, y0, y1, y2, y3, yf⟩ := id m8
    go_wp2
    refine bodyPost_ret (v := .agg #[.int .u64 s0, .int .u64 s1, .int .u64 s2, .int .u64 s3]) (by simp [results, Try.results36, go_sem, *]) rfl ⟨s0, s1, s2, s3, rfl, hS, ?_, ?_⟩
    · show _ = _
      exact VS.out.1
    · go_grown
  | false =>
    obtain ⟨zz, c0, c1, c2, c3, d0, d1, d2, d3, _, _, _, _, _⟩ := id m1
    go_wp2_with fail
    refine (KT.out _).mono ?_
    rintro e w8 ⟨rfl, hb8⟩
    have m8 := SD.below m1 hb8
    have E8 := belowStep E1 E1.size hb8
    clear hb8 c0 c1 c2 c3 d0 d1 d2 d3 zz
    obtain ⟨zz8, _, _, _, _, _, _, _, _, y0, y1, y2, y3, yf⟩ := id m8
    go_wp2
    refine bodyPost_ret (v := .agg #[.int .u64 t0, .int .u64 t1, .int .u64 t2, .int .u64 t3]) (by simp [results, Try.results36, go_sem, *]) rfl ⟨t0, t1, t2, t3, rfl, hT, ?_, ?_⟩
    · show _ = _
      exact VS.out.2
    · go_grown

set_option maxHeartbeats 2000000 in
theorem rshr_any (n0 n1 n2 n3 a0 a1 a2 a3 : Int) (hn : Ws n0 n1 n2 n3) (ha : Ws a0 a1 a2 a3) (w : World) :
    Calls Try.prog 35 #[.agg #[.int .u64 n0, .int .u64 n1, .int .u64 n2, .int .u64 n3], .agg #[.int .u64 a0, .int .u64 a1, .int .u64 a2, .int .u64 a3]] w fun e w' =>
      ∃ r0 r1 r2 r3 : Int, e = .returned (.agg #[.int .u64 r0, .int .u64 r1, .int .u64 r2, .int .u64 r3]) ∧ Ws r0 r1 r2 r3 ∧ Hid (val r0 r1 r2 r3 = dn (val n0 n1 n2 n3) (val a0 a1 a2 a3)) ∧ Below w.heap.size w w' := by
  obtain ⟨k, hk1, hk2, hk3, hk4⟩ : ∃ k : Nat, lid (val n0 n1 n2 n3) 256 = k ∧ k ≤ 256 ∧ (val n0 n1 n2 n3 < 256 → (val n0 n1 n2 n3).toNat = k) ∧ (¬ val n0 n1 n2 n3 < 256 → k = 256) := lid_nat (val n0 n1 n2 n3) (val_bd _ _ _ _ hn).1 256
  have HF : Hid (rgt k (val a0 a1 a2 a3) false = dn (val n0 n1 n2 n3) (val a0 a1 a2 a3)) := (rgt_sar (val n0 n1 n2 n3) (val a0 a1 a2 a3) (val_bd _ _ _ _ ha) k hk3 hk4 false)
  have c := rright_any n0 n1 n2 n3 a0 a1 a2 a3 false hn ha k hk1 hk2
  have KR : Hid (∀ w : World, _) := c
  clear c hk1 hk2 hk3 hk4
  go_enter Try.func35, Try.ntmps35
  go_wp2_with fail
  refine (KR.out _).mono ?_
  rintro e w1 ⟨r0, r1, r2, r3, rfl, hr, hrv, hb1⟩
  have m8 : SD w.heap.size n0 n1 n2 n3 a0 a1 a2 a3 w1 := SD.below (⟨by simp, by simp [go_sem], by simp [go_sem], by simp [go_sem], by simp [go_sem], by simp [go_sem], by simp [go_sem], by simp [go_sem], by simp [go_sem], by simp [go_sem], by simp [go_sem], by simp [go_sem], by simp [go_sem], fun o => by simp [go_sem]⟩) hb1
  have E1 := belowStep (n := w.heap.size) (w := w) (by go_grown) (by (try simp) <;> omega) hb1
  clear hb1
  obtain ⟨zz8, _, _, _, _, _, _, _, _, y0, y1, y2, y3, yf⟩ := id m8
  go_wp2
  refine bodyPost_ret (v := .agg #[.int .u64 r0, .int .u64 r1, .int .u64 r2, .int .u64 r3]) (by simp [results, Try.results35, go_sem, *]) rfl ⟨r0, r1, r2, r3, rfl, hr, ?_, ?_⟩
  · show _ = _
    rw [hrv.out]; exact HF.out
  · go_grown

set_option maxHeartbeats 2000000 in
theorem rsar_any (n0 n1 n2 n3 a0 a1 a2 a3 : Int) (hn : Ws n0 n1 n2 n3) (ha : Ws a0 a1 a2 a3) (w : World) :
    Calls Try.prog 37 #[.agg #[.int .u64 n0, .int .u64 n1, .int .u64 n2, .int .u64 n3], .agg #[.int .u64 a0, .int .u64 a1, .int .u64 a2, .int .u64 a3]] w fun e w' =>
      ∃ r0 r1 r2 r3 : Int, e = .returned (.agg #[.int .u64 r0, .int .u64 r1, .int .u64 r2, .int .u64 r3]) ∧ Ws r0 r1 r2 r3 ∧ Hid (val r0 r1 r2 r3 = sar (val n0 n1 n2 n3) (val a0 a1 a2 a3) (neg a3)) ∧ Below w.heap.size w w' := by
  obtain ⟨k, hk1, hk2, hk3, hk4⟩ : ∃ k : Nat, lid (val n0 n1 n2 n3) 256 = k ∧ k ≤ 256 ∧ (val n0 n1 n2 n3 < 256 → (val n0 n1 n2 n3).toNat = k) ∧ (¬ val n0 n1 n2 n3 < 256 → k = 256) := lid_nat (val n0 n1 n2 n3) (val_bd _ _ _ _ hn).1 256
  obtain ⟨u, hu⟩ : ∃ u, neg a3 = u := ⟨_, rfl⟩
  have cn := rnegative_any a0 a1 a2 a3 ha
  rw [hu] at cn ⊢
  have hF := rgt_sar (val n0 n1 n2 n3) (val a0 a1 a2 a3) (val_bd _ _ _ _ ha) k hk3 hk4 u
  obtain ⟨r0, r1, r2, r3, hR, vR, cR⟩ := exact4 (by rw [hF]; exact sar_bd _ _ _ (val_bd _ _ _ _ ha)) (rright_any n0 n1 n2 n3 a0 a1 a2 a3 u hn ha k hk1 hk2)
  have HF : Hid (_ = _) := vR.out.trans hF
  have KN : Hid (∀ w : World, _) := cn
  have KR : Hid (∀ w : World, _) := cR
  clear cn cR hk1 hk2 hk3 hk4 hu hF vR
  go_enter Try.func37, Try.ntmps37
  go_wp2
  refine wpOf (fun W => Below w.heap.size w W ∧ SD w.heap.size n0 n1 n2 n3 a0 a1 a2 a3 W) ⟨by go_grown, ?_⟩ ?_
  · exact ⟨by simp, by simp [go_sem], by simp [go_sem], by simp [go_sem], by simp [go_sem], by simp [go_sem], by simp [go_sem], by simp [go_sem], by simp [go_sem], by simp [go_sem], by simp [go_sem], by simp [go_sem], by simp [go_sem], fun o => by simp [go_sem]⟩
  rintro V ⟨EV, mV⟩
  obtain ⟨zz, c0, c1, c2, c3, d0, d1, d2, d3, _, _, _, _, _⟩ := id mV
  have k0 := cell_regrown c0
  have k1 := cell_regrown c1
  have k2 := cell_regrown c2
  have k3 := cell_regrown c3
  have l0 := cell_regrown d0
  have l1 := cell_regrown d1
  have l2 := cell_regrown d2
  have l3 := cell_regrown d3
  have cN := inClass (w := V) KN.out
  have cR := inClass (w := V) KR.out
  refine region_tail 5 (by kernel_rfl) (by kernel_rfl) ?_
  simp only [List.take_succ_cons, List.take_zero, List.drop_succ_cons, List.drop_zero]
  iterate 3 (quiet_step (fail))
  quiet_step (exact cN _ _)
  quiet_step (exact cR _ _)
  refine wpQuiet_nil ?_
  intro w8 hw8
  have hb8 : Below V.heap.size V w8 := by
    obtain ⟨p, rfl⟩ := hw8
    exact below_regrown _ _ _
  have m8 := SD.below mV hb8
  have E8 := belowStep EV EV.size hb8
  clear hw8 hb8
  obtain ⟨zz8, _, _, _, _, _, _, _, _, y0, y1, y2, y3, yf⟩ := id m8
  go_wp2
  refine bodyPost_ret (v := .agg #[.int .u64 r0, .int .u64 r1, .int .u64 r2, .int .u64 r3]) (by simp [results, Try.results37, go_sem, *]) rfl ⟨r0, r1, r2, r3, rfl, hR, ?_, ?_⟩
  · show _ = _
    exact HF.out
  · go_grown
end Go.Proofs.Ytgapcjdgakamoaa
