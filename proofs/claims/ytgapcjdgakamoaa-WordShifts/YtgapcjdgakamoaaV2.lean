/- What the reference's Of, Add, not, Sub, negative, size, Less, SLess do at this translation: for all words, whatever the memory. -/
import Derived.Test.YtgapcjdgakamoaaV1
import Derived.Test.YtgapcjdgakamoaaW17
namespace Go.Proofs.Ytgapcjdgakamoaa
open Go.RowKit Go.Shelf Go.Sort

theorem rof_any (n : Int) (w : World) :
    Calls Try.prog 17 #[.int .u64 n] w fun e w' => e = .returned (.agg #[.int .u64 n, .int .u64 0, .int .u64 0, .int .u64 0]) ∧ Below w.heap.size w w' := by
  go_enter Try.func17, Try.ntmps17
  go_wp2
  refine bodyPost_ret (v := .agg #[.int .u64 n, .int .u64 0, .int .u64 0, .int .u64 0]) (by simp [results, Try.results17, go_sem]) rfl ⟨rfl, ?_⟩
  go_grown

set_option maxHeartbeats 1000000 in
theorem radd_any (a0 a1 a2 a3 b0 b1 b2 b3 : Int) (ha : Ws a0 a1 a2 a3) (hb : Ws b0 b1 b2 b3) (w : World) :
    Calls Try.prog 11 #[.agg #[.int .u64 a0, .int .u64 a1, .int .u64 a2, .int .u64 a3], .agg #[.int .u64 b0, .int .u64 b1, .int .u64 b2, .int .u64 b3]] w fun e w' =>
      ∃ r0 r1 r2 r3 : Int, e = .returned (.agg #[.int .u64 r0, .int .u64 r1, .int .u64 r2, .int .u64 r3]) ∧ Ws r0 r1 r2 r3 ∧ Hid (val r0 r1 r2 r3 = (val a0 a1 a2 a3 + val b0 b1 b2 b3) % 115792089237316195423570985008687907853269984665640564039457584007913129639936) ∧ Below w.heap.size w w' := by
  go_enter Try.func11, Try.ntmps11
  go_wp2_with fail
  refine (rcarry_any a0 a1 a2 a3 b0 b1 b2 b3 ha hb _).mono ?_
  rintro e w1 ⟨r0, r1, r2, r3, c, rfl, hr, hv, hb1⟩
  obtain ⟨hc, hf⟩ := oldKept hb1
  have hz : w.heap.size + 2 < w1.heap.size := by have := hb1.size; simp at this; omega
  go_wp2
  refine bodyPost_ret (v := .agg #[.int .u64 r0, .int .u64 r1, .int .u64 r2, .int .u64 r3]) (by simp [results, Try.results11, go_sem, hc, hz]) rfl ⟨r0, r1, r2, r3, rfl, hr, ?_, ?_⟩
  · have h := hv.out; have := val_bd _ _ _ _ hr
    show _ = _
    cases c <;> simp at h <;> omega
  · have hb2 := belowStep (n := w.heap.size) (w := w) (by go_grown) (by simp <;> omega) hb1
    go_grown

theorem not_part (x : Int) (h : Pt x) : bits .xor .u64 18446744073709551615 x = 18446744073709551615 - x := by
  obtain ⟨h0, h1⟩ := h
  obtain ⟨k, rfl⟩ := Int.eq_ofNat_of_zero_le h0
  have e : (BitVec.ofInt 64 18446744073709551615 ^^^ BitVec.ofInt 64 (k : Int)).toNat = 18446744073709551615 - k := by
    have a0 : (BitVec.ofInt 64 18446744073709551615) = BitVec.allOnes 64 := by decide
    rw [a0, BitVec.allOnes_xor, BitVec.toNat_not]
    have a1 : (BitVec.ofInt 64 (k : Int)).toNat = k := by
      rw [BitVec.toNat_ofInt]; omega
    rw [a1]
  show IntKind.u64.wrap ((BitVec.ofInt 64 18446744073709551615 ^^^ BitVec.ofInt 64 (k : Int)).toNat : Int) = _
  rw [e, IntKind.wrap_u64]
  omega

set_option maxHeartbeats 1000000 in
theorem rnot_any (a0 a1 a2 a3 : Int) (ha : Ws a0 a1 a2 a3) (w : World) :
    Calls Try.prog 53 #[.agg #[.int .u64 a0, .int .u64 a1, .int .u64 a2, .int .u64 a3]] w fun e w' =>
      ∃ r0 r1 r2 r3 : Int, e = .returned (.agg #[.int .u64 r0, .int .u64 r1, .int .u64 r2, .int .u64 r3]) ∧ Ws r0 r1 r2 r3 ∧ Hid (val r0 r1 r2 r3 = 115792089237316195423570985008687907853269984665640564039457584007913129639936 - 1 - val a0 a1 a2 a3) ∧ Below w.heap.size w w' := by
  obtain ⟨⟨h00, h01⟩, ⟨h10, h11⟩, ⟨h20, h21⟩, ⟨h30, h31⟩⟩ := id ha
  have n0 := not_part a0 ha.1
  have n1 := not_part a1 ha.2.1
  have n2 := not_part a2 ha.2.2.1
  have n3 := not_part a3 ha.2.2.2
  have km : IntKind.u64.max = 18446744073709551615 := by decide
  have ks : IntKind.u64.signed = false := rfl
  go_enter Try.func53, Try.ntmps53
  go_wp2
  refine bodyPost_ret (v := .agg #[.int .u64 (18446744073709551615 - a0), .int .u64 (18446744073709551615 - a1), .int .u64 (18446744073709551615 - a2), .int .u64 (18446744073709551615 - a3)]) (by simp [results, Try.results53, go_sem, *]) rfl ⟨_, _, _, _, rfl, ⟨⟨by omega, by omega⟩, ⟨by omega, by omega⟩, ⟨by omega, by omega⟩, ⟨by omega, by omega⟩⟩, ?_, ?_⟩
  · show _ = _
    unfold val; omega
  · go_grown

set_option maxHeartbeats 2000000 in
theorem rsub_any (a0 a1 a2 a3 b0 b1 b2 b3 : Int) (ha : Ws a0 a1 a2 a3) (hb : Ws b0 b1 b2 b3) (w : World) :
    Calls Try.prog 13 #[.agg #[.int .u64 a0, .int .u64 a1, .int .u64 a2, .int .u64 a3], .agg #[.int .u64 b0, .int .u64 b1, .int .u64 b2, .int .u64 b3]] w fun e w' =>
      ∃ r0 r1 r2 r3 : Int, e = .returned (.agg #[.int .u64 r0, .int .u64 r1, .int .u64 r2, .int .u64 r3]) ∧ Ws r0 r1 r2 r3 ∧ Hid (val r0 r1 r2 r3 = (val a0 a1 a2 a3 - val b0 b1 b2 b3) % 115792089237316195423570985008687907853269984665640564039457584007913129639936) ∧ Below w.heap.size w w' := by
  have ho : Pt 0 := ⟨by decide, by decide⟩
  have h1 : Ws 1 0 0 0 := ⟨⟨by decide, by decide⟩, ho, ho, ho⟩
  have bB := val_bd _ _ _ _ hb
  obtain ⟨n0, n1, n2, n3, hN, vN, cN⟩ := exact4 (by omega) (rnot_any b0 b1 b2 b3 hb)
  obtain ⟨m0, m1, m2, m3, hM, vM, cM⟩ := exact4 (emod_bd _) (radd_any n0 n1 n2 n3 1 0 0 0 hN h1)
  obtain ⟨r0, r1, r2, r3, hR, vR, cR⟩ := exact4 (emod_bd _) (radd_any a0 a1 a2 a3 m0 m1 m2 m3 ha hM)
  have vF : Hid (val r0 r1 r2 r3 = (val a0 a1 a2 a3 - val b0 b1 b2 b3) % 115792089237316195423570985008687907853269984665640564039457584007913129639936) := by
    show _ = _
    rw [vR.out, vM.out, vN.out, show val 1 0 0 0 = 1 from rfl]
    omega
  have KN : Hid (∀ w : World, _) := cN
  have KM : Hid (∀ w : World, _) := cM
  have KR : Hid (∀ w : World, _) := cR
  clear cN cM cR vN vM vR bB
  go_enter Try.func13, Try.ntmps13
  go_wp2
  refine wpOf (fun W => Below w.heap.size w W ∧ SD w.heap.size a0 a1 a2 a3 b0 b1 b2 b3 W) ⟨?_, ?_⟩ ?_
  · go_grown
  · exact ⟨by simp, by simp [go_sem], by simp [go_sem], by simp [go_sem], by simp [go_sem], by simp [go_sem], by simp [go_sem], by simp [go_sem], by simp [go_sem], by simp [go_sem], by simp [go_sem], by simp [go_sem], by simp [go_sem], fun o => by simp [go_sem]⟩
  rintro V ⟨E0, s0⟩
  have s0d := SD.drew s0
  have E0d := Below.drew E0
  go_region_held3 (fun w' => w.heap.size + 2 < w'.heap.size ∧ w'.cell? ⟨w.heap.size, 0, none⟩ = some (.int .u64 a0) ∧ w'.cell? ⟨w.heap.size, 1, none⟩ = some (.int .u64 a1) ∧ w'.cell? ⟨w.heap.size, 2, none⟩ = some (.int .u64 a2) ∧ w'.cell? ⟨w.heap.size, 3, none⟩ = some (.int .u64 a3) ∧ w'.cell? ⟨w.heap.size + 1, 0, none⟩ = some (.int .u64 b0) ∧ w'.cell? ⟨w.heap.size + 1, 1, none⟩ = some (.int .u64 b1) ∧ w'.cell? ⟨w.heap.size + 1, 2, none⟩ = some (.int .u64 b2) ∧ w'.cell? ⟨w.heap.size + 1, 3, none⟩ = some (.int .u64 b3)) (((repeat' (first | with_reducible exact SD.two t4 | with_reducible exact SD.two t3 | with_reducible exact SD.two t2 | with_reducible exact SD.two t1 | with_reducible exact SD.two s0d | with_reducible exact SD.two s0 | with_reducible refine SE.setCell (n := w.heap.size) (a0 := a0) (a1 := a1) (a2 := a2) (a3 := a3) (b0 := b0) (b1 := b1) (b2 := b2) (b3 := b3) ?_ _ ?_ _ | (dsimp only; omega))); done))
    (first
      | (go_at_call 53; refine (KN.out _).mono ?_; rintro e w1 ⟨rfl, hb1⟩; (first | (have t1 := SD.below t2 hb1; have E1 := belowStep E2 E2.size hb1) | (have t1 := SD.below s0d hb1; have E1 := belowStep E0d E0d.size hb1)))
      | (go_at_call 17; refine (rof_any 1 _).mono ?_; rintro e w2 ⟨rfl, hb2⟩; (first | (have t2 := SD.below t1 hb2; have E2 := belowStep E1 E1.size hb2) | (have t2 := SD.below s0d hb2; have E2 := belowStep E0d E0d.size hb2)))
      | (go_at_call_of 11 n0; refine (KM.out _).mono ?_; rintro e w3 ⟨rfl, hb3⟩; (first | (have t3 := SD.below t2 hb3; have E3 := belowStep E2 E2.size hb3) | (have t3 := SD.below t1 hb3; have E3 := belowStep E1 E1.size hb3)))
      | (go_at_call 11; refine (KR.out _).mono ?_; rintro e w4 ⟨rfl, hb4⟩; have t4 := SD.below t3 hb4; have E4 := belowStep E3 E3.size hb4; obtain ⟨zz, x0, x1, x2, x3, y0, y1, y2, y3, z0, z1, z2, z3, zf⟩ := id t4))
  all_goals
    go_wp2
    refine bodyPost_ret (v := .agg #[.int .u64 r0, .int .u64 r1, .int .u64 r2, .int .u64 r3]) (by simp [results, Try.results13, go_sem, *]) rfl ⟨r0, r1, r2, r3, rfl, hR, vF, ?_⟩
    go_grown

theorem rnegative_any (a0 a1 a2 a3 : Int) (ha : Ws a0 a1 a2 a3) (w : World) :
    Calls Try.prog 65 #[.agg #[.int .u64 a0, .int .u64 a1, .int .u64 a2, .int .u64 a3]] w fun e w' => e = .returned (.bool (neg a3)) ∧ Below w.heap.size w w' := by
  obtain ⟨ha0, ha1, ha2, ⟨ha3, ha3'⟩⟩ := ha
  have h : ∀ x : Int, 0 ≤ x → x < 18446744073709551616 → (x / 9223372036854775808 == 1) = neg x := by
    intro x h1 h2; unfold neg; rw [Bool.eq_iff_iff]; simp; omega
  go_enter Try.func65, Try.ntmps65
  go_wp2
  go_ret
  refine ⟨rfl, ?_⟩
  go_grown

set_option maxHeartbeats 1000000 in
theorem rsize_any (a0 a1 a2 a3 : Int) (ha : Ws a0 a1 a2 a3) (w : World) :
    Calls Try.prog 64 #[.agg #[.int .u64 a0, .int .u64 a1, .int .u64 a2, .int .u64 a3]] w fun e w' =>
      ∃ r0 r1 r2 r3 : Int, e = .returned (.agg #[.int .u64 r0, .int .u64 r1, .int .u64 r2, .int .u64 r3]) ∧ Ws r0 r1 r2 r3 ∧ Hid (val r0 r1 r2 r3 = sgn (neg a3) (val a0 a1 a2 a3)) ∧ Below w.heap.size w w' := by
  have hz0 : Ws 0 0 0 0 := ⟨⟨by decide, by decide⟩, ⟨by decide, by decide⟩, ⟨by decide, by decide⟩, ⟨by decide, by decide⟩⟩
  obtain ⟨b, hn⟩ : ∃ b, neg a3 = b := ⟨_, rfl⟩
  have cn := rnegative_any a0 a1 a2 a3 ha
  rw [hn] at cn ⊢
  have CN : Hid (∀ w : World, _) := cn
  clear cn hn
  go_enter Try.func64, Try.ntmps64
  go_wp2_with fail
  refine (CN.out _).mono ?_
  rintro e w1 ⟨rfl, hb1⟩
  have A1 : Cw w.heap.size a0 a1 a2 a3 w1 := Cw.below (by repeat' (first | exact Cw.new _ _ _ _ _ _ | apply Cw.alloc | apply Cw.drew)) hb1
  have Z1 : Rw (w.heap.size + 1) 0 0 0 0 w1 := Rw.below (by
    have := Rw.new (w.alloc (.cells #[.int .u64 a0, .int .u64 a1, .int .u64 a2, .int .u64 a3] 24)) 0 0 0 0 24
    simpa using this) hb1
  have E1 := belowStep (n := w.heap.size) (w := w) (by go_grown) (by (try simp) <;> omega) hb1
  clear hb1
  obtain ⟨za, ca0, ca1, ca2, ca3⟩ := id A1
  obtain ⟨⟨zz, cz0, cz1, cz2, cz3⟩, zf⟩ := id Z1
  cases b with
  | false =>
    go_wp2
    refine bodyPost_ret (v := .agg #[.int .u64 a0, .int .u64 a1, .int .u64 a2, .int .u64 a3]) (by simp [results, Try.results64, go_sem, *]) rfl ⟨a0, a1, a2, a3, rfl, ha, rfl, ?_⟩
    go_grown
  | true =>
    go_wp2_with fail
    refine (rsub_any 0 0 0 0 a0 a1 a2 a3 hz0 ha _).mono ?_
    rintro e w2 ⟨r0, r1, r2, r3, rfl, hr, hv, hb2⟩
    have Z2 := Z1.below hb2
    have E2 := belowStep E1 E1.size hb2
    clear za ca0 ca1 ca2 ca3 zz cz0 cz1 cz2 cz3 zf hb2
    obtain ⟨⟨zz, cz0, cz1, cz2, cz3⟩, zf⟩ := id Z2
    go_wp2
    refine bodyPost_ret (v := .agg #[.int .u64 r0, .int .u64 r1, .int .u64 r2, .int .u64 r3]) (by simp [results, Try.results64, go_sem, *]) rfl ⟨r0, r1, r2, r3, rfl, hr, ?_, ?_⟩
    · have := hv.out
      show _ = _
      rw [this]; rfl
    · go_grown
end Go.Proofs.Ytgapcjdgakamoaa
