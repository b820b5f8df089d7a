/- What the reference's divided does at this translation: for all bits and all words that are not 0, whatever the memory. -/
import Derived.Test.YtgapcjdgakamoaaV7
import Derived.Test.YtgapcjdgakamoaaV8
import Derived.Test.YtgapcjdgakamoaaTail
namespace Go.Proofs.Ytgapcjdgakamoaa
open Go.RowKit Go.Shelf Go.Sort

/-- The number of bits, the highest first. -/
def num (f : Nat → Bool) : Nat → Int
  | 0 => 0
  | k + 1 => 2 * num f k + (if f k then 1 else 0)

theorem val_small (n : Int) : val n 0 0 0 = n := by unfold val; omega

theorem div_step (X B o : Int) (hB : 0 < B) (ho : o = 0 ∨ o = 1) :
    (2 * (X % B) + o < B → (2 * X + o) / B = 2 * (X / B) ∧ (2 * X + o) % B = 2 * (X % B) + o) ∧
    (B ≤ 2 * (X % B) + o → (2 * X + o) / B = 2 * (X / B) + 1 ∧ (2 * X + o) % B = 2 * (X % B) + o - B) := by
  have e := Int.mul_ediv_add_emod X B
  have h1 := Int.emod_nonneg X (Int.ne_of_gt hB)
  have h2 := Int.emod_lt_of_pos X hB
  have e1 : B * (2 * (X / B)) = 2 * (B * (X / B)) := Int.mul_left_comm _ _ _
  have e2 : B * (2 * (X / B) + 1) = 2 * (B * (X / B)) + B := by rw [Int.mul_add, e1, Int.mul_one]
  refine ⟨fun h => (Int.ediv_emod_unique hB).2 ⟨?_, ?_, ?_⟩, fun h => (Int.ediv_emod_unique hB).2 ⟨?_, ?_, ?_⟩⟩
  · rw [e1]; omega
  · omega
  · omega
  · rw [e2]; omega
  · omega
  · omega

/-- One round in plain numbers, where the divisor is taken off. -/
theorem round_yes (X B o R Q T S D P Y : Int) (c : Bool) (hB : 0 < B ∧ B < 115792089237316195423570985008687907853269984665640564039457584007913129639936) (ho : o = 0 ∨ o = 1) (hR : R = X % B) (hQ : Q = X / B % 115792089237316195423570985008687907853269984665640564039457584007913129639936) (hT : T + (if c then 115792089237316195423570985008687907853269984665640564039457584007913129639936 else 0) = R + R) (hT' : 0 ≤ T ∧ T < 115792089237316195423570985008687907853269984665640564039457584007913129639936)
    (hS : S = (T + o) % 115792089237316195423570985008687907853269984665640564039457584007913129639936) (hc : c = true ∨ ¬ S < B) (hD : D = (S - B) % 115792089237316195423570985008687907853269984665640564039457584007913129639936) (hP : P = (Q + Q) % 115792089237316195423570985008687907853269984665640564039457584007913129639936) (hY : Y = (P + 1) % 115792089237316195423570985008687907853269984665640564039457584007913129639936) : D = (2 * X + o) % B ∧ Y = (2 * X + o) / B % 115792089237316195423570985008687907853269984665640564039457584007913129639936 := by
  have h := div_step X B o hB.1 ho
  have h1 := Int.emod_nonneg X (Int.ne_of_gt hB.1)
  have h2 := Int.emod_lt_of_pos X hB.1
  rw [← hR] at h h1 h2
  generalize X / B = E at *
  have hle : B ≤ 2 * R + o := by
    rcases hc with rfl | hc
    · simp at hT; omega
    · cases c
      · simp at hT; omega
      · simp at hT; omega
  obtain ⟨g1, g2⟩ := h.2 hle
  rw [g1, g2]
  constructor
  · cases c
    · simp at hT; omega
    · simp at hT; omega
  · omega
theorem round_no (X B o R Q T S P : Int) (hB : 0 < B ∧ B < 115792089237316195423570985008687907853269984665640564039457584007913129639936) (ho : o = 0 ∨ o = 1) (hR : R = X % B) (hQ : Q = X / B % 115792089237316195423570985008687907853269984665640564039457584007913129639936) (hT : T + (if false = true then 115792089237316195423570985008687907853269984665640564039457584007913129639936 else 0) = R + R) (hT' : 0 ≤ T ∧ T < 115792089237316195423570985008687907853269984665640564039457584007913129639936)
    (hS : S = (T + o) % 115792089237316195423570985008687907853269984665640564039457584007913129639936) (hc : S < B) (hP : P = (Q + Q) % 115792089237316195423570985008687907853269984665640564039457584007913129639936) : S = (2 * X + o) % B ∧ P = (2 * X + o) / B % 115792089237316195423570985008687907853269984665640564039457584007913129639936 := by
  have h := div_step X B o hB.1 ho
  have h1 := Int.emod_nonneg X (Int.ne_of_gt hB.1)
  have h2 := Int.emod_lt_of_pos X hB.1
  rw [← hR] at h h1 h2
  generalize X / B = E at *
  simp at hT
  obtain ⟨g1, g2⟩ := h.1 (by omega)
  rw [g1, g2]
  constructor <;> omega

/-- The memory of a division between two rounds. -/
structure DS (n : Nat) (b0 b1 b2 b3 q0 q1 q2 q3 r0 r1 r2 r3 : Int) (W : World) : Prop where
  b : Rw n b0 b1 b2 b3 W
  y : Rw (n + 1) 0 0 0 0 W
  z : Rw (n + 1 + 1) 0 0 0 0 W
  q : Rw (n + 1 + 1 + 1) q0 q1 q2 q3 W
  r : Rw (n + 1 + 1 + 1 + 1) r0 r1 r2 r3 W
section
variable {n : Nat} {b0 b1 b2 b3 q0 q1 q2 q3 r0 r1 r2 r3 : Int} {W W' : World}
theorem DS.below (h : DS n b0 b1 b2 b3 q0 q1 q2 q3 r0 r1 r2 r3 W) (hb : Below W.heap.size W W') : DS n b0 b1 b2 b3 q0 q1 q2 q3 r0 r1 r2 r3 W' := ⟨h.b.below hb, h.y.below hb, h.z.below hb, h.q.below hb, h.r.below hb⟩
theorem DS.alloc (h : DS n b0 b1 b2 b3 q0 q1 q2 q3 r0 r1 r2 r3 W) (o : Obj) : DS n b0 b1 b2 b3 q0 q1 q2 q3 r0 r1 r2 r3 (W.alloc o) := h.below ((Below.refl _ W).alloc (Nat.le_refl _) o)
theorem DS.putQ (h : DS n b0 b1 b2 b3 q0 q1 q2 q3 r0 r1 r2 r3 W) (x0 x1 x2 x3 : Int) : DS n b0 b1 b2 b3 x0 x1 x2 x3 r0 r1 r2 r3 (put4 (n + 1 + 1 + 1) x0 x1 x2 x3 W) := ⟨h.b.other x0 x1 x2 x3 (by omega), h.y.other x0 x1 x2 x3 (by omega), h.z.other x0 x1 x2 x3 (by omega), h.q.over x0 x1 x2 x3, h.r.other x0 x1 x2 x3 (by omega)⟩
theorem DS.putR (h : DS n b0 b1 b2 b3 q0 q1 q2 q3 r0 r1 r2 r3 W) (x0 x1 x2 x3 : Int) : DS n b0 b1 b2 b3 q0 q1 q2 q3 x0 x1 x2 x3 (put4 (n + 1 + 1 + 1 + 1) x0 x1 x2 x3 W) := ⟨h.b.other x0 x1 x2 x3 (by omega), h.y.other x0 x1 x2 x3 (by omega), h.z.other x0 x1 x2 x3 (by omega), h.q.other x0 x1 x2 x3 (by omega), h.r.over x0 x1 x2 x3⟩
theorem DS.putO (h : DS n b0 b1 b2 b3 q0 q1 q2 q3 r0 r1 r2 r3 W) (g : Nat) (hg : n + 1 + 1 + 1 + 1 < g) (x0 x1 x2 x3 : Int) : DS n b0 b1 b2 b3 q0 q1 q2 q3 r0 r1 r2 r3 (put4 g x0 x1 x2 x3 W) := ⟨h.b.other x0 x1 x2 x3 (by omega), h.y.other x0 x1 x2 x3 (by omega), h.z.other x0 x1 x2 x3 (by omega), h.q.other x0 x1 x2 x3 (by omega), h.r.other x0 x1 x2 x3 (by omega)⟩
end
theorem Rw.alloc {n : Nat} {a0 a1 a2 a3 : Int} {W : World} (h : Rw n a0 a1 a2 a3 W) (o : Obj) : Rw n a0 a1 a2 a3 (W.alloc o) := h.below ((Below.refl _ W).alloc (Nat.le_refl _) o)

set_option maxRecDepth 20000 in
set_option maxHeartbeats 8000000 in
theorem rdivided_any (g N cap : Nat) (f : Nat → Bool) (b0 b1 b2 b3 : Int) (hb : Ws b0 b1 b2 b3) (hne : val b0 b1 b2 b3 ≠ 0) (hN : N ≤ 1000) (w : World) (hg : g < w.heap.size) (hc : ∀ j, j < N → w.cell? ⟨g, j, none⟩ = some (.bool (f j))) :
    Calls Try.prog 59 #[.slice (some ⟨g, 0, none⟩) N cap, .agg #[.int .u64 b0, .int .u64 b1, .int .u64 b2, .int .u64 b3]] w fun e w' =>
      ∃ q0 q1 q2 q3 r0 r1 r2 r3 : Int, e = .returned (.tuple #[.agg #[.int .u64 q0, .int .u64 q1, .int .u64 q2, .int .u64 q3], .agg #[.int .u64 r0, .int .u64 r1, .int .u64 r2, .int .u64 r3]]) ∧ Ws q0 q1 q2 q3 ∧ Ws r0 r1 r2 r3 ∧ Hid (val q0 q1 q2 q3 = num f N / val b0 b1 b2 b3 % 115792089237316195423570985008687907853269984665640564039457584007913129639936 ∧ val r0 r1 r2 r3 = num f N % val b0 b1 b2 b3) ∧ Below w.heap.size w w' := by
  have ho : Pt 0 := ⟨by decide, by decide⟩
  have h1 : Pt 1 := ⟨by decide, by decide⟩
  have bB := val_bd _ _ _ _ hb
  have BB : Hid (0 < val b0 b1 b2 b3 ∧ val b0 b1 b2 b3 < 115792089237316195423570985008687907853269984665640564039457584007913129639936) := ⟨by omega, bB.2⟩
  have HC : Hid (∀ j, j < N → _) := hc
  clear bB hne hc
  go_enter Try.func59, Try.ntmps59
  go_wp2
  refine wpOf (fun W => Below w.heap.size w W ∧ DS w.heap.size b0 b1 b2 b3 0 0 0 0 0 0 0 0 W) ⟨?_, ?_⟩ ?_
  · go_grown
  · refine ⟨?_, ?_, ?_, ?_, ?_⟩
    all_goals exact ⟨⟨by simp; try omega, by simp [go_sem], by simp [go_sem], by simp [go_sem], by simp [go_sem]⟩, fun o => by simp [go_sem]⟩
  rintro V ⟨EV, HV⟩
  go_loopg [8] N (fun gk i wr => ∃ k : Nat, ∃ q0 q1 q2 q3 r0 r1 r2 r3 : Int, k + gk = N ∧ i = .int .i64 k ∧ Below w.heap.size w wr ∧ DS w.heap.size b0 b1 b2 b3 q0 q1 q2 q3 r0 r1 r2 r3 wr ∧ Ws q0 q1 q2 q3 ∧ Ws r0 r1 r2 r3 ∧ Hid (val q0 q1 q2 q3 = num f k / val b0 b1 b2 b3 % 115792089237316195423570985008687907853269984665640564039457584007913129639936 ∧ val r0 r1 r2 r3 = num f k % val b0 b1 b2 b3))
  case atStart => exact ⟨0, 0, 0, 0, 0, 0, 0, 0, 0, by omega, rfl, EV, HV, ⟨ho, ho, ho, ho⟩, ⟨ho, ho, ho, ho⟩, by simp [num]; rfl, by simp [num]; rfl⟩
  case round =>
    obtain ⟨k, q0, q1, q2, q3, r0, r1, r2, r3, hk, rfl, EW, HW, hq, hr, hH⟩ := hrel
    obtain ⟨⟨bz, bc0, bc1, bc2, bc3⟩, bf⟩ := id HW.b
    obtain ⟨⟨yz, yc0, yc1, yc2, yc3⟩, yf⟩ := id HW.y
    obtain ⟨⟨zz, zc0, zc1, zc2, zc3⟩, zf⟩ := id HW.z
    obtain ⟨⟨qz, qc0, qc1, qc2, qc3⟩, qf⟩ := id HW.q
    obtain ⟨⟨rz, rc0, rc1, rc2, rc3⟩, rf⟩ := id HW.r
    by_cases hlt : k < N
    · obtain ⟨x, hx⟩ : ∃ x, f k = x := ⟨_, rfl⟩
      have lc : wr.cell? ⟨g, k, none⟩ = some (.bool x) := (EW.cell (p := ⟨g, k, none⟩) hg).trans (by rw [← hx]; exact HC.out k hlt)
      have gz : g < wr.heap.size := Nat.lt_of_lt_of_le hg EW.size
      have HX : Hid (_ = _) := hx
      clear hx
      have ews := EW.size
      cases x with
      | false =>
        go_wp2_with fail
        have HB := HW.alloc (.cells #[.int .u64 0, .int .u64 0, .int .u64 0, .int .u64 0] 24)
        have OB := Rw.new wr 0 0 0 0 24
        have EB := EW.alloc EW.size (.cells #[.int .u64 0, .int .u64 0, .int .u64 0, .int .u64 0] 24)
        clear lc bz bc0 bc1 bc2 bc3 bf yz yc0 yc1 yc2 yc3 yf zz zc0 zc1 zc2 zc3 zf qz qc0 qc1 qc2 qc3 qf rz rc0 rc1 rc2 rc3 rf
        refine (rcarry_any r0 r1 r2 r3 r0 r1 r2 r3 hr hr _).mono ?_
        rintro e w2 ⟨t0, t1, t2, t3, c, rfl, ht, htv, hb2⟩
        have H2 := HB.below hb2
        have O2 := OB.below hb2
        have E2 := belowStep EB EB.size hb2
        have s2 : wr.heap.size < w2.heap.size := O2.w.z
        clear hb2 HB OB EB
        obtain ⟨⟨oz, oc0, oc1, oc2, oc3⟩, of⟩ := id O2
        go_wp2_with fail
        refine (radd_any t0 t1 t2 t3 0 0 0 0 ht ⟨ho, ho, ho, ho⟩ _).mono ?_
        rintro e w3 ⟨s0, s1, s2, s3, rfl, hs, hsv, hb3⟩
        have H3 := (H2.alloc _).below hb3
        have E3 := belowStep (E2.alloc E2.size _) (by have := E2.size; simp; omega) hb3
        clear hb3 H2 O2 E2 oz oc0 oc1 oc2 oc3 of
        obtain ⟨⟨qz, qc0, qc1, qc2, qc3⟩, qf⟩ := id H3.q
        obtain ⟨⟨rz, rc0, rc1, rc2, rc3⟩, rf⟩ := id H3.r
        go_wp2_with fail
        refine (radd_any q0 q1 q2 q3 q0 q1 q2 q3 hq hq _).mono ?_
        rintro e w4 ⟨p0, p1, p2, p3, rfl, hp, hpv, hb4⟩
        have H4 := (H3.putR s0 s1 s2 s3).below hb4
        have E4 := belowStep (below_put4 (g := w.heap.size + 1 + 1 + 1 + 1) E3 (by omega) s0 s1 s2 s3) (below_put4 (g := w.heap.size + 1 + 1 + 1 + 1) E3 (by omega) s0 s1 s2 s3).size hb4
        clear hb4 H3 E3 qz qc0 qc1 qc2 qc3 qf rz rc0 rc1 rc2 rc3 rf
        obtain ⟨⟨bz, bc0, bc1, bc2, bc3⟩, bf⟩ := id H4.b
        obtain ⟨⟨qz, qc0, qc1, qc2, qc3⟩, qf⟩ := id H4.q
        obtain ⟨⟨rz, rc0, rc1, rc2, rc3⟩, rf⟩ := id H4.r
        have SV : Hid (_ ∧ _ ∧ _ ∧ _) := ⟨val_bd _ _ _ _ ht, htv.out, hsv.out, hpv.out⟩
        clear htv hsv hpv
        cases c with
        | true =>
          go_wp2_with fail
          refine (rsub_any s0 s1 s2 s3 b0 b1 b2 b3 hs hb _).mono ?_
          rintro e w6 ⟨d0, d1, d2, d3, rfl, hd, hdv, hb6⟩
          have H6 := (H4.putQ p0 p1 p2 p3).below hb6
          have E6 := belowStep (below_put4 (g := w.heap.size + 1 + 1 + 1) E4 (by omega) p0 p1 p2 p3) ((below_put4 (g := w.heap.size + 1 + 1 + 1) E4 (by omega) p0 p1 p2 p3)).size hb6
          clear hb6 H4 E4 bz bc0 bc1 bc2 bc3 bf qz qc0 qc1 qc2 qc3 qf rz rc0 rc1 rc2 rc3 rf
          obtain ⟨⟨qz, qc0, qc1, qc2, qc3⟩, qf⟩ := id H6.q
          obtain ⟨⟨rz, rc0, rc1, rc2, rc3⟩, rf⟩ := id H6.r
          obtain ⟨x0, x1, x2, x3, hX, vX, cX⟩ := exact4 (emod_bd _) (radd_any p0 p1 p2 p3 1 0 0 0 hp ⟨h1, ho, ho, ho⟩)
          have KX : Hid (∀ w : World, _) := cX
          clear cX
          go_wp2
          refine wpOf (fun W => Below w.heap.size w W ∧ DS w.heap.size b0 b1 b2 b3 p0 p1 p2 p3 d0 d1 d2 d3 W) ⟨below_put4 (g := w.heap.size + 1 + 1 + 1 + 1) E6 (by omega) d0 d1 d2 d3, H6.putR d0 d1 d2 d3⟩ ?_
          rintro V7 ⟨E7, H7⟩
          clear E6 H6 qz qc0 qc1 qc2 qc3 qf rz rc0 rc1 rc2 rc3 rf
          have k0 := cell_regrown H7.q.w.c0
          have k1 := cell_regrown H7.q.w.c1
          have k2 := cell_regrown H7.q.w.c2
          have k3 := cell_regrown H7.q.w.c3
          have cO := inClass (w := V7) (rof_any 1)
          have cX := inClass (w := V7) KX.out
          refine region_tail 3 (by kernel_rfl) (by kernel_rfl) ?_
          simp only [List.take_succ_cons, List.take_zero, List.drop_succ_cons, List.drop_zero]
          quiet_step (fail)
          quiet_step (exact cO _ _)
          quiet_step (exact cX _ _)
          refine wpQuiet_nil ?_
          intro w8 hw8
          have hb8 : Below V7.heap.size V7 w8 := by
            obtain ⟨p, rfl⟩ := hw8
            exact below_regrown _ _ _
          have H8 := H7.below hb8
          have E8 := belowStep E7 E7.size hb8
          clear hw8 hb8 k0 k1 k2 k3 cO cX H7 E7
          obtain ⟨⟨qz, qc0, qc1, qc2, qc3⟩, qf⟩ := id H8.q
          go_wp2
          go_roundg (gk - 1)
          case measure => omega
          case rel =>
            obtain ⟨g1, g2, g3, g4⟩ := SV.out
            have e1 := round_yes (num f k) (val b0 b1 b2 b3) 0 (val r0 r1 r2 r3) (val q0 q1 q2 q3) (val t0 t1 t2 t3) (val s0 s1 s2 s3) (val d0 d1 d2 d3) (val p0 p1 p2 p3) (val x0 x1 x2 x3) true BB.out (by decide) hH.out.2 hH.out.1 g2 g1 (by rw [g3, val_small]) (Or.inl rfl) hdv.out g4 (by rw [vX.out, val_small])
            refine ⟨k + 1, x0, x1, x2, x3, d0, d1, d2, d3, by omega, rfl, below_put4 (g := w.heap.size + 1 + 1 + 1) E8 (by omega) x0 x1 x2 x3, H8.putQ x0 x1 x2 x3, hX, hd, ?_⟩
            show _ ∧ _
            simp only [num, HX.out]
            exact ⟨e1.2, e1.1⟩
        | false =>
          obtain ⟨z, hz⟩ : ∃ z, blw (val s0 s1 s2 s3) (val b0 b1 b2 b3) = z := ⟨_, rfl⟩
          have cl := rless_any s0 s1 s2 s3 b0 b1 b2 b3 hs hb
          rw [hz] at cl
          have CL : Hid (∀ w : World, _) := cl
          have HZ : Hid (_ = _) := hz
          clear cl hz
          go_wp2_with fail
          refine (CL.out _).mono ?_
          rintro e w5 ⟨rfl, hb5⟩
          have H5 := (H4.putQ p0 p1 p2 p3).below hb5
          have E5 := belowStep (below_put4 (g := w.heap.size + 1 + 1 + 1) E4 (by omega) p0 p1 p2 p3) (below_put4 (g := w.heap.size + 1 + 1 + 1) E4 (by omega) p0 p1 p2 p3).size hb5
          clear hb5 H4 E4 bz bc0 bc1 bc2 bc3 bf qz qc0 qc1 qc2 qc3 qf rz rc0 rc1 rc2 rc3 rf
          obtain ⟨⟨bz, bc0, bc1, bc2, bc3⟩, bf⟩ := id H5.b
          obtain ⟨⟨qz, qc0, qc1, qc2, qc3⟩, qf⟩ := id H5.q
          obtain ⟨⟨rz, rc0, rc1, rc2, rc3⟩, rf⟩ := id H5.r
          cases z with
          | false =>
            have HL : Hid (¬ val s0 s1 s2 s3 < val b0 b1 b2 b3) := of_decide_eq_false HZ.out
            go_wp2_with fail
            refine (rsub_any s0 s1 s2 s3 b0 b1 b2 b3 hs hb _).mono ?_
            rintro e w6 ⟨d0, d1, d2, d3, rfl, hd, hdv, hb6⟩
            have H6 := (H5).below hb6
            have E6 := belowStep E5 (E5).size hb6
            clear hb6 H5 E5 bz bc0 bc1 bc2 bc3 bf qz qc0 qc1 qc2 qc3 qf rz rc0 rc1 rc2 rc3 rf
            obtain ⟨⟨qz, qc0, qc1, qc2, qc3⟩, qf⟩ := id H6.q
            obtain ⟨⟨rz, rc0, rc1, rc2, rc3⟩, rf⟩ := id H6.r
            obtain ⟨x0, x1, x2, x3, hX, vX, cX⟩ := exact4 (emod_bd _) (radd_any p0 p1 p2 p3 1 0 0 0 hp ⟨h1, ho, ho, ho⟩)
            have KX : Hid (∀ w : World, _) := cX
            clear cX
            go_wp2
            refine wpOf (fun W => Below w.heap.size w W ∧ DS w.heap.size b0 b1 b2 b3 p0 p1 p2 p3 d0 d1 d2 d3 W) ⟨below_put4 (g := w.heap.size + 1 + 1 + 1 + 1) E6 (by omega) d0 d1 d2 d3, H6.putR d0 d1 d2 d3⟩ ?_
            rintro V7 ⟨E7, H7⟩
            clear E6 H6 qz qc0 qc1 qc2 qc3 qf rz rc0 rc1 rc2 rc3 rf
            have k0 := cell_regrown H7.q.w.c0
            have k1 := cell_regrown H7.q.w.c1
            have k2 := cell_regrown H7.q.w.c2
            have k3 := cell_regrown H7.q.w.c3
            have cO := inClass (w := V7) (rof_any 1)
            have cX := inClass (w := V7) KX.out
            refine region_tail 3 (by kernel_rfl) (by kernel_rfl) ?_
            simp only [List.take_succ_cons, List.take_zero, List.drop_succ_cons, List.drop_zero]
            quiet_step (fail)
            quiet_step (exact cO _ _)
            quiet_step (exact cX _ _)
            refine wpQuiet_nil ?_
            intro w8 hw8
            have hb8 : Below V7.heap.size V7 w8 := by
              obtain ⟨p, rfl⟩ := hw8
              exact below_regrown _ _ _
            have H8 := H7.below hb8
            have E8 := belowStep E7 E7.size hb8
            clear hw8 hb8 k0 k1 k2 k3 cO cX H7 E7
            obtain ⟨⟨qz, qc0, qc1, qc2, qc3⟩, qf⟩ := id H8.q
            go_wp2
            go_roundg (gk - 1)
            case measure => omega
            case rel =>
              obtain ⟨g1, g2, g3, g4⟩ := SV.out
              have e1 := round_yes (num f k) (val b0 b1 b2 b3) 0 (val r0 r1 r2 r3) (val q0 q1 q2 q3) (val t0 t1 t2 t3) (val s0 s1 s2 s3) (val d0 d1 d2 d3) (val p0 p1 p2 p3) (val x0 x1 x2 x3) false BB.out (by decide) hH.out.2 hH.out.1 g2 g1 (by rw [g3, val_small]) (Or.inr (by have := HL.out; omega)) hdv.out g4 (by rw [vX.out, val_small])
              refine ⟨k + 1, x0, x1, x2, x3, d0, d1, d2, d3, by omega, rfl, below_put4 (g := w.heap.size + 1 + 1 + 1) E8 (by omega) x0 x1 x2 x3, H8.putQ x0 x1 x2 x3, hX, hd, ?_⟩
              show _ ∧ _
              simp only [num, HX.out]
              exact ⟨e1.2, e1.1⟩
          | true =>
            have HL : Hid (val s0 s1 s2 s3 < val b0 b1 b2 b3) := (show val s0 s1 s2 s3 < val b0 b1 b2 b3 from of_decide_eq_true HZ.out)
            go_wp2
            go_roundg (gk - 1)
            case measure => omega
            case rel =>
              obtain ⟨g1, g2, g3, g4⟩ := SV.out
              have e1 := round_no (num f k) (val b0 b1 b2 b3) 0 (val r0 r1 r2 r3) (val q0 q1 q2 q3) (val t0 t1 t2 t3) (val s0 s1 s2 s3) (val p0 p1 p2 p3) BB.out (by decide) hH.out.2 hH.out.1 g2 g1 (by rw [g3, val_small]) HL.out g4
              refine ⟨k + 1, p0, p1, p2, p3, s0, s1, s2, s3, by omega, rfl, E5, H5, hp, hs, ?_⟩
              show _ ∧ _
              simp only [num, HX.out]
              exact ⟨e1.2, e1.1⟩
      | true =>
        go_wp2_with fail
        refine (rof_any 1 _).mono ?_
        rintro e w1 ⟨rfl, hb1⟩
        have HA := (HW.alloc _).below hb1
        have ON := (Rw.new wr 0 0 0 0 24).below hb1
        have EA := belowStep (EW.alloc EW.size _) (by simp; omega) hb1
        have n1 : w.heap.size + 1 + 1 + 1 + 1 < wr.heap.size := HW.r.w.z
        have n2 : wr.heap.size ≠ w.heap.size + 1 + 1 + 1 + 1 := by omega
        have n3 : w.heap.size + 1 + 1 + 1 + 1 ≠ wr.heap.size := by omega
        have s1 : wr.heap.size < w1.heap.size := ON.w.z
        clear hb1 lc bz bc0 bc1 bc2 bc3 bf yz yc0 yc1 yc2 yc3 yf zz zc0 zc1 zc2 zc3 zf qz qc0 qc1 qc2 qc3 qf rz rc0 rc1 rc2 rc3 rf
        obtain ⟨⟨rz, rc0, rc1, rc2, rc3⟩, rf⟩ := id HA.r
        obtain ⟨⟨oz, oc0, oc1, oc2, oc3⟩, of⟩ := id ON
        go_wp2_with fail
        have HB := HA.putO wr.heap.size (by have := HW.r.w.z; omega) 1 0 0 0
        have OB := ON.over 1 0 0 0
        have EB := below_put4 (g := wr.heap.size) EA (by omega) 1 0 0 0
        clear HA ON EA oz oc0 oc1 oc2 oc3 of rz rc0 rc1 rc2 rc3 rf
        refine (rcarry_any r0 r1 r2 r3 r0 r1 r2 r3 hr hr _).mono ?_
        rintro e w2 ⟨t0, t1, t2, t3, c, rfl, ht, htv, hb2⟩
        have H2 := HB.below hb2
        have O2 := OB.below hb2
        have E2 := belowStep EB EB.size hb2
        have s2 : wr.heap.size < w2.heap.size := O2.w.z
        clear hb2 HB OB EB
        obtain ⟨⟨oz, oc0, oc1, oc2, oc3⟩, of⟩ := id O2
        go_wp2_with fail
        refine (radd_any t0 t1 t2 t3 1 0 0 0 ht ⟨h1, ho, ho, ho⟩ _).mono ?_
        rintro e w3 ⟨s0, s1, s2, s3, rfl, hs, hsv, hb3⟩
        have H3 := (H2.alloc _).below hb3
        have E3 := belowStep (E2.alloc E2.size _) (by have := E2.size; simp; omega) hb3
        clear hb3 H2 O2 E2 oz oc0 oc1 oc2 oc3 of
        obtain ⟨⟨qz, qc0, qc1, qc2, qc3⟩, qf⟩ := id H3.q
        obtain ⟨⟨rz, rc0, rc1, rc2, rc3⟩, rf⟩ := id H3.r
        go_wp2_with fail
        refine (radd_any q0 q1 q2 q3 q0 q1 q2 q3 hq hq _).mono ?_
        rintro e w4 ⟨p0, p1, p2, p3, rfl, hp, hpv, hb4⟩
        have H4 := (H3.putR s0 s1 s2 s3).below hb4
        have E4 := belowStep (below_put4 (g := w.heap.size + 1 + 1 + 1 + 1) E3 (by omega) s0 s1 s2 s3) (below_put4 (g := w.heap.size + 1 + 1 + 1 + 1) E3 (by omega) s0 s1 s2 s3).size hb4
        clear hb4 H3 E3 qz qc0 qc1 qc2 qc3 qf rz rc0 rc1 rc2 rc3 rf
        obtain ⟨⟨bz, bc0, bc1, bc2, bc3⟩, bf⟩ := id H4.b
        obtain ⟨⟨qz, qc0, qc1, qc2, qc3⟩, qf⟩ := id H4.q
        obtain ⟨⟨rz, rc0, rc1, rc2, rc3⟩, rf⟩ := id H4.r
        have SV : Hid (_ ∧ _ ∧ _ ∧ _) := ⟨val_bd _ _ _ _ ht, htv.out, hsv.out, hpv.out⟩
        clear htv hsv hpv
        cases c with
        | true =>
          go_wp2_with fail
          refine (rsub_any s0 s1 s2 s3 b0 b1 b2 b3 hs hb _).mono ?_
          rintro e w6 ⟨d0, d1, d2, d3, rfl, hd, hdv, hb6⟩
          have H6 := (H4.putQ p0 p1 p2 p3).below hb6
          have E6 := belowStep (below_put4 (g := w.heap.size + 1 + 1 + 1) E4 (by omega) p0 p1 p2 p3) ((below_put4 (g := w.heap.size + 1 + 1 + 1) E4 (by omega) p0 p1 p2 p3)).size hb6
          clear hb6 H4 E4 bz bc0 bc1 bc2 bc3 bf qz qc0 qc1 qc2 qc3 qf rz rc0 rc1 rc2 rc3 rf
          obtain ⟨⟨qz, qc0, qc1, qc2, qc3⟩, qf⟩ := id H6.q
          obtain ⟨⟨rz, rc0, rc1, rc2, rc3⟩, rf⟩ := id H6.r
          obtain ⟨x0, x1, x2, x3, hX, vX, cX⟩ := exact4 (emod_bd _) (radd_any p0 p1 p2 p3 1 0 0 0 hp ⟨h1, ho, ho, ho⟩)
          have KX : Hid (∀ w : World, _) := cX
          clear cX
          go_wp2
          refine wpOf (fun W => Below w.heap.size w W ∧ DS w.heap.size b0 b1 b2 b3 p0 p1 p2 p3 d0 d1 d2 d3 W) ⟨below_put4 (g := w.heap.size + 1 + 1 + 1 + 1) E6 (by omega) d0 d1 d2 d3, H6.putR d0 d1 d2 d3⟩ ?_
          rintro V7 ⟨E7, H7⟩
          clear E6 H6 qz qc0 qc1 qc2 qc3 qf rz rc0 rc1 rc2 rc3 rf
          have k0 := cell_regrown H7.q.w.c0
          have k1 := cell_regrown H7.q.w.c1
          have k2 := cell_regrown H7.q.w.c2
          have k3 := cell_regrown H7.q.w.c3
          have cO := inClass (w := V7) (rof_any 1)
          have cX := inClass (w := V7) KX.out
          refine region_tail 3 (by kernel_rfl) (by kernel_rfl) ?_
          simp only [List.take_succ_cons, List.take_zero, List.drop_succ_cons, List.drop_zero]
          quiet_step (fail)
          quiet_step (exact cO _ _)
          quiet_step (exact cX _ _)
          refine wpQuiet_nil ?_
          intro w8 hw8
          have hb8 : Below V7.heap.size V7 w8 := by
            obtain ⟨p, rfl⟩ := hw8
            exact below_regrown _ _ _
          have H8 := H7.below hb8
          have E8 := belowStep E7 E7.size hb8
          clear hw8 hb8 k0 k1 k2 k3 cO cX H7 E7
          obtain ⟨⟨qz, qc0, qc1, qc2, qc3⟩, qf⟩ := id H8.q
          go_wp2
          go_roundg (gk - 1)
          case measure => omega
          case rel =>
            obtain ⟨g1, g2, g3, g4⟩ := SV.out
            have e1 := round_yes (num f k) (val b0 b1 b2 b3) 1 (val r0 r1 r2 r3) (val q0 q1 q2 q3) (val t0 t1 t2 t3) (val s0 s1 s2 s3) (val d0 d1 d2 d3) (val p0 p1 p2 p3) (val x0 x1 x2 x3) true BB.out (by decide) hH.out.2 hH.out.1 g2 g1 (by rw [g3, val_small]) (Or.inl rfl) hdv.out g4 (by rw [vX.out, val_small])
            refine ⟨k + 1, x0, x1, x2, x3, d0, d1, d2, d3, by omega, rfl, below_put4 (g := w.heap.size + 1 + 1 + 1) E8 (by omega) x0 x1 x2 x3, H8.putQ x0 x1 x2 x3, hX, hd, ?_⟩
            show _ ∧ _
            simp only [num, HX.out]
            exact ⟨e1.2, e1.1⟩
        | false =>
          obtain ⟨z, hz⟩ : ∃ z, blw (val s0 s1 s2 s3) (val b0 b1 b2 b3) = z := ⟨_, rfl⟩
          have cl := rless_any s0 s1 s2 s3 b0 b1 b2 b3 hs hb
          rw [hz] at cl
          have CL : Hid (∀ w : World, _) := cl
          have HZ : Hid (_ = _) := hz
          clear cl hz
          go_wp2_with fail
          refine (CL.out _).mono ?_
          rintro e w5 ⟨rfl, hb5⟩
          have H5 := (H4.putQ p0 p1 p2 p3).below hb5
          have E5 := belowStep (below_put4 (g := w.heap.size + 1 + 1 + 1) E4 (by omega) p0 p1 p2 p3) (below_put4 (g := w.heap.size + 1 + 1 + 1) E4 (by omega) p0 p1 p2 p3).size hb5
          clear hb5 H4 E4 bz bc0 bc1 bc2 bc3 bf qz qc0 qc1 qc2 qc3 qf rz rc0 rc1 rc2 rc3 rf
          obtain ⟨⟨bz, bc0, bc1, bc2, bc3⟩, bf⟩ := id H5.b
          obtain ⟨⟨qz, qc0, qc1, qc2, qc3⟩, qf⟩ := id H5.q
          obtain ⟨⟨rz, rc0, rc1, rc2, rc3⟩, rf⟩ := id H5.r
          cases z with
          | false =>
            have HL : Hid (¬ val s0 s1 s2 s3 < val b0 b1 b2 b3) := of_decide_eq_false HZ.out
            go_wp2_with fail
            refine (rsub_any s0 s1 s2 s3 b0 b1 b2 b3 hs hb _).mono ?_
            rintro e w6 ⟨d0, d1, d2, d3, rfl, hd, hdv, hb6⟩
            have H6 := (H5).below hb6
            have E6 := belowStep E5 (E5).size hb6
            clear hb6 H5 E5 bz bc0 bc1 bc2 bc3 bf qz qc0 qc1 qc2 qc3 qf rz rc0 rc1 rc2 rc3 rf
            obtain ⟨⟨qz, qc0, qc1, qc2, qc3⟩, qf⟩ := id H6.q
            obtain ⟨⟨rz, rc0, rc1, rc2, rc3⟩, rf⟩ := id H6.r
            obtain ⟨x0, x1, x2, x3, hX, vX, cX⟩ := exact4 (emod_bd _) (radd_any p0 p1 p2 p3 1 0 0 0 hp ⟨h1, ho, ho, ho⟩)
            have KX : Hid (∀ w : World, _) := cX
            clear cX
            go_wp2
            refine wpOf (fun W => Below w.heap.size w W ∧ DS w.heap.size b0 b1 b2 b3 p0 p1 p2 p3 d0 d1 d2 d3 W) ⟨below_put4 (g := w.heap.size + 1 + 1 + 1 + 1) E6 (by omega) d0 d1 d2 d3, H6.putR d0 d1 d2 d3⟩ ?_
            rintro V7 ⟨E7, H7⟩
            clear E6 H6 qz qc0 qc1 qc2 qc3 qf rz rc0 rc1 rc2 rc3 rf
            have k0 := cell_regrown H7.q.w.c0
            have k1 := cell_regrown H7.q.w.c1
            have k2 := cell_regrown H7.q.w.c2
            have k3 := cell_regrown H7.q.w.c3
            have cO := inClass (w := V7) (rof_any 1)
            have cX := inClass (w := V7) KX.out
            refine region_tail 3 (by kernel_rfl) (by kernel_rfl) ?_
            simp only [List.take_succ_cons, List.take_zero, List.drop_succ_cons, List.drop_zero]
            quiet_step (fail)
            quiet_step (exact cO _ _)
            quiet_step (exact cX _ _)
            refine wpQuiet_nil ?_
            intro w8 hw8
            have hb8 : Below V7.heap.size V7 w8 := by
              obtain ⟨p, rfl⟩ := hw8
              exact below_regrown _ _ _
            have H8 := H7.below hb8
            have E8 := belowStep E7 E7.size hb8
            clear hw8 hb8 k0 k1 k2 k3 cO cX H7 E7
            obtain ⟨⟨qz, qc0, qc1, qc2, qc3⟩, qf⟩ := id H8.q
            go_wp2
            go_roundg (gk - 1)
            case measure => omega
            case rel =>
              obtain ⟨g1, g2, g3, g4⟩ := SV.out
              have e1 := round_yes (num f k) (val b0 b1 b2 b3) 1 (val r0 r1 r2 r3) (val q0 q1 q2 q3) (val t0 t1 t2 t3) (val s0 s1 s2 s3) (val d0 d1 d2 d3) (val p0 p1 p2 p3) (val x0 x1 x2 x3) false BB.out (by decide) hH.out.2 hH.out.1 g2 g1 (by rw [g3, val_small]) (Or.inr (by have := HL.out; omega)) hdv.out g4 (by rw [vX.out, val_small])
              refine ⟨k + 1, x0, x1, x2, x3, d0, d1, d2, d3, by omega, rfl, below_put4 (g := w.heap.size + 1 + 1 + 1) E8 (by omega) x0 x1 x2 x3, H8.putQ x0 x1 x2 x3, hX, hd, ?_⟩
              show _ ∧ _
              simp only [num, HX.out]
              exact ⟨e1.2, e1.1⟩
          | true =>
            have HL : Hid (val s0 s1 s2 s3 < val b0 b1 b2 b3) := (show val s0 s1 s2 s3 < val b0 b1 b2 b3 from of_decide_eq_true HZ.out)
            go_wp2
            go_roundg (gk - 1)
            case measure => omega
            case rel =>
              obtain ⟨g1, g2, g3, g4⟩ := SV.out
              have e1 := round_no (num f k) (val b0 b1 b2 b3) 1 (val r0 r1 r2 r3) (val q0 q1 q2 q3) (val t0 t1 t2 t3) (val s0 s1 s2 s3) (val p0 p1 p2 p3) BB.out (by decide) hH.out.2 hH.out.1 g2 g1 (by rw [g3, val_small]) HL.out g4
              refine ⟨k + 1, p0, p1, p2, p3, s0, s1, s2, s3, by omega, rfl, E5, H5, hp, hs, ?_⟩
              show _ ∧ _
              simp only [num, HX.out]
              exact ⟨e1.2, e1.1⟩
    · have hkN : k = N := by omega
      subst hkN
      clear hlt
      go_wp2
      go_region
      go_wp2
      refine bodyPost_ret (v := .tuple #[.agg #[.int .u64 q0, .int .u64 q1, .int .u64 q2, .int .u64 q3], .agg #[.int .u64 r0, .int .u64 r1, .int .u64 r2, .int .u64 r3]]) (by simp [results, Try.results59, go_sem, *]) rfl ⟨q0, q1, q2, q3, r0, r1, r2, r3, rfl, hq, hr, hH, ?_⟩
      go_grown
end Go.Proofs.Ytgapcjdgakamoaa
