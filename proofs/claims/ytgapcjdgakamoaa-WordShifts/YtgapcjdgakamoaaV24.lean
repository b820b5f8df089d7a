/- What Extend and Byte do at this translation: for all words, whatever the memory. -/
import Derived.Test.YtgapcjdgakamoaaV23
namespace Go.Proofs.Ytgapcjdgakamoaa
open Go.RowKit Go.Shelf Go.Sort

/-- A number's lowest bytes, and the highest bit of them above. -/
def ext (n x : Int) : Int := if n < 31 then sar (8 * (31 - n)) (up (8 * (31 - n)) x) (decide (57896044618658097711785492504343953926634992332820282019728792003956564819968 ≤ up (8 * (31 - n)) x)) else x
theorem ext_bd (n x : Int) (hx : 0 ≤ x ∧ x < 115792089237316195423570985008687907853269984665640564039457584007913129639936) : 0 ≤ ext n x ∧ ext n x < 115792089237316195423570985008687907853269984665640564039457584007913129639936 := by
  unfold ext
  split
  · exact sar_bd _ _ _ (up_bd _ _)
  · exact hx
/-- A number's byte, from the highest one on. -/
def byt (n x : Int) : Int := if n < 32 then byteAt x (31 - n).toNat else 0
theorem byt_bd (n x : Int) : 0 ≤ byt n x ∧ byt n x < 115792089237316195423570985008687907853269984665640564039457584007913129639936 := by
  unfold byt
  have := byteAt_bd x (31 - n).toNat
  split <;> omega
theorem neg_val (a0 a1 a2 a3 : Int) (ha : Ws a0 a1 a2 a3) : neg a3 = decide (57896044618658097711785492504343953926634992332820282019728792003956564819968 ≤ val a0 a1 a2 a3) := by
  obtain ⟨⟨_, _⟩, ⟨_, _⟩, ⟨_, _⟩, ⟨_, _⟩⟩ := ha
  unfold neg val
  rw [Bool.eq_iff_iff]; simp; omega
theorem and_byte (x : Int) (h : Pt x) : bits .and .u64 x 255 = x % 256 := by
  obtain ⟨h0, h1⟩ := h
  obtain ⟨k, rfl⟩ := Int.eq_ofNat_of_zero_le h0
  have e : (BitVec.ofInt 64 (k : Int) &&& BitVec.ofInt 64 255).toNat = k % 256 := by
    rw [BitVec.toNat_and]
    have a1 : (BitVec.ofInt 64 (k : Int)).toNat = k := by
      rw [BitVec.toNat_ofInt]; omega
    have a2 : (BitVec.ofInt 64 255).toNat = 2 ^ 8 - 1 := by decide
    rw [a1, a2, Nat.and_two_pow_sub_one_eq_mod]
  show IntKind.u64.wrap ((BitVec.ofInt 64 (k : Int) &&& BitVec.ofInt 64 255).toNat : Int) = _
  rw [e, IntKind.wrap_u64]
  omega
theorem small31 (n0 n1 n2 n3 : Int) (hn : Ws n0 n1 n2 n3) (z : Int) (hz : z < 256) (h : val n0 n1 n2 n3 < z) : val n0 n1 n2 n3 = n0 ∧ 0 ≤ n0 ∧ n0 < z := by
  obtain ⟨_, _, _, _, e⟩ := small_word n0 n1 n2 n3 hn (by omega)
  exact ⟨e, hn.1.1, by omega⟩

set_option maxHeartbeats 2000000 in
theorem extend_any (n0 n1 n2 n3 a0 a1 a2 a3 : Int) (hn : Ws n0 n1 n2 n3) (ha : Ws a0 a1 a2 a3) (w : World) :
    Calls Try.prog 38 #[.agg #[.int .u64 n0, .int .u64 n1, .int .u64 n2, .int .u64 n3], .agg #[.int .u64 a0, .int .u64 a1, .int .u64 a2, .int .u64 a3]] w fun e w' =>
      ∃ r0 r1 r2 r3 : Int, e = .returned (.agg #[.int .u64 r0, .int .u64 r1, .int .u64 r2, .int .u64 r3]) ∧ Ws r0 r1 r2 r3 ∧ Hid (val r0 r1 r2 r3 = ext (val n0 n1 n2 n3) (val a0 a1 a2 a3)) ∧ Below w.heap.size w w' := by
  have ho : Pt 0 := ⟨by decide, by decide⟩
  have h31 : Ws 31 0 0 0 := ⟨⟨by decide, by decide⟩, ho, ho, ho⟩
  obtain ⟨b, hb⟩ : ∃ b, blw (val n0 n1 n2 n3) (val 31 0 0 0) = b := ⟨_, rfl⟩
  have lx := less_any n0 n1 n2 n3 31 0 0 0 hn h31
  rw [hb] at lx
  have LX : Hid (∀ w : World, _) := lx
  have HB : Hid (_ = _) := hb
  clear lx hb
  go_enter Try.func38, Try.ntmps38
  go_wp2
  refine wpOf (fun W => Below w.heap.size w W ∧ SD w.heap.size n0 n1 n2 n3 a0 a1 a2 a3 W) ⟨by go_grown, ?_⟩ ?_
  · exact ⟨by simp, by simp [go_sem], by simp [go_sem], by simp [go_sem], by simp [go_sem], by simp [go_sem], by simp [go_sem], by simp [go_sem], by simp [go_sem], by simp [go_sem], by simp [go_sem], by simp [go_sem], by simp [go_sem], fun o => by simp [go_sem]⟩
  rintro V ⟨E0, s0⟩
  obtain ⟨zz, x0, x1, x2, x3, _⟩ := id s0
  have k0 := cell_regrown x0
  have k1 := cell_regrown x1
  have k2 := cell_regrown x2
  have k3 := cell_regrown x3
  have qo := inClass (w := V) (of_any 31)
  have ql := inClass (w := V) LX.out
  refine wp_region_quiet_below (by kernel_rfl) (by kernel_rfl) ?_
  quiet_step (fail)
  quiet_step (exact qo _ _)
  quiet_step (exact ql _ _)
  quiet_step (fail)
  refine wpQuiet_nil ?_
  intro w1 hw'
  have hb1 : Below V.heap.size V w1 := by
    obtain ⟨p, rfl⟩ := hw'
    exact below_regrown _ _ _
  have m1 := SD.below s0 hb1
  have E1 := belowStep E0 E0.size hb1
  clear hw' hb1 k0 k1 k2 k3 qo ql s0 E0 zz x0 x1 x2 x3
  obtain ⟨zz, c0, c1, c2, c3, d0, d1, d2, d3, y0, y1, y2, y3, yf⟩ := id m1
  cases b with
  | false =>
    have h : ¬ val n0 n1 n2 n3 < val 31 0 0 0 := of_decide_eq_false HB.out
    have hE : Hid (val a0 a1 a2 a3 = ext (val n0 n1 n2 n3) (val a0 a1 a2 a3)) := by
      show _ = _
      unfold ext; rw [if_neg (by rw [val_small] at h; exact h)]
    clear h
    go_wp2
    refine bodyPost_ret (v := .agg #[.int .u64 a0, .int .u64 a1, .int .u64 a2, .int .u64 a3]) (by simp [results, Try.results38, go_sem, *]) rfl ⟨a0, a1, a2, a3, rfl, ha, hE, ?_⟩
    go_grown
  | true =>
    have h : val n0 n1 n2 n3 < val 31 0 0 0 := of_decide_eq_true HB.out
    rw [val_small] at h
    obtain ⟨hv, hn0, hn1⟩ := small31 n0 n1 n2 n3 hn 31 (by decide) h
    obtain ⟨s, hs⟩ : ∃ s, 8 * (31 - n0) = s := ⟨_, rfl⟩
    have hS0 : Ws s 0 0 0 := ⟨⟨by omega, by omega⟩, ho, ho, ho⟩
    have hw1 : IntKind.u64.wrap (31 - n0) = 31 - n0 := by rw [IntKind.wrap_u64]; omega
    have hw2 : IntKind.u64.wrap (8 * (31 - n0)) = s := by rw [IntKind.wrap_u64]; omega
    obtain ⟨f0, f1, f2, f3, hF, vF, cF⟩ := exact4 (up_bd _ _) (shl_any s 0 0 0 a0 a1 a2 a3 hS0 ha)
    obtain ⟨g0, g1, g2, g3, hG, vG, cG⟩ := exact4 (sar_bd _ _ _ (val_bd _ _ _ _ hF)) (sar_any s 0 0 0 f0 f1 f2 f3 hS0 hF)
    have hE : Hid (val g0 g1 g2 g3 = ext (val n0 n1 n2 n3) (val a0 a1 a2 a3)) := by
      show _ = _
      unfold ext
      rw [if_pos h, vG.out, neg_val f0 f1 f2 f3 hF, vF.out, val_small, hv, hs]
    have KF : Hid (∀ w : World, _) := cF
    have KG : Hid (∀ w : World, _) := cG
    clear cF cG vF vG hs h hv
    go_wp2_with fail
    refine (of_any s _).mono ?_
    rintro e w2 ⟨rfl, hb2⟩
    have m2 := SD.below m1 hb2
    have E2 := belowStep E1 E1.size hb2
    clear hb2 m1 E1 zz c0 c1 c2 c3 d0 d1 d2 d3 y0 y1 y2 y3 yf
    go_wp2
    refine wpOf (fun W => Below w.heap.size w W ∧ SD w.heap.size n0 n1 n2 n3 a0 a1 a2 a3 W ∧ Cw w2.heap.size s 0 0 0 W) ⟨E2.alloc E2.size _, SD.alloc m2 _, Cw.new _ _ _ _ _ _⟩ ?_
    clear E2 m2
    rintro V2 ⟨EV, mV, CS⟩
    obtain ⟨zz, c0, c1, c2, c3, d0, d1, d2, d3, _, _, _, _, _⟩ := id mV
    have k0 := cell_regrown CS.c0
    have k1 := cell_regrown CS.c1
    have k2 := cell_regrown CS.c2
    have k3 := cell_regrown CS.c3
    have l0 := cell_regrown d0
    have l1 := cell_regrown d1
    have l2 := cell_regrown d2
    have l3 := cell_regrown d3
    have cF := inClass (w := V2) KF.out
    have cG := inClass (w := V2) KG.out
    refine region_tail 5 (by kernel_rfl) (by kernel_rfl) ?_
    simp only [List.take_succ_cons, List.take_zero, List.drop_succ_cons, List.drop_zero]
    iterate 3 (quiet_step (fail))
    quiet_step (exact cF _ _)
    quiet_step (exact cG _ _)
    refine wpQuiet_nil ?_
    intro w8 hw8
    have hb8 : Below V2.heap.size V2 w8 := by
      obtain ⟨p, rfl⟩ := hw8
      exact below_regrown _ _ _
    have m8 := SD.below mV hb8
    have E8 := belowStep EV EV.size hb8
    clear hw8 hb8
    obtain ⟨zz8, _, _, _, _, _, _, _, _, y0, y1, y2, y3, yf⟩ := id m8
    go_wp2
    refine bodyPost_ret (v := .agg #[.int .u64 g0, .int .u64 g1, .int .u64 g2, .int .u64 g3]) (by simp [results, Try.results38, go_sem, *]) rfl ⟨g0, g1, g2, g3, rfl, hG, hE, ?_⟩
    go_grown

set_option maxHeartbeats 2000000 in
theorem byte_any (n0 n1 n2 n3 a0 a1 a2 a3 : Int) (hn : Ws n0 n1 n2 n3) (ha : Ws a0 a1 a2 a3) (w : World) :
    Calls Try.prog 40 #[.agg #[.int .u64 n0, .int .u64 n1, .int .u64 n2, .int .u64 n3], .agg #[.int .u64 a0, .int .u64 a1, .int .u64 a2, .int .u64 a3]] w fun e w' =>
      ∃ r0 r1 r2 r3 : Int, e = .returned (.agg #[.int .u64 r0, .int .u64 r1, .int .u64 r2, .int .u64 r3]) ∧ Ws r0 r1 r2 r3 ∧ Hid (val r0 r1 r2 r3 = byt (val n0 n1 n2 n3) (val a0 a1 a2 a3)) ∧ Below w.heap.size w w' := by
  have ho : Pt 0 := ⟨by decide, by decide⟩
  have h32 : Ws 32 0 0 0 := ⟨⟨by decide, by decide⟩, ho, ho, ho⟩
  have bA := val_bd _ _ _ _ ha
  obtain ⟨b, hb⟩ : ∃ b, blw (val n0 n1 n2 n3) (val 32 0 0 0) = b := ⟨_, rfl⟩
  have lx := less_any n0 n1 n2 n3 32 0 0 0 hn h32
  rw [hb] at lx
  have LX : Hid (∀ w : World, _) := lx
  have HB : Hid (_ = _) := hb
  have BA : Hid (_ ∧ _) := bA
  clear lx hb bA
  go_enter Try.func40, Try.ntmps40
  go_wp2
  refine wpOf (fun W => Below w.heap.size w W ∧ SD w.heap.size n0 n1 n2 n3 a0 a1 a2 a3 W) ⟨by go_grown, ?_⟩ ?_
  · exact ⟨by simp, by simp [go_sem], by simp [go_sem], by simp [go_sem], by simp [go_sem], by simp [go_sem], by simp [go_sem], by simp [go_sem], by simp [go_sem], by simp [go_sem], by simp [go_sem], by simp [go_sem], by simp [go_sem], fun o => by simp [go_sem]⟩
  rintro V ⟨E0, s0⟩
  obtain ⟨zz, x0, x1, x2, x3, _⟩ := id s0
  have k0 := cell_regrown x0
  have k1 := cell_regrown x1
  have k2 := cell_regrown x2
  have k3 := cell_regrown x3
  have qo := inClass (w := V) (of_any 32)
  have ql := inClass (w := V) LX.out
  refine wp_region_quiet_below (by kernel_rfl) (by kernel_rfl) ?_
  quiet_step (fail)
  quiet_step (exact qo _ _)
  quiet_step (exact ql _ _)
  quiet_step (fail)
  refine wpQuiet_nil ?_
  intro w1 hw'
  have hb1 : Below V.heap.size V w1 := by
    obtain ⟨p, rfl⟩ := hw'
    exact below_regrown _ _ _
  have m1 := SD.below s0 hb1
  have E1 := belowStep E0 E0.size hb1
  clear hw' hb1 k0 k1 k2 k3 qo ql s0 E0 zz x0 x1 x2 x3
  obtain ⟨zz, c0, c1, c2, c3, d0, d1, d2, d3, y0, y1, y2, y3, yf⟩ := id m1
  cases b with
  | false =>
    have h : ¬ val n0 n1 n2 n3 < val 32 0 0 0 := of_decide_eq_false HB.out
    have hE : Hid (val 0 0 0 0 = byt (val n0 n1 n2 n3) (val a0 a1 a2 a3)) := by
      show _ = _
      unfold byt; rw [if_neg (by rw [val_small] at h; exact h)]; rfl
    clear h
    go_wp2
    refine bodyPost_ret (v := .agg #[.int .u64 0, .int .u64 0, .int .u64 0, .int .u64 0]) (by simp [results, Try.results40, go_sem, *]) rfl ⟨0, 0, 0, 0, rfl, ⟨ho, ho, ho, ho⟩, hE, ?_⟩
    go_grown
  | true =>
    have h : val n0 n1 n2 n3 < val 32 0 0 0 := of_decide_eq_true HB.out
    rw [val_small] at h
    obtain ⟨hv, hn0, hn1⟩ := small31 n0 n1 n2 n3 hn 32 (by decide) h
    obtain ⟨s, hs⟩ : ∃ s, 8 * (31 - n0) = s := ⟨_, rfl⟩
    have hw1 : IntKind.u64.wrap (31 - n0) = 31 - n0 := by rw [IntKind.wrap_u64]; omega
    have hw2 : IntKind.u64.wrap (8 * (31 - n0)) = s := by rw [IntKind.wrap_u64]; omega
    have hs0 : 0 ≤ s := by omega
    have hs1 : s < 256 := by omega
    have HS : Hid (_ ∧ _ ∧ _) := ⟨hs, h, hv⟩
    clear hs h hv
    go_wp2_with fail
    refine (lower_any a0 a1 a2 a3 s ha hs0 hs1 _).mono ?_
    rintro e w2 ⟨f0, f1, f2, f3, rfl, hF, hFv, hb2⟩
    have m2 := SD.below m1 hb2
    have E2 := belowStep E1 E1.size hb2
    clear hb2 m1 E1 zz c0 c1 c2 c3 d0 d1 d2 d3 y0 y1 y2 y3 yf
    have i0 := fun w => (index4 f0 f1 f2 f3 w).1
    have hand := and_byte f0 hF.1
    obtain ⟨t, ht⟩ : ∃ t, f0 % 256 = t := ⟨_, rfl⟩
    rw [ht] at hand
    have HT : Hid (_ = _) := ht
    clear ht
    go_wp2_with fail
    refine (of_any t _).mono ?_
    rintro e w3 ⟨rfl, hb3⟩
    have m3 := SD.below m2 hb3
    have E3 := belowStep E2 E2.size hb3
    clear hb3 m2 E2
    obtain ⟨zz, _, _, _, _, _, _, _, _, y0, y1, y2, y3, yf⟩ := id m3
    have hPt : Pt t := by
      have := HT.out
      exact ⟨by omega, by omega⟩
    go_wp2
    refine bodyPost_ret (v := .agg #[.int .u64 t, .int .u64 0, .int .u64 0, .int .u64 0]) (by simp [results, Try.results40, go_sem, *]) rfl ⟨t, 0, 0, 0, rfl, ⟨hPt, ho, ho, ho⟩, ?_, ?_⟩
    · show _ = _
      obtain ⟨q1, q2, q3⟩ := HS.out
      unfold byt byteAt
      rw [val_small, if_pos q2, q3, ← HT.out, show 8 * (31 - n0).toNat = s.toNat by omega, ← hFv.out]
      obtain ⟨⟨_, _⟩, ⟨_, _⟩, ⟨_, _⟩, ⟨_, _⟩⟩ := hF
      unfold val; omega
    · go_grown
end Go.Proofs.Ytgapcjdgakamoaa
