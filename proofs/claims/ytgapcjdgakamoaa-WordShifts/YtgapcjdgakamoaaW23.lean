/- What Exp does at this translation: for all words, whatever the memory. -/
import Derived.Test.YtgapcjdgakamoaaW19
import Derived.Deep.LoopGhost
namespace Go.Proofs.Ytgapcjdgakamoaa
open Go.RowKit Go.Shelf Go.Sort

abbrev put4 (g : Nat) (b0 b1 b2 b3 : Int) (W : World) : World := (((W.setCell ⟨g, 0, none⟩ (.int .u64 b0)).setCell ⟨g, 1, none⟩ (.int .u64 b1)).setCell ⟨g, 2, none⟩ (.int .u64 b2)).setCell ⟨g, 3, none⟩ (.int .u64 b3)
theorem Rw.over {n : Nat} {a0 a1 a2 a3 : Int} (b0 b1 b2 b3 : Int) {W : World} (h : Rw n a0 a1 a2 a3 W) : Rw n b0 b1 b2 b3 (put4 n b0 b1 b2 b3 W) :=
  ⟨Cw.over h.w, fun o => by simp [go_sem, h.f]⟩
theorem Rw.other {n g : Nat} {a0 a1 a2 a3 : Int} (b0 b1 b2 b3 : Int) {W : World} (h : Rw n a0 a1 a2 a3 W) (hg : g ≠ n) : Rw n a0 a1 a2 a3 (put4 g b0 b1 b2 b3 W) := by
  obtain ⟨⟨z, h0, h1, h2, h3⟩, hf⟩ := h
  have hg' : n ≠ g := fun e => hg e.symm
  exact ⟨⟨by simp [go_sem, *], by simp [go_sem, *], by simp [go_sem, *], by simp [go_sem, *], by simp [go_sem, *]⟩, fun o => by simp [go_sem, *]⟩

theorem powm (M x : Int) (h : Nat) : (x % M) ^ h % M = x ^ h % M := by
  induction h with
  | zero => simp
  | succ h ih => rw [Int.pow_succ, Int.pow_succ, Int.mul_emod, ih, Int.emod_emod_of_dvd _ (Int.dvd_refl M), ← Int.mul_emod]

theorem pow_two_mul (x : Int) (h : Nat) : (x * x) ^ h = x ^ (2 * h) := by
  rw [Int.pow_mul, show x ^ 2 = x * x from by rw [Int.pow_succ, Int.pow_succ, Int.pow_zero, Int.one_mul]]

theorem exp_odd (M p x : Int) (h : Nat) : (p * x % M) * (x * x % M) ^ h % M = p * x ^ (2 * h + 1) % M := by
  rw [Int.mul_emod, powm, pow_two_mul, Int.emod_emod_of_dvd _ (Int.dvd_refl M), ← Int.mul_emod, Int.pow_succ, Int.mul_assoc, Int.mul_comm x]
theorem exp_even (M p x : Int) (h : Nat) : p * (x * x % M) ^ h % M = p * x ^ (2 * h) % M := by
  rw [Int.mul_emod, powm, pow_two_mul, ← Int.mul_emod]

theorem and_one (x : Int) (h : Pt x) : bits .and .u64 x 1 = x % 2 := by
  obtain ⟨h0, h1⟩ := h
  obtain ⟨k, rfl⟩ := Int.eq_ofNat_of_zero_le h0
  have e : (BitVec.ofInt 64 (k : Int) &&& BitVec.ofInt 64 1).toNat = k % 2 := by
    rw [BitVec.toNat_and]
    have a1 : (BitVec.ofInt 64 (k : Int)).toNat = k := by
      rw [BitVec.toNat_ofInt]; omega
    have a2 : (BitVec.ofInt 64 1).toNat = 1 := by decide
    rw [a1, a2, Nat.and_one_is_mod]
  show IntKind.u64.wrap ((BitVec.ofInt 64 (k : Int) &&& BitVec.ofInt 64 1).toNat : Int) = _
  rw [e]
  have : ((k % 2 : Nat) : Int) = (k : Int) % 2 := by omega
  rw [this]
  unfold IntKind.wrap
  simp [IntKind.bits, IntKind.signed]
  omega

/-- The memory of a power between two rounds: the word, the exponent, the result's place, the power so far. -/
structure XS (n g : Nat) (x0 x1 x2 x3 m0 m1 m2 m3 p0 p1 p2 p3 : Int) (W : World) : Prop where
  X : Rw n x0 x1 x2 x3 W
  N : Rw (n + 1) m0 m1 m2 m3 W
  Z : Rw (n + 1 + 1) 0 0 0 0 W
  P : Rw g p0 p1 p2 p3 W
  hg : n + 1 + 1 < g
section
variable {n g : Nat} {x0 x1 x2 x3 m0 m1 m2 m3 p0 p1 p2 p3 : Int} {W W' : World}
theorem XS.below (h : XS n g x0 x1 x2 x3 m0 m1 m2 m3 p0 p1 p2 p3 W) (hb : Below W.heap.size W W') : XS n g x0 x1 x2 x3 m0 m1 m2 m3 p0 p1 p2 p3 W' := ⟨h.X.below hb, h.N.below hb, h.Z.below hb, h.P.below hb, h.hg⟩
theorem XS.putX (h : XS n g x0 x1 x2 x3 m0 m1 m2 m3 p0 p1 p2 p3 W) (b0 b1 b2 b3 : Int) : XS n g b0 b1 b2 b3 m0 m1 m2 m3 p0 p1 p2 p3 (put4 n b0 b1 b2 b3 W) := by
  have := h.hg
  exact ⟨h.X.over b0 b1 b2 b3, h.N.other b0 b1 b2 b3 (by omega), h.Z.other b0 b1 b2 b3 (by omega), h.P.other b0 b1 b2 b3 (by omega), h.hg⟩
theorem XS.putN (h : XS n g x0 x1 x2 x3 m0 m1 m2 m3 p0 p1 p2 p3 W) (b0 b1 b2 b3 : Int) : XS n g x0 x1 x2 x3 b0 b1 b2 b3 p0 p1 p2 p3 (put4 (n + 1) b0 b1 b2 b3 W) := by
  have := h.hg
  exact ⟨h.X.other b0 b1 b2 b3 (by omega), h.N.over b0 b1 b2 b3, h.Z.other b0 b1 b2 b3 (by omega), h.P.other b0 b1 b2 b3 (by omega), h.hg⟩
theorem XS.putP (h : XS n g x0 x1 x2 x3 m0 m1 m2 m3 p0 p1 p2 p3 W) (b0 b1 b2 b3 : Int) : XS n g x0 x1 x2 x3 m0 m1 m2 m3 b0 b1 b2 b3 (put4 g b0 b1 b2 b3 W) := by
  have := h.hg
  exact ⟨h.X.other b0 b1 b2 b3 (by omega), h.N.other b0 b1 b2 b3 (by omega), h.Z.other b0 b1 b2 b3 (by omega), h.P.over b0 b1 b2 b3, h.hg⟩
end
theorem below_put4 {k g : Nat} {w W : World} (h : Below k w W) (hg : k ≤ g) (b0 b1 b2 b3 : Int) : Below k w (put4 g b0 b1 b2 b3 W) := (((h.setCell (p := ⟨g, 0, none⟩) hg _).setCell (p := ⟨g, 1, none⟩) hg _).setCell (p := ⟨g, 2, none⟩) hg _).setCell (p := ⟨g, 3, none⟩) hg _

set_option maxHeartbeats 2000000 in
theorem exp_any (a0 a1 a2 a3 n0 n1 n2 n3 : Int) (ha : Ws a0 a1 a2 a3) (hn : Ws n0 n1 n2 n3) (w : World) :
    Calls Try.prog 30 #[.agg #[.int .u64 a0, .int .u64 a1, .int .u64 a2, .int .u64 a3], .agg #[.int .u64 n0, .int .u64 n1, .int .u64 n2, .int .u64 n3]] w fun e w' =>
      ∃ r0 r1 r2 r3 : Int, e = .returned (.agg #[.int .u64 r0, .int .u64 r1, .int .u64 r2, .int .u64 r3]) ∧ Ws r0 r1 r2 r3 ∧ Hid (val r0 r1 r2 r3 = val a0 a1 a2 a3 ^ (val n0 n1 n2 n3).toNat % 115792089237316195423570985008687907853269984665640564039457584007913129639936) ∧ Below w.heap.size w w' := by
  have ho : Pt 0 := ⟨by decide, by decide⟩
  have h1 : Pt 1 := ⟨by decide, by decide⟩
  go_enter Try.func30, Try.ntmps30
  go_wp2_with fail
  refine (of_any 1 _).mono ?_
  rintro e w1 ⟨rfl, hb1⟩
  have X1 : Rw w.heap.size a0 a1 a2 a3 w1 := Rw.below (by
    have := ((Rw.new w a0 a1 a2 a3 24).below ((Below.refl _ _).alloc (Nat.le_refl _) (.cells #[.int .u64 n0, .int .u64 n1, .int .u64 n2, .int .u64 n3] 24)))
    exact this.below ((Below.refl _ _).alloc (Nat.le_refl _) (.cells #[.int .u64 0, .int .u64 0, .int .u64 0, .int .u64 0] 24))) hb1
  have N1 : Rw (w.heap.size + 1) n0 n1 n2 n3 w1 := Rw.below (by
    have := (Rw.new (w.alloc (.cells #[.int .u64 a0, .int .u64 a1, .int .u64 a2, .int .u64 a3] 24)) n0 n1 n2 n3 24).below ((Below.refl _ _).alloc (Nat.le_refl _) (.cells #[.int .u64 0, .int .u64 0, .int .u64 0, .int .u64 0] 24))
    simpa using this) hb1
  have Z1 : Rw (w.heap.size + 1 + 1) 0 0 0 0 w1 := Rw.below (by
    have := Rw.new ((w.alloc (.cells #[.int .u64 a0, .int .u64 a1, .int .u64 a2, .int .u64 a3] 24)).alloc (.cells #[.int .u64 n0, .int .u64 n1, .int .u64 n2, .int .u64 n3] 24)) 0 0 0 0 24
    simpa using this) hb1
  have E1 := belowStep (n := w.heap.size) (w := w) (by go_grown) (by (try simp) <;> omega) hb1
  clear hb1
  have z1 := Z1.w.z
  go_wp2_with fail
  refine wpOf (fun W => Below w.heap.size w W ∧ XS w.heap.size w1.heap.size a0 a1 a2 a3 n0 n1 n2 n3 1 0 0 0 W) ⟨by go_grown, ?_⟩ ?_
  · refine ⟨?_, ?_, ?_, ?_, z1⟩
    · exact X1.below ((Below.refl _ _).alloc (Nat.le_refl _) _)
    · exact N1.below ((Below.refl _ _).alloc (Nat.le_refl _) _)
    · exact Z1.below ((Below.refl _ _).alloc (Nat.le_refl _) _)
    · exact Rw.new w1 1 0 0 0 24
  rintro V ⟨EV, HV⟩
  clear X1 N1 Z1 E1 z1
  generalize w1.heap.size = g at HV ⊢
  clear w1
  go_loopg [] ((val n0 n1 n2 n3).toNat) (fun k wr => ∃ x0 x1 x2 x3 m0 m1 m2 m3 p0 p1 p2 p3 : Int, Below w.heap.size w wr ∧ XS w.heap.size g x0 x1 x2 x3 m0 m1 m2 m3 p0 p1 p2 p3 wr ∧ Ws x0 x1 x2 x3 ∧ Ws m0 m1 m2 m3 ∧ Ws p0 p1 p2 p3 ∧ Hid ((val m0 m1 m2 m3).toNat = k ∧ val p0 p1 p2 p3 * val x0 x1 x2 x3 ^ (val m0 m1 m2 m3).toNat % 115792089237316195423570985008687907853269984665640564039457584007913129639936 = val a0 a1 a2 a3 ^ (val n0 n1 n2 n3).toNat % 115792089237316195423570985008687907853269984665640564039457584007913129639936))
  case atStart =>
    refine ⟨a0, a1, a2, a3, n0, n1, n2, n3, 1, 0, 0, 0, EV, HV, ha, hn, ⟨h1, ho, ho, ho⟩, rfl, ?_⟩
    rw [show val 1 0 0 0 = 1 from rfl, Int.one_mul]
  case round =>
    obtain ⟨x0, x1, x2, x3, m0, m1, m2, m3, p0, p1, p2, p3, EW, HW, hx, hm, hp, hH⟩ := hrel
    obtain ⟨⟨kz, k0, k1, k2, k3⟩, kf⟩ := id HW.X
    obtain ⟨⟨nz, c0, c1, c2, c3⟩, cf⟩ := id HW.N
    obtain ⟨⟨dz, d0, d1, d2, d3⟩, df⟩ := id HW.Z
    obtain ⟨⟨pz, l0, l1, l2, l3⟩, lf⟩ := id HW.P
    have gz := HW.hg
    by_cases h0 : val m0 m1 m2 m3 = 0
    · have hq := eq_word_yes m0 m1 m2 m3 0 0 0 0 hm ⟨ho, ho, ho, ho⟩ h0
      go_wp2
      refine bodyPost_ret (v := .agg #[.int .u64 p0, .int .u64 p1, .int .u64 p2, .int .u64 p3]) (by simp [results, Try.results30, go_sem, *]) rfl ⟨p0, p1, p2, p3, rfl, hp, ?_, ?_⟩
      · show _ = _
        have := hH.out.2
        rw [h0] at this
        have b := val_bd _ _ _ _ hp
        simp only [Int.toNat_zero, Int.pow_zero, Int.mul_one] at this
        rw [← this]
        omega
      · go_grown
    · have hq := eq_word_no m0 m1 m2 m3 0 0 0 0 hm ⟨ho, ho, ho, ho⟩ h0
      have hand := and_one m0 hm.1
      have bm := val_bd _ _ _ _ hm
      have em : val m0 m1 m2 m3 % 2 = m0 % 2 := by unfold val; omega
      rcases Int.emod_two_eq m0 with hpar | hpar
      · rw [hpar] at hand em
        have H2 : Hid (_ ∧ _ ∧ _ ∧ _) := ⟨h0, bm, em, hH.out⟩
        clear h0 bm em hH hpar
        go_wp2_with fail
        refine (mul_any x0 x1 x2 x3 x0 x1 x2 x3 hx hx _).mono ?_
        rintro e w2 ⟨r0, r1, r2, r3, rfl, hr, hrv, hb2⟩
        have HW2 := HW.below hb2
        have EW2 := belowStep EW EW.size hb2
        clear hb2 HW EW kz k0 k1 k2 k3 kf nz c0 c1 c2 c3 cf dz d0 d1 d2 d3 df pz l0 l1 l2 l3 lf hq hand
        obtain ⟨⟨kz, k0, k1, k2, k3⟩, kf⟩ := id HW2.X
        obtain ⟨⟨nz, c0, c1, c2, c3⟩, cf⟩ := id HW2.N
        go_wp2_with fail
        refine (lower_any m0 m1 m2 m3 1 hm (by decide) (by decide) _).mono ?_
        rintro e w3 ⟨s0, s1, s2, s3, rfl, hs, hsv, hb3⟩
        have HW3 := (HW2.putX r0 r1 r2 r3).below hb3
        have EW3 := belowStep (below_put4 (g := w.heap.size) EW2 (Nat.le_refl _) r0 r1 r2 r3) (below_put4 (g := w.heap.size) EW2 (Nat.le_refl _) r0 r1 r2 r3).size hb3
        clear hb3 HW2 EW2 kz k0 k1 k2 k3 kf nz c0 c1 c2 c3 cf
        obtain ⟨⟨nz, c0, c1, c2, c3⟩, cf⟩ := id HW3.N
        go_wp2_with fail
        obtain ⟨h0, bm, em, hk, hv⟩ := H2.out
        have es : val s0 s1 s2 s3 = val m0 m1 m2 m3 / 2 := hsv.out
        have et : (val m0 m1 m2 m3).toNat = 2 * (val s0 s1 s2 s3).toNat + 0 := by rw [es]; omega
        go_roundg ((val s0 s1 s2 s3).toNat)
        case measure => omega
        case rel =>
          refine ⟨r0, r1, r2, r3, s0, s1, s2, s3, p0, p1, p2, p3, below_put4 (g := w.heap.size + 1) EW3 (Nat.le_succ _) s0 s1 s2 s3, HW3.putN s0 s1 s2 s3, hr, hs, hp, rfl, ?_⟩
          rw [← hv, et, hrv.out, exp_even, Nat.add_zero]
      · rw [hpar] at hand em
        have H2 : Hid (_ ∧ _ ∧ _ ∧ _) := ⟨h0, bm, em, hH.out⟩
        clear h0 bm em hH hpar
        go_wp2_with fail
        refine (mul_any p0 p1 p2 p3 x0 x1 x2 x3 hp hx _).mono ?_
        rintro e w1 ⟨t0, t1, t2, t3, rfl, ht, htv, hb1⟩
        have HW1 := HW.below hb1
        have EW1 := belowStep EW EW.size hb1
        clear hb1 HW EW kz k0 k1 k2 k3 kf nz c0 c1 c2 c3 cf dz d0 d1 d2 d3 df pz l0 l1 l2 l3 lf hq hand
        obtain ⟨⟨kz, k0, k1, k2, k3⟩, kf⟩ := id HW1.X
        obtain ⟨⟨pz, l0, l1, l2, l3⟩, lf⟩ := id HW1.P
        have gne : w.heap.size ≠ g := by omega
        go_wp2_with fail
        refine (mul_any x0 x1 x2 x3 x0 x1 x2 x3 hx hx _).mono ?_
        rintro e w2 ⟨r0, r1, r2, r3, rfl, hr, hrv, hb2⟩
        have HW2 := (HW1.putP t0 t1 t2 t3).below hb2
        have EW2 := belowStep (below_put4 (g := g) EW1 (by omega) t0 t1 t2 t3) (below_put4 (g := g) EW1 (by omega) t0 t1 t2 t3).size hb2
        clear hb2 HW1 EW1 kz k0 k1 k2 k3 kf pz l0 l1 l2 l3 lf
        obtain ⟨⟨kz, k0, k1, k2, k3⟩, kf⟩ := id HW2.X
        obtain ⟨⟨nz, c0, c1, c2, c3⟩, cf⟩ := id HW2.N
        go_wp2_with fail
        refine (lower_any m0 m1 m2 m3 1 hm (by decide) (by decide) _).mono ?_
        rintro e w3 ⟨s0, s1, s2, s3, rfl, hs, hsv, hb3⟩
        have HW3 := (HW2.putX r0 r1 r2 r3).below hb3
        have EW3 := belowStep (below_put4 (g := w.heap.size) EW2 (Nat.le_refl _) r0 r1 r2 r3) (below_put4 (g := w.heap.size) EW2 (Nat.le_refl _) r0 r1 r2 r3).size hb3
        clear hb3 HW2 EW2 kz k0 k1 k2 k3 kf nz c0 c1 c2 c3 cf
        obtain ⟨⟨nz, c0, c1, c2, c3⟩, cf⟩ := id HW3.N
        go_wp2_with fail
        obtain ⟨h0, bm, em, hk, hv⟩ := H2.out
        have es : val s0 s1 s2 s3 = val m0 m1 m2 m3 / 2 := hsv.out
        have et : (val m0 m1 m2 m3).toNat = 2 * (val s0 s1 s2 s3).toNat + 1 := by rw [es]; omega
        go_roundg ((val s0 s1 s2 s3).toNat)
        case measure => omega
        case rel =>
          refine ⟨r0, r1, r2, r3, s0, s1, s2, s3, t0, t1, t2, t3, below_put4 (g := w.heap.size + 1) EW3 (Nat.le_succ _) s0 s1 s2 s3, HW3.putN s0 s1 s2 s3, hr, hs, ht, rfl, ?_⟩
          rw [← hv, et, htv.out, hrv.out, exp_odd]
end Go.Proofs.Ytgapcjdgakamoaa
