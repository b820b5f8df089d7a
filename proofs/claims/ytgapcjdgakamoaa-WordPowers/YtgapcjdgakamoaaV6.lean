/- What the reference's Exp does at this translation: for all words, whatever the memory; and WordPowers' own statements, walked: for any two words the law returns true. No condition. -/
import Derived.Test.YtgapcjdgakamoaaV4
import Derived.Test.YtgapcjdgakamoaaW23
namespace Go.Proofs.Ytgapcjdgakamoaa
open Go.RowKit Go.Shelf Go.Sort

theorem half_nat (B : Int) (hB : 0 ≤ B) (k : Nat) : (B / 2 ^ k).toNat = 2 * (B / 2 ^ (k + 1)).toNat + (if bitAt B k then 1 else 0) := by
  have h := half_step B k
  have p : 0 ≤ B / 2 ^ (k + 1) := Int.ediv_nonneg hB (Int.le_of_lt (Int.pow_pos (by decide)))
  cases hb : bitAt B k
  · rw [hb] at h; simp at h; simp; omega
  · rw [hb] at h; simp at h; simp; omega
theorem sq_pow (M A : Int) (e : Nat) : (A ^ e % M) * (A ^ e % M) % M = A ^ (2 * e) % M := by
  rw [← Int.mul_emod, ← Int.pow_add, show e + e = 2 * e by omega]
theorem sq_next (M A : Int) (e : Nat) : ((A ^ e % M) * (A ^ e % M) % M) * A % M = A ^ (2 * e + 1) % M := by
  rw [sq_pow, Int.mul_emod, Int.emod_emod_of_dvd _ (Int.dvd_refl M), ← Int.mul_emod, Int.pow_succ]
theorem one_next (M A : Int) : (A ^ 0 % M) * A % M = A ^ 1 % M := by
  rw [Int.mul_emod, Int.emod_emod_of_dvd _ (Int.dvd_refl M), ← Int.mul_emod, Int.pow_succ]

/-- The memory of a power between two rounds. -/
structure ES (n g l : Nat) (f : Nat → Value) (a0 a1 a2 a3 o0 o1 o2 o3 : Int) (W : World) : Prop where
  X : Rw n a0 a1 a2 a3 W
  Z : Rw (n + 1 + 1) 0 0 0 0 W
  O : Rw g o0 o1 o2 o3 W
  L : Fw l 256 f W
  hg : n + 1 + 1 < g
  hl : g < l
section
variable {n g l : Nat} {f : Nat → Value} {a0 a1 a2 a3 o0 o1 o2 o3 : Int} {W W' : World}
theorem ES.below (h : ES n g l f a0 a1 a2 a3 o0 o1 o2 o3 W) (hb : Below W.heap.size W W') : ES n g l f a0 a1 a2 a3 o0 o1 o2 o3 W' := ⟨h.X.below hb, h.Z.below hb, h.O.below hb, Fw.below h.4 hb, h.hg, h.hl⟩
theorem ES.putO (h : ES n g l f a0 a1 a2 a3 o0 o1 o2 o3 W) (b0 b1 b2 b3 : Int) : ES n g l f a0 a1 a2 a3 b0 b1 b2 b3 (put4 g b0 b1 b2 b3 W) := by
  have := h.hg
  have := h.hl
  exact ⟨h.X.other b0 b1 b2 b3 (by omega), h.Z.other b0 b1 b2 b3 (by omega), h.O.over b0 b1 b2 b3, Fw.put4 h.4 (by omega) b0 b1 b2 b3, h.hg, h.hl⟩
end

set_option maxRecDepth 20000 in
set_option maxHeartbeats 2000000 in
theorem rexp_any (a0 a1 a2 a3 n0 n1 n2 n3 : Int) (ha : Ws a0 a1 a2 a3) (hn : Ws n0 n1 n2 n3) (w : World) :
    Calls Try.prog 31 #[.agg #[.int .u64 a0, .int .u64 a1, .int .u64 a2, .int .u64 a3], .agg #[.int .u64 n0, .int .u64 n1, .int .u64 n2, .int .u64 n3]] w fun e w' =>
      ∃ r0 r1 r2 r3 : Int, e = .returned (.agg #[.int .u64 r0, .int .u64 r1, .int .u64 r2, .int .u64 r3]) ∧ Ws r0 r1 r2 r3 ∧ Hid (val r0 r1 r2 r3 = val a0 a1 a2 a3 ^ (val n0 n1 n2 n3).toNat % 115792089237316195423570985008687907853269984665640564039457584007913129639936) ∧ Below w.heap.size w w' := by
  have ho : Pt 0 := ⟨by decide, by decide⟩
  have h1 : Pt 1 := ⟨by decide, by decide⟩
  have bN := val_bd _ _ _ _ hn
  have z0 := zero_bits.1
  obtain ⟨y, hy⟩ : ∃ y, val n0 n1 n2 n3 = y := ⟨_, rfl⟩
  have cB := rbits_any n0 n1 n2 n3 hn
  rw [hy] at cB bN ⊢
  have CB : Hid (∀ w : World, _) := cB
  have BN : Hid (_ ∧ _) := bN
  clear cB hy bN
  go_enter Try.func31, Try.ntmps31
  go_wp2_with fail
  refine (rof_any 1 _).mono ?_
  rintro e w1 ⟨rfl, hb1⟩
  have X1 : Rw w.heap.size a0 a1 a2 a3 w1 := Rw.below (by
    have := ((Rw.new w a0 a1 a2 a3 24).below ((Below.refl _ _).alloc (Nat.le_refl _) (.cells #[.int .u64 n0, .int .u64 n1, .int .u64 n2, .int .u64 n3] 24)))
    exact this.below ((Below.refl _ _).alloc (Nat.le_refl _) (.cells #[.int .u64 0, .int .u64 0, .int .u64 0, .int .u64 0] 24))) hb1
  have N1 : Cw (w.heap.size + 1) n0 n1 n2 n3 w1 := Cw.below (by repeat' (first | (simpa using Cw.new (w.alloc _) n0 n1 n2 n3 _) | apply Cw.alloc | apply Cw.drew)) hb1
  have Z1 : Rw (w.heap.size + 1 + 1) 0 0 0 0 w1 := Rw.below (by
    have := Rw.new ((w.alloc (.cells #[.int .u64 a0, .int .u64 a1, .int .u64 a2, .int .u64 a3] 24)).alloc (.cells #[.int .u64 n0, .int .u64 n1, .int .u64 n2, .int .u64 n3] 24)) 0 0 0 0 24
    simpa using this) hb1
  have E1 := belowStep (n := w.heap.size) (w := w) (by go_grown) (by (try simp) <;> omega) hb1
  clear hb1
  have z1 := Z1.w.z
  obtain ⟨zn, cn0, cn1, cn2, cn3⟩ := id N1
  go_wp2_with fail
  refine (CB.out _).mono ?_
  rintro e w2 ⟨rfl, hb2⟩
  have X2 := (X1.below ((Below.refl _ _).alloc (Nat.le_refl _) _)).below hb2
  have Z2 := (Z1.below ((Below.refl _ _).alloc (Nat.le_refl _) _)).below hb2
  have O2 := (Rw.new w1 1 0 0 0 24).below hb2
  have E2 := belowStep (E1.alloc E1.size _) (by have := E1.size; simp; omega) hb2
  clear hb2 X1 N1 Z1 E1 zn cn0 cn1 cn2 cn3
  have z2 := O2.w.z
  have hst := (Fw.new w2 256 (fun _ => .bool false) 43).run (P := Try.prog) (fun j => .bool (bitAt y j)) (fun _ => rfl)
  go_wp2_with fail
  refine wpOf (fun W => Below w.heap.size w W ∧ ES w.heap.size w1.heap.size w2.heap.size (fun j => .bool (bitAt y j)) a0 a1 a2 a3 1 0 0 0 W) ⟨?_, ?_⟩ ?_
  · exact below_setCells' E2.size _ _ _ (E2.alloc E2.size _)
  · have FN := Fw.new w2 256 (fun _ => .bool false) 43
    have hb : Below w2.heap.size w2 ((w2.alloc (.cells (fl 256 fun _ => .bool false).toArray 43)).setCells w2.heap.size 0 (fl 256 fun j => .bool (bitAt y j))) := below_setCells' (Nat.le_refl _) _ _ _ ((Below.refl _ _).alloc (Nat.le_refl _) _)
    exact ⟨X2.below hb, Z2.below hb, O2.below hb, FN.store _, z1, z2⟩
  rintro V ⟨EV, HV⟩
  clear X2 Z2 O2 E2 z1 z2 hst
  generalize w1.heap.size = g at HV ⊢
  generalize w2.heap.size = l at HV ⊢
  clear w1 w2
  go_loopg [7, 8] 256 (fun gk c i wr => ∃ o0 o1 o2 o3 : Int, ∃ d : Bool, gk ≤ 256 ∧ c = .bool d ∧ i = .int .i64 ((gk : Int) - 1) ∧ Below w.heap.size w wr ∧ ES w.heap.size g l (fun j => .bool (bitAt y j)) a0 a1 a2 a3 o0 o1 o2 o3 wr ∧ Ws o0 o1 o2 o3 ∧ Hid (val o0 o1 o2 o3 = val a0 a1 a2 a3 ^ (y / 2 ^ gk).toNat % 115792089237316195423570985008687907853269984665640564039457584007913129639936 ∧ (d = false → (y / 2 ^ gk).toNat = 0)))
  case atStart =>
    have e : (y / 2 ^ 256).toNat = 0 := by
      have := BN.out
      rw [show ((2 : Int) ^ 256) = 115792089237316195423570985008687907853269984665640564039457584007913129639936 from rfl]
      omega
    refine ⟨1, 0, 0, 0, false, Nat.le_refl _, rfl, rfl, EV, HV, ⟨h1, ho, ho, ho⟩, ?_, fun _ => e⟩
    rw [e, Int.pow_zero]
    rfl
  case round =>
    obtain ⟨o0, o1, o2, o3, d, hk, rfl, rfl, EW, HW, hO, hH⟩ := hrel
    obtain ⟨⟨kz, k0, k1, k2, k3⟩, kf⟩ := id HW.X
    obtain ⟨⟨dz, d0, d1, d2, d3⟩, df⟩ := id HW.Z
    obtain ⟨⟨pz, l0, l1, l2, l3⟩, lf⟩ := id HW.O
    have gz := HW.hg
    have gl := HW.hl
    cases gk with
    | zero =>
      go_wp2
      refine bodyPost_ret (v := .agg #[.int .u64 o0, .int .u64 o1, .int .u64 o2, .int .u64 o3]) (by simp [results, Try.results31, go_sem, *]) rfl ⟨o0, o1, o2, o3, rfl, hO, ?_, ?_⟩
      · have := hH.out.1
        show _ = _
        rw [this]
        simp
      · go_grown
    | succ k =>
      obtain ⟨b, hbb⟩ : ∃ b, bitAt y k = b := ⟨_, rfl⟩
      have hS := half_nat y BN.out.1 k
      rw [hbb] at hS
      have lc := (Fw.c HW.4 k (by omega))
      rw [hbb] at lc
      have HB : Hid (_ ∧ _) := ⟨hbb, hS⟩
      clear hbb hS
      have e1 : ((k + 1 : Nat) : Int) - 1 = k := by omega
      rw [e1]
      have gne : w.heap.size ≠ g := by omega
      have lne : l ≠ g := by omega
      have lne' : g ≠ l := by omega
      cases d with
      | false =>
        cases b with
        | false =>
          go_wp2_with fail
          go_roundg k
          case measure => omega
          case rel =>
            have h0 := hH.out.2 (by simp)
            have e : (y / 2 ^ k).toNat = 0 := by rw [HB.out.2, h0]; rfl
            refine ⟨o0, o1, o2, o3, false, by omega, rfl, rfl, EW, HW, hO, ?_, fun _ => e⟩
            rw [hH.out.1, h0, e]
        | true =>
          go_wp2_with fail
          refine (rmul_any o0 o1 o2 o3 a0 a1 a2 a3 hO ha _).mono ?_
          rintro e w2 ⟨s0, s1, s2, s3, rfl, hs, hsv, hb2⟩
          have HW2 := HW.below hb2
          have EW2 := belowStep EW EW.size hb2
          clear hb2 HW EW kz k0 k1 k2 k3 kf pz l0 l1 l2 l3 lf lc dz d0 d1 d2 d3 df
          obtain ⟨⟨pz, l0, l1, l2, l3⟩, lf⟩ := id HW2.O
          go_wp2_with fail
          go_roundg k
          case measure => omega
          case rel =>
            have h0 := hH.out.2 (by simp)
            have e : (y / 2 ^ k).toNat = 1 := by rw [HB.out.2, h0]; rfl
            refine ⟨s0, s1, s2, s3, true, by omega, rfl, rfl, below_put4 (g := g) EW2 (by omega) s0 s1 s2 s3, HW2.putO s0 s1 s2 s3, hs, ?_, fun h => by cases h⟩
            rw [hsv.out, hH.out.1, h0, e, one_next]
      | true =>
        go_wp2_with fail
        refine (rmul_any o0 o1 o2 o3 o0 o1 o2 o3 hO hO _).mono ?_
        rintro e w1 ⟨t0, t1, t2, t3, rfl, ht, htv, hb1⟩
        have HW1 := HW.below hb1
        have EW1 := belowStep EW EW.size hb1
        have lc1 := (Fw.c HW1.4 k (by omega))
        rw [HB.out.1] at lc1
        clear hb1 kz k0 k1 k2 k3 kf dz d0 d1 d2 d3 df pz l0 l1 l2 l3 lf lc HW EW
        obtain ⟨⟨kz, k0, k1, k2, k3⟩, kf⟩ := id HW1.X
        obtain ⟨⟨pz, l0, l1, l2, l3⟩, lf⟩ := id HW1.O
        cases b with
        | false =>
          go_wp2_with fail
          go_roundg k
          case measure => omega
          case rel =>
            have e : (y / 2 ^ k).toNat = 2 * (y / 2 ^ (k + 1)).toNat := by rw [HB.out.2]; rfl
            refine ⟨t0, t1, t2, t3, true, by omega, rfl, rfl, below_put4 (g := g) EW1 (by omega) t0 t1 t2 t3, HW1.putO t0 t1 t2 t3, ht, ?_, fun h => by cases h⟩
            rw [htv.out, hH.out.1, e, sq_pow]
        | true =>
          go_wp2_with fail
          refine (rmul_any t0 t1 t2 t3 a0 a1 a2 a3 ht ha _).mono ?_
          rintro e w2 ⟨s0, s1, s2, s3, rfl, hs, hsv, hb2⟩
          have HW2 := (HW1.putO t0 t1 t2 t3).below hb2
          have EW2 := belowStep (below_put4 (g := g) EW1 (by omega) t0 t1 t2 t3) (below_put4 (g := g) EW1 (by omega) t0 t1 t2 t3).size hb2
          clear hb2 HW1 EW1 kz k0 k1 k2 k3 kf pz l0 l1 l2 l3 lf lc1
          obtain ⟨⟨pz, l0, l1, l2, l3⟩, lf⟩ := id HW2.O
          go_wp2_with fail
          go_roundg k
          case measure => omega
          case rel =>
            have e : (y / 2 ^ k).toNat = 2 * (y / 2 ^ (k + 1)).toNat + 1 := by rw [HB.out.2]; rfl
            refine ⟨s0, s1, s2, s3, true, by omega, rfl, rfl, below_put4 (g := g) EW2 (by omega) s0 s1 s2 s3, HW2.putO s0 s1 s2 s3, hs, ?_, fun h => by cases h⟩
            rw [hsv.out, htv.out, hH.out.1, e, sq_next]

set_option maxHeartbeats 4000000 in
theorem powers_any (a0 a1 a2 a3 b0 b1 b2 b3 : Int) (ha : Ws a0 a1 a2 a3) (hb : Ws b0 b1 b2 b3) (w : World) :
    Calls Try.prog 6 #[.agg #[.int .u64 a0, .int .u64 a1, .int .u64 a2, .int .u64 a3], .agg #[.int .u64 b0, .int .u64 b1, .int .u64 b2, .int .u64 b3]] w fun e w' => e = .returned (.bool true) ∧ Below w.heap.size w w' := by
  obtain ⟨p0, p1, p2, p3, hP, vP, cP⟩ := exact4 (emod_bd _) (exp_any a0 a1 a2 a3 b0 b1 b2 b3 ha hb)
  obtain ⟨q0, q1, q2, q3, hQ, vQ, cQ⟩ := exact4 (emod_bd _) (rexp_any a0 a1 a2 a3 b0 b1 b2 b3 ha hb)
  have e1 := eq_word_yes p0 p1 p2 p3 q0 q1 q2 q3 hP hQ (by rw [vP.out, vQ.out])
  have KP : Hid (∀ w : World, _) := cP
  have KQ : Hid (∀ w : World, _) := cQ
  clear cP cQ vP vQ hP hQ
  go_enter Try.func6, Try.ntmps6
  go_wp2_with fail
  refine (shown_any _).mono ?_
  rintro e w1 ⟨rfl, hb1⟩
  have A1 : Cw w.heap.size a0 a1 a2 a3 w1 := Cw.below (by repeat' (first | exact Cw.new _ _ _ _ _ _ | apply Cw.alloc | apply Cw.drew)) hb1
  have B1 : Cw (w.heap.size + 1) b0 b1 b2 b3 w1 := Cw.below (by repeat' (first | (simpa using Cw.new (w.alloc _) b0 b1 b2 b3 _) | apply Cw.alloc | apply Cw.drew)) hb1
  have E1 := belowStep (n := w.heap.size) (w := w) (by go_grown) (by (try simp) <;> omega) hb1
  clear hb1
  go_wp2
  have k0 := cell_regrown A1.c0
  have k1 := cell_regrown A1.c1
  have k2 := cell_regrown A1.c2
  have k3 := cell_regrown A1.c3
  have l0 := cell_regrown B1.c0
  have l1 := cell_regrown B1.c1
  have l2 := cell_regrown B1.c2
  have l3 := cell_regrown B1.c3
  have cP := inClass (w := w1) KP.out
  have cQ := inClass (w := w1) KQ.out
  refine wp_region_quiet_below (by kernel_rfl) (by kernel_rfl) ?_
  iterate 4 (quiet_step (fail))
  quiet_step (exact cP _ _)
  iterate 2 (quiet_step (fail))
  quiet_step (exact cQ _ _)
  iterate 3 (quiet_step (fail))
  refine wpQuiet_nil ?_
  intro _ hw'
  obtain ⟨⟨dq, osq⟩, hw''⟩ := hw'
  subst hw''
  go_wp2
  go_ret
  exact ⟨rfl, belowStep E1 E1.size (below_regrown w1 dq osq)⟩
end Go.Proofs.Ytgapcjdgakamoaa
