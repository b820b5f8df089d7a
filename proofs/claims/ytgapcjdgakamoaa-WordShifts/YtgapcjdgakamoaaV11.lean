/- What the reference's Div, Mod, SDiv, SMod do at this translation: for all words, whatever the memory. -/
import Derived.Test.YtgapcjdgakamoaaV10
namespace Go.Proofs.Ytgapcjdgakamoaa
open Go.RowKit Go.Shelf Go.Sort

theorem qt_in (x y : Int) (hx : 0 ≤ x ∧ x < 115792089237316195423570985008687907853269984665640564039457584007913129639936) (hy : 0 ≤ y) : 0 ≤ qt x y ∧ qt x y < 115792089237316195423570985008687907853269984665640564039457584007913129639936 := by
  have := qt_bd x y hx.1 hx.2 hy
  omega
theorem sgn_in (b : Bool) (x : Int) (hx : 0 ≤ x ∧ x < 115792089237316195423570985008687907853269984665640564039457584007913129639936) : 0 ≤ sgn b x ∧ sgn b x < 115792089237316195423570985008687907853269984665640564039457584007913129639936 := by
  unfold sgn
  cases b <;> simp <;> omega
theorem rm_bd (x y : Int) (hy : 0 ≤ y ∧ y < 115792089237316195423570985008687907853269984665640564039457584007913129639936) : 0 ≤ rm x y ∧ rm x y < 115792089237316195423570985008687907853269984665640564039457584007913129639936 := by
  unfold rm
  by_cases h : y = 0
  · rw [if_pos h]; decide
  · rw [if_neg h]
    have h1 := Int.emod_nonneg x h
    have h2 := Int.emod_lt_of_pos x (show 0 < y by omega)
    omega

set_option maxHeartbeats 1000000 in
theorem rdiv_any (a0 a1 a2 a3 b0 b1 b2 b3 : Int) (ha : Ws a0 a1 a2 a3) (hb : Ws b0 b1 b2 b3) (w : World) :
    Calls Try.prog 19 #[.agg #[.int .u64 a0, .int .u64 a1, .int .u64 a2, .int .u64 a3], .agg #[.int .u64 b0, .int .u64 b1, .int .u64 b2, .int .u64 b3]] w fun e w' =>
      ∃ s0 s1 s2 s3 : Int, e = .returned (.agg #[.int .u64 s0, .int .u64 s1, .int .u64 s2, .int .u64 s3]) ∧ Ws s0 s1 s2 s3 ∧ Hid (val s0 s1 s2 s3 = qt (val a0 a1 a2 a3) (val b0 b1 b2 b3)) ∧ Below w.heap.size w w' := by
  by_cases hne : val b0 b1 b2 b3 = 0
  · have ho : Pt 0 := ⟨by decide, by decide⟩
    obtain ⟨rfl, rfl, rfl, rfl⟩ := val_inj b0 b1 b2 b3 0 0 0 0 hb ⟨ho, ho, ho, ho⟩ (by rw [hne]; rfl)
    have e0 := eq_word_yes 0 0 0 0 0 0 0 0 hb hb rfl
    clear hne
    go_enter Try.func19, Try.ntmps19
    go_wp2
    refine bodyPost_ret (v := .agg #[.int .u64 0, .int .u64 0, .int .u64 0, .int .u64 0]) (by simp [results, Try.results19, go_sem]) rfl ⟨0, 0, 0, 0, rfl, hb, ?_, ?_⟩
    · show _ = _
      unfold qt; rw [if_pos (show val 0 0 0 0 = 0 from by decide)]; rfl
    · go_grown
  · exact rdiv_nz a0 a1 a2 a3 b0 b1 b2 b3 ha hb hne w

set_option maxHeartbeats 1000000 in
theorem rmod_any (a0 a1 a2 a3 b0 b1 b2 b3 : Int) (ha : Ws a0 a1 a2 a3) (hb : Ws b0 b1 b2 b3) (w : World) :
    Calls Try.prog 21 #[.agg #[.int .u64 a0, .int .u64 a1, .int .u64 a2, .int .u64 a3], .agg #[.int .u64 b0, .int .u64 b1, .int .u64 b2, .int .u64 b3]] w fun e w' =>
      ∃ s0 s1 s2 s3 : Int, e = .returned (.agg #[.int .u64 s0, .int .u64 s1, .int .u64 s2, .int .u64 s3]) ∧ Ws s0 s1 s2 s3 ∧ Hid (val s0 s1 s2 s3 = rm (val a0 a1 a2 a3) (val b0 b1 b2 b3)) ∧ Below w.heap.size w w' := by
  by_cases hne : val b0 b1 b2 b3 = 0
  · have ho : Pt 0 := ⟨by decide, by decide⟩
    obtain ⟨rfl, rfl, rfl, rfl⟩ := val_inj b0 b1 b2 b3 0 0 0 0 hb ⟨ho, ho, ho, ho⟩ (by rw [hne]; rfl)
    have e0 := eq_word_yes 0 0 0 0 0 0 0 0 hb hb rfl
    clear hne
    go_enter Try.func21, Try.ntmps21
    go_wp2
    refine bodyPost_ret (v := .agg #[.int .u64 0, .int .u64 0, .int .u64 0, .int .u64 0]) (by simp [results, Try.results21, go_sem]) rfl ⟨0, 0, 0, 0, rfl, hb, ?_, ?_⟩
    · show _ = _
      unfold rm; rw [if_pos (show val 0 0 0 0 = 0 from by decide)]; rfl
    · go_grown
  · exact rmod_nz a0 a1 a2 a3 b0 b1 b2 b3 ha hb hne w

theorem SD.rw {n : Nat} {a0 a1 a2 a3 b0 b1 b2 b3 : Int} {W : World} (h : SD n a0 a1 a2 a3 b0 b1 b2 b3 W) : Cw n a0 a1 a2 a3 W ∧ Cw (n + 1) b0 b1 b2 b3 W ∧ Rw (n + 1 + 1) 0 0 0 0 W := by
  obtain ⟨z, h0, h1, h2, h3, h4, h5, h6, h7, h8, h9, h10, h11, hf⟩ := h
  exact ⟨⟨by omega, h0, h1, h2, h3⟩, ⟨by omega, h4, h5, h6, h7⟩, ⟨⟨by omega, h8, h9, h10, h11⟩, hf⟩⟩

/-- What holds while a statement runs: what has come up, and what lies where. -/
structure SJ (w : World) (a0 a1 a2 a3 b0 b1 b2 b3 c0 c1 c2 c3 d0 d1 d2 d3 q0 q1 q2 q3 : Int) (S : Nat → Bool) (x5 x6 x7 x8 x9 x10 : Value) (W : World) : Prop where
  e : Below w.heap.size w W
  m : SD w.heap.size a0 a1 a2 a3 b0 b1 b2 b3 W
  f0 : S 0 = true → x6 = .agg #[.int .u64 a0, .int .u64 a1, .int .u64 a2, .int .u64 a3]
  f1 : S 1 = true → x7 = .agg #[.int .u64 c0, .int .u64 c1, .int .u64 c2, .int .u64 c3]
  f2 : S 2 = true → x8 = .agg #[.int .u64 b0, .int .u64 b1, .int .u64 b2, .int .u64 b3]
  f3 : S 3 = true → x9 = .agg #[.int .u64 d0, .int .u64 d1, .int .u64 d2, .int .u64 d3]
  f4 : S 4 = true → x10 = .agg #[.int .u64 q0, .int .u64 q1, .int .u64 q2, .int .u64 q3]
  o5 : S 6 = true → S 5 = true
  f5 : S 5 = true → ∃ g, x5 = .pointer (some ⟨g, 0, none⟩) ∧ w.heap.size + 3 ≤ g ∧ g < W.heap.size ∧ (S 6 = false → Rw g 0 0 0 0 W) ∧ (S 6 = true → Rw g q0 q1 q2 q3 W)
theorem SJ.grow {w : World} {a0 a1 a2 a3 b0 b1 b2 b3 c0 c1 c2 c3 d0 d1 d2 d3 q0 q1 q2 q3 : Int} {S : Nat → Bool} {x5 x6 x7 x8 x9 x10 : Value} {W W' : World} (h : SJ w a0 a1 a2 a3 b0 b1 b2 b3 c0 c1 c2 c3 d0 d1 d2 d3 q0 q1 q2 q3 S x5 x6 x7 x8 x9 x10 W) (hb : Below W.heap.size W W') : SJ w a0 a1 a2 a3 b0 b1 b2 b3 c0 c1 c2 c3 d0 d1 d2 d3 q0 q1 q2 q3 S x5 x6 x7 x8 x9 x10 W' :=
  ⟨belowStep h.e h.e.size hb, h.m.below hb, h.f0, h.f1, h.f2, h.f3, h.f4, h.o5, fun h7 => (h.f5 h7).imp fun _ ⟨k1, k2, k0, k3, k4⟩ => ⟨k1, k2, Nat.lt_of_lt_of_le k0 hb.size, fun s => (k3 s).below hb, fun s => (k4 s).below hb⟩⟩

set_option maxRecDepth 20000 in
set_option maxHeartbeats 4000000 in
theorem rsdiv_any (a0 a1 a2 a3 b0 b1 b2 b3 : Int) (ha : Ws a0 a1 a2 a3) (hb : Ws b0 b1 b2 b3) (w : World) :
    Calls Try.prog 23 #[.agg #[.int .u64 a0, .int .u64 a1, .int .u64 a2, .int .u64 a3], .agg #[.int .u64 b0, .int .u64 b1, .int .u64 b2, .int .u64 b3]] w fun e w' =>
      ∃ s0 s1 s2 s3 : Int, e = .returned (.agg #[.int .u64 s0, .int .u64 s1, .int .u64 s2, .int .u64 s3]) ∧ Ws s0 s1 s2 s3 ∧ Hid (val s0 s1 s2 s3 = sgn (neg a3 != neg b3) (qt (sgn (neg a3) (val a0 a1 a2 a3)) (sgn (neg b3) (val b0 b1 b2 b3)))) ∧ Below w.heap.size w w' := by
  have ho : Ws 0 0 0 0 := ⟨⟨by decide, by decide⟩, ⟨by decide, by decide⟩, ⟨by decide, by decide⟩, ⟨by decide, by decide⟩⟩
  have bA := val_bd _ _ _ _ ha
  have bB := val_bd _ _ _ _ hb
  obtain ⟨u, hu⟩ : ∃ u, neg a3 = u := ⟨_, rfl⟩
  obtain ⟨v, hv⟩ : ∃ v, neg b3 = v := ⟨_, rfl⟩
  obtain ⟨c0, c1, c2, c3, hC, vC, cC⟩ := exact4 (sgn_in _ _ bA) (rsize_any a0 a1 a2 a3 ha)
  obtain ⟨d0, d1, d2, d3, hD, vD, cD⟩ := exact4 (sgn_in _ _ bB) (rsize_any b0 b1 b2 b3 hb)
  obtain ⟨q0, q1, q2, q3, hQ, vQ, cQ⟩ := exact4 (qt_in _ _ (val_bd _ _ _ _ hC) (val_bd _ _ _ _ hD).1) (rdiv_any c0 c1 c2 c3 d0 d1 d2 d3 hC hD)
  have cn := rnegative_any a0 a1 a2 a3 ha
  have cm := rnegative_any b0 b1 b2 b3 hb
  rw [hu] at cn vC ⊢
  rw [hv] at cm vD ⊢
  have vF := vQ.out
  rw [vC.out, vD.out] at vF
  have VF : Hid (_ = _) := vF
  have KC : Hid (∀ w : World, _) := cC
  have KD : Hid (∀ w : World, _) := cD
  have KQ : Hid (∀ w : World, _) := cQ
  have KN : Hid (∀ w : World, _) := cn
  have KM : Hid (∀ w : World, _) := cm
  clear cC cD cQ cn cm vF vQ vC vD hu hv bA bB
  go_enter Try.func23, Try.ntmps23
  go_wp2
  refine region_inv (fun S a W => ∃ x5 x6 x7 x8 x9 x10 : Value, a = { tmps := #[.agg #[.int .u64 a0, .int .u64 a1, .int .u64 a2, .int .u64 a3], .agg #[.int .u64 b0, .int .u64 b1, .int .u64 b2, .int .u64 b3], .pointer (some ⟨w.heap.size, 0, none⟩), .pointer (some ⟨w.heap.size + 1, 0, none⟩), .pointer (some ⟨w.heap.size + 1 + 1, 0, none⟩), x5, x6, x7, x8, x9, x10, undef, undef, undef, undef, undef, undef, undef, undef, undef], defers := [] } ∧ SJ w a0 a1 a2 a3 b0 b1 b2 b3 c0 c1 c2 c3 d0 d1 d2 d3 q0 q1 q2 q3 S x5 x6 x7 x8 x9 x10 W) (by kernel_rfl) (by kernel_rfl) ?_ ?_ ?_
  · refine ⟨undef, undef, undef, undef, undef, undef, rfl, ⟨by go_grown, ?_, nofun, nofun, nofun, nofun, nofun, nofun, nofun⟩⟩
    exact ⟨by simp, by simp [go_sem], by simp [go_sem], by simp [go_sem], by simp [go_sem], by simp [go_sem], by simp [go_sem], by simp [go_sem], by simp [go_sem], by simp [go_sem], by simp [go_sem], by simp [go_sem], by simp [go_sem], fun o => by simp [go_sem]⟩
  · intro i o S a W hi hun hJ hall K hK
    obtain ⟨x5, x6, x7, x8, x9, x10, rfl, h⟩ := hJ
    have hlt : i < 7 := (List.getElem?_eq_some_iff.1 hi).1
    obtain ⟨zz, c0, c1, c2, c3, d0, d1, d2, d3, y0, y1, y2, y3, yf⟩ := id h.m
    have hcase : i = 0 ∨ i = 1 ∨ i = 2 ∨ i = 3 ∨ i = 4 ∨ i = 5 ∨ i = 6 := by omega
    rcases hcase with rfl | rfl | rfl | rfl | rfl | rfl | rfl
    all_goals (have ho := (Option.some.inj hi).symm; subst ho; clear hi hlt)
    · go_simp
      exact hK _ _ ⟨x5, _, x7, x8, x9, x10, rfl, ⟨h.e, h.m, fun _ => rfl, h.f1, h.f2, h.f3, h.f4, h.o5, h.f5⟩⟩
    · have s0 : S 0 = true := hall ⟨0, .data⟩ (by simp) rfl
      obtain rfl := h.f0 s0
      go_simp
      refine (KC.out _).mono ?_
      rintro e w1 ⟨rfl, hb1⟩
      have h1 := h.grow hb1
      exact hK _ _ ⟨x5, _, _, x8, x9, x10, rfl, ⟨h1.e, h1.m, h1.f0, fun _ => rfl, h1.f2, h1.f3, h1.f4, h1.o5, h1.f5⟩⟩
    · go_simp
      exact hK _ _ ⟨x5, x6, x7, _, x9, x10, rfl, ⟨h.e, h.m, h.f0, h.f1, fun _ => rfl, h.f3, h.f4, h.o5, h.f5⟩⟩
    · have s2 : S 2 = true := hall ⟨2, .data⟩ (by simp) rfl
      obtain rfl := h.f2 s2
      go_simp
      refine (KD.out _).mono ?_
      rintro e w1 ⟨rfl, hb1⟩
      have h1 := h.grow hb1
      exact hK _ _ ⟨x5, x6, x7, _, _, x10, rfl, ⟨h1.e, h1.m, h1.f0, h1.f1, h1.f2, fun _ => rfl, h1.f4, h1.o5, h1.f5⟩⟩
    · have s1 : S 1 = true := hall ⟨1, .data⟩ (by simp) rfl
      obtain rfl := h.f1 s1
      have s3 : S 3 = true := hall ⟨3, .data⟩ (by simp) rfl
      obtain rfl := h.f3 s3
      go_simp
      refine (KQ.out _).mono ?_
      rintro e w1 ⟨rfl, hb1⟩
      have h1 := h.grow hb1
      exact hK _ _ ⟨x5, x6, _, x8, _, _, rfl, ⟨h1.e, h1.m, h1.f0, h1.f1, h1.f2, h1.f3, fun _ => rfl, h1.o5, h1.f5⟩⟩
    · go_simp
      have h1 := h.grow ((Below.refl _ W).alloc (Nat.le_refl _) (.cells #[.int .u64 0, .int .u64 0, .int .u64 0, .int .u64 0] 24))
      exact hK _ _ ⟨_, x6, x7, x8, x9, x10, rfl, ⟨h1.e, h1.m, h1.f0, h1.f1, h1.f2, h1.f3, h1.f4, fun _ => rfl, fun _ => ⟨W.heap.size, rfl, by omega, by simp, fun _ => Rw.new _ _ _ _ _ _, fun h9 => absurd (h.o5 h9) (by rw [hun]; decide)⟩⟩⟩
    · have s5 : S 5 = true := hall ⟨5, .data⟩ (by simp) rfl
      have s4 : S 4 = true := hall ⟨4, .data⟩ (by simp) rfl
      obtain ⟨g5, e5, hg5, hz5, r5, t5⟩ := h.f5 s5
      obtain rfl := h.f4 s4
      subst e5
      obtain ⟨⟨v0, v1, v2, v3, v4⟩, vf⟩ := id (r5 hun)
      go_simp
      exact hK _ _ ⟨_, x6, x7, x8, x9, _, rfl, ⟨below_put4 (g := g5) h.e (by omega) q0 q1 q2 q3, SD.put4 h.m hg5 q0 q1 q2 q3, h.f0, h.f1, h.f2, h.f3, h.f4, fun _ => s5, fun _ => ⟨g5, rfl, hg5, by simpa [go_sem] using hz5, fun h9 => absurd h9 (by simp [more]), fun _ => (r5 hun).over q0 q1 q2 q3⟩⟩⟩
  · intro S a W hS hJ
    obtain ⟨x5, x6, x7, x8, x9, x10, rfl, h⟩ := hJ
    obtain ⟨g, e5, hg, hz, r5, r6⟩ := h.f5 (hS 5 (by decide))
    subst e5
    have CQ := r6 (hS 6 (by decide))
    obtain ⟨CA, CB, CZ⟩ := h.m.rw
    have E1 := h.e
    clear r5 r6 h
    refine thenOf (fun W' => Below w.heap.size w W' ∧ Cw w.heap.size a0 a1 a2 a3 W' ∧ Cw (w.heap.size + 1) b0 b1 b2 b3 W' ∧ Rw (w.heap.size + 1 + 1) 0 0 0 0 W' ∧ Rw g q0 q1 q2 q3 W') ⟨E1, CA, CB, CZ, CQ⟩ ?_
    clear E1 CA CB CZ CQ hz W
    rintro W ⟨E1, CA, CB, CZ, CQ⟩
    go_wp2
    have k0 := cell_regrown CA.c0
    have k1 := cell_regrown CA.c1
    have k2 := cell_regrown CA.c2
    have k3 := cell_regrown CA.c3
    have l0 := cell_regrown CB.c0
    have l1 := cell_regrown CB.c1
    have l2 := cell_regrown CB.c2
    have l3 := cell_regrown CB.c3
    have cN := inClass (w := W) KN.out
    have cM := inClass (w := W) KM.out
    refine wp_region_quiet_below (by kernel_rfl) (by kernel_rfl) ?_
    quiet_step (fail)
    quiet_step (exact cN _ _)
    quiet_step (fail)
    quiet_step (exact cM _ _)
    quiet_step (fail)
    refine wpQuiet_nil ?_
    intro w2 hw2
    have hb2 : Below W.heap.size W w2 := by
      obtain ⟨p, rfl⟩ := hw2
      exact below_regrown _ _ _
    have Q2 := CQ.below hb2
    have Z2 := CZ.below hb2
    have E2 := belowStep E1 E1.size hb2
    clear hw2 hb2 k0 k1 k2 k3 l0 l1 l2 l3 cN cM CA CB CZ CQ E1
    obtain ⟨⟨qz, qc0, qc1, qc2, qc3⟩, qf⟩ := id Q2
    obtain ⟨⟨zz, zc0, zc1, zc2, zc3⟩, zf⟩ := id Z2
    cases u with
    | true =>
      cases v with
      | true =>
        go_wp2
        refine bodyPost_ret (v := .agg #[.int .u64 q0, .int .u64 q1, .int .u64 q2, .int .u64 q3]) (by simp [results, Try.results23, go_sem, *]) rfl ⟨q0, q1, q2, q3, rfl, hQ, ?_, ?_⟩
        · show _ = _
          rw [VF.out]; rfl
        · go_grown
      | false =>
        go_wp2_with fail
        refine (rsub_any 0 0 0 0 q0 q1 q2 q3 ho hQ _).mono ?_
        rintro e w3 ⟨s0, s1, s2, s3, rfl, hs, hsv, hb3⟩
        have Z3 := Z2.below hb3
        have E3 := belowStep E2 E2.size hb3
        clear hb3 qz qc0 qc1 qc2 qc3 qf zz zc0 zc1 zc2 zc3 zf
        obtain ⟨⟨zz, zc0, zc1, zc2, zc3⟩, zf⟩ := id Z3
        go_wp2
        refine bodyPost_ret (v := .agg #[.int .u64 s0, .int .u64 s1, .int .u64 s2, .int .u64 s3]) (by simp [results, Try.results23, go_sem, *]) rfl ⟨s0, s1, s2, s3, rfl, hs, ?_, ?_⟩
        · show _ = _
          rw [hsv.out, VF.out]; rfl
        · go_grown
    | false =>
      cases v with
      | true =>
        go_wp2_with fail
        refine (rsub_any 0 0 0 0 q0 q1 q2 q3 ho hQ _).mono ?_
        rintro e w3 ⟨s0, s1, s2, s3, rfl, hs, hsv, hb3⟩
        have Z3 := Z2.below hb3
        have E3 := belowStep E2 E2.size hb3
        clear hb3 qz qc0 qc1 qc2 qc3 qf zz zc0 zc1 zc2 zc3 zf
        obtain ⟨⟨zz, zc0, zc1, zc2, zc3⟩, zf⟩ := id Z3
        go_wp2
        refine bodyPost_ret (v := .agg #[.int .u64 s0, .int .u64 s1, .int .u64 s2, .int .u64 s3]) (by simp [results, Try.results23, go_sem, *]) rfl ⟨s0, s1, s2, s3, rfl, hs, ?_, ?_⟩
        · show _ = _
          rw [hsv.out, VF.out]; rfl
        · go_grown
      | false =>
        go_wp2
        refine bodyPost_ret (v := .agg #[.int .u64 q0, .int .u64 q1, .int .u64 q2, .int .u64 q3]) (by simp [results, Try.results23, go_sem, *]) rfl ⟨q0, q1, q2, q3, rfl, hQ, ?_, ?_⟩
        · show _ = _
          rw [VF.out]; rfl
        · go_grown

set_option maxRecDepth 20000 in
set_option maxHeartbeats 4000000 in
theorem rsmod_any (a0 a1 a2 a3 b0 b1 b2 b3 : Int) (ha : Ws a0 a1 a2 a3) (hb : Ws b0 b1 b2 b3) (w : World) :
    Calls Try.prog 25 #[.agg #[.int .u64 a0, .int .u64 a1, .int .u64 a2, .int .u64 a3], .agg #[.int .u64 b0, .int .u64 b1, .int .u64 b2, .int .u64 b3]] w fun e w' =>
      ∃ s0 s1 s2 s3 : Int, e = .returned (.agg #[.int .u64 s0, .int .u64 s1, .int .u64 s2, .int .u64 s3]) ∧ Ws s0 s1 s2 s3 ∧ Hid (val s0 s1 s2 s3 = sgn (neg a3) (rm (sgn (neg a3) (val a0 a1 a2 a3)) (sgn (neg b3) (val b0 b1 b2 b3)))) ∧ Below w.heap.size w w' := by
  have ho : Ws 0 0 0 0 := ⟨⟨by decide, by decide⟩, ⟨by decide, by decide⟩, ⟨by decide, by decide⟩, ⟨by decide, by decide⟩⟩
  have bA := val_bd _ _ _ _ ha
  have bB := val_bd _ _ _ _ hb
  obtain ⟨u, hu⟩ : ∃ u, neg a3 = u := ⟨_, rfl⟩
  obtain ⟨v, hv⟩ : ∃ v, neg b3 = v := ⟨_, rfl⟩
  obtain ⟨c0, c1, c2, c3, hC, vC, cC⟩ := exact4 (sgn_in _ _ bA) (rsize_any a0 a1 a2 a3 ha)
  obtain ⟨d0, d1, d2, d3, hD, vD, cD⟩ := exact4 (sgn_in _ _ bB) (rsize_any b0 b1 b2 b3 hb)
  obtain ⟨q0, q1, q2, q3, hQ, vQ, cQ⟩ := exact4 (rm_bd _ _ (val_bd _ _ _ _ hD)) (rmod_any c0 c1 c2 c3 d0 d1 d2 d3 hC hD)
  have cn := rnegative_any a0 a1 a2 a3 ha
  have cm := rnegative_any b0 b1 b2 b3 hb
  rw [hu] at cn vC ⊢
  rw [hv] at cm vD ⊢
  have vF := vQ.out
  rw [vC.out, vD.out] at vF
  have VF : Hid (_ = _) := vF
  have KC : Hid (∀ w : World, _) := cC
  have KD : Hid (∀ w : World, _) := cD
  have KQ : Hid (∀ w : World, _) := cQ
  have KN : Hid (∀ w : World, _) := cn
  have KM : Hid (∀ w : World, _) := cm
  clear cC cD cQ cn cm vF vQ vC vD hu hv bA bB
  go_enter Try.func25, Try.ntmps25
  go_wp2
  refine region_inv (fun S a W => ∃ x5 x6 x7 x8 x9 x10 : Value, a = { tmps := #[.agg #[.int .u64 a0, .int .u64 a1, .int .u64 a2, .int .u64 a3], .agg #[.int .u64 b0, .int .u64 b1, .int .u64 b2, .int .u64 b3], .pointer (some ⟨w.heap.size, 0, none⟩), .pointer (some ⟨w.heap.size + 1, 0, none⟩), .pointer (some ⟨w.heap.size + 1 + 1, 0, none⟩), x5, x6, x7, x8, x9, x10, undef, undef, undef, undef, undef, undef], defers := [] } ∧ SJ w a0 a1 a2 a3 b0 b1 b2 b3 c0 c1 c2 c3 d0 d1 d2 d3 q0 q1 q2 q3 S x5 x6 x7 x8 x9 x10 W) (by kernel_rfl) (by kernel_rfl) ?_ ?_ ?_
  · refine ⟨undef, undef, undef, undef, undef, undef, rfl, ⟨by go_grown, ?_, nofun, nofun, nofun, nofun, nofun, nofun, nofun⟩⟩
    exact ⟨by simp, by simp [go_sem], by simp [go_sem], by simp [go_sem], by simp [go_sem], by simp [go_sem], by simp [go_sem], by simp [go_sem], by simp [go_sem], by simp [go_sem], by simp [go_sem], by simp [go_sem], by simp [go_sem], fun o => by simp [go_sem]⟩
  · intro i o S a W hi hun hJ hall K hK
    obtain ⟨x5, x6, x7, x8, x9, x10, rfl, h⟩ := hJ
    have hlt : i < 7 := (List.getElem?_eq_some_iff.1 hi).1
    obtain ⟨zz, c0, c1, c2, c3, d0, d1, d2, d3, y0, y1, y2, y3, yf⟩ := id h.m
    have hcase : i = 0 ∨ i = 1 ∨ i = 2 ∨ i = 3 ∨ i = 4 ∨ i = 5 ∨ i = 6 := by omega
    rcases hcase with rfl | rfl | rfl | rfl | rfl | rfl | rfl
    all_goals (have ho := (Option.some.inj hi).symm; subst ho; clear hi hlt)
    · go_simp
      exact hK _ _ ⟨x5, _, x7, x8, x9, x10, rfl, ⟨h.e, h.m, fun _ => rfl, h.f1, h.f2, h.f3, h.f4, h.o5, h.f5⟩⟩
    · have s0 : S 0 = true := hall ⟨0, .data⟩ (by simp) rfl
      obtain rfl := h.f0 s0
      go_simp
      refine (KC.out _).mono ?_
      rintro e w1 ⟨rfl, hb1⟩
      have h1 := h.grow hb1
      exact hK _ _ ⟨x5, _, _, x8, x9, x10, rfl, ⟨h1.e, h1.m, h1.f0, fun _ => rfl, h1.f2, h1.f3, h1.f4, h1.o5, h1.f5⟩⟩
    · go_simp
      exact hK _ _ ⟨x5, x6, x7, _, x9, x10, rfl, ⟨h.e, h.m, h.f0, h.f1, fun _ => rfl, h.f3, h.f4, h.o5, h.f5⟩⟩
    · have s2 : S 2 = true := hall ⟨2, .data⟩ (by simp) rfl
      obtain rfl := h.f2 s2
      go_simp
      refine (KD.out _).mono ?_
      rintro e w1 ⟨rfl, hb1⟩
      have h1 := h.grow hb1
      exact hK _ _ ⟨x5, x6, x7, _, _, x10, rfl, ⟨h1.e, h1.m, h1.f0, h1.f1, h1.f2, fun _ => rfl, h1.f4, h1.o5, h1.f5⟩⟩
    · have s1 : S 1 = true := hall ⟨1, .data⟩ (by simp) rfl
      obtain rfl := h.f1 s1
      have s3 : S 3 = true := hall ⟨3, .data⟩ (by simp) rfl
      obtain rfl := h.f3 s3
      go_simp
      refine (KQ.out _).mono ?_
      rintro e w1 ⟨rfl, hb1⟩
      have h1 := h.grow hb1
      exact hK _ _ ⟨x5, x6, _, x8, _, _, rfl, ⟨h1.e, h1.m, h1.f0, h1.f1, h1.f2, h1.f3, fun _ => rfl, h1.o5, h1.f5⟩⟩
    · go_simp
      have h1 := h.grow ((Below.refl _ W).alloc (Nat.le_refl _) (.cells #[.int .u64 0, .int .u64 0, .int .u64 0, .int .u64 0] 24))
      exact hK _ _ ⟨_, x6, x7, x8, x9, x10, rfl, ⟨h1.e, h1.m, h1.f0, h1.f1, h1.f2, h1.f3, h1.f4, fun _ => rfl, fun _ => ⟨W.heap.size, rfl, by omega, by simp, fun _ => Rw.new _ _ _ _ _ _, fun h9 => absurd (h.o5 h9) (by rw [hun]; decide)⟩⟩⟩
    · have s5 : S 5 = true := hall ⟨5, .data⟩ (by simp) rfl
      have s4 : S 4 = true := hall ⟨4, .data⟩ (by simp) rfl
      obtain ⟨g5, e5, hg5, hz5, r5, t5⟩ := h.f5 s5
      obtain rfl := h.f4 s4
      subst e5
      obtain ⟨⟨v0, v1, v2, v3, v4⟩, vf⟩ := id (r5 hun)
      go_simp
      exact hK _ _ ⟨_, x6, x7, x8, x9, _, rfl, ⟨below_put4 (g := g5) h.e (by omega) q0 q1 q2 q3, SD.put4 h.m hg5 q0 q1 q2 q3, h.f0, h.f1, h.f2, h.f3, h.f4, fun _ => s5, fun _ => ⟨g5, rfl, hg5, by simpa [go_sem] using hz5, fun h9 => absurd h9 (by simp [more]), fun _ => (r5 hun).over q0 q1 q2 q3⟩⟩⟩
  · intro S a W hS hJ
    obtain ⟨x5, x6, x7, x8, x9, x10, rfl, h⟩ := hJ
    obtain ⟨g, e5, hg, hz, r5, r6⟩ := h.f5 (hS 5 (by decide))
    subst e5
    have CQ := r6 (hS 6 (by decide))
    obtain ⟨CA, CB, CZ⟩ := h.m.rw
    have E1 := h.e
    clear r5 r6 h
    refine thenOf (fun W' => Below w.heap.size w W' ∧ Cw w.heap.size a0 a1 a2 a3 W' ∧ Cw (w.heap.size + 1) b0 b1 b2 b3 W' ∧ Rw (w.heap.size + 1 + 1) 0 0 0 0 W' ∧ Rw g q0 q1 q2 q3 W') ⟨E1, CA, CB, CZ, CQ⟩ ?_
    clear E1 CA CB CZ CQ hz W
    rintro W ⟨E1, CA, CB, CZ, CQ⟩
    obtain ⟨za, ca0, ca1, ca2, ca3⟩ := id CA
    go_wp2_with fail
    refine (KN.out _).mono ?_
    rintro e w2 ⟨rfl, hb2⟩
    have Q2 := CQ.below hb2
    have Z2 := CZ.below hb2
    have E2 := belowStep E1 E1.size hb2
    clear hb2 CA CB CZ CQ E1 za ca0 ca1 ca2 ca3
    obtain ⟨⟨qz, qc0, qc1, qc2, qc3⟩, qf⟩ := id Q2
    obtain ⟨⟨zz, zc0, zc1, zc2, zc3⟩, zf⟩ := id Z2
    cases u with
    | true =>
      go_wp2_with fail
      refine (rsub_any 0 0 0 0 q0 q1 q2 q3 ho hQ _).mono ?_
      rintro e w3 ⟨s0, s1, s2, s3, rfl, hs, hsv, hb3⟩
      have Z3 := Z2.below hb3
      have E3 := belowStep E2 E2.size hb3
      clear hb3 qz qc0 qc1 qc2 qc3 qf zz zc0 zc1 zc2 zc3 zf
      obtain ⟨⟨zz, zc0, zc1, zc2, zc3⟩, zf⟩ := id Z3
      go_wp2
      refine bodyPost_ret (v := .agg #[.int .u64 s0, .int .u64 s1, .int .u64 s2, .int .u64 s3]) (by simp [results, Try.results25, go_sem, *]) rfl ⟨s0, s1, s2, s3, rfl, hs, ?_, ?_⟩
      · show _ = _
        rw [hsv.out, VF.out]; rfl
      · go_grown
    | false =>
      go_wp2
      refine bodyPost_ret (v := .agg #[.int .u64 q0, .int .u64 q1, .int .u64 q2, .int .u64 q3]) (by simp [results, Try.results25, go_sem, *]) rfl ⟨q0, q1, q2, q3, rfl, hQ, ?_, ?_⟩
      · show _ = _
        rw [VF.out]; rfl
      · go_grown

end Go.Proofs.Ytgapcjdgakamoaa
