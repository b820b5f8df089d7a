/- What the reference's Div and Mod do at this translation: for all words, whatever the memory. -/
import Derived.Test.YtgapcjdgakamoaaV9
import Derived.Test.YtgapcjdgakamoaaW13
namespace Go.Proofs.Ytgapcjdgakamoaa
open Go.RowKit Go.Shelf Go.Sort

/-- The number of a word's bits, the highest first. -/
theorem num_high (x : Int) (hx : 0 ≤ x ∧ x < 115792089237316195423570985008687907853269984665640564039457584007913129639936) : ∀ k, k ≤ 256 → num (fun j => bitAt x (255 - j)) k = x / 2 ^ (256 - k)
  | 0, _ => by
    show (0 : Int) = x / 2 ^ 256
    rw [show ((2 : Int) ^ 256) = 115792089237316195423570985008687907853269984665640564039457584007913129639936 from rfl]; omega
  | k + 1, h => by
    simp only [num]
    rw [num_high x hx k (by omega), show 256 - k = 255 - k + 1 by omega, show 256 - (k + 1) = 255 - k by omega, half_step x (255 - k)]

/-- What holds while a division's statement runs: what has come up, and what lies where. -/
structure DJ (w : World) (a0 a1 a2 a3 b0 b1 b2 b3 q0 q1 q2 q3 r0 r1 r2 r3 : Int) (y : Nat → Bool) (S : Nat → Bool) (x5 x6 x11 x12 x13 x14 x15 x16 x17 : Value) (W : World) : Prop where
  e : Below w.heap.size w W
  m : SD w.heap.size a0 a1 a2 a3 b0 b1 b2 b3 W
  f0 : S 0 = true → x12 = .agg #[.int .u64 a0, .int .u64 a1, .int .u64 a2, .int .u64 a3]
  f1 : S 1 = true → S 3 = false → ∃ g cap, x13 = .slice (some ⟨g, 0, none⟩) 256 cap ∧ g < W.heap.size ∧ ∀ j, j < 256 → W.cell? ⟨g, j, none⟩ = some (.bool (y j))
  f2 : S 2 = true → x14 = .agg #[.int .u64 b0, .int .u64 b1, .int .u64 b2, .int .u64 b3]
  f3 : S 3 = true → x15 = .tuple #[.agg #[.int .u64 q0, .int .u64 q1, .int .u64 q2, .int .u64 q3], .agg #[.int .u64 r0, .int .u64 r1, .int .u64 r2, .int .u64 r3]]
  f4 : S 4 = true → x11 = .tuple #[.agg #[.int .u64 q0, .int .u64 q1, .int .u64 q2, .int .u64 q3], .agg #[.int .u64 r0, .int .u64 r1, .int .u64 r2, .int .u64 r3]]
  f5 : S 5 = true → x16 = .agg #[.int .u64 q0, .int .u64 q1, .int .u64 q2, .int .u64 q3]
  f6 : S 6 = true → x17 = .agg #[.int .u64 r0, .int .u64 r1, .int .u64 r2, .int .u64 r3]
  o9 : S 9 = true → S 7 = true
  o10 : S 10 = true → S 8 = true
  f7 : S 7 = true → ∃ g, x5 = .pointer (some ⟨g, 0, none⟩) ∧ w.heap.size + 3 ≤ g ∧ g < W.heap.size ∧ (S 9 = false → Rw g 0 0 0 0 W) ∧ (S 9 = true → Rw g q0 q1 q2 q3 W)
  f8 : S 8 = true → ∃ g, x6 = .pointer (some ⟨g, 0, none⟩) ∧ w.heap.size + 3 ≤ g ∧ g < W.heap.size ∧ (S 10 = false → Rw g 0 0 0 0 W) ∧ (S 10 = true → Rw g r0 r1 r2 r3 W)
  d : S 7 = true → S 8 = true → ∀ g h, x5 = .pointer (some ⟨g, 0, none⟩) → x6 = .pointer (some ⟨h, 0, none⟩) → g ≠ h

section
variable {w : World} {a0 a1 a2 a3 b0 b1 b2 b3 q0 q1 q2 q3 r0 r1 r2 r3 : Int} {y S : Nat → Bool} {x5 x6 x11 x12 x13 x14 x15 x16 x17 : Value} {W W' : World}
theorem DJ.below (h : DJ w a0 a1 a2 a3 b0 b1 b2 b3 q0 q1 q2 q3 r0 r1 r2 r3 y S x5 x6 x11 x12 x13 x14 x15 x16 x17 W) (hb : Below W.heap.size W W') : DJ w a0 a1 a2 a3 b0 b1 b2 b3 q0 q1 q2 q3 r0 r1 r2 r3 y S x5 x6 x11 x12 x13 x14 x15 x16 x17 W' :=
  ⟨belowStep h.e h.e.size hb, h.m.below hb, h.f0, fun h1 h3 => (h.f1 h1 h3).imp fun _ ⟨c, k1, k2, k3⟩ => ⟨c, k1, Nat.lt_of_lt_of_le k2 hb.size, fun j hj => (hb.cell (p := ⟨_, j, none⟩) k2).trans (k3 j hj)⟩,
   h.f2, h.f3, h.f4, h.f5, h.f6, h.o9, h.o10, fun h7 => (h.f7 h7).imp fun _ ⟨k1, k2, k0, k3, k4⟩ => ⟨k1, k2, Nat.lt_of_lt_of_le k0 hb.size, fun s => (k3 s).below hb, fun s => (k4 s).below hb⟩,
   fun h8 => (h.f8 h8).imp fun _ ⟨k1, k2, k0, k3, k4⟩ => ⟨k1, k2, Nat.lt_of_lt_of_le k0 hb.size, fun s => (k3 s).below hb, fun s => (k4 s).below hb⟩, h.d⟩
theorem SD.put4 {n g : Nat} (h : SD n a0 a1 a2 a3 b0 b1 b2 b3 W) (hg : n + 3 ≤ g) (x0 x1 x2 x3 : Int) : SD n a0 a1 a2 a3 b0 b1 b2 b3 (put4 g x0 x1 x2 x3 W) :=
  (((h.setCell ⟨g, 0, none⟩ hg _).setCell ⟨g, 1, none⟩ hg _).setCell ⟨g, 2, none⟩ hg _).setCell ⟨g, 3, none⟩ hg _
end
theorem owns_cells {w : World} {n : Nat} {e : TypeId} {v : Value} {N : Nat} {f : Nat → Bool} (h : w.ownsRow n e 1 v N (bl N f)) (hN : 0 < N) :
    ∃ g cap, v = .slice (some ⟨g, 0, none⟩) N cap ∧ n ≤ g ∧ g < w.heap.size ∧ ∀ j, j < N → w.cell? ⟨g, j, none⟩ = some (.bool (f j)) := by
  obtain ⟨g, cap, rfl, h1, h2⟩ := h.form hN
  refine ⟨g, cap, rfl, h1, h2, fun j hj => ?_⟩
  have := h.cells (g := g) rfl j (.bool (f j)) (fl_at N _ j hj)
  rwa [Addr.add_mid, Nat.zero_add] at this

set_option maxRecDepth 20000 in
set_option maxHeartbeats 4000000 in
theorem rdiv_nz (a0 a1 a2 a3 b0 b1 b2 b3 : Int) (ha : Ws a0 a1 a2 a3) (hb : Ws b0 b1 b2 b3) (hne : val b0 b1 b2 b3 ≠ 0) (w : World) :
    Calls Try.prog 19 #[.agg #[.int .u64 a0, .int .u64 a1, .int .u64 a2, .int .u64 a3], .agg #[.int .u64 b0, .int .u64 b1, .int .u64 b2, .int .u64 b3]] w fun e w' =>
      ∃ s0 s1 s2 s3 : Int, e = .returned (.agg #[.int .u64 s0, .int .u64 s1, .int .u64 s2, .int .u64 s3]) ∧ Ws s0 s1 s2 s3 ∧ Hid (val s0 s1 s2 s3 = qt (val a0 a1 a2 a3) (val b0 b1 b2 b3)) ∧ Below w.heap.size w w' := by
  have ho : Pt 0 := ⟨by decide, by decide⟩
  have bA := val_bd _ _ _ _ ha
  have bB := val_bd _ _ _ _ hb
  have e0 := eq_word_no b0 b1 b2 b3 0 0 0 0 hb ⟨ho, ho, ho, ho⟩ hne
  have hnum : num (fun j => bitAt (val a0 a1 a2 a3) (255 - j)) 256 = val a0 a1 a2 a3 := by
    rw [num_high _ bA 256 (Nat.le_refl _)]; simp
  obtain ⟨q0, q1, q2, q3, hq, vq⟩ := parts_of (val a0 a1 a2 a3 / val b0 b1 b2 b3 % 115792089237316195423570985008687907853269984665640564039457584007913129639936) (by omega)
  obtain ⟨r0, r1, r2, r3, hr, vr⟩ := parts_of (val a0 a1 a2 a3 % val b0 b1 b2 b3) ⟨Int.emod_nonneg _ hne, Int.lt_trans (Int.emod_lt_of_pos _ (by omega)) bB.2⟩
  have HN : Hid (_ ∧ _ ∧ _) := ⟨hnum, vq, vr⟩
  have BB : Hid (_ ∧ _) := ⟨bA, bB⟩
  clear hnum vq vr bA bB
  go_enter Try.func19, Try.ntmps19
  go_wp2
  refine region_inv (fun S a W => ∃ x5 x6 x11 x12 x13 x14 x15 x16 x17 : Value, a = { tmps := #[.agg #[.int .u64 a0, .int .u64 a1, .int .u64 a2, .int .u64 a3], .agg #[.int .u64 b0, .int .u64 b1, .int .u64 b2, .int .u64 b3], .pointer (some ⟨w.heap.size, 0, none⟩), .pointer (some ⟨w.heap.size + 1, 0, none⟩), .pointer (some ⟨w.heap.size + 1 + 1, 0, none⟩), x5, x6, .agg #[.int .u64 b0, .int .u64 b1, .int .u64 b2, .int .u64 b3], .agg #[.int .u64 0, .int .u64 0, .int .u64 0, .int .u64 0], .bool false, undef, x11, x12, x13, x14, x15, x16, x17, undef], defers := [] } ∧ DJ w a0 a1 a2 a3 b0 b1 b2 b3 q0 q1 q2 q3 r0 r1 r2 r3 (fun j => bitAt (val a0 a1 a2 a3) (255 - j)) S x5 x6 x11 x12 x13 x14 x15 x16 x17 W) (by kernel_rfl) (by kernel_rfl) ?_ ?_ ?_
  · refine ⟨undef, undef, undef, undef, undef, undef, undef, undef, undef, rfl, ⟨by go_grown, ?_, nofun, nofun, nofun, nofun, nofun, nofun, nofun, nofun, nofun, nofun, nofun, nofun⟩⟩
    exact ⟨by simp, by simp [go_sem], by simp [go_sem], by simp [go_sem], by simp [go_sem], by simp [go_sem], by simp [go_sem], by simp [go_sem], by simp [go_sem], by simp [go_sem], by simp [go_sem], by simp [go_sem], by simp [go_sem], fun o => by simp [go_sem]⟩
  · intro i o S a W hi hun hJ hall K hK
    obtain ⟨x5, x6, x11, x12, x13, x14, x15, x16, x17, rfl, h⟩ := hJ
    have hlt : i < 11 := (List.getElem?_eq_some_iff.1 hi).1
    obtain ⟨zz, c0, c1, c2, c3, d0, d1, d2, d3, y0, y1, y2, y3, yf⟩ := id h.m
    have hcase : i = 0 ∨ i = 1 ∨ i = 2 ∨ i = 3 ∨ i = 4 ∨ i = 5 ∨ i = 6 ∨ i = 7 ∨ i = 8 ∨ i = 9 ∨ i = 10 := by omega
    rcases hcase with rfl | rfl | rfl | rfl | rfl | rfl | rfl | rfl | rfl | rfl | rfl
    all_goals (have ho := (Option.some.inj hi).symm; subst ho; clear hi hlt)
    · go_simp
      exact hK _ _ ⟨x5, x6, x11, _, x13, x14, x15, x16, x17, rfl, ⟨h.e, h.m, fun _ => rfl, h.f1, h.f2, h.f3, h.f4, h.f5, h.f6, h.o9, h.o10, h.f7, h.f8, h.d⟩⟩
    · have s0 : S 0 = true := hall ⟨0, .data⟩ (by simp) rfl
      obtain rfl := h.f0 s0
      go_simp
      refine (rhigh_any a0 a1 a2 a3 ha _).mono ?_
      rintro e w1 ⟨v, rfl, hown, hb1⟩
      obtain ⟨g, cap, rfl, _, hg, hc⟩ := owns_cells hown (by decide)
      have h1 := h.below hb1
      exact hK _ _ ⟨x5, x6, x11, _, _, x14, x15, x16, x17, rfl, ⟨h1.e, h1.m, h1.f0, fun _ _ => ⟨g, cap, rfl, hg, hc⟩, h1.f2, h1.f3, h1.f4, h1.f5, h1.f6, h1.o9, h1.o10, h1.f7, h1.f8, h1.d⟩⟩
    · go_simp
      exact hK _ _ ⟨x5, x6, x11, x12, x13, _, x15, x16, x17, rfl, ⟨h.e, h.m, h.f0, h.f1, fun _ => rfl, h.f3, h.f4, h.f5, h.f6, h.o9, h.o10, h.f7, h.f8, h.d⟩⟩
    · have s1 : S 1 = true := hall ⟨1, .data⟩ (by simp) rfl
      have s2 : S 2 = true := hall ⟨2, .data⟩ (by simp) rfl
      obtain ⟨g, cap, rfl, hg, hc⟩ := h.f1 s1 hun
      obtain rfl := h.f2 s2
      go_simp
      refine (rdivided_any g 256 cap _ b0 b1 b2 b3 hb hne (by decide) _ hg hc).mono ?_
      rintro e w1 ⟨t0, t1, t2, t3, u0, u1, u2, u3, rfl, ht, hu, hv, hb1⟩
      obtain ⟨rfl, rfl, rfl, rfl⟩ := val_inj _ _ _ _ _ _ _ _ ht hq (by rw [hv.out.1, HN.out.1, HN.out.2.1])
      obtain ⟨rfl, rfl, rfl, rfl⟩ := val_inj _ _ _ _ _ _ _ _ hu hr (by rw [hv.out.2, HN.out.1, HN.out.2.2])
      have h1 := h.below hb1
      exact hK _ _ ⟨x5, x6, x11, x12, _, _, _, x16, x17, rfl, ⟨h1.e, h1.m, h1.f0, fun _ h3 => absurd h3 (by simp [more]), h1.f2, fun _ => rfl, h1.f4, h1.f5, h1.f6, h1.o9, h1.o10, h1.f7, h1.f8, h1.d⟩⟩
    · have s3 : S 3 = true := hall ⟨3, .data⟩ (by simp) rfl
      obtain rfl := h.f3 s3
      go_simp
      exact hK _ _ ⟨x5, x6, _, x12, x13, x14, _, x16, x17, rfl, ⟨h.e, h.m, h.f0, h.f1, h.f2, h.f3, fun _ => rfl, h.f5, h.f6, h.o9, h.o10, h.f7, h.f8, h.d⟩⟩
    · have s4 : S 4 = true := hall ⟨4, .data⟩ (by simp) rfl
      obtain rfl := h.f4 s4
      go_simp
      exact hK _ _ ⟨x5, x6, _, x12, x13, x14, x15, _, x17, rfl, ⟨h.e, h.m, h.f0, h.f1, h.f2, h.f3, h.f4, fun _ => rfl, h.f6, h.o9, h.o10, h.f7, h.f8, h.d⟩⟩
    · have s4 : S 4 = true := hall ⟨4, .data⟩ (by simp) rfl
      obtain rfl := h.f4 s4
      go_simp
      exact hK _ _ ⟨x5, x6, _, x12, x13, x14, x15, x16, _, rfl, ⟨h.e, h.m, h.f0, h.f1, h.f2, h.f3, h.f4, h.f5, fun _ => rfl, h.o9, h.o10, h.f7, h.f8, h.d⟩⟩
    · go_simp
      have h1 := h.below ((Below.refl _ W).alloc (Nat.le_refl _) (.cells #[.int .u64 0, .int .u64 0, .int .u64 0, .int .u64 0] 24))
      refine hK _ _ ⟨_, x6, x11, x12, x13, x14, x15, x16, x17, rfl, ⟨h1.e, h1.m, h1.f0, h1.f1, h1.f2, h1.f3, h1.f4, h1.f5, h1.f6, fun _ => rfl, h1.o10, fun _ => ⟨W.heap.size, rfl, by omega, by simp, fun _ => Rw.new _ _ _ _ _ _, fun h9 => absurd (h.o9 h9) (by rw [hun]; decide)⟩, h1.f8, ?_⟩⟩
      intro _ s8 g k e5 e6
      obtain ⟨k2, e7, _, k3, _⟩ := h.f8 s8
      rw [e7] at e6
      cases e5; cases e6
      omega
    · go_simp
      have h1 := h.below ((Below.refl _ W).alloc (Nat.le_refl _) (.cells #[.int .u64 0, .int .u64 0, .int .u64 0, .int .u64 0] 24))
      refine hK _ _ ⟨x5, _, x11, x12, x13, x14, x15, x16, x17, rfl, ⟨h1.e, h1.m, h1.f0, h1.f1, h1.f2, h1.f3, h1.f4, h1.f5, h1.f6, h1.o9, fun _ => rfl, h1.f7, fun _ => ⟨W.heap.size, rfl, by omega, by simp, fun _ => Rw.new _ _ _ _ _ _, fun h9 => absurd (h.o10 h9) (by rw [hun]; decide)⟩, ?_⟩⟩
      intro s7 _ g k e5 e6
      obtain ⟨k2, e7, _, k3, _⟩ := h.f7 s7
      rw [e7] at e5
      cases e5; cases e6
      omega
    · have s3 : S 3 = true := hall ⟨3, .chain⟩ (by simp) rfl
      have s7 : S 7 = true := hall ⟨7, .data⟩ (by simp) rfl
      have s8 : S 8 = true := hall ⟨8, .phase⟩ (by simp) rfl
      have sv : S 5 = true := hall ⟨5, .data⟩ (by simp) rfl
      obtain ⟨g, e5, hg, hz, r5, r6⟩ := h.f7 s7
      obtain ⟨k, e6, kg, kz, t5, t6⟩ := h.f8 s8
      have hd := h.d s7 s8 g k e5 e6
      obtain rfl := h.f5 sv
      subst e5
      subst e6
      obtain ⟨⟨v0, v1, v2, v3, v4⟩, vf⟩ := id (r5 hun)
      go_simp
      exact hK _ _ ⟨_, _, x11, x12, x13, x14, x15, _, x17, rfl, ⟨below_put4 (g := g) h.e (by omega) q0 q1 q2 q3, SD.put4 h.m hg q0 q1 q2 q3, h.f0, fun _ h3 => absurd (show S 3 = false from h3) (by rw [s3]; decide), h.f2, h.f3, h.f4, h.f5, h.f6, fun _ => s7, h.o10, fun _ => ⟨g, rfl, hg, by simpa [go_sem] using hz, fun h9 => absurd h9 (by simp [more]), fun _ => (r5 hun).over q0 q1 q2 q3⟩, fun _ => ⟨k, rfl, kg, by simpa [go_sem] using kz, fun s => (t5 s).other q0 q1 q2 q3 hd, fun s => (t6 s).other q0 q1 q2 q3 hd⟩, fun _ _ _ _ e1 e2 => by cases e1; cases e2; exact hd⟩⟩
    · have s3 : S 3 = true := hall ⟨3, .phase⟩ (by simp) rfl
      have s7 : S 7 = true := hall ⟨7, .phase⟩ (by simp) rfl
      have s8 : S 8 = true := hall ⟨8, .data⟩ (by simp) rfl
      have sv : S 6 = true := hall ⟨6, .data⟩ (by simp) rfl
      obtain ⟨g, e5, hg, hz, r5, r6⟩ := h.f7 s7
      obtain ⟨k, e6, kg, kz, t5, t6⟩ := h.f8 s8
      have hd := h.d s7 s8 g k e5 e6
      obtain rfl := h.f6 sv
      subst e5
      subst e6
      obtain ⟨⟨v0, v1, v2, v3, v4⟩, vf⟩ := id (t5 hun)
      go_simp
      exact hK _ _ ⟨_, _, x11, x12, x13, x14, x15, x16, _, rfl, ⟨below_put4 (g := k) h.e (by omega) r0 r1 r2 r3, SD.put4 h.m kg r0 r1 r2 r3, h.f0, fun _ h3 => absurd (show S 3 = false from h3) (by rw [s3]; decide), h.f2, h.f3, h.f4, h.f5, h.f6, h.o9, fun _ => s8, fun _ => ⟨g, rfl, hg, by simpa [go_sem] using hz, fun s => (r5 s).other r0 r1 r2 r3 (fun e => hd e.symm), fun s => (r6 s).other r0 r1 r2 r3 (fun e => hd e.symm)⟩, fun _ => ⟨k, rfl, kg, by simpa [go_sem] using kz, fun h9 => absurd h9 (by simp [more]), fun _ => (t5 hun).over r0 r1 r2 r3⟩, fun _ _ _ _ e1 e2 => by cases e1; cases e2; exact hd⟩⟩
  · intro S a W hS hJ
    obtain ⟨x5, x6, x11, x12, x13, x14, x15, x16, x17, rfl, h⟩ := hJ
    obtain ⟨g, e5, hg, hz, _, r6⟩ := h.f7 (hS 7 (by decide))
    obtain ⟨k, e6, kg, kz, _, t6⟩ := h.f8 (hS 8 (by decide))
    subst e5
    subst e6
    obtain ⟨⟨v0, v1, v2, v3, v4⟩, vf⟩ := id (r6 (hS 9 (by decide)))
    obtain ⟨zz, c0, c1, c2, c3, d0, d1, d2, d3, y0, y1, y2, y3, yf⟩ := id h.m
    have hB := h.e
    refine thenOf (fun W' => W' = W) rfl ?_
    rintro _ rfl
    go_wp2
    refine bodyPost_ret (v := .agg #[.int .u64 q0, .int .u64 q1, .int .u64 q2, .int .u64 q3]) (by simp [results, Try.results19, go_sem, *]) rfl ⟨q0, q1, q2, q3, rfl, hq, ?_, ?_⟩
    · show _ = _
      rw [HN.out.2.1]; unfold qt; rw [if_neg hne]
      have := qt_bd _ _ BB.out.1.1 BB.out.1.2 BB.out.2.1
      unfold qt at this; rw [if_neg hne] at this; exact this
    · go_grown

set_option maxRecDepth 20000 in
set_option maxHeartbeats 4000000 in
theorem rmod_nz (a0 a1 a2 a3 b0 b1 b2 b3 : Int) (ha : Ws a0 a1 a2 a3) (hb : Ws b0 b1 b2 b3) (hne : val b0 b1 b2 b3 ≠ 0) (w : World) :
    Calls Try.prog 21 #[.agg #[.int .u64 a0, .int .u64 a1, .int .u64 a2, .int .u64 a3], .agg #[.int .u64 b0, .int .u64 b1, .int .u64 b2, .int .u64 b3]] w fun e w' =>
      ∃ s0 s1 s2 s3 : Int, e = .returned (.agg #[.int .u64 s0, .int .u64 s1, .int .u64 s2, .int .u64 s3]) ∧ Ws s0 s1 s2 s3 ∧ Hid (val s0 s1 s2 s3 = rm (val a0 a1 a2 a3) (val b0 b1 b2 b3)) ∧ Below w.heap.size w w' := by
  have ho : Pt 0 := ⟨by decide, by decide⟩
  have bA := val_bd _ _ _ _ ha
  have bB := val_bd _ _ _ _ hb
  have e0 := eq_word_no b0 b1 b2 b3 0 0 0 0 hb ⟨ho, ho, ho, ho⟩ hne
  have hnum : num (fun j => bitAt (val a0 a1 a2 a3) (255 - j)) 256 = val a0 a1 a2 a3 := by
    rw [num_high _ bA 256 (Nat.le_refl _)]; simp
  obtain ⟨q0, q1, q2, q3, hq, vq⟩ := parts_of (val a0 a1 a2 a3 / val b0 b1 b2 b3 % 115792089237316195423570985008687907853269984665640564039457584007913129639936) (by omega)
  obtain ⟨r0, r1, r2, r3, hr, vr⟩ := parts_of (val a0 a1 a2 a3 % val b0 b1 b2 b3) ⟨Int.emod_nonneg _ hne, Int.lt_trans (Int.emod_lt_of_pos _ (by omega)) bB.2⟩
  have HN : Hid (_ ∧ _ ∧ _) := ⟨hnum, vq, vr⟩
  have BB : Hid (_ ∧ _) := ⟨bA, bB⟩
  clear hnum vq vr bA bB
  go_enter Try.func21, Try.ntmps21
  go_wp2
  refine region_inv (fun S a W => ∃ x5 x6 x11 x12 x13 x14 x15 x16 x17 : Value, a = { tmps := #[.agg #[.int .u64 a0, .int .u64 a1, .int .u64 a2, .int .u64 a3], .agg #[.int .u64 b0, .int .u64 b1, .int .u64 b2, .int .u64 b3], .pointer (some ⟨w.heap.size, 0, none⟩), .pointer (some ⟨w.heap.size + 1, 0, none⟩), .pointer (some ⟨w.heap.size + 1 + 1, 0, none⟩), x5, x6, .agg #[.int .u64 b0, .int .u64 b1, .int .u64 b2, .int .u64 b3], .agg #[.int .u64 0, .int .u64 0, .int .u64 0, .int .u64 0], .bool false, undef, x11, x12, x13, x14, x15, x16, x17, undef], defers := [] } ∧ DJ w a0 a1 a2 a3 b0 b1 b2 b3 q0 q1 q2 q3 r0 r1 r2 r3 (fun j => bitAt (val a0 a1 a2 a3) (255 - j)) S x5 x6 x11 x12 x13 x14 x15 x16 x17 W) (by kernel_rfl) (by kernel_rfl) ?_ ?_ ?_
  · refine ⟨undef, undef, undef, undef, undef, undef, undef, undef, undef, rfl, ⟨by go_grown, ?_, nofun, nofun, nofun, nofun, nofun, nofun, nofun, nofun, nofun, nofun, nofun, nofun⟩⟩
    exact ⟨by simp, by simp [go_sem], by simp [go_sem], by simp [go_sem], by simp [go_sem], by simp [go_sem], by simp [go_sem], by simp [go_sem], by simp [go_sem], by simp [go_sem], by simp [go_sem], by simp [go_sem], by simp [go_sem], fun o => by simp [go_sem]⟩
  · intro i o S a W hi hun hJ hall K hK
    obtain ⟨x5, x6, x11, x12, x13, x14, x15, x16, x17, rfl, h⟩ := hJ
    have hlt : i < 11 := (List.getElem?_eq_some_iff.1 hi).1
    obtain ⟨zz, c0, c1, c2, c3, d0, d1, d2, d3, y0, y1, y2, y3, yf⟩ := id h.m
    have hcase : i = 0 ∨ i = 1 ∨ i = 2 ∨ i = 3 ∨ i = 4 ∨ i = 5 ∨ i = 6 ∨ i = 7 ∨ i = 8 ∨ i = 9 ∨ i = 10 := by omega
    rcases hcase with rfl | rfl | rfl | rfl | rfl | rfl | rfl | rfl | rfl | rfl | rfl
    all_goals (have ho := (Option.some.inj hi).symm; subst ho; clear hi hlt)
    · go_simp
      exact hK _ _ ⟨x5, x6, x11, _, x13, x14, x15, x16, x17, rfl, ⟨h.e, h.m, fun _ => rfl, h.f1, h.f2, h.f3, h.f4, h.f5, h.f6, h.o9, h.o10, h.f7, h.f8, h.d⟩⟩
    · have s0 : S 0 = true := hall ⟨0, .data⟩ (by simp) rfl
      obtain rfl := h.f0 s0
      go_simp
      refine (rhigh_any a0 a1 a2 a3 ha _).mono ?_
      rintro e w1 ⟨v, rfl, hown, hb1⟩
      obtain ⟨g, cap, rfl, _, hg, hc⟩ := owns_cells hown (by decide)
      have h1 := h.below hb1
      exact hK _ _ ⟨x5, x6, x11, _, _, x14, x15, x16, x17, rfl, ⟨h1.e, h1.m, h1.f0, fun _ _ => ⟨g, cap, rfl, hg, hc⟩, h1.f2, h1.f3, h1.f4, h1.f5, h1.f6, h1.o9, h1.o10, h1.f7, h1.f8, h1.d⟩⟩
    · go_simp
      exact hK _ _ ⟨x5, x6, x11, x12, x13, _, x15, x16, x17, rfl, ⟨h.e, h.m, h.f0, h.f1, fun _ => rfl, h.f3, h.f4, h.f5, h.f6, h.o9, h.o10, h.f7, h.f8, h.d⟩⟩
    · have s1 : S 1 = true := hall ⟨1, .data⟩ (by simp) rfl
      have s2 : S 2 = true := hall ⟨2, .data⟩ (by simp) rfl
      obtain ⟨g, cap, rfl, hg, hc⟩ := h.f1 s1 hun
      obtain rfl := h.f2 s2
      go_simp
      refine (rdivided_any g 256 cap _ b0 b1 b2 b3 hb hne (by decide) _ hg hc).mono ?_
      rintro e w1 ⟨t0, t1, t2, t3, u0, u1, u2, u3, rfl, ht, hu, hv, hb1⟩
      obtain ⟨rfl, rfl, rfl, rfl⟩ := val_inj _ _ _ _ _ _ _ _ ht hq (by rw [hv.out.1, HN.out.1, HN.out.2.1])
      obtain ⟨rfl, rfl, rfl, rfl⟩ := val_inj _ _ _ _ _ _ _ _ hu hr (by rw [hv.out.2, HN.out.1, HN.out.2.2])
      have h1 := h.below hb1
      exact hK _ _ ⟨x5, x6, x11, x12, _, _, _, x16, x17, rfl, ⟨h1.e, h1.m, h1.f0, fun _ h3 => absurd h3 (by simp [more]), h1.f2, fun _ => rfl, h1.f4, h1.f5, h1.f6, h1.o9, h1.o10, h1.f7, h1.f8, h1.d⟩⟩
    · have s3 : S 3 = true := hall ⟨3, .data⟩ (by simp) rfl
      obtain rfl := h.f3 s3
      go_simp
      exact hK _ _ ⟨x5, x6, _, x12, x13, x14, _, x16, x17, rfl, ⟨h.e, h.m, h.f0, h.f1, h.f2, h.f3, fun _ => rfl, h.f5, h.f6, h.o9, h.o10, h.f7, h.f8, h.d⟩⟩
    · have s4 : S 4 = true := hall ⟨4, .data⟩ (by simp) rfl
      obtain rfl := h.f4 s4
      go_simp
      exact hK _ _ ⟨x5, x6, _, x12, x13, x14, x15, _, x17, rfl, ⟨h.e, h.m, h.f0, h.f1, h.f2, h.f3, h.f4, fun _ => rfl, h.f6, h.o9, h.o10, h.f7, h.f8, h.d⟩⟩
    · have s4 : S 4 = true := hall ⟨4, .data⟩ (by simp) rfl
      obtain rfl := h.f4 s4
      go_simp
      exact hK _ _ ⟨x5, x6, _, x12, x13, x14, x15, x16, _, rfl, ⟨h.e, h.m, h.f0, h.f1, h.f2, h.f3, h.f4, h.f5, fun _ => rfl, h.o9, h.o10, h.f7, h.f8, h.d⟩⟩
    · go_simp
      have h1 := h.below ((Below.refl _ W).alloc (Nat.le_refl _) (.cells #[.int .u64 0, .int .u64 0, .int .u64 0, .int .u64 0] 24))
      refine hK _ _ ⟨_, x6, x11, x12, x13, x14, x15, x16, x17, rfl, ⟨h1.e, h1.m, h1.f0, h1.f1, h1.f2, h1.f3, h1.f4, h1.f5, h1.f6, fun _ => rfl, h1.o10, fun _ => ⟨W.heap.size, rfl, by omega, by simp, fun _ => Rw.new _ _ _ _ _ _, fun h9 => absurd (h.o9 h9) (by rw [hun]; decide)⟩, h1.f8, ?_⟩⟩
      intro _ s8 g k e5 e6
      obtain ⟨k2, e7, _, k3, _⟩ := h.f8 s8
      rw [e7] at e6
      cases e5; cases e6
      omega
    · go_simp
      have h1 := h.below ((Below.refl _ W).alloc (Nat.le_refl _) (.cells #[.int .u64 0, .int .u64 0, .int .u64 0, .int .u64 0] 24))
      refine hK _ _ ⟨x5, _, x11, x12, x13, x14, x15, x16, x17, rfl, ⟨h1.e, h1.m, h1.f0, h1.f1, h1.f2, h1.f3, h1.f4, h1.f5, h1.f6, h1.o9, fun _ => rfl, h1.f7, fun _ => ⟨W.heap.size, rfl, by omega, by simp, fun _ => Rw.new _ _ _ _ _ _, fun h9 => absurd (h.o10 h9) (by rw [hun]; decide)⟩, ?_⟩⟩
      intro s7 _ g k e5 e6
      obtain ⟨k2, e7, _, k3, _⟩ := h.f7 s7
      rw [e7] at e5
      cases e5; cases e6
      omega
    · have s3 : S 3 = true := hall ⟨3, .chain⟩ (by simp) rfl
      have s7 : S 7 = true := hall ⟨7, .data⟩ (by simp) rfl
      have s8 : S 8 = true := hall ⟨8, .phase⟩ (by simp) rfl
      have sv : S 5 = true := hall ⟨5, .data⟩ (by simp) rfl
      obtain ⟨g, e5, hg, hz, r5, r6⟩ := h.f7 s7
      obtain ⟨k, e6, kg, kz, t5, t6⟩ := h.f8 s8
      have hd := h.d s7 s8 g k e5 e6
      obtain rfl := h.f5 sv
      subst e5
      subst e6
      obtain ⟨⟨v0, v1, v2, v3, v4⟩, vf⟩ := id (r5 hun)
      go_simp
      exact hK _ _ ⟨_, _, x11, x12, x13, x14, x15, _, x17, rfl, ⟨below_put4 (g := g) h.e (by omega) q0 q1 q2 q3, SD.put4 h.m hg q0 q1 q2 q3, h.f0, fun _ h3 => absurd (show S 3 = false from h3) (by rw [s3]; decide), h.f2, h.f3, h.f4, h.f5, h.f6, fun _ => s7, h.o10, fun _ => ⟨g, rfl, hg, by simpa [go_sem] using hz, fun h9 => absurd h9 (by simp [more]), fun _ => (r5 hun).over q0 q1 q2 q3⟩, fun _ => ⟨k, rfl, kg, by simpa [go_sem] using kz, fun s => (t5 s).other q0 q1 q2 q3 hd, fun s => (t6 s).other q0 q1 q2 q3 hd⟩, fun _ _ _ _ e1 e2 => by cases e1; cases e2; exact hd⟩⟩
    · have s3 : S 3 = true := hall ⟨3, .phase⟩ (by simp) rfl
      have s7 : S 7 = true := hall ⟨7, .phase⟩ (by simp) rfl
      have s8 : S 8 = true := hall ⟨8, .data⟩ (by simp) rfl
      have sv : S 6 = true := hall ⟨6, .data⟩ (by simp) rfl
      obtain ⟨g, e5, hg, hz, r5, r6⟩ := h.f7 s7
      obtain ⟨k, e6, kg, kz, t5, t6⟩ := h.f8 s8
      have hd := h.d s7 s8 g k e5 e6
      obtain rfl := h.f6 sv
      subst e5
      subst e6
      obtain ⟨⟨v0, v1, v2, v3, v4⟩, vf⟩ := id (t5 hun)
      go_simp
      exact hK _ _ ⟨_, _, x11, x12, x13, x14, x15, x16, _, rfl, ⟨below_put4 (g := k) h.e (by omega) r0 r1 r2 r3, SD.put4 h.m kg r0 r1 r2 r3, h.f0, fun _ h3 => absurd (show S 3 = false from h3) (by rw [s3]; decide), h.f2, h.f3, h.f4, h.f5, h.f6, h.o9, fun _ => s8, fun _ => ⟨g, rfl, hg, by simpa [go_sem] using hz, fun s => (r5 s).other r0 r1 r2 r3 (fun e => hd e.symm), fun s => (r6 s).other r0 r1 r2 r3 (fun e => hd e.symm)⟩, fun _ => ⟨k, rfl, kg, by simpa [go_sem] using kz, fun h9 => absurd h9 (by simp [more]), fun _ => (t5 hun).over r0 r1 r2 r3⟩, fun _ _ _ _ e1 e2 => by cases e1; cases e2; exact hd⟩⟩
  · intro S a W hS hJ
    obtain ⟨x5, x6, x11, x12, x13, x14, x15, x16, x17, rfl, h⟩ := hJ
    obtain ⟨g, e5, hg, hz, _, r6⟩ := h.f7 (hS 7 (by decide))
    obtain ⟨k, e6, kg, kz, _, t6⟩ := h.f8 (hS 8 (by decide))
    subst e5
    subst e6
    obtain ⟨⟨v0, v1, v2, v3, v4⟩, vf⟩ := id (t6 (hS 10 (by decide)))
    obtain ⟨zz, c0, c1, c2, c3, d0, d1, d2, d3, y0, y1, y2, y3, yf⟩ := id h.m
    have hB := h.e
    refine thenOf (fun W' => W' = W) rfl ?_
    rintro _ rfl
    go_wp2
    refine bodyPost_ret (v := .agg #[.int .u64 r0, .int .u64 r1, .int .u64 r2, .int .u64 r3]) (by simp [results, Try.results21, go_sem, *]) rfl ⟨r0, r1, r2, r3, rfl, hr, ?_, ?_⟩
    · show _ = _
      rw [HN.out.2.2]; unfold rm; rw [if_neg hne]
    · go_grown

end Go.Proofs.Ytgapcjdgakamoaa
