/- What the reference's AddMod does at this translation: for all words, whatever the memory. -/
import Derived.Test.YtgapcjdgakamoaaV15
namespace Go.Proofs.Ytgapcjdgakamoaa
open Go.RowKit Go.Shelf Go.Sort

/-- The number of 257 bits, the highest first. -/
def nine (c : Bool) (x : Int) (j : Nat) : Bool := if j = 0 then c else bitAt x (255 - (j - 1))
theorem num_nine (c : Bool) (x : Int) (hx : 0 ≤ x ∧ x < 115792089237316195423570985008687907853269984665640564039457584007913129639936) : ∀ k, k ≤ 256 → num (nine c x) (k + 1) = (if c then 1 else 0) * 2 ^ k + x / 2 ^ (256 - k)
  | 0, _ => by
    show 2 * 0 + (if nine c x 0 then 1 else 0) = (if c then 1 else 0) * 1 + x / 2 ^ 256
    rw [show nine c x 0 = c from rfl, show ((2 : Int) ^ 256) = 115792089237316195423570985008687907853269984665640564039457584007913129639936 from rfl, show x / 115792089237316195423570985008687907853269984665640564039457584007913129639936 = 0 by omega]
    omega
  | k + 1, h => by
    rw [show num (nine c x) (k + 1 + 1) = 2 * num (nine c x) (k + 1) + (if nine c x (k + 1) then 1 else 0) from rfl]
    rw [num_nine c x hx k (by omega), show 256 - k = 255 - k + 1 by omega, show 256 - (k + 1) = 255 - k by omega, half_step x (255 - k)]
    rw [show nine c x (k + 1) = bitAt x (255 - k) from rfl]
    have e : (if c then (1 : Int) else 0) * 2 ^ (k + 1) = 2 * ((if c then 1 else 0) * 2 ^ k) := by rw [Int.pow_succ, ← Int.mul_assoc, Int.mul_comm]
    rw [e]
    omega

/-- An append that does not fit lies in a new block. -/
theorem wp_append_new {P : Program} {W : World} {o : Oper} {a : Act} {K : Act → World → Prop} {Q : Exit → Act → World → Prop} (s x : Operand) (t : TypeId)
    (hop : o.op = .call { callee := .builtin .append, args := #[s, x], argTypes := #[t, t] })
    (e : TypeId) (i : TypeInfo) (z : Value) (ht : P.underlying t = some (.slice e)) (hi : P.info? e = some i) (hz : i.zero = some z) (h1 : i.size = 1) (hby : i.bytes = 1)
    (b : Addr) (n cap : Nat) (olds : List Value) (hs : a.eval s = .slice (some b) n cap) (hlo : olds.length = n) (holds : ∀ j v, olds[j]? = some v → W.cell? (b.add j) = some v)
    (ad : Addr) (m c : Nat) (news : List Value) (hx : a.eval x = .slice (some ad) m c) (hl : news.length = m) (hnews : ∀ j v, news[j]? = some v → W.cell? (ad.add j) = some v)
    (hg : cap < n + m) (hsm : n + m ≤ 1000000)
    (h : ∀ cap' w', w'.heap.size = W.heap.size + 1 → (∀ j v, (olds ++ news)[j]? = some v → w'.cell? ⟨W.heap.size, j, none⟩ = some v) → Below W.heap.size W w' → K (a.put o.dst (.slice (some ⟨W.heap.size, 0, none⟩) (n + m) cap')) w') : o.wp P a W K Q := by
  have hr := run_append_grow (P := P) W t o.type e i z ht hi hz b n cap olds (by rw [h1, Nat.mul_one]; exact hlo) holds ad m c news (by rw [h1, Nat.mul_one]; exact hl) hnews hg (by omega) (growslice_fits hg (by rw [hby]; omega))
  unfold Oper.wp execOp
  simp only [hop, resolve, invoke, builtin, Sem.run_bind, Sem.run_pure, Result.andThen_ok, List.map_toArray, List.map_cons, List.map_nil, hs, hx, hr]
  refine h _ _ (by simp) (fun j v hj => ?_) ((Below.refl _ W).drew.alloc (by simp) _)
  have hj' : j < (olds ++ news).length := (List.getElem?_eq_some_iff.1 hj).1
  have : (olds.toArray ++ news.toArray ++ Builtin.zeroCells z.cells (grownCap W (n + m) cap e - (n + m)))[j]? = some v := by
    rw [Array.getElem?_append_left (by simpa using hj')]
    simpa using hj
  rw [cell_of_row _ W.heap.size j _ e (0, 0) (heap_alloc_last W.drew _)]
  exact this

/-- What holds while AddMod's statement runs: what has come up, and what lies where. -/
structure AJ (V : World) (s0 s1 s2 s3 m0 m1 m2 m3 q0 q1 q2 q3 r0 r1 r2 r3 : Int) (c : Bool) (S : Nat → Bool) (x9 x10 x21 x22 x23 x24 x25 x26 x27 x28 x29 x30 : Value) (W : World) : Prop where
  e : Below V.heap.size V W
  f0 : S 0 = true → x22 = .bool c
  f1 : S 1 = true → S 4 = false → ∃ g, x23 = .slice (some ⟨g, 0, none⟩) 1 1 ∧ g < W.heap.size ∧ W.cell? ⟨g, 0, none⟩ = some (.bool c)
  f2 : S 2 = true → x24 = .agg #[.int .u64 s0, .int .u64 s1, .int .u64 s2, .int .u64 s3]
  f3 : S 3 = true → S 4 = false → ∃ g cap, x25 = .slice (some ⟨g, 0, none⟩) 256 cap ∧ g < W.heap.size ∧ ∀ j, j < 256 → W.cell? ⟨g, j, none⟩ = some (.bool (bitAt (val s0 s1 s2 s3) (255 - j)))
  f4 : S 4 = true → S 6 = false → ∃ g cap, x26 = .slice (some ⟨g, 0, none⟩) 257 cap ∧ g < W.heap.size ∧ ∀ j, j < 257 → W.cell? ⟨g, j, none⟩ = some (.bool (nine c (val s0 s1 s2 s3) j))
  f5 : S 5 = true → x27 = .agg #[.int .u64 m0, .int .u64 m1, .int .u64 m2, .int .u64 m3]
  f6 : S 6 = true → x28 = .tuple #[.agg #[.int .u64 q0, .int .u64 q1, .int .u64 q2, .int .u64 q3], .agg #[.int .u64 r0, .int .u64 r1, .int .u64 r2, .int .u64 r3]]
  f7 : S 7 = true → x21 = .tuple #[.agg #[.int .u64 q0, .int .u64 q1, .int .u64 q2, .int .u64 q3], .agg #[.int .u64 r0, .int .u64 r1, .int .u64 r2, .int .u64 r3]]
  f8 : S 8 = true → x29 = .agg #[.int .u64 q0, .int .u64 q1, .int .u64 q2, .int .u64 q3]
  f9 : S 9 = true → x30 = .agg #[.int .u64 r0, .int .u64 r1, .int .u64 r2, .int .u64 r3]
  o12 : S 12 = true → S 10 = true
  o13 : S 13 = true → S 11 = true
  f10 : S 10 = true → ∃ g, x9 = .pointer (some ⟨g, 0, none⟩) ∧ V.heap.size ≤ g ∧ g < W.heap.size ∧ (S 12 = false → Rw g 0 0 0 0 W) ∧ (S 12 = true → Rw g q0 q1 q2 q3 W)
  f11 : S 11 = true → ∃ g, x10 = .pointer (some ⟨g, 0, none⟩) ∧ V.heap.size ≤ g ∧ g < W.heap.size ∧ (S 13 = false → Rw g 0 0 0 0 W) ∧ (S 13 = true → Rw g r0 r1 r2 r3 W)
  d : S 10 = true → S 11 = true → ∀ g h, x9 = .pointer (some ⟨g, 0, none⟩) → x10 = .pointer (some ⟨h, 0, none⟩) → g ≠ h

theorem AJ.grow {V : World} {s0 s1 s2 s3 m0 m1 m2 m3 q0 q1 q2 q3 r0 r1 r2 r3 : Int} {c : Bool} {S : Nat → Bool} {x9 x10 x21 x22 x23 x24 x25 x26 x27 x28 x29 x30 : Value} {W W' : World} (h : AJ V s0 s1 s2 s3 m0 m1 m2 m3 q0 q1 q2 q3 r0 r1 r2 r3 c S x9 x10 x21 x22 x23 x24 x25 x26 x27 x28 x29 x30 W) (hb : Below W.heap.size W W') : AJ V s0 s1 s2 s3 m0 m1 m2 m3 q0 q1 q2 q3 r0 r1 r2 r3 c S x9 x10 x21 x22 x23 x24 x25 x26 x27 x28 x29 x30 W' :=
  ⟨belowStep h.e h.e.size hb, h.f0, fun k1 k4 => (h.f1 k1 k4).imp fun _ ⟨j1, j2, j3⟩ => ⟨j1, Nat.lt_of_lt_of_le j2 hb.size, (hb.cell (p := ⟨_, 0, none⟩) j2).trans j3⟩, h.f2,
   fun k1 k4 => (h.f3 k1 k4).imp fun _ ⟨cc, j1, j2, j3⟩ => ⟨cc, j1, Nat.lt_of_lt_of_le j2 hb.size, fun j hj => (hb.cell (p := ⟨_, j, none⟩) j2).trans (j3 j hj)⟩,
   fun k1 k4 => (h.f4 k1 k4).imp fun _ ⟨cc, j1, j2, j3⟩ => ⟨cc, j1, Nat.lt_of_lt_of_le j2 hb.size, fun j hj => (hb.cell (p := ⟨_, j, none⟩) j2).trans (j3 j hj)⟩,
   h.f5, h.f6, h.f7, h.f8, h.f9, h.o12, h.o13, fun h7 => (h.f10 h7).imp fun _ ⟨k1, k2, k0, k3, k4⟩ => ⟨k1, k2, Nat.lt_of_lt_of_le k0 hb.size, fun s => (k3 s).below hb, fun s => (k4 s).below hb⟩,
   fun h8 => (h.f11 h8).imp fun _ ⟨k1, k2, k0, k3, k4⟩ => ⟨k1, k2, Nat.lt_of_lt_of_le k0 hb.size, fun s => (k3 s).below hb, fun s => (k4 s).below hb⟩, h.d⟩

set_option maxRecDepth 20000 in
set_option maxHeartbeats 8000000 in
theorem raddmod_nz (a0 a1 a2 a3 b0 b1 b2 b3 m0 m1 m2 m3 : Int) (ha : Ws a0 a1 a2 a3) (hb : Ws b0 b1 b2 b3) (hm : Ws m0 m1 m2 m3) (hne : val m0 m1 m2 m3 ≠ 0) (w : World) :
    Calls Try.prog 27 #[.agg #[.int .u64 a0, .int .u64 a1, .int .u64 a2, .int .u64 a3], .agg #[.int .u64 b0, .int .u64 b1, .int .u64 b2, .int .u64 b3], .agg #[.int .u64 m0, .int .u64 m1, .int .u64 m2, .int .u64 m3]] w fun e w' =>
      ∃ r0 r1 r2 r3 : Int, e = .returned (.agg #[.int .u64 r0, .int .u64 r1, .int .u64 r2, .int .u64 r3]) ∧ Ws r0 r1 r2 r3 ∧ Hid (val r0 r1 r2 r3 = rm (val a0 a1 a2 a3 + val b0 b1 b2 b3) (val m0 m1 m2 m3)) ∧ Below w.heap.size w w' := by
  have ho : Pt 0 := ⟨by decide, by decide⟩
  have bM := val_bd _ _ _ _ hm
  have e0 := eq_word_no m0 m1 m2 m3 0 0 0 0 hm ⟨ho, ho, ho, ho⟩ hne
  obtain ⟨i0, hi, hz0, hz1, hz2⟩ := info_parts info_bool
  go_enter Try.func27, Try.ntmps27
  go_wp2_with fail
  refine (rcarry_any a0 a1 a2 a3 b0 b1 b2 b3 ha hb _).mono ?_
  rintro e w1 ⟨s0, s1, s2, s3, c, rfl, hs, hv, hb1⟩
  have M1 : Cw (w.heap.size + 1 + 1) m0 m1 m2 m3 w1 := Cw.below (by simpa using (Cw.new ((w.alloc (.cells #[.int .u64 a0, .int .u64 a1, .int .u64 a2, .int .u64 a3] 24)).alloc (.cells #[.int .u64 b0, .int .u64 b1, .int .u64 b2, .int .u64 b3] 24)) m0 m1 m2 m3 24).alloc (.cells #[.int .u64 0, .int .u64 0, .int .u64 0, .int .u64 0] 24)) hb1
  have Z1 : Rw (w.heap.size + 1 + 1 + 1) 0 0 0 0 w1 := Rw.below (by simpa using Rw.new (((w.alloc (.cells #[.int .u64 a0, .int .u64 a1, .int .u64 a2, .int .u64 a3] 24)).alloc (.cells #[.int .u64 b0, .int .u64 b1, .int .u64 b2, .int .u64 b3] 24)).alloc (.cells #[.int .u64 m0, .int .u64 m1, .int .u64 m2, .int .u64 m3] 24)) 0 0 0 0 24) hb1
  have E1 := belowStep (n := w.heap.size) (w := w) (by go_grown) (by (try simp) <;> omega) hb1
  clear hb1
  have bS := val_bd _ _ _ _ hs
  have hnum : num (nine c (val s0 s1 s2 s3)) 257 = val a0 a1 a2 a3 + val b0 b1 b2 b3 := by
    rw [num_nine c _ bS 256 (Nat.le_refl _), ← hv.out, show ((2 : Int) ^ 256) = 115792089237316195423570985008687907853269984665640564039457584007913129639936 from rfl]
    cases c <;> simp <;> omega
  obtain ⟨q0, q1, q2, q3, hq, vq⟩ := parts_of ((val a0 a1 a2 a3 + val b0 b1 b2 b3) / val m0 m1 m2 m3 % 115792089237316195423570985008687907853269984665640564039457584007913129639936) (by omega)
  obtain ⟨r0, r1, r2, r3, hr, vr⟩ := parts_of ((val a0 a1 a2 a3 + val b0 b1 b2 b3) % val m0 m1 m2 m3) ⟨Int.emod_nonneg _ hne, Int.lt_trans (Int.emod_lt_of_pos _ (by omega)) bM.2⟩
  have HN : Hid (_ ∧ _ ∧ _) := ⟨hnum, vq, vr⟩
  clear hnum vq vr bM bS hv
  go_wp2
  refine wpOf (fun W => Below w.heap.size w W ∧ Cw (w.heap.size + 1 + 1) m0 m1 m2 m3 W ∧ Rw (w.heap.size + 1 + 1 + 1) 0 0 0 0 W ∧ Cw w1.heap.size s0 s1 s2 s3 W) ⟨E1.alloc E1.size _, M1.alloc _, Z1.below ((Below.refl _ _).alloc (Nat.le_refl _) _), Cw.new _ _ _ _ _ _⟩ ?_
  rintro V ⟨EV, MV, ZV, SV⟩
  clear E1 M1 Z1
  refine region_inv (fun S a W => ∃ x9 x10 x21 x22 x23 x24 x25 x26 x27 x28 x29 x30 : Value, a = { tmps := #[.agg #[.int .u64 a0, .int .u64 a1, .int .u64 a2, .int .u64 a3], .agg #[.int .u64 b0, .int .u64 b1, .int .u64 b2, .int .u64 b3], .agg #[.int .u64 m0, .int .u64 m1, .int .u64 m2, .int .u64 m3], .pointer (some ⟨w.heap.size, 0, none⟩), .pointer (some ⟨w.heap.size + 1, 0, none⟩), .pointer (some ⟨w.heap.size + 1 + 1, 0, none⟩), .pointer (some ⟨w.heap.size + 1 + 1 + 1, 0, none⟩), .pointer (some ⟨w1.heap.size, 0, none⟩), .bool c, x9, x10, .agg #[.int .u64 m0, .int .u64 m1, .int .u64 m2, .int .u64 m3], .agg #[.int .u64 0, .int .u64 0, .int .u64 0, .int .u64 0], .bool false, undef, .tuple #[.agg #[.int .u64 s0, .int .u64 s1, .int .u64 s2, .int .u64 s3], .bool c], .agg #[.int .u64 a0, .int .u64 a1, .int .u64 a2, .int .u64 a3], .agg #[.int .u64 b0, .int .u64 b1, .int .u64 b2, .int .u64 b3], .tuple #[.agg #[.int .u64 s0, .int .u64 s1, .int .u64 s2, .int .u64 s3], .bool c], .agg #[.int .u64 s0, .int .u64 s1, .int .u64 s2, .int .u64 s3], .bool c, x21, x22, x23, x24, x25, x26, x27, x28, x29, x30, undef], defers := [] } ∧ AJ V s0 s1 s2 s3 m0 m1 m2 m3 q0 q1 q2 q3 r0 r1 r2 r3 c S x9 x10 x21 x22 x23 x24 x25 x26 x27 x28 x29 x30 W) (by kernel_rfl) (by kernel_rfl) ?_ ?_ ?_
  · exact ⟨undef, undef, undef, undef, undef, undef, undef, undef, undef, undef, undef, undef, rfl, ⟨(Below.refl _ V).drew, nofun, nofun, nofun, nofun, nofun, nofun, nofun, nofun, nofun, nofun, nofun, nofun, nofun, nofun, nofun⟩⟩
  · intro i o S a W hi' hun hJ hall K hK
    obtain ⟨x9, x10, x21, x22, x23, x24, x25, x26, x27, x28, x29, x30, rfl, h⟩ := hJ
    have hlt : i < 14 := (List.getElem?_eq_some_iff.1 hi').1
    have hcase : i = 0 ∨ i = 1 ∨ i = 2 ∨ i = 3 ∨ i = 4 ∨ i = 5 ∨ i = 6 ∨ i = 7 ∨ i = 8 ∨ i = 9 ∨ i = 10 ∨ i = 11 ∨ i = 12 ∨ i = 13 := by omega
    rcases hcase with rfl | rfl | rfl | rfl | rfl | rfl | rfl | rfl | rfl | rfl | rfl | rfl | rfl | rfl
    all_goals (have ho' := (Option.some.inj hi').symm; subst ho'; clear hi' hlt)
    · go_simp
      exact hK _ _ ⟨x9, x10, x21, _, x23, x24, x25, x26, x27, x28, x29, x30, rfl, ⟨h.e, fun _ => rfl, h.f1, h.f2, h.f3, h.f4, h.f5, h.f6, h.f7, h.f8, h.f9, h.o12, h.o13, h.f10, h.f11, h.d⟩⟩
    · have dd0 : S 0 = true := hall ⟨0, .data⟩ (by simp) rfl
      obtain rfl := h.f0 dd0
      go_simp
      have h1 := h.grow ((Below.refl _ W).alloc (Nat.le_refl _) (.cells #[.bool c] 4))
      exact hK _ _ ⟨x9, x10, x21, _, _, x24, x25, x26, x27, x28, x29, x30, rfl, ⟨h1.e, h1.f0, fun _ _ => ⟨W.heap.size, rfl, by simp, by simp [go_sem]⟩, h1.f2, h1.f3, h1.f4, h1.f5, h1.f6, h1.f7, h1.f8, h1.f9, h1.o12, h1.o13, h1.f10, h1.f11, h1.d⟩⟩
    · obtain ⟨cz, cc0, cc1, cc2, cc3⟩ := SV.below h.e
      go_simp
      exact hK _ _ ⟨x9, x10, x21, x22, x23, _, x25, x26, x27, x28, x29, x30, rfl, ⟨h.e, h.f0, h.f1, fun _ => rfl, h.f3, h.f4, h.f5, h.f6, h.f7, h.f8, h.f9, h.o12, h.o13, h.f10, h.f11, h.d⟩⟩
    · have dd2 : S 2 = true := hall ⟨2, .data⟩ (by simp) rfl
      obtain rfl := h.f2 dd2
      go_simp
      refine (rhigh_any s0 s1 s2 s3 hs _).mono ?_
      rintro e w2 ⟨v, rfl, hown, hb2⟩
      obtain ⟨g, cap, rfl, _, hg, hc⟩ := owns_cells hown (by decide)
      have h1 := h.grow hb2
      exact hK _ _ ⟨x9, x10, x21, x22, x23, _, _, x26, x27, x28, x29, x30, rfl, ⟨h1.e, h1.f0, h1.f1, h1.f2, fun _ _ => ⟨g, cap, rfl, hg, hc⟩, h1.f4, h1.f5, h1.f6, h1.f7, h1.f8, h1.f9, h1.o12, h1.o13, h1.f10, h1.f11, h1.d⟩⟩
    · have dd1 : S 1 = true := hall ⟨1, .data⟩ (by simp) rfl
      have dd3 : S 3 = true := hall ⟨3, .data⟩ (by simp) rfl
      obtain ⟨g, rfl, hg, hc⟩ := h.f1 dd1 hun
      obtain ⟨k, cap, rfl, kg, kc⟩ := h.f3 dd3 hun
      rw [if_pos (by rfl)]
      refine wp_append_new _ _ 49 rfl 4 i0 (.bool false) Try.underlying49 hi hz0 hz1 hz2 ⟨g, 0, none⟩ 1 1 [.bool c] rfl rfl ?_ ⟨k, 0, none⟩ 256 cap (bl 256 fun j => bitAt (val s0 s1 s2 s3) (255 - j)) rfl (bl_len _ _) ?_ (by decide) (by decide) ?_
      · intro j v hj
        match j, hj with
        | 0, hj => simp at hj; subst hj; simpa [Addr.add] using hc
      · intro j v hj
        obtain ⟨hj2, rfl⟩ := fl_get _ _ j v hj
        rw [Addr.add_mid, Nat.zero_add]; exact kc j hj2
      · intro cap2 w2 hz2 hcells hb2
        have h1 := h.grow hb2
        refine hK _ _ ⟨x9, x10, x21, x22, _, x24, _, _, x27, x28, x29, x30, rfl, ⟨h1.e, h1.f0, fun _ h4 => absurd h4 (by simp [more]), h1.f2, fun _ h4 => absurd h4 (by simp [more]), fun _ _ => ⟨W.heap.size, cap2, rfl, by omega, fun j hj => ?_⟩, h1.f5, h1.f6, h1.f7, h1.f8, h1.f9, h1.o12, h1.o13, h1.f10, h1.f11, h1.d⟩⟩
        refine hcells j _ ?_
        cases j with
        | zero => rfl
        | succ j =>
          show (bl 256 fun j => bitAt (val s0 s1 s2 s3) (255 - j))[j]? = _
          rw [bl, fl_at 256 _ j (by omega)]
          rfl
    · obtain ⟨cz, cc0, cc1, cc2, cc3⟩ := MV.below h.e
      go_simp
      exact hK _ _ ⟨x9, x10, x21, x22, x23, x24, x25, x26, _, x28, x29, x30, rfl, ⟨h.e, h.f0, h.f1, h.f2, h.f3, h.f4, fun _ => rfl, h.f6, h.f7, h.f8, h.f9, h.o12, h.o13, h.f10, h.f11, h.d⟩⟩
    · have dd4 : S 4 = true := hall ⟨4, .data⟩ (by simp) rfl
      have dd5 : S 5 = true := hall ⟨5, .data⟩ (by simp) rfl
      obtain ⟨g, cap, rfl, hg, hc⟩ := h.f4 dd4 hun
      obtain rfl := h.f5 dd5
      go_simp
      refine (rdivided_any g 257 cap _ m0 m1 m2 m3 hm hne (by decide) _ hg hc).mono ?_
      rintro e w2 ⟨t0, t1, t2, t3, u0, u1, u2, u3, rfl, ht, hu, hv, hb2⟩
      obtain ⟨rfl, rfl, rfl, rfl⟩ := val_inj _ _ _ _ _ _ _ _ ht hq (by rw [hv.out.1, HN.out.1, HN.out.2.1])
      obtain ⟨rfl, rfl, rfl, rfl⟩ := val_inj _ _ _ _ _ _ _ _ hu hr (by rw [hv.out.2, HN.out.1, HN.out.2.2])
      have h1 := h.grow hb2
      exact hK _ _ ⟨x9, x10, x21, x22, x23, x24, x25, _, _, _, x29, x30, rfl, ⟨h1.e, h1.f0, h1.f1, h1.f2, h1.f3, fun _ h3 => absurd h3 (by simp [more]), h1.f5, fun _ => rfl, h1.f7, h1.f8, h1.f9, h1.o12, h1.o13, h1.f10, h1.f11, h1.d⟩⟩
    · have dd6 : S 6 = true := hall ⟨6, .data⟩ (by simp) rfl
      obtain rfl := h.f6 dd6
      go_simp
      exact hK _ _ ⟨x9, x10, _, x22, x23, x24, x25, x26, x27, _, x29, x30, rfl, ⟨h.e, h.f0, h.f1, h.f2, h.f3, h.f4, h.f5, h.f6, fun _ => rfl, h.f8, h.f9, h.o12, h.o13, h.f10, h.f11, h.d⟩⟩
    · have dd7 : S 7 = true := hall ⟨7, .data⟩ (by simp) rfl
      obtain rfl := h.f7 dd7
      go_simp
      exact hK _ _ ⟨x9, x10, _, x22, x23, x24, x25, x26, x27, x28, _, x30, rfl, ⟨h.e, h.f0, h.f1, h.f2, h.f3, h.f4, h.f5, h.f6, h.f7, fun _ => rfl, h.f9, h.o12, h.o13, h.f10, h.f11, h.d⟩⟩
    · have dd7 : S 7 = true := hall ⟨7, .data⟩ (by simp) rfl
      obtain rfl := h.f7 dd7
      go_simp
      exact hK _ _ ⟨x9, x10, _, x22, x23, x24, x25, x26, x27, x28, x29, _, rfl, ⟨h.e, h.f0, h.f1, h.f2, h.f3, h.f4, h.f5, h.f6, h.f7, h.f8, fun _ => rfl, h.o12, h.o13, h.f10, h.f11, h.d⟩⟩
    · go_simp
      have h1 := h.grow ((Below.refl _ W).alloc (Nat.le_refl _) (.cells #[.int .u64 0, .int .u64 0, .int .u64 0, .int .u64 0] 24))
      exact hK _ _ ⟨_, x10, x21, x22, x23, x24, x25, x26, x27, x28, x29, x30, rfl, ⟨h1.e, h1.f0, h1.f1, h1.f2, h1.f3, h1.f4, h1.f5, h1.f6, h1.f7, h1.f8, h1.f9, fun _ => rfl, h1.o13, fun _ => ⟨W.heap.size, rfl, h.e.size, by simp, fun _ => Rw.new _ _ _ _ _ _, fun h9 => absurd (h.o12 h9) (by rw [hun]; decide)⟩, h1.f11, (fun _ s8 g k e5 e6 => by obtain ⟨k2, e7, _, k3, _⟩ := h.f11 s8; rw [e7] at e6; cases e5; cases e6; omega)⟩⟩
    · go_simp
      have h1 := h.grow ((Below.refl _ W).alloc (Nat.le_refl _) (.cells #[.int .u64 0, .int .u64 0, .int .u64 0, .int .u64 0] 24))
      exact hK _ _ ⟨x9, _, x21, x22, x23, x24, x25, x26, x27, x28, x29, x30, rfl, ⟨h1.e, h1.f0, h1.f1, h1.f2, h1.f3, h1.f4, h1.f5, h1.f6, h1.f7, h1.f8, h1.f9, h1.o12, fun _ => rfl, h1.f10, fun _ => ⟨W.heap.size, rfl, h.e.size, by simp, fun _ => Rw.new _ _ _ _ _ _, fun h9 => absurd (h.o13 h9) (by rw [hun]; decide)⟩, (fun s7 _ g k e5 e6 => by obtain ⟨k2, e7, _, k3, _⟩ := h.f10 s7; rw [e7] at e5; cases e5; cases e6; omega)⟩⟩
    · have dd6 : S 6 = true := hall ⟨6, .phase⟩ (by simp) rfl
      have dd4 : S 4 = true := hall ⟨4, .phase⟩ (by simp) rfl
      have dd10 : S 10 = true := hall ⟨10, .data⟩ (by simp) rfl
      have dd11 : S 11 = true := hall ⟨11, .phase⟩ (by simp) rfl
      have dd8 : S 8 = true := hall ⟨8, .data⟩ (by simp) rfl
      obtain ⟨g, e5, hg, hz, r5, r6⟩ := h.f10 dd10
      obtain ⟨k, e6, kg, kz, t5, t6⟩ := h.f11 dd11
      have hd := h.d dd10 dd11 g k e5 e6
      obtain rfl := h.f8 dd8
      subst e5
      subst e6
      obtain ⟨⟨v0, v1, v2, v3, v4⟩, vf⟩ := id (r5 hun)
      go_simp
      exact hK _ _ ⟨_, _, x21, x22, x23, x24, x25, x26, x27, x28, _, x30, rfl, ⟨below_put4 (g := g) h.e hg q0 q1 q2 q3, h.f0, fun _ h3 => absurd (show S 4 = false from h3) (by rw [dd4]; decide), h.f2, fun _ h3 => absurd (show S 4 = false from h3) (by rw [dd4]; decide), fun _ h3 => absurd (show S 6 = false from h3) (by rw [dd6]; decide), h.f5, h.f6, h.f7, h.f8, h.f9, fun _ => dd10, h.o13, fun _ => ⟨g, rfl, hg, by simpa [go_sem] using hz, fun h9 => absurd h9 (by simp [more]), fun _ => (r5 hun).over q0 q1 q2 q3⟩, fun _ => ⟨k, rfl, kg, by simpa [go_sem] using kz, fun s => (t5 s).other q0 q1 q2 q3 hd, fun s => (t6 s).other q0 q1 q2 q3 hd⟩, fun _ _ _ _ q1 q2 => by cases q1; cases q2; exact hd⟩⟩
    · have dd6 : S 6 = true := hall ⟨6, .phase⟩ (by simp) rfl
      have dd4 : S 4 = true := hall ⟨4, .phase⟩ (by simp) rfl
      have dd10 : S 10 = true := hall ⟨10, .phase⟩ (by simp) rfl
      have dd11 : S 11 = true := hall ⟨11, .data⟩ (by simp) rfl
      have dd9 : S 9 = true := hall ⟨9, .data⟩ (by simp) rfl
      obtain ⟨g, e5, hg, hz, r5, r6⟩ := h.f10 dd10
      obtain ⟨k, e6, kg, kz, t5, t6⟩ := h.f11 dd11
      have hd := h.d dd10 dd11 g k e5 e6
      obtain rfl := h.f9 dd9
      subst e5
      subst e6
      obtain ⟨⟨v0, v1, v2, v3, v4⟩, vf⟩ := id (t5 hun)
      go_simp
      exact hK _ _ ⟨_, _, x21, x22, x23, x24, x25, x26, x27, x28, x29, _, rfl, ⟨below_put4 (g := k) h.e kg r0 r1 r2 r3, h.f0, fun _ h3 => absurd (show S 4 = false from h3) (by rw [dd4]; decide), h.f2, fun _ h3 => absurd (show S 4 = false from h3) (by rw [dd4]; decide), fun _ h3 => absurd (show S 6 = false from h3) (by rw [dd6]; decide), h.f5, h.f6, h.f7, h.f8, h.f9, h.o12, fun _ => dd11, fun _ => ⟨g, rfl, hg, by simpa [go_sem] using hz, fun s => (r5 s).other r0 r1 r2 r3 (fun e => hd e.symm), fun s => (r6 s).other r0 r1 r2 r3 (fun e => hd e.symm)⟩, fun _ => ⟨k, rfl, kg, by simpa [go_sem] using kz, fun h9 => absurd h9 (by simp [more]), fun _ => (t5 hun).over r0 r1 r2 r3⟩, fun _ _ _ _ q1 q2 => by cases q1; cases q2; exact hd⟩⟩
  · intro S a W hS hJ
    obtain ⟨x9, x10, x21, x22, x23, x24, x25, x26, x27, x28, x29, x30, rfl, h⟩ := hJ
    obtain ⟨g, e5, hg, hz, _, r6⟩ := h.f10 (hS 10 (by decide))
    obtain ⟨k, e6, kg, kz, _, t6⟩ := h.f11 (hS 11 (by decide))
    subst e5
    subst e6
    have CQ := t6 (hS 13 (by decide))
    have Z2 := ZV.below h.e
    have E2 := belowStep EV EV.size h.e
    have zk : w.heap.size + 1 + 1 + 1 < k := Nat.lt_of_lt_of_le ZV.w.z kg
    refine thenOf (fun W' => Below w.heap.size w W' ∧ Rw (w.heap.size + 1 + 1 + 1) 0 0 0 0 W' ∧ Rw k r0 r1 r2 r3 W') ⟨E2, Z2, CQ⟩ ?_
    rintro W2 ⟨E3, Z3, C3⟩
    clear E2 Z2 CQ
    obtain ⟨⟨v0, v1, v2, v3, v4⟩, vf⟩ := id C3
    obtain ⟨⟨zz, y0, y1, y2, y3⟩, yf⟩ := id Z3
    have zk' : w.heap.size + 1 + 1 + 1 ≠ k := by omega
    go_wp2
    refine bodyPost_ret (v := .agg #[.int .u64 r0, .int .u64 r1, .int .u64 r2, .int .u64 r3]) (by simp [results, Try.results27, go_sem, *]) rfl ⟨r0, r1, r2, r3, rfl, hr, ?_, ?_⟩
    · show _ = _
      rw [HN.out.2.2]; unfold rm; rw [if_neg hne]
    · go_grown

set_option maxHeartbeats 1000000 in
theorem raddmod_any (a0 a1 a2 a3 b0 b1 b2 b3 m0 m1 m2 m3 : Int) (ha : Ws a0 a1 a2 a3) (hb : Ws b0 b1 b2 b3) (hm : Ws m0 m1 m2 m3) (w : World) :
    Calls Try.prog 27 #[.agg #[.int .u64 a0, .int .u64 a1, .int .u64 a2, .int .u64 a3], .agg #[.int .u64 b0, .int .u64 b1, .int .u64 b2, .int .u64 b3], .agg #[.int .u64 m0, .int .u64 m1, .int .u64 m2, .int .u64 m3]] w fun e w' =>
      ∃ r0 r1 r2 r3 : Int, e = .returned (.agg #[.int .u64 r0, .int .u64 r1, .int .u64 r2, .int .u64 r3]) ∧ Ws r0 r1 r2 r3 ∧ Hid (val r0 r1 r2 r3 = rm (val a0 a1 a2 a3 + val b0 b1 b2 b3) (val m0 m1 m2 m3)) ∧ Below w.heap.size w w' := by
  by_cases hne : val m0 m1 m2 m3 = 0
  · have ho : Pt 0 := ⟨by decide, by decide⟩
    obtain ⟨rfl, rfl, rfl, rfl⟩ := val_inj m0 m1 m2 m3 0 0 0 0 hm ⟨ho, ho, ho, ho⟩ (by rw [hne]; rfl)
    have e0 := eq_word_yes 0 0 0 0 0 0 0 0 hm hm rfl
    clear hne
    go_enter Try.func27, Try.ntmps27
    go_wp2
    refine bodyPost_ret (v := .agg #[.int .u64 0, .int .u64 0, .int .u64 0, .int .u64 0]) (by simp [results, Try.results27, go_sem]) rfl ⟨0, 0, 0, 0, rfl, hm, ?_, ?_⟩
    · show _ = _
      unfold rm; rw [if_pos (show val 0 0 0 0 = 0 from by decide)]; rfl
    · go_grown
  · exact raddmod_nz a0 a1 a2 a3 b0 b1 b2 b3 m0 m1 m2 m3 ha hb hm hne w

set_option maxHeartbeats 1000000 in
theorem rmulmod_any (a0 a1 a2 a3 b0 b1 b2 b3 m0 m1 m2 m3 : Int) (ha : Ws a0 a1 a2 a3) (hb : Ws b0 b1 b2 b3) (hm : Ws m0 m1 m2 m3) (w : World) :
    Calls Try.prog 29 #[.agg #[.int .u64 a0, .int .u64 a1, .int .u64 a2, .int .u64 a3], .agg #[.int .u64 b0, .int .u64 b1, .int .u64 b2, .int .u64 b3], .agg #[.int .u64 m0, .int .u64 m1, .int .u64 m2, .int .u64 m3]] w fun e w' =>
      ∃ r0 r1 r2 r3 : Int, e = .returned (.agg #[.int .u64 r0, .int .u64 r1, .int .u64 r2, .int .u64 r3]) ∧ Ws r0 r1 r2 r3 ∧ Hid (val r0 r1 r2 r3 = rm (val a0 a1 a2 a3 * val b0 b1 b2 b3) (val m0 m1 m2 m3)) ∧ Below w.heap.size w w' := by
  by_cases hne : val m0 m1 m2 m3 = 0
  · have ho : Pt 0 := ⟨by decide, by decide⟩
    obtain ⟨rfl, rfl, rfl, rfl⟩ := val_inj m0 m1 m2 m3 0 0 0 0 hm ⟨ho, ho, ho, ho⟩ (by rw [hne]; rfl)
    have e0 := eq_word_yes 0 0 0 0 0 0 0 0 hm hm rfl
    clear hne
    go_enter Try.func29, Try.ntmps29
    go_wp2
    refine bodyPost_ret (v := .agg #[.int .u64 0, .int .u64 0, .int .u64 0, .int .u64 0]) (by simp [results, Try.results29, go_sem]) rfl ⟨0, 0, 0, 0, rfl, hm, ?_, ?_⟩
    · show _ = _
      unfold rm; rw [if_pos (show val 0 0 0 0 = 0 from by decide)]; rfl
    · go_grown
  · exact rmulmod_nz a0 a1 a2 a3 b0 b1 b2 b3 m0 m1 m2 m3 ha hb hm hne w
end Go.Proofs.Ytgapcjdgakamoaa
