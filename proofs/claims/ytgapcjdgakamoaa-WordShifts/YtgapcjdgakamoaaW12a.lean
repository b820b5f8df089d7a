/- The memory of a division between two rounds, what a round does to it, and the long division part by part in plain numbers. -/
import Derived.Test.YtgapcjdgakamoaaW11
import Derived.Test.YtgapcjdgakamoaaPlain
import Derived.Deep.RegionHeld
namespace Go.Proofs.Ytgapcjdgakamoaa
open Go.RowKit Go.Shelf

/-- Eight blocks, one behind the other. -/
def Ds (b4 b5 bN bR bD bL bQ bX : Nat) : Prop := b4 < b5 ∧ b5 < bN ∧ bN < bR ∧ bR < bD ∧ bD < bL ∧ bL < bQ ∧ bQ < bX

/-- The memory of a division: the results' two variables, no parts, the rest R, the divisor D, what is left L, the quotient Q, the box of the parts m. -/
structure St (b4 b5 bN bR bD bL bQ bX : Nat) (D m : Nat → Int) (R L Q : Nat → Int) (W : World) : Prop where
  z4 : ∀ i, i < 4 → W.cell? ⟨b4, i, none⟩ = some (.int .u64 0)
  z5 : ∀ i, i < 4 → W.cell? ⟨b5, i, none⟩ = some (.int .u64 0)
  zn : ∀ i, i < 4 → W.cell? ⟨bN, i, none⟩ = some (.int .u64 0)
  r : ∀ i, i < 4 → W.cell? ⟨bR, i, none⟩ = some (.int .u64 (R i))
  d : ∀ i, i < 4 → W.cell? ⟨bD, i, none⟩ = some (.int .u64 (D i))
  l : ∀ i, i < 12 → W.cell? ⟨bL, i, none⟩ = some (.int .u64 (L i))
  q : ∀ i, i < 12 → W.cell? ⟨bQ, i, none⟩ = some (.int .u64 (Q i))
  x : ∀ i, i < 12 → W.cell? ⟨bX, i, none⟩ = some (.int .u64 (m i))
  f4 : ∀ o, W.frozen? ⟨b4, o, none⟩ = false
  f5 : ∀ o, W.frozen? ⟨b5, o, none⟩ = false
  fr : ∀ o, W.frozen? ⟨bR, o, none⟩ = false
  fl : ∀ o, W.frozen? ⟨bL, o, none⟩ = false
  fq : ∀ o, W.frozen? ⟨bQ, o, none⟩ = false
  sz : bX < W.heap.size

/-- One place turned. -/
def upd (f : Nat → Int) (p : Nat) (v : Int) : Nat → Int := fun j => if j = p then v else f j

section
variable {b4 b5 bN bR bD bL bQ bX : Nat} {D m R L Q : Nat → Int} {W W' : World}

theorem St.keep (ds : Ds b4 b5 bN bR bD bL bQ bX) (h : St b4 b5 bN bR bD bL bQ bX D m R L Q W) (hb : Below (bX + 1) W W') : St b4 b5 bN bR bD bL bQ bX D m R L Q W' := by
  obtain ⟨e1, e2, e3, e4, e5, e6, e7⟩ := ds
  have hs := h.sz
  exact ⟨fun i hi => (hb.cell (p := ⟨b4, i, none⟩) (show b4 < _ by omega)).trans (h.z4 i hi), fun i hi => (hb.cell (p := ⟨b5, i, none⟩) (show b5 < _ by omega)).trans (h.z5 i hi), fun i hi => (hb.cell (p := ⟨bN, i, none⟩) (show bN < _ by omega)).trans (h.zn i hi), fun i hi => (hb.cell (p := ⟨bR, i, none⟩) (show bR < _ by omega)).trans (h.r i hi), fun i hi => (hb.cell (p := ⟨bD, i, none⟩) (show bD < _ by omega)).trans (h.d i hi), fun i hi => (hb.cell (p := ⟨bL, i, none⟩) (show bL < _ by omega)).trans (h.l i hi), fun i hi => (hb.cell (p := ⟨bQ, i, none⟩) (show bQ < _ by omega)).trans (h.q i hi), fun i hi => (hb.cell (p := ⟨bX, i, none⟩) (show bX < _ by omega)).trans (h.x i hi), fun o => (hb.frozen (p := ⟨b4, o, none⟩) (show b4 < _ by omega)).trans (h.f4 o), fun o => (hb.frozen (p := ⟨b5, o, none⟩) (show b5 < _ by omega)).trans (h.f5 o), fun o => (hb.frozen (p := ⟨bR, o, none⟩) (show bR < _ by omega)).trans (h.fr o), fun o => (hb.frozen (p := ⟨bL, o, none⟩) (show bL < _ by omega)).trans (h.fl o), fun o => (hb.frozen (p := ⟨bQ, o, none⟩) (show bQ < _ by omega)).trans (h.fq o), Nat.lt_of_lt_of_le hs hb.size⟩

theorem St.below (ds : Ds b4 b5 bN bR bD bL bQ bX) (h : St b4 b5 bN bR bD bL bQ bX D m R L Q W) (hb : Below W.heap.size W W') : St b4 b5 bN bR bD bL bQ bX D m R L Q W' :=
  h.keep ds (hb.mono h.sz)

theorem St.like (h : St b4 b5 bN bR bD bL bQ bX D m R L Q W) {R' L' Q' : Nat → Int} (hR : ∀ i, i < 4 → R i = R' i) (hL : ∀ i, i < 12 → L i = L' i) (hQ : ∀ i, i < 12 → Q i = Q' i) : St b4 b5 bN bR bD bL bQ bX D m R' L' Q' W :=
  { h with r := fun i hi => by rw [← hR i hi]; exact h.r i hi, l := fun i hi => by rw [← hL i hi]; exact h.l i hi, q := fun i hi => by rw [← hQ i hi]; exact h.q i hi }

theorem cell_upd {W : World} {b p i : Nat} {f : Nat → Int} {v : Int} (hp : W.cell? ⟨b, p, none⟩ = some (.int .u64 (f p))) (hi : W.cell? ⟨b, i, none⟩ = some (.int .u64 (f i))) :
    (W.setCell ⟨b, p, none⟩ (.int .u64 v)).cell? ⟨b, i, none⟩ = some (.int .u64 (upd f p v i)) := by
  unfold upd
  by_cases e : i = p
  · subst e
    rw [if_pos rfl]
    exact World.cell?_setCell_same W _ _ hp
  · rw [if_neg e]
    exact (World.cell?_setCell_other W ⟨b, p, none⟩ ⟨b, i, none⟩ _ (fun h => e (by cases h; rfl))).trans hi

theorem St.setR (ds : Ds b4 b5 bN bR bD bL bQ bX) (h : St b4 b5 bN bR bD bL bQ bX D m R L Q W) (p : Nat) (hp : p < 4) (v : Int) : St b4 b5 bN bR bD bL bQ bX D m (upd R p v) L Q (W.setCell ⟨bR, p, none⟩ (.int .u64 v)) := by
  obtain ⟨e1, e2, e3, e4, e5, e6, e7⟩ := ds
  exact ⟨fun i hi => (World.cell?_setCell_far W ⟨bR, p, none⟩ ⟨b4, i, none⟩ _ (show bR ≠ b4 by omega)).trans (h.z4 i hi), fun i hi => (World.cell?_setCell_far W ⟨bR, p, none⟩ ⟨b5, i, none⟩ _ (show bR ≠ b5 by omega)).trans (h.z5 i hi), fun i hi => (World.cell?_setCell_far W ⟨bR, p, none⟩ ⟨bN, i, none⟩ _ (show bR ≠ bN by omega)).trans (h.zn i hi), fun i hi => cell_upd (h.r p hp) (h.r i hi), fun i hi => (World.cell?_setCell_far W ⟨bR, p, none⟩ ⟨bD, i, none⟩ _ (show bR ≠ bD by omega)).trans (h.d i hi), fun i hi => (World.cell?_setCell_far W ⟨bR, p, none⟩ ⟨bL, i, none⟩ _ (show bR ≠ bL by omega)).trans (h.l i hi), fun i hi => (World.cell?_setCell_far W ⟨bR, p, none⟩ ⟨bQ, i, none⟩ _ (show bR ≠ bQ by omega)).trans (h.q i hi), fun i hi => (World.cell?_setCell_far W ⟨bR, p, none⟩ ⟨bX, i, none⟩ _ (show bR ≠ bX by omega)).trans (h.x i hi), fun o => by rw [World.frozen?_setCell]; exact h.f4 o, fun o => by rw [World.frozen?_setCell]; exact h.f5 o, fun o => by rw [World.frozen?_setCell]; exact h.fr o, fun o => by rw [World.frozen?_setCell]; exact h.fl o, fun o => by rw [World.frozen?_setCell]; exact h.fq o, by rw [World.size_setCell]; exact h.sz⟩

theorem St.setL (ds : Ds b4 b5 bN bR bD bL bQ bX) (h : St b4 b5 bN bR bD bL bQ bX D m R L Q W) (p : Nat) (hp : p < 12) (v : Int) : St b4 b5 bN bR bD bL bQ bX D m R (upd L p v) Q (W.setCell ⟨bL, p, none⟩ (.int .u64 v)) := by
  obtain ⟨e1, e2, e3, e4, e5, e6, e7⟩ := ds
  exact ⟨fun i hi => (World.cell?_setCell_far W ⟨bL, p, none⟩ ⟨b4, i, none⟩ _ (show bL ≠ b4 by omega)).trans (h.z4 i hi), fun i hi => (World.cell?_setCell_far W ⟨bL, p, none⟩ ⟨b5, i, none⟩ _ (show bL ≠ b5 by omega)).trans (h.z5 i hi), fun i hi => (World.cell?_setCell_far W ⟨bL, p, none⟩ ⟨bN, i, none⟩ _ (show bL ≠ bN by omega)).trans (h.zn i hi), fun i hi => (World.cell?_setCell_far W ⟨bL, p, none⟩ ⟨bR, i, none⟩ _ (show bL ≠ bR by omega)).trans (h.r i hi), fun i hi => (World.cell?_setCell_far W ⟨bL, p, none⟩ ⟨bD, i, none⟩ _ (show bL ≠ bD by omega)).trans (h.d i hi), fun i hi => cell_upd (h.l p hp) (h.l i hi), fun i hi => (World.cell?_setCell_far W ⟨bL, p, none⟩ ⟨bQ, i, none⟩ _ (show bL ≠ bQ by omega)).trans (h.q i hi), fun i hi => (World.cell?_setCell_far W ⟨bL, p, none⟩ ⟨bX, i, none⟩ _ (show bL ≠ bX by omega)).trans (h.x i hi), fun o => by rw [World.frozen?_setCell]; exact h.f4 o, fun o => by rw [World.frozen?_setCell]; exact h.f5 o, fun o => by rw [World.frozen?_setCell]; exact h.fr o, fun o => by rw [World.frozen?_setCell]; exact h.fl o, fun o => by rw [World.frozen?_setCell]; exact h.fq o, by rw [World.size_setCell]; exact h.sz⟩

theorem St.setQ (ds : Ds b4 b5 bN bR bD bL bQ bX) (h : St b4 b5 bN bR bD bL bQ bX D m R L Q W) (p : Nat) (hp : p < 12) (v : Int) : St b4 b5 bN bR bD bL bQ bX D m R L (upd Q p v) (W.setCell ⟨bQ, p, none⟩ (.int .u64 v)) := by
  obtain ⟨e1, e2, e3, e4, e5, e6, e7⟩ := ds
  exact ⟨fun i hi => (World.cell?_setCell_far W ⟨bQ, p, none⟩ ⟨b4, i, none⟩ _ (show bQ ≠ b4 by omega)).trans (h.z4 i hi), fun i hi => (World.cell?_setCell_far W ⟨bQ, p, none⟩ ⟨b5, i, none⟩ _ (show bQ ≠ b5 by omega)).trans (h.z5 i hi), fun i hi => (World.cell?_setCell_far W ⟨bQ, p, none⟩ ⟨bN, i, none⟩ _ (show bQ ≠ bN by omega)).trans (h.zn i hi), fun i hi => (World.cell?_setCell_far W ⟨bQ, p, none⟩ ⟨bR, i, none⟩ _ (show bQ ≠ bR by omega)).trans (h.r i hi), fun i hi => (World.cell?_setCell_far W ⟨bQ, p, none⟩ ⟨bD, i, none⟩ _ (show bQ ≠ bD by omega)).trans (h.d i hi), fun i hi => (World.cell?_setCell_far W ⟨bQ, p, none⟩ ⟨bL, i, none⟩ _ (show bQ ≠ bL by omega)).trans (h.l i hi), fun i hi => cell_upd (h.q p hp) (h.q i hi), fun i hi => (World.cell?_setCell_far W ⟨bQ, p, none⟩ ⟨bX, i, none⟩ _ (show bQ ≠ bX by omega)).trans (h.x i hi), fun o => by rw [World.frozen?_setCell]; exact h.f4 o, fun o => by rw [World.frozen?_setCell]; exact h.f5 o, fun o => by rw [World.frozen?_setCell]; exact h.fr o, fun o => by rw [World.frozen?_setCell]; exact h.fl o, fun o => by rw [World.frozen?_setCell]; exact h.fq o, by rw [World.size_setCell]; exact h.sz⟩

theorem upd4 (R : Nat → Int) (a b c d : Int) : ∀ i, i < 4 → upd (upd (upd (upd R 0 a) 1 b) 2 c) 3 d i = [a, b, c, d].getD i 0
  | 0, _ => rfl
  | 1, _ => rfl
  | 2, _ => rfl
  | 3, _ => rfl
end

/-- Parts f of a word. -/
def fval (f : Nat → Int) : Int := val (f 0) (f 1) (f 2) (f 3)
def fws (f : Nat → Int) : Prop := Ws (f 0) (f 1) (f 2) (f 3)

/-- One round: the rest, what is left, the quotient. -/
def stepN (D : Int) (s : Int × (Nat → Int) × (Nat → Int)) (x : Pp) : Int × (Nat → Int) × (Nat → Int) :=
  ((s.1 * 18446744073709551616 + x.1.2) % D, upd s.2.1 x.1.1 0, if D ≤ s.1 * 18446744073709551616 + x.1.2 then upd s.2.2 x.1.1 ((s.1 * 18446744073709551616 + x.1.2) / D) else s.2.2)
def runN (D : Int) (m : Nat → Int) (pre : List Pp) : Int × (Nat → Int) × (Nat → Int) := pre.foldl (stepN D) (0, m, fun _ => 0)
theorem runN_snoc (D : Int) (m : Nat → Int) (pre : List Pp) (x : Pp) : runN D m (pre ++ [x]) = stepN D (runN D m pre) x := by simp [runN]

theorem runN_rest (D : Int) (hD : 0 < D) (m : Nat → Int) (pre : List Pp) : 0 ≤ (runN D m pre).1 ∧ (runN D m pre).1 < D := by
  rcases List.eq_nil_or_concat pre with rfl | ⟨p, x, rfl⟩
  · exact ⟨Int.le_refl 0, hD⟩
  · rw [List.concat_eq_append, runN_snoc]
    exact ⟨Int.emod_nonneg _ (by omega), Int.emod_lt_of_pos _ hD⟩

/-- The number of the k highest parts. -/
def top (f : Nat → Int) : Nat → Int
  | 0 => 0
  | k + 1 => top f k * 18446744073709551616 + f (11 - k)

theorem top_upd (f : Nat → Int) (p : Nat) (v : Int) : ∀ k, k ≤ 11 → p ≤ 11 - k → top (upd f p v) k = top f k
  | 0, _, _ => rfl
  | k + 1, h, hp => by
    rw [top, top, top_upd f p v k (by omega) (by omega)]
    unfold upd
    rw [if_neg (by omega)]

theorem top_all (f : Nat → Int) : top f 12 = vlong (f 0) (f 1) (f 2) (f 3) (f 4) (f 5) (f 6) (f 7) (f 8) (f 9) (f 10) (f 11) := by
  simp only [top, vlong, Nat.reduceSub]
  omega

/-- Behind k rounds. -/
theorem runN_fits (D : Int) (hD : 0 < D) (m : Nat → Int) (hm : ∀ j, Pt (m j)) : ∀ k, k ≤ 12 →
    top m k = top (runN D m (seqk m hm k)).2.2 k * D + (runN D m (seqk m hm k)).1 ∧
    (∀ j, j < 12 - k → (runN D m (seqk m hm k)).2.2 j = 0 ∧ (runN D m (seqk m hm k)).2.1 j = m j) ∧
    (∀ j, Pt ((runN D m (seqk m hm k)).2.2 j))
  | 0, _ => ⟨by simp [top, runN, seqk], fun j _ => ⟨rfl, rfl⟩, fun j => (show Pt 0 from ⟨by decide, by decide⟩)⟩
  | k + 1, h => by
    obtain ⟨i1, i2, i3⟩ := runN_fits D hD m hm k (by omega)
    have hr := runN_rest D hD m (seqk m hm k)
    rw [seqk_succ, runN_snoc]
    generalize runN D m (seqk m hm k) = s at *
    obtain ⟨r, L, Q⟩ := s
    simp only at i1 i2 i3 hr
    have hmk := hm (11 - k)
    obtain ⟨hm0, hm1⟩ := hmk
    have ex : (elt m hm k).1.1 = 11 - k := rfl
    have ey : (elt m hm k).1.2 = m (11 - k) := rfl
    simp only [stepN, ex, ey]
    have d1 := Int.mul_ediv_add_emod (r * 18446744073709551616 + m (11 - k)) D
    refine ⟨?_, ?_, ?_⟩
    · split
      · rw [top, top, top_upd _ _ _ k (by omega) (by omega), show upd Q (11 - k) ((r * 18446744073709551616 + m (11 - k)) / D) (11 - k) = (r * 18446744073709551616 + m (11 - k)) / D from if_pos rfl, i1]
        rw [Int.mul_comm D] at d1
        rw [Int.add_mul, Int.add_mul, Int.mul_right_comm]
        omega
      · rw [top, top, (i2 (11 - k) (by omega)).1, i1, Int.emod_eq_of_lt (by omega) (by omega)]
        rw [Int.add_mul, Int.mul_right_comm]
        simp only [Int.add_zero]
        omega
    · intro j hj
      have hne : ¬ j = 11 - k := by omega
      obtain ⟨q1, q2⟩ := i2 j (by omega)
      refine ⟨?_, ?_⟩
      · split
        · show upd Q (11 - k) _ j = 0
          rw [upd, if_neg hne]; exact q1
        · exact q1
      · show upd L (11 - k) 0 j = m j
        rw [upd, if_neg hne]; exact q2
    · intro j
      split
      · show Pt (upd Q (11 - k) _ j)
        unfold upd
        split
        · refine ⟨Int.ediv_nonneg (by omega) (by omega), Int.ediv_lt_of_lt_mul hD ?_⟩
          have := Int.mul_le_mul_of_nonneg_right (a := r + 1) (b := D) (c := 18446744073709551616) (by omega) (by decide)
          rw [Int.add_mul] at this
          rw [Int.mul_comm 18446744073709551616]
          omega
        · exact i3 j
      · exact i3 j

theorem top_rest (f g : Nat → Int) (D : Int) (k : Nat) (h : top f k = top g k * D) (hf : ∀ j, j < 12 - k → f j = 0) (hg : ∀ j, j < 12 - k → g j = 0) : ∀ i, k ≤ i → i ≤ 12 → top f i = top g i * D
  | 0, h1, _ => by
    obtain rfl : k = 0 := by omega
    exact h
  | i + 1, h1, h2 => by
    by_cases e : k = i + 1
    · subst e; exact h
    · rw [top, top, top_rest f g D k h hf hg i (by omega) (by omega), hf (11 - i) (by omega), hg (11 - i) (by omega)]
      rw [Int.add_zero, Int.add_zero, Int.mul_right_comm]

/-- What a division comes to: whether all rounds were made, or the rest were of nothing but 0. -/
theorem runN_all (D : Int) (hD : 0 < D) (m : Nat → Int) (hm : ∀ j, Pt (m j)) (k : Nat) (hk : k ≤ 12) (hs : k = 12 ∨ ((runN D m (seqk m hm k)).1 = 0 ∧ ∀ j, j < 12 → (runN D m (seqk m hm k)).2.1 j = 0)) :
    top m 12 = top (runN D m (seqk m hm k)).2.2 12 * D + (runN D m (seqk m hm k)).1 := by
  obtain ⟨i1, i2, i3⟩ := runN_fits D hD m hm k hk
  rcases hs with rfl | ⟨h1, h2⟩
  · exact i1
  · rw [h1, Int.add_zero] at i1 ⊢
    exact top_rest m _ D k i1 (fun j hj => by rw [← (i2 j hj).2]; exact h2 j (by omega)) (fun j hj => (i2 j hj).1) 12 hk (by omega)
end Go.Proofs.Ytgapcjdgakamoaa
