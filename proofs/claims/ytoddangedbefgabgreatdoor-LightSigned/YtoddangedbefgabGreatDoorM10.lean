/- Lemmas: What the program's Pow2, Inv2 do. No condition. Lines and pairings, pure; those of a few multiples of the generator, in the kernel. No condition. -/
import Derived.Test.YtoddangedbefgabGreatDoorM8
set_option maxRecDepth 20000
set_option maxHeartbeats 4000000
namespace Go.Proofs.YtoddangedbefgabGreatDoor
open Go.RowKit Go.Shelf Go.Sort
attribute [local go_sem] Oper.semAt_some
def stQ (a : P2) (l : List Bool) : P2 := l.foldl (fun p b => if b then m2 (m2 p p) a else m2 p p) o2
theorem stQ_snoc (a : P2) (l : List Bool) (b : Bool) : stQ a (l ++ [b]) = if b then m2 (m2 (stQ a l) (stQ a l)) a else m2 (stQ a l) (stQ a l) := by unfold stQ; rw [List.foldl_append]; rfl
theorem stQ_bits (a : P2) (n L : Nat) (h : n < 2 ^ L) : ∀ q, q ≤ L → stQ a (jbe n L q) = q2 a (n / 2 ^ (L - q))
 | 0, _ => by
  rw [Nat.sub_zero, Nat.div_eq_of_lt h, q2_0]
  rfl
 | q + 1, hq => by
  rw [jcf, stQ_snoc, stQ_bits a n L h q (by omega)]
  have := q2_step a n (L - (q + 1))
  rw [show L - (q + 1) + 1 = L - q by omega] at this
  rw [this]
  unfold jeu
  rw [show L - 1 - q = L - (q + 1) by omega]
  simp only [beq_iff_eq]
theorem stQ_u (a : P2) (l : List Bool) : UP (stQ a l) := by
 rcases List.eq_nil_or_concat l with rfl | ⟨l', b, rfl⟩
 ·exact ⟨(by show 1 < 18446744073709551616; decide), (by show 0 < 18446744073709551616; decide)⟩
 ·rw [List.concat_eq_append, stQ_snoc]
  split
  ·exact m2_u _ _
  ·exact m2_u _ _
theorem q2_stays (a : P2) (n : Nat) : ∀ k, q2 a (n / 2 ^ k) = z2 → q2 a n = z2
 | 0, h => by rw [Nat.pow_zero, Nat.div_one] at h; exact h
 | k + 1, h => by
  refine q2_stays a n k ?_
  rw [q2_step, h, m2_zero, m2_zero]
  simp
theorem stQ_all (a : P2) (n L : Nat) (h : n < 2 ^ L) : stQ a (jbe n L L) = q2 a n := by rw [stQ_bits a n L h L (Nat.le_refl _), Nat.sub_self, Nat.pow_zero, Nat.div_one]
theorem stQ_dead (a : P2) (n L q : Nat) (h : n < 2 ^ L) (hq : q ≤ L) (h0 : stQ a (jbe n L q) = z2) : q2 a n = z2 := q2_stays a n (L - q) (by rw [← stQ_bits a n L h q hq]; exact h0)
abbrev cP (a : P2) : Array Value := #[.int .u64 (a.A : Int), .int .u64 (a.B : Int)]
abbrev sP (n : Nat) (a : P2) (W : World) : World := (W.setCell ⟨n, 0, none⟩ (.int .u64 (a.A : Int))).setCell ⟨n, 1, none⟩ (.int .u64 (a.B : Int))
theorem pow2_any (a : P2) (n : Nat) (ha : UP a) (hn : U64 n) (w : World) :
  Calls Tryz.prog 177 #[vP a, .int .u64 n] w fun e w' => e = .returned (vP (q2 a n)) ∧ Below w.heap.size w w' := by
 refine (callsIn_wide (n := 9)).1 ?_
 refine callsIn_of_wp_marks Tryz.func177 rfl trivial ?_ rfl
 refine wpIn_wide.2 ?_
 simp only [Tryz.ntmps177, List.size_toArray, List.length_cons, List.length_nil, Nat.reduceAdd, Nat.reduceSub, Array.replicate_succ, Array.replicate_zero, List.push_toArray, List.append_toArray, List.nil_append, List.cons_append]
 go_wp2_with fail
 refine wp_scope_straight ?_
 go_wp2_with fail
 obtain ⟨z, hz⟩ : ∃ c, w.heap.size = c := ⟨_, rfl⟩
 have HZ : Hid (w.heap.size = z) := hz
 refine wpOf (fun W => Below z w W ∧ W.heap.size = z + 3 ∧ Bq z 111 (cP a) W ∧ Bq (z + 1) 111 (cP z2) W ∧ Bq (z + 1 + 1) 111 (cP o2) W) ?_ ?_
 ·have t2 := jbw w (.cells (cP a) 111) (.cells (cP z2) 111)
  have t3 := jbw (w.alloc (.cells (cP a) 111)) (.cells (cP z2) 111) (.cells (cP o2) 111)
  rw [hz] at t2
  rw [World.size_alloc, hz] at t3
  have b3 : Below ((w.alloc (.cells (cP a) 111)).alloc (.cells (cP z2) 111)).heap.size ((w.alloc (.cells (cP a) 111)).alloc (.cells (cP z2) 111)) (((w.alloc (.cells (cP a) 111)).alloc (.cells (cP z2) 111)).alloc (.cells (cP o2) 111)) := (Below.refl _ _).alloc (Nat.le_refl _) _
  refine ⟨?_, by simp [hz], (b3.block z (by simp [hz]; omega)).trans t2.1, t3.1, t3.2⟩
  rw [← hz]
  exact (((Below.refl _ w).alloc (Nat.le_refl _) _).alloc (by simp) _).alloc (by simp; omega) _
 rintro w1 ⟨BV, hs1, hA, hR, hP⟩
 rw [hz]
 clear hz
 refine wp_label ?_
 go_wp2_with fail
 refine (digits_any n w1).mono ?_
 rintro e w2 ⟨rfl, hw2⟩
 have B2 : Below w1.heap.size w1 w2 := by rw [hw2]; exact (Below.refl _ w1).alloc (Nat.le_refl _) _
 have hcx : NumIn w1.heap.size n w2 := by rw [hw2]; exact World.alloc_heap_new w1 _
 have A2 := hA.below B2
 have R2 := hR.below B2
 have P2' := hP.below B2
 have BW2 := jaa BV (by omega) B2
 rw [hs1] at hcx ⊢
 clear hw2 B2 hA hP hR BV
 go_wp2_with fail
 have hxz : z + 3 < w2.heap.size := hcx.lt
 refine (wpIn_wide (n := 9)).1 ?_
 refine wpIn_rangeFunc_ownH rfl (by omega) (gf := 195) (lb := #[.pointer (some ⟨z + 3, 0, none⟩)]) rfl trivial (enters_of Tryz.func195 (by kernel_rfl) rfl)
  (jhh _ (z + 3) n hn w2 hcx) (fun h k => NumK.trans h k) (fun W l o o' hl h1 h2 h3 hx => (World.putObj_heap_other (by omega)).trans hx) (Below.refl _ _) (fun _ => rfl)
  (fun pre W => Bq z 111 (cP a) W ∧ Bq (z + 1) 111 (cP z2) W ∧ Bq (z + 1 + 1) 111 (cP (stQ a pre)) W ∧ Below z w W ∧ z + 3 < W.heap.size)
  (fun c pre W => c = .exit 0 ∧ Bq (z + 1) 111 (cP z2) W ∧ Bq (z + 1 + 1) 111 (cP z2) W ∧ stQ a pre = z2 ∧ Below z w W ∧ z + 3 < W.heap.size)
  (fun s A C row hs hg hr => ⟨hs.1.own hg (fun r e => (hr r e).2), hs.2.1.own hg (fun r e => (hr r e).2), hs.2.2.1.own hg (fun r e => (hr r e).2), hs.2.2.2.1.grown hg (by omega) (fun k e => Nat.le_trans (by omega) (hr k e).1), Nat.lt_of_lt_of_le hs.2.2.2.2 hg.size⟩)
  (fun c s A C row hs hg hr => ⟨hs.1, hs.2.1.own hg (fun r e => (hr r e).2), hs.2.2.1.own hg (fun r e => (hr r e).2), hs.2.2.2.1, hs.2.2.2.2.1.grown hg (by omega) (fun k e => Nat.le_trans (by omega) (hr k e).1), Nat.lt_of_lt_of_le hs.2.2.2.2.2 hg.size⟩)
  ⟨A2, R2, P2', BW2, hxz⟩
  (fun x a' _ => a' = { tmps := #[vP a, .int .u64 n, .pointer (some ⟨z, 0, none⟩), undef, .pointer (some ⟨z + 1, 0, none⟩), .pointer (some ⟨z + 1 + 1, 0, none⟩), .bool x, .agg #[.int .u64 1, .int .u64 0], .int .u64 n, .func (.func 195) #[] #[.pointer (some ⟨z + 3, 0, none⟩)], .bool x, undef, undef, undef, undef, undef, undef, undef, undef, undef, undef, undef, undef, undef], defers := [] })
  (fun x a' _ X Y row hs hg hr => hs)
  ?assign ?body ?done ?stop
 case assign =>
  rintro l pre x W K hI hK
  dsimp only [dEnc]
  gi_wp2
  exact hK _ _ (KeepsFrom.refl _ _) (fun h => h) hI rfl
 case body =>
  rintro l pre x a' W hl ⟨r, hr⟩ ⟨hA, hR, hP, hB, hxW⟩ rfl hlt
  obtain ⟨p, hp⟩ : ∃ p, stQ a pre = p := ⟨_, rfl⟩
  have hpU : UP p := by rw [← hp]; exact stQ_u _ _
  have hsn := stQ_snoc a pre x
  rw [hp] at hP hsn
  obtain ⟨s, hs⟩ : ∃ s, m2 p p = s := ⟨_, rfl⟩
  have hsU : UP s := by rw [← hs]; exact m2_u _ _
  rw [hs] at hsn
  have C1 := jfa p p hpU hpU
  rw [hs] at C1
  clear hs
  have c0 : W.cell? ⟨z + 1 + 1, 0, none⟩ = some (.int .u64 (p.A : Int)) := hP.cell 0
  have c1 : W.cell? ⟨z + 1 + 1, 1, none⟩ = some (.int .u64 (p.B : Int)) := hP.cell 1
  have HH : Hid (_ ∧ _ ∧ _ ∧ _) := ⟨hA, hR, hP, hB⟩
  clear hA hP hB hR
  gi_wp2_with fail
  refine ⟨trivial, (CallsIn.inRound l (callsIn_wide.2 (C1 _))).mono ?_⟩
  rintro e W4 ⟨rfl, B4⟩
  obtain ⟨hA, hR, hP, hB⟩ := HH.out
  have A4 := hA.below B4
  have R4' := hR.below B4
  have P4 := hP.below B4
  have BW4 := jaa hB (by omega) B4
  have f0 := P4.fr 0
  have f1 := P4.fr 1
  have d0 : W4.cell? ⟨z + 1 + 1, 0, none⟩ = some (.int .u64 (p.A : Int)) := P4.cell 0
  have d1 : W4.cell? ⟨z + 1 + 1, 1, none⟩ = some (.int .u64 (p.B : Int)) := P4.cell 1
  have e0 : W4.cell? ⟨z, 0, none⟩ = some (.int .u64 (a.A : Int)) := A4.cell 0
  have e1 : W4.cell? ⟨z, 1, none⟩ = some (.int .u64 (a.B : Int)) := A4.cell 1
  have P5 : Bq _ _ _ (sP (z + 1 + 1) s W4) := P4.put2 (.int .u64 (s.A : Int)) (.int .u64 (s.B : Int))
  have A5 : Bq _ _ _ (sP (z + 1 + 1) s W4) := (A4.other (k := z + 1 + 1) (by omega) 0 (.int .u64 (s.A : Int))).other (k := z + 1 + 1) (by omega) 1 (.int .u64 (s.B : Int))
  have rV5 : Bq _ _ _ (sP (z + 1 + 1) s W4) := (R4'.other (k := z + 1 + 1) (by omega) 0 (.int .u64 (s.A : Int))).other (k := z + 1 + 1) (by omega) 1 (.int .u64 (s.B : Int))
  have k5 : KeepsFrom w2.heap.size W (sP (z + 1 + 1) s W4) := (((jbm B4).from _).trans (jdb _ _ _ _)).trans (jdb _ _ _ _)
  have n5 : NumK (z + 3) n W (sP (z + 1 + 1) s W4) := fun h => ((h.below B4).other (by omega) _ _).other (by omega) _ _
  have b5 : Below z w (sP (z + 1 + 1) s W4) := (BW4.setCell (p := ⟨z + 1 + 1, 0, none⟩) (by show z ≤ z + 1 + 1; omega) _).setCell (p := ⟨z + 1 + 1, 1, none⟩) (by show z ≤ z + 1 + 1; omega) _
  have z5 : z + 3 < (sP (z + 1 + 1) s W4).heap.size := Nat.lt_of_lt_of_le hxW (Nat.le_trans B4.size (by simp [World.setCell]))
  have H5 : Hid (_ ∧ _ ∧ _ ∧ _ ∧ _ ∧ _ ∧ _) := ⟨A5, rV5, P5, k5, n5, b5, z5⟩
  clear A5 P5 rV5 k5 n5 b5 z5 A4 P4 R4' BW4 hA hP hB hR B4
  obtain ⟨sA, sB⟩ := s
  by_cases hA0 : sA = 0
  ·subst hA0
   by_cases hB0 : sB = 0
   ·subst hB0
    have hst : stQ a (pre ++ [x]) = z2 := by
     rw [hsn]
     cases x with
     | false => rfl
     | true => exact m2_zero a
    gi_wp2
    obtain ⟨A5, rV5, P5, k5, n5, b5, z5⟩ := H5.out
    exact ⟨k5, rfl, rV5, P5, hst, b5, z5⟩
   ·have hi : ¬ (sB : Int) = 0 := by omega
    have hsb : ((sB : Int) == 0) = false := by rw [beq_eq_false_iff_ne]; omega
    cases x with
    | false =>
     gi_wp2
     obtain ⟨A5, rV5, P5, k5, n5, b5, z5⟩ := H5.out
     refine (?_ : KeepsFrom _ W _ ∧ NumK _ _ W _ ∧ _ ∧ _ ∧ _ ∧ _ ∧ _)
     refine ⟨k5, n5, A5, rV5, ?_, b5, z5⟩
     rw [hsn]
     exact P5
    | true =>
     have C2 := jfa ⟨0, sB⟩ a hsU ha
     obtain ⟨u, hu⟩ : ∃ u, m2 ⟨0, sB⟩ a = u := ⟨_, rfl⟩
     rw [hu] at C2 hsn
     gi_wp2_with fail
     refine ⟨trivial, (CallsIn.inRound l (callsIn_wide.2 (C2 _))).mono ?_⟩
     rintro e W6 ⟨rfl, B6⟩
     obtain ⟨A5, rV5, P5, k5, n5, b5, z5⟩ := H5.out
     have P6 := P5.below B6
     have f6 := P6.fr 0
     have f7 := P6.fr 1
     have g6 := P6.cell 0
     have g7 := P6.cell 1
     have H6 : Hid (_ ∧ _ ∧ _ ∧ _ ∧ _ ∧ _ ∧ _ ∧ _) := ⟨A5, rV5, P6, k5, n5, b5, z5, B6⟩
     clear A5 rV5 P6 k5 n5 b5 z5 B6 P5
     gi_wp2
     obtain ⟨A5, rV5, P6, k5, n5, b5, z5, B6⟩ := H6.out
     refine (?_ : KeepsFrom _ W _ ∧ NumK _ _ W _ ∧ _ ∧ _ ∧ _ ∧ _ ∧ _)
     refine ⟨((k5.trans ((jbm B6).from _)).trans (jdb _ _ _ _)).trans (jdb _ _ _ _), n5.trans (fun h => ((h.below B6).other (by omega) _ _).other (by omega) _ _), ((A5.below B6).other (by omega) _ _).other (by omega) _ _, ((rV5.below B6).other (by omega) _ _).other (by omega) _ _, ?_, ((jaa b5 (by omega) B6).setCell (p := ⟨z + 1 + 1, 0, none⟩) (by show z ≤ z + 1 + 1; omega) _).setCell (p := ⟨z + 1 + 1, 1, none⟩) (by show z ≤ z + 1 + 1; omega) _, Nat.lt_of_lt_of_le z5 (Nat.le_trans B6.size (by simp [World.setCell]))⟩
     rw [hsn]
     exact P6.put2 _ _
  ·have hi : ¬ (sA : Int) = 0 := by omega
   have hsb : ((sA : Int) == 0) = false := by rw [beq_eq_false_iff_ne]; omega
   cases x with
   | false =>
    gi_wp2
    obtain ⟨A5, rV5, P5, k5, n5, b5, z5⟩ := H5.out
    refine (?_ : KeepsFrom _ W _ ∧ NumK _ _ W _ ∧ _ ∧ _ ∧ _ ∧ _ ∧ _)
    refine ⟨k5, n5, A5, rV5, ?_, b5, z5⟩
    rw [hsn]
    exact P5
   | true =>
    have C2 := jfa ⟨sA, sB⟩ a hsU ha
    obtain ⟨u, hu⟩ : ∃ u, m2 ⟨sA, sB⟩ a = u := ⟨_, rfl⟩
    rw [hu] at C2 hsn
    gi_wp2_with fail
    refine ⟨trivial, (CallsIn.inRound l (callsIn_wide.2 (C2 _))).mono ?_⟩
    rintro e W6 ⟨rfl, B6⟩
    obtain ⟨A5, rV5, P5, k5, n5, b5, z5⟩ := H5.out
    have P6 := P5.below B6
    have f6 := P6.fr 0
    have f7 := P6.fr 1
    have g6 := P6.cell 0
    have g7 := P6.cell 1
    have H6 : Hid (_ ∧ _ ∧ _ ∧ _ ∧ _ ∧ _ ∧ _ ∧ _) := ⟨A5, rV5, P6, k5, n5, b5, z5, B6⟩
    clear A5 rV5 P6 k5 n5 b5 z5 B6 P5
    gi_wp2
    obtain ⟨A5, rV5, P6, k5, n5, b5, z5, B6⟩ := H6.out
    refine (?_ : KeepsFrom _ W _ ∧ NumK _ _ W _ ∧ _ ∧ _ ∧ _ ∧ _ ∧ _)
    refine ⟨((k5.trans ((jbm B6).from _)).trans (jdb _ _ _ _)).trans (jdb _ _ _ _), n5.trans (fun h => ((h.below B6).other (by omega) _ _).other (by omega) _ _), ((A5.below B6).other (by omega) _ _).other (by omega) _ _, ((rV5.below B6).other (by omega) _ _).other (by omega) _ _, ?_, ((jaa b5 (by omega) B6).setCell (p := ⟨z + 1 + 1, 0, none⟩) (by show z ≤ z + 1 + 1; omega) _).setCell (p := ⟨z + 1 + 1, 1, none⟩) (by show z ≤ z + 1 + 1; omega) _, Nat.lt_of_lt_of_le z5 (Nat.le_trans B6.size (by simp [World.setCell]))⟩
    rw [hsn]
    exact P6.put2 _ _
 case done =>
  rintro D ys W hD ⟨L, hL, rfl⟩ ⟨hA, hR, hP, hB, hxW⟩ hK
  rw [stQ_all a n L hL] at hP
  obtain ⟨v, hv⟩ : ∃ v, q2 a n = v := ⟨_, rfl⟩
  rw [hv] at hP
  have c0 : W.cell? ⟨z + 1 + 1, 0, none⟩ = some (.int .u64 (v.A : Int)) := hP.cell 0
  have c1 : W.cell? ⟨z + 1 + 1, 1, none⟩ = some (.int .u64 (v.B : Int)) := hP.cell 1
  have d0 : W.cell? ⟨z + 1, 0, none⟩ = some (.int .u64 0) := hR.cell 0
  have d1 : W.cell? ⟨z + 1, 1, none⟩ = some (.int .u64 0) := hR.cell 1
  have f0 := hR.fr 0
  have f1 := hR.fr 1
  have hK' : (sP (z + 1) v W).heap[D]? = some (.deferred (some [])) := by
   show ((W.setCell _ _).setCell _ _).heap[D]? = _
   rw [Below.heap_setCell _ _ _ _ (show D ≠ z + 1 by omega), Below.heap_setCell _ _ _ _ (show D ≠ z + 1 by omega)]
   exact hK
  have hBx : Below z w (sP (z + 1) v W) := (hB.setCell (p := ⟨z + 1, 0, none⟩) (by show z ≤ z + 1; omega) _).setCell (p := ⟨z + 1, 1, none⟩) (by show z ≤ z + 1; omega) _
  have R9' : Bq (z + 1) 111 (cP v) ((sP (z + 1) v W).putObj D (.deferred none)) := (World.putObj_heap_other (by omega)).trans (hR.put2 (.int .u64 (v.A : Int)) (.int .u64 (v.B : Int)))
  have H8 : Hid (_ ∧ _ ∧ _) := ⟨hK', hBx, R9'⟩
  clear hK' hBx R9'
  go_wp2
  obtain ⟨hK', hBx, R9'⟩ := H8.out
  have r0 := R9'.cell 0
  have r1 := R9'.cell 1
  have hbP := belowK_b (n₀ := z) (w := w2) (by omega) (sP (z + 1) v W) D _ (.deferred none) hD hK' rfl rfl
  rw [Exit.noGoto_ret]
  refine ⟨by simp, .inl ⟨_, _, rfl, run_takeDeferred hK', ?_⟩⟩
  refine ⟨vP v, by simp [results, Tryz.results177, go_sem, *], by rw [hv], ?_⟩
  rw [HZ.out]
  exact hBx.trans hbP
 case stop =>
  rintro D c pre W hD ⟨L, q, hL, hq, rfl⟩ ⟨rfl, hR, hP, h0, hB, hxW⟩ hK
  have hv := stQ_dead a n L q hL hq h0
  have c0 : W.cell? ⟨z + 1 + 1, 0, none⟩ = some (.int .u64 0) := hP.cell 0
  have c1 : W.cell? ⟨z + 1 + 1, 1, none⟩ = some (.int .u64 0) := hP.cell 1
  have d0 : W.cell? ⟨z + 1, 0, none⟩ = some (.int .u64 0) := hR.cell 0
  have d1 : W.cell? ⟨z + 1, 1, none⟩ = some (.int .u64 0) := hR.cell 1
  have f0 := hR.fr 0
  have f1 := hR.fr 1
  have hK' : (sP (z + 1) z2 W).heap[D]? = some (.deferred (some [])) := by
   show ((W.setCell _ _).setCell _ _).heap[D]? = _
   rw [Below.heap_setCell _ _ _ _ (show D ≠ z + 1 by omega), Below.heap_setCell _ _ _ _ (show D ≠ z + 1 by omega)]
   exact hK
  have hBx : Below z w (sP (z + 1) z2 W) := (hB.setCell (p := ⟨z + 1, 0, none⟩) (by show z ≤ z + 1; omega) _).setCell (p := ⟨z + 1, 1, none⟩) (by show z ≤ z + 1; omega) _
  have R9' : Bq (z + 1) 111 (cP z2) ((sP (z + 1) z2 W).putObj D (.deferred none)) := (World.putObj_heap_other (by omega)).trans (hR.put2 (.int .u64 (z2.A : Int)) (.int .u64 (z2.B : Int)))
  have H8 : Hid (_ ∧ _ ∧ _) := ⟨hK', hBx, R9'⟩
  clear hK' hBx R9'
  gi_wp2
  go_wp2
  obtain ⟨hK', hBx, R9'⟩ := H8.out
  have r0 : (((W.setCell ⟨z + 1, 0, none⟩ (.int .u64 0)).setCell ⟨z + 1, 1, none⟩ (.int .u64 0)).putObj D (.deferred none)).cell? ⟨z + 1, 0, none⟩ = some (.int .u64 0) := R9'.cell 0
  have r1 : (((W.setCell ⟨z + 1, 0, none⟩ (.int .u64 0)).setCell ⟨z + 1, 1, none⟩ (.int .u64 0)).putObj D (.deferred none)).cell? ⟨z + 1, 1, none⟩ = some (.int .u64 0) := R9'.cell 1
  have hbP := belowK_b (n₀ := z) (w := w2) (by omega) (sP (z + 1) z2 W) D _ (.deferred none) hD hK' rfl rfl
  rw [Exit.noGoto_ret]
  refine ⟨by simp, .inl ⟨_, _, rfl, run_takeDeferred hK', ?_⟩⟩
  refine ⟨.agg #[.int .u64 0, .int .u64 0], by simp [results, Tryz.results177, go_sem, *], by rw [hv]; rfl, ?_⟩
  rw [HZ.out]
  exact hBx.trans hbP
end Go.Proofs.YtoddangedbefgabGreatDoor
namespace Go.Proofs.YtoddangedbefgabGreatDoor
open Go.RowKit
def lnA (s t q : Pt) : P2 := if s = iN ∨ t = iN ∨ t = ngN s then o2 else ⟨sbN (muN (slN s t) (adN s.X q.X)) s.Y, q.Y⟩
theorem lnA_u (s t q : Pt) (hq : U64 q.X ∧ U64 q.Y) : UP (lnA s t q) := by
 unfold lnA
 split
 ·exact ⟨by decide, by decide⟩
 ·exact ⟨pm_u _ (jde _ _), hq.2⟩
def gst (p q : Pt) (s : P2 × Pt) (b : Bool) : P2 × Pt :=
 if b then (m2 (m2 (m2 s.1 s.1) (lnA s.2 s.2 q)) (lnA (smN s.2 s.2) p q), smN (smN s.2 s.2) p) else (m2 (m2 s.1 s.1) (lnA s.2 s.2 q), smN s.2 s.2)
def stG (p q : Pt) (l : List Bool) : P2 × Pt := l.foldl (gst p q) (o2, p)
theorem stG_snoc (p q : Pt) (l : List Bool) (b : Bool) : stG p q (l ++ [b]) = gst p q (stG p q l) b := by unfold stG; rw [List.foldl_append]; rfl
theorem gst_on {p q : Pt} (hp : onN p = true) (s : P2 × Pt) (hs : onN s.2 = true) (b : Bool) : onN (gst p q s b).2 = true := by
 unfold gst
 cases b
 ·exact jee hs hs
 ·exact jee (jee hs hs) hp
theorem gst_u (p q : Pt) (s : P2 × Pt) (b : Bool) : UP (gst p q s b).1 := by
 unfold gst
 cases b
 ·exact m2_u _ _
 ·exact m2_u _ _
theorem stG_ok {p q : Pt} (hp : onN p = true) (l : List Bool) : onN (stG p q l).2 = true ∧ UP (stG p q l).1 := by
 have : ∀ (l : List Bool) (s : P2 × Pt), onN s.2 = true → UP s.1 → onN (l.foldl (gst p q) s).2 = true ∧ UP (l.foldl (gst p q) s).1 := by
  intro l
  induction l with
  | nil => intro s h1 h2; exact ⟨h1, h2⟩
  | cons b l ih => intro s h1 h2; rw [List.foldl_cons]; exact ih _ (gst_on hp s h1 b) (gst_u p q s b)
 exact this l (o2, p) hp (show UP o2 from ⟨by decide, by decide⟩)
def gaN (p q : Pt) : P2 := (stG p q (jbe 536870717 28 28)).1
def prN (p q : Pt) : P2 := if p = iN ∨ q = iN then o2 else q2 (gaN p q) 8589931464
/- In the kernel: numbers are reckoned first. -/
end Go.Proofs.YtoddangedbefgabGreatDoor
