/- What the program's Pow does. No condition. -/
import Derived.Test.YteknhghmliihhaaDoorG6
namespace Go.Proofs.YteknhghmliihhaaDoor
open Go.RowKit Go.Shelf Go.Sort
attribute [local go_sem] Oper.semAt_some

theorem alloc_two (w : World) (o1 o2 : Obj) : ((w.alloc o1).alloc o2).heap[w.heap.size]? = some o1 ∧ ((w.alloc o1).alloc o2).heap[w.heap.size + 1]? = some o2 := by
  constructor
  · rw [((Below.refl _ (w.alloc o1)).alloc (Nat.le_refl _) o2).block w.heap.size (by simp)]
    exact World.alloc_heap_new w o1
  · have h := World.alloc_heap_new (w.alloc o1) o2
    simpa using h

set_option maxRecDepth 20000 in
set_option maxHeartbeats 4000000 in
theorem pow_any (a n : Nat) (ha : U64 a) (hn : U64 n) (w : World) :
    Calls Tryd.prog 63 #[.int .u64 a, .int .u64 n] w fun e w' => e = .returned (.int .u64 (pwN a n : Nat)) ∧ Below w.heap.size w w' := by
  refine (callsIn_wide (n := 9)).1 ?_
  refine callsIn_of_wp_marks Tryd.func63 rfl trivial ?_ rfl
  refine wpIn_wide.2 ?_
  simp only [Tryd.ntmps63, List.size_toArray, List.length_cons, List.length_nil, Nat.reduceAdd, Nat.reduceSub, Array.replicate_succ, Array.replicate_zero, List.push_toArray, List.append_toArray, List.nil_append, List.cons_append]
  go_wp2_with fail
  refine wp_scope_straight ?_
  go_wp2_with fail
  obtain ⟨z, hz⟩ : ∃ c, w.heap.size = c := ⟨_, rfl⟩
  have HZ : Hid (w.heap.size = z) := hz
  refine wpOf (fun W => Below z w W ∧ W.heap.size = z + 2 ∧ Bq z 22 #[.int .u64 (a : Int)] W ∧ Bq (z + 1) 22 #[.int .u64 ((1 : Nat) : Int)] W) ?_ ?_
  · have t2 := alloc_two w (.cells #[.int .u64 (a : Int)] 22) (.cells #[.int .u64 ((1 : Nat) : Int)] 22)
    rw [hz] at t2
    refine ⟨?_, by simp [hz], t2.1, t2.2⟩
    rw [← hz]
    exact ((Below.refl _ w).alloc (Nat.le_refl _) _).alloc (by simp) _
  rintro w1 ⟨BV, hs1, hA, hP⟩
  rw [hz]
  clear hz
  refine wp_label ?_
  go_wp2_with fail
  refine (digits_any n w1).mono ?_
  rintro e w2 ⟨rfl, hw2⟩
  have B2 : Below w1.heap.size w1 w2 := by rw [hw2]; exact (Below.refl _ w1).alloc (Nat.le_refl _) _
  have hcx : NumIn w1.heap.size n w2 := by rw [hw2]; exact World.alloc_heap_new w1 _
  have A2 := hA.below B2
  have P2' := hP.below B2
  have BW2 := belowStep BV (by omega) B2
  rw [hs1] at hcx ⊢
  clear hw2 B2 hA hP BV
  go_wp2_with fail
  have hxz : z + 2 < w2.heap.size := hcx.lt
  refine (wpIn_wide (n := 9)).1 ?_
  refine wpIn_rangeFunc_ownH rfl (by omega) (gf := 55) (lb := #[.pointer (some ⟨z + 2, 0, none⟩)]) rfl trivial (enters_of Tryd.func55 (by kernel_rfl) rfl)
    (digits_stops _ (z + 2) n hn w2 hcx) (fun h k => NumK.trans h k) (fun W l o o' hl h1 h2 h3 hx => (World.putObj_heap_other (by omega)).trans hx) (Below.refl _ _) (fun _ => rfl)
    (fun pre W => Bq z 22 #[.int .u64 (a : Int)] W ∧ Bq (z + 1) 22 #[.int .u64 (stP a pre : Int)] W ∧ Below z w W ∧ z + 2 < W.heap.size)
    (fun c pre W => c = .exit 0 ∧ Bq (z + 1) 22 #[.int .u64 0] W ∧ stP a pre = 0 ∧ Below z w W ∧ z + 2 < W.heap.size)
    (fun s A C row hs hg hr => ⟨hs.1.own hg (fun r e => (hr r e).2), hs.2.1.own hg (fun r e => (hr r e).2), hs.2.2.1.grown hg (by omega) (fun k e => Nat.le_trans (by omega) (hr k e).1), Nat.lt_of_lt_of_le hs.2.2.2 hg.size⟩)
    (fun c s A C row hs hg hr => ⟨hs.1, hs.2.1.own hg (fun r e => (hr r e).2), hs.2.2.1, hs.2.2.2.1.grown hg (by omega) (fun k e => Nat.le_trans (by omega) (hr k e).1), Nat.lt_of_lt_of_le hs.2.2.2.2 hg.size⟩)
    ⟨A2, P2', BW2, hxz⟩
    (fun x a' _ => a' = { tmps := #[.int .u64 a, .int .u64 n, .pointer (some ⟨z, 0, none⟩), undef, .int .u64 0, .pointer (some ⟨z + 1, 0, none⟩), .bool x, .int .u64 n, .func (.func 55) #[] #[.pointer (some ⟨z + 2, 0, none⟩)], .bool x, undef, undef, undef, undef, undef, undef, undef, undef, undef, undef, undef, undef], defers := [] })
    (fun x a' _ X Y row hs hg hr => hs)
    ?assign ?body ?done ?stop
  case assign =>
    rintro l pre x W K hI hK
    dsimp only [dEnc]
    gi_wp2
    exact hK _ _ (KeepsFrom.refl _ _) (fun h => h) hI rfl
  case body =>
    rintro l pre x a' W hl ⟨r, hr⟩ ⟨hA, hP, hB, hxW⟩ rfl hlt
    obtain ⟨p, hp⟩ : ∃ p, stP a pre = p := ⟨_, rfl⟩
    have hpU : U64 p := by rw [← hp]; exact pm_u _ (stP_lt _ _)
    have hsn := stP_snoc a pre x
    rw [hp] at hP hsn
    obtain ⟨s, hs⟩ : ∃ s, muN p p = s := ⟨_, rfl⟩
    have hsU : U64 s := by rw [← hs]; exact pm_u _ (mu_lt _ _)
    rw [hs] at hsn
    have C1 := mul_any p p hpU hpU
    rw [hs] at C1
    clear hs
    have c0 : W.cell? ⟨z + 1, 0, none⟩ = some (.int .u64 (p : Int)) := hP.cell 0
    have HH : Hid (_ ∧ _ ∧ _) := ⟨hA, hP, hB⟩
    clear hA hP hB
    gi_wp2_with fail
    refine ⟨trivial, (CallsIn.inRound l (callsIn_wide.2 (C1 _))).mono ?_⟩
    rintro e W4 ⟨rfl, B4⟩
    obtain ⟨hA, hP, hB⟩ := HH.out
    have A4 := hA.below B4
    have P4 := hP.below B4
    have BW4 := belowStep hB (by omega) B4
    have f0 := P4.fr 0
    have P5 := P4.put (.int .u64 (s : Int))
    have c5 : (W4.setCell ⟨z + 1, 0, none⟩ (.int .u64 (s : Int))).cell? ⟨z + 1, 0, none⟩ = some (.int .u64 (s : Int)) := P5.cell 0
    have hz4 := B4.size
    have c4 : W4.cell? ⟨z + 1, 0, none⟩ = some (.int .u64 (p : Int)) := P4.cell 0
    have a4 : W4.cell? ⟨z, 0, none⟩ = some (.int .u64 (a : Int)) := A4.cell 0
    have A5 := A4.other (k := z + 1) (by omega) 0 (.int .u64 (s : Int))
    have a5 : (W4.setCell ⟨z + 1, 0, none⟩ (.int .u64 (s : Int))).cell? ⟨z, 0, none⟩ = some (.int .u64 (a : Int)) := A5.cell 0
    have k5 : KeepsFrom w2.heap.size W (W4.setCell ⟨z + 1, 0, none⟩ (.int .u64 (s : Int))) := ((ko_below B4).from _).trans (ko_set _ _ _ _)
    have n5 : NumK (z + 2) n W (W4.setCell ⟨z + 1, 0, none⟩ (.int .u64 (s : Int))) := fun h => (h.below B4).other (by omega) _ _
    have b5 : Below z w (W4.setCell ⟨z + 1, 0, none⟩ (.int .u64 (s : Int))) := BW4.setCell (p := ⟨z + 1, 0, none⟩) (by show z ≤ z + 1; omega) _
    have z5 : z + 2 < (W4.setCell ⟨z + 1, 0, none⟩ (.int .u64 (s : Int))).heap.size := Nat.lt_of_lt_of_le hxW (Nat.le_trans hz4 (by simp [World.setCell]))
    have H5 : Hid (_ ∧ _ ∧ _ ∧ _ ∧ _ ∧ _) := ⟨A5, P5, k5, n5, b5, z5⟩
    clear A5 P5 k5 n5 b5 z5 A4 P4 BW4 hz4 hA hP hB B4
    by_cases hs0 : s = 0
    · subst hs0
      have hst : stP a (pre ++ [x]) = 0 := by
        rw [hsn]
        cases x with
        | false => rfl
        | true => exact mu_zero a
      rw [show ((0 : Nat) : Int) = 0 from rfl] at *
      gi_wp2
      obtain ⟨A5, P5, k5, n5, b5, z5⟩ := H5.out
      exact ⟨k5, rfl, P5, hst, b5, z5⟩
    · have hsb : ((s : Int) == 0) = false := by rw [beq_eq_false_iff_ne]; omega
      cases x with
      | false =>
        gi_wp2
        obtain ⟨A5, P5, k5, n5, b5, z5⟩ := H5.out
        refine (?_ : KeepsFrom _ W _ ∧ NumK _ _ W _ ∧ _ ∧ _ ∧ _ ∧ _)
        refine ⟨k5, n5, A5, ?_, b5, z5⟩
        rw [hsn]
        exact P5
      | true =>
        gi_wp2_with fail
        refine ⟨trivial, (CallsIn.inRound l (callsIn_wide.2 (mul_any s a hsU ha _))).mono ?_⟩
        rintro e W6 ⟨rfl, B6⟩
        obtain ⟨A5, P5, k5, n5, b5, z5⟩ := H5.out
        have P6 := P5.below B6
        have f6 := P6.fr 0
        have c6 : W6.cell? ⟨z + 1, 0, none⟩ = some (.int .u64 (s : Int)) := P6.cell 0
        gi_wp2
        refine (?_ : KeepsFrom _ W _ ∧ NumK _ _ W _ ∧ _ ∧ _ ∧ _ ∧ _)
        refine ⟨(k5.trans ((ko_below B6).from _)).trans (ko_set _ _ _ _), n5.trans (fun h => (h.below B6).other (by omega) _ _), (A5.below B6).other (by omega) _ _, ?_, (belowStep b5 (by omega) B6).setCell (p := ⟨z + 1, 0, none⟩) (by show z ≤ z + 1; omega) _, Nat.lt_of_lt_of_le z5 (Nat.le_trans B6.size (by simp [World.setCell]))⟩
        rw [hsn]
        exact P6.put _
  case done =>
    rintro D ys W hD ⟨L, hL, rfl⟩ ⟨hA, hP, hB, hxW⟩ hK
    rw [stP_all a n L hL] at hP
    have c0 : W.cell? ⟨z + 1, 0, none⟩ = some (.int .u64 (pwN a n : Int)) := hP.cell 0
    obtain ⟨v, hv⟩ : ∃ v, pwN a n = v := ⟨_, rfl⟩
    rw [hv] at c0
    go_wp2
    have hbP := belowK_b (n₀ := z) (w := w2) (by omega) W D _ (.deferred none) hD hK rfl rfl
    rw [Exit.noGoto_ret]
    refine ⟨by simp, .inl ⟨_, _, rfl, run_takeDeferred hK, ?_⟩⟩
    refine ⟨.int .u64 (v : Int), by simp [results, Tryd.results63, go_sem], by rw [hv], ?_⟩
    rw [HZ.out]
    exact hB.trans hbP
  case stop =>
    rintro D c pre W hD ⟨L, q, hL, hq, rfl⟩ ⟨rfl, hP, h0, hB, hxW⟩ hK
    have hv := stP_dead a n L q hL hq h0
    have c0 : W.cell? ⟨z + 1, 0, none⟩ = some (.int .u64 0) := hP.cell 0
    gi_wp2
    go_wp2
    have hbP := belowK_b (n₀ := z) (w := w2) (by omega) W D _ (.deferred none) hD hK rfl rfl
    rw [Exit.noGoto_ret]
    refine ⟨by simp, .inl ⟨_, _, rfl, run_takeDeferred hK, ?_⟩⟩
    refine ⟨.int .u64 0, by simp [results, Tryd.results63, go_sem], by rw [hv]; rfl, ?_⟩
    rw [HZ.out]
    exact hB.trans hbP
end Go.Proofs.YteknhghmliihhaaDoor
