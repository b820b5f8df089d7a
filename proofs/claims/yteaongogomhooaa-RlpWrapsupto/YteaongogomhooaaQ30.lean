/- Bytes read by the reference: Decode. -/
import Derived.Test.YteaongogomhooaaQ28
import Derived.Test.YteaongogomhooaaQ29
namespace Go.Proofs.Yteaongogomhooaa
open Go.RowKit Go.Shelf Go.Sort

set_option maxRecDepth 20000 in
set_option maxHeartbeats 2000000 in
theorem rdecode_any (s : ByteArray) (w : World) :
    Calls Try.prog 16 #[.string s] w fun r w' => Below w.heap.size w w' ∧ ∃ x e, r = .returned (.tuple #[x.val, .int .i64 e]) ∧ DecR s x e ∧ inMem w'.heap.size w' x := by
  have A1 : Below w.heap.size w (w.alloc (.cells #[.bool false, .string ⟨#[]⟩, .slice none 0 0] 24)) := (Below.refl _ w).alloc (Nat.le_refl _) _
  have hR0 : ItIn w.heap.size zeroI (w.alloc (.cells #[.bool false, .string ⟨#[]⟩, .slice none 0 0] 24)) := World.alloc_heap_new w _
  by_cases h0 : 65536 < s.size
  · have l0 : (65536 : Int) < s.size := by omega
    go_enter Try.func16, Try.ntmps16
    go_wp2
    refine bodyPost_ret (v := .tuple #[.agg #[.bool false, .string ⟨#[]⟩, .slice none 0 0], .int .i64 42]) (by simp [results, Try.results16, go_sem]) rfl ⟨A1, zeroI, 42, rfl, .inl ⟨h0, rfl, rfl⟩, trivial⟩
  · have l0 : ¬ (65536 : Int) < s.size := by omega
    have hs6 : s.size ≤ 65536 := by omega
    have KI := rtake_all 65536 s 0 s.size (by omega) (by omega) (Nat.le_refl _) (by omega)
    go_enter Try.func16, Try.ntmps16
    go_wp2_with fail
    refine (KI _).mono ?_
    rintro e1 w1 ⟨B1, hcase⟩
    have hR : ItIn w.heap.size zeroI w1 := (B1.block _ (by simp)).trans hR0
    have BA := belowStep A1 (by simp) B1
    rw [World.size_alloc] at hcase
    clear A1 hR0 B1 KI
    obtain ⟨bR, hbR⟩ : ∃ c, w.heap.size = c := ⟨_, rfl⟩
    have HZ : Hid (w.heap.size = bR) := hbR
    rw [hbR] at hR hcase BA ⊢
    clear hbR
    have d0 : w1.cell? ⟨bR, 0, none⟩ = some (.bool false) := by rw [Lib.cell_of_heap hR]; rfl
    have d1 : w1.cell? ⟨bR, 1, none⟩ = some (.string ⟨#[]⟩) := by rw [Lib.cell_of_heap hR]; rfl
    have d2 : w1.cell? ⟨bR, 2, none⟩ = some (.slice none 0 0) := by rw [Lib.cell_of_heap hR]; rfl
    have f0 := Lib.frozen_of_heap hR 0
    have f1 := Lib.frozen_of_heap hR 1
    have f2 := Lib.frozen_of_heap hR 2
    have hRl := hR.lt
    have HR : Hid (ItIn bR zeroI w1) := hR
    have hRne : bR ≠ w1.heap.size := by omega
    rcases hcase with ⟨hn, Y, n3, rfl⟩ | ⟨Y, t, hd, rfl, hin⟩
    · obtain ⟨yl, yt, ya, yc, yx⟩ := Y
      dsimp only [Im.val, Im.l, Im.t, Im.sl, Im.a, Im.xs, Im.c]
      have HN : Hid _ := hn
      clear hn hR
      go_wp2
      refine bodyPost_ret (v := .tuple #[.agg #[.bool false, .string ⟨#[]⟩, .slice none 0 0], .int .i64 40]) (by simp [results, Try.results16, go_sem, d0, d1, d2, hRl]) rfl ⟨?_, zeroI, 40, rfl, .inr (.inl ⟨hs6, fun y h => ?_, rfl, rfl⟩), trivial⟩
      · rw [HZ.out]
        exact (below_set (below_set (below_set BA bR 0 (Nat.le_refl _) _) bR 1 (Nat.le_refl _) _) bR 2 (Nat.le_refl _) _).alloc (by simp [World.setCell]; omega) _
      · rw [tk_all, HN.out] at h
        cases h
    · by_cases h1 : t = s.size
      · subst h1
        have hdd := (tk_all _ _ _).2 hd
        have hcy := cnt_one hdd
        have hA2 : Below w1.heap.size w1 (w1.alloc (.cells #[.bool Y.l, .string Y.t, Y.sl] 24)) := (Below.refl _ w1).alloc (Nat.le_refl _) _
        have hym : inMem w1.heap.size (w1.alloc (.cells #[.bool Y.l, .string Y.t, Y.sl] 24)) Y := inMem_below (Nat.le_refl _) hA2 Y (inMem_of (fun b hb => hb.2) Y hin)
        have KD := fun hn hm => rdeep_any 12 Y (by decide) (by omega) w1.heap.size (w1.alloc (.cells #[.bool Y.l, .string Y.t, Y.sl] 24)) hn hm
        have hdp : deep Y = dpr 12 Y := by rw [deep_er, dpr_er]
        rw [← hdp] at KD
        have c2 : ItIn w1.heap.size Y (w1.alloc (.cells #[.bool Y.l, .string Y.t, Y.sl] 24)) := World.alloc_heap_new w1 _
        obtain ⟨dp, hdp2⟩ : ∃ q, deep Y = q := ⟨_, rfl⟩
        rw [hdp2] at KD
        have HX : Hid (_ ∧ _ ∧ _ ∧ _ ∧ _ ∧ _) := ⟨hdd, BA, hin, hdp2, hA2, c2⟩
        clear hdd BA hin hdp hdp2 hd hR hA2 c2 hcy
        obtain ⟨yl, yt, ya, yc, yx⟩ := Y
        dsimp only [Im.val, Im.l, Im.t, Im.sl, Im.a, Im.xs, Im.c] at KD hym ⊢
        go_wp2_with fail
        refine (KD (by simp) hym).mono ?_
        rintro e2 w2 ⟨rfl, B2⟩
        obtain ⟨hdd, BA, hin, hdp2, hA2, c2⟩ := HX.out
        dsimp only [Im.val, Im.l, Im.t, Im.sl, Im.a, Im.xs, Im.c] at hA2 c2
        have BB := belowStep hA2 (by simp) B2
        have e0 := (BB.cell (p := ⟨bR, 0, none⟩) hRl).trans d0
        have e1 := (BB.cell (p := ⟨bR, 1, none⟩) hRl).trans d1
        have e2 := (BB.cell (p := ⟨bR, 2, none⟩) hRl).trans d2
        have hR2 : ItIn bR zeroI w2 := (BB.block _ hRl).trans HR.out
        have g0 := Lib.frozen_of_heap hR2 0
        have g1 := Lib.frozen_of_heap hR2 1
        have g2 := Lib.frozen_of_heap hR2 2
        have c3 : ItIn w1.heap.size (.mk yl yt ya yc yx) w2 := (B2.block _ (by simp)).trans c2
        have m0 : w2.cell? ⟨w1.heap.size, 0, none⟩ = some (.bool yl) := by rw [Lib.cell_of_heap c3]; rfl
        have m1 : w2.cell? ⟨w1.heap.size, 1, none⟩ = some (.string yt) := by rw [Lib.cell_of_heap c3]; rfl
        have m2 : w2.cell? ⟨w1.heap.size, 2, none⟩ = some (.slice ya yx.length yc) := by rw [Lib.cell_of_heap c3]; rfl
        have HY : Hid _ := BB
        clear hdd BA hin hdp2 hA2 c2 BB hR2 c3 B2 d0 d1 d2 f0 f1 f2 KD hym
        have hne2 : w1.heap.size ≠ bR := by omega
        cases dp with
        | true =>
          go_wp2
          obtain ⟨hdd, BA, hin, hdp2, -, -⟩ := HX.out
          refine bodyPost_ret (v := .tuple #[.agg #[.bool false, .string ⟨#[]⟩, .slice none 0 0], .int .i64 41]) (by simp [results, Try.results16, go_sem, e0, e1, e2]) rfl ⟨?_, zeroI, 41, rfl, .inr (.inr ⟨hs6, _, hdd, .inl ⟨hdp2, rfl, rfl⟩⟩), trivial⟩
          rw [HZ.out]
          exact below_set (below_set (below_set (belowStep BA (by omega) HY.out) bR 0 (Nat.le_refl _) _) bR 1 (Nat.le_refl _) _) bR 2 (Nat.le_refl _) _
        | false =>
          go_wp2
          obtain ⟨hdd, BA, hin, hdp2, -, -⟩ := HX.out
          refine bodyPost_ret (v := .tuple #[.agg #[.bool yl, .string yt, .slice ya yx.length yc], .int .i64 0]) (by simp [results, Try.results16, go_sem, e0, e1, e2]) rfl ⟨?_, .mk yl yt ya yc yx, 0, rfl, .inr (.inr ⟨hs6, _, hdd, .inr ⟨hdp2, rfl, rfl⟩⟩), ?_⟩
          · rw [HZ.out]
            exact below_set (below_set (below_set (belowStep BA (by omega) HY.out) bR 0 (Nat.le_refl _) _) bR 1 (Nat.le_refl _) _) bR 2 (Nat.le_refl _) _
          · refine inMem_of (p := fun b => bR + 1 ≤ b ∧ b < w1.heap.size) (fun b hb => by have := hb.2; have := HY.out.size; simp [World.setCell]; omega) _ (inP_of ?_ _ hin)
            intro b hb
            refine ⟨hb, fun j => ?_⟩
            rw [cell_ne _ _ _ _ _ (by show b ≠ bR; omega), cell_ne _ _ _ _ _ (by show b ≠ bR; omega), cell_ne _ _ _ _ _ (by show b ≠ bR; omega)]
            exact HY.out.cell (p := ⟨b, j, none⟩) hb.2
      · obtain ⟨yl, yt, ya, yc, yx⟩ := Y
        dsimp only [Im.val, Im.l, Im.t, Im.sl, Im.a, Im.xs, Im.c]
        have l1 : ¬ (t : Int) = s.size := by omega
        have l2 : ((t : Int) == s.size) = false := by rw [beq_eq_false_iff_ne]; exact l1
        have HN : Hid _ := hd
        clear hd hR hin
        go_wp2
        refine bodyPost_ret (v := .tuple #[.agg #[.bool false, .string ⟨#[]⟩, .slice none 0 0], .int .i64 40]) (by simp [results, Try.results16, go_sem, d0, d1, d2, hRl]) rfl ⟨?_, zeroI, 40, rfl, .inr (.inl ⟨hs6, fun y h => ?_, rfl, rfl⟩), trivial⟩
        · rw [HZ.out]
          exact (below_set (below_set (below_set BA bR 0 (Nat.le_refl _) _) bR 1 (Nat.le_refl _) _) bR 2 (Nat.le_refl _) _).alloc (by simp [World.setCell]; omega) _
        · rw [tk_all, HN.out] at h
          injection h with h
          injection h with _ h
          exact h1 h
end Go.Proofs.Yteaongogomhooaa
