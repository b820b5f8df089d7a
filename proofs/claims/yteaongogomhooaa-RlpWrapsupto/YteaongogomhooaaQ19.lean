/- Bytes read: Decode. -/
import Derived.Test.YteaongogomhooaaQ18
namespace Go.Proofs.Yteaongogomhooaa
open Go.RowKit Go.Shelf Go.Sort

theorem ps_mem : ∀ (N : Nat) (s : ByteArray), s.size ≤ N → ∀ e, e ∈ ps s → e.2.size ≤ s.size ∧ (e.1 = 2 → e.2.size < s.size)
  | N, s, h, e, he => by
    rw [ps_eq] at he
    split at he
    · cases he
    · split at he
      · simp at he
        subst he
        exact ⟨Nat.zero_le _, fun h => by cases h⟩
      · rename_i h0 h1
        have h2 := cutK_lt s (by omega) h1
        rcases List.mem_cons.1 he with he | he
        · obtain ⟨q1, q2, q3⟩ := h2
          generalize (cutK s).1 = a1 at *
          generalize (cutK s).2.1 = a2 at *
          subst he
          exact ⟨q1, q2⟩
        · match N, h with
          | 0, h => omega
          | N + 1, h =>
            have := ps_mem N (cutK s).2.2 (by omega) e he
            exact ⟨by omega, fun h => by have := this.2 h; omega⟩

theorem itemsOf_all : ∀ (N : Nat) (s : ByteArray), s.size ≤ N → s.size < 1000000 → ∀ w : World, Calls Try.prog 33 #[.string s] w fun r w' => Below w.heap.size w w' ∧
      ((decF (N + 1) s = none ∧ r = .returned (.tuple #[.slice none 0 0, .bool false])) ∨ ∃ a c ys, decF (N + 1) s = some (ers ys) ∧ r = .returned (.tuple #[.slice a ys.length c, .bool true]) ∧ rowP (fun b => w.heap.size ≤ b ∧ b < w'.heap.size) w' a 0 ys)
  | 0, s, h, h2, w => itemsOf_of 0 s h2 (fun e he hk w' => by
      have := (ps_mem s.size s (Nat.le_refl _) e he).2 hk
      omega) (fun e he => by have := (ps_mem s.size s (Nat.le_refl _) e he).1; omega) w
  | N + 1, s, h, h2, w => itemsOf_of (N + 1) s h2 (fun e he hk w' => by
      have := (ps_mem s.size s (Nat.le_refl _) e he).2 hk
      exact itemsOf_all N e.2 (by omega) (by omega) w') (fun e he => by have := (ps_mem s.size s (Nat.le_refl _) e he).1; omega) w

def zeroI : Im := .mk false ⟨#[]⟩ none 0 []
/-- What Decode answers. -/
def DecR (s : ByteArray) (x : Im) (e : Int) : Prop :=
  (65536 < s.size ∧ e = 42 ∧ x = zeroI) ∨ (s.size ≤ 65536 ∧ (∀ y, decF 65537 s ≠ some [y]) ∧ e = 40 ∧ x = zeroI) ∨
    (s.size ≤ 65536 ∧ ∃ y : Im, decF 65537 s = some [er y] ∧ ((deep y = true ∧ e = 41 ∧ x = zeroI) ∨ (deep y = false ∧ e = 0 ∧ x = y)))

set_option maxRecDepth 20000 in
set_option maxHeartbeats 2000000 in
theorem decode_any (s : ByteArray) (hc : ∀ y : Im, decF 65537 s = some [er y] → cnt y < 100000000000000000) (w : World) :
    Calls Try.prog 15 #[.string s] w fun r w' => Below w.heap.size w w' ∧ ∃ x e, r = .returned (.tuple #[x.val, .int .i64 e]) ∧ DecR s x e ∧ inMem w'.heap.size w' x := by
  have A1 : Below w.heap.size w (w.alloc (.cells #[.bool false, .string ⟨#[]⟩, .slice none 0 0] 24)) := (Below.refl _ w).alloc (Nat.le_refl _) _
  have hR0 : ItIn w.heap.size zeroI (w.alloc (.cells #[.bool false, .string ⟨#[]⟩, .slice none 0 0] 24)) := World.alloc_heap_new w _
  by_cases h0 : 65536 < s.size
  · have l0 : (65536 : Int) < s.size := by omega
    go_enter Try.func15, Try.ntmps15
    go_wp2
    refine bodyPost_ret (v := .tuple #[.agg #[.bool false, .string ⟨#[]⟩, .slice none 0 0], .int .i64 42]) (by simp [results, Try.results15, go_sem]) rfl ⟨A1, zeroI, 42, rfl, .inl ⟨h0, rfl, rfl⟩, trivial⟩
  · have l0 : ¬ (65536 : Int) < s.size := by omega
    have hs6 : s.size ≤ 65536 := by omega
    have KI := itemsOf_all 65536 s (by omega) (by omega)
    go_enter Try.func15, Try.ntmps15
    go_wp2_with fail
    refine (KI _).mono ?_
    rintro e w1 ⟨B1, hcase⟩
    have hR : ItIn w.heap.size zeroI w1 := (B1.block _ (by simp)).trans hR0
    have BA := belowStep A1 (by simp) B1
    rw [World.size_alloc] at hcase
    clear A1 hR0 B1 KI
    obtain ⟨bR, hbR⟩ : ∃ c, w.heap.size = c := ⟨_, rfl⟩
    have HZ : Hid (w.heap.size = bR) := hbR
    rw [hbR] at hR hcase BA ⊢
    clear hbR
    have d0 : w1.cell? ⟨bR, 0, none⟩ = some (.bool false) := by rw [Lib.cell_of_heap hR]; rfl
    have d1 : w1.cell? ⟨bR, 1, none⟩ = some (.string ⟨#[]⟩) := by rw [Lib.cell_of_heap hR]; rfl
    have d2 : w1.cell? ⟨bR, 2, none⟩ = some (.slice none 0 0) := by rw [Lib.cell_of_heap hR]; rfl
    have f0 := Lib.frozen_of_heap hR 0
    have f1 := Lib.frozen_of_heap hR 1
    have f2 := Lib.frozen_of_heap hR 2
    rcases hcase with ⟨hn, rfl⟩ | ⟨a, c, ys, hd, rfl, hrow⟩
    · go_wp2
      refine bodyPost_ret (v := .tuple #[.agg #[.bool false, .string ⟨#[]⟩, .slice none 0 0], .int .i64 40]) (by simp [results, Try.results15, go_sem, d0, d1, d2]) rfl ⟨?_, zeroI, 40, rfl, .inr (.inl ⟨hs6, fun y h => ?_, rfl, rfl⟩), trivial⟩
      · rw [HZ.out]
        exact below_set (below_set (below_set BA bR 0 (Nat.le_refl _) _) bR 1 (Nat.le_refl _) _) bR 2 (Nat.le_refl _) _
      · have h2 := hn.symm.trans h
        cases h2
    · by_cases h1 : ys.length = 1
      · obtain ⟨y, rfl⟩ : ∃ y, ys = [y] := List.length_eq_one_iff.1 h1
        have hcy := hc y hd
        obtain ⟨⟨b, o, hb, rfl, c0, c1, c2⟩, hy, -⟩ := hrow
        rw [show o + 3 * 0 = o by omega] at c0 c1 c2
        have hym : inMem w1.heap.size w1 y := inMem_of (fun b hb => hb.2) y hy
        have KD := isDeep_any y hcy w1.heap.size
        obtain ⟨yl, yt, ya, yc, yx⟩ := y
        simp only [Im.l, Im.t, Im.sl, Im.a, Im.xs, Im.c] at c0 c1 c2
        have HX : Hid (_ ∧ _ ∧ _) := ⟨hy, BA, hd⟩
        clear hc hy BA hd h1
        dsimp only [List.length_cons, List.length_nil]
        go_wp2_with fail
        refine (KD _ (Nat.le_refl _) hym).mono ?_
        rintro e w2 ⟨rfl, B2⟩
        have e0 := (B2.cell (p := ⟨bR, 0, none⟩) hR.lt).trans d0
        have e1 := (B2.cell (p := ⟨bR, 1, none⟩) hR.lt).trans d1
        have e2 := (B2.cell (p := ⟨bR, 2, none⟩) hR.lt).trans d2
        have hR2 : ItIn bR zeroI w2 := (B2.block _ hR.lt).trans hR
        have g0 := Lib.frozen_of_heap hR2 0
        have g1 := Lib.frozen_of_heap hR2 1
        have g2 := Lib.frozen_of_heap hR2 2
        have m0 := (B2.cell (p := ⟨b, o, none⟩) hb.2).trans c0
        have m1 := (B2.cell (p := ⟨b, o + 1, none⟩) hb.2).trans c1
        have m2 := (B2.cell (p := ⟨b, o + 2, none⟩) hb.2).trans c2
        obtain ⟨dp, hdp⟩ : ∃ q, deep (.mk yl yt ya yc yx) = q := ⟨_, rfl⟩
        rw [hdp]
        have hbne : b ≠ bR := by omega
        have HY : Hid (_ ∧ _) := ⟨hdp, B2⟩
        clear hdp B2 hym KD c0 c1 c2 d0 d1 d2 f0 f1 f2 hR
        cases dp with
        | true =>
          go_wp2
          obtain ⟨hy, BA, hd⟩ := HX.out
          obtain ⟨hdp, B2⟩ := HY.out
          refine bodyPost_ret (v := .tuple #[.agg #[.bool false, .string ⟨#[]⟩, .slice none 0 0], .int .i64 41]) (by simp [results, Try.results15, go_sem, e0, e1, e2]) rfl ⟨?_, zeroI, 41, rfl, .inr (.inr ⟨hs6, _, hd, .inl ⟨hdp, rfl, rfl⟩⟩), trivial⟩
          rw [HZ.out]
          exact below_set (below_set (below_set (belowStep BA (by rw [← HZ.out]; exact BA.size) B2) bR 0 (Nat.le_refl _) _) bR 1 (Nat.le_refl _) _) bR 2 (Nat.le_refl _) _
        | false =>
          go_wp2
          obtain ⟨hy, BA, hd⟩ := HX.out
          obtain ⟨hdp, B2⟩ := HY.out
          refine bodyPost_ret (v := .tuple #[.agg #[.bool yl, .string yt, .slice ya yx.length yc], .int .i64 0]) (by simp [results, Try.results15, go_sem, e0, e1, e2]) rfl ⟨?_, .mk yl yt ya yc yx, 0, rfl, .inr (.inr ⟨hs6, _, hd, .inr ⟨hdp, rfl, rfl⟩⟩), ?_⟩
          · rw [HZ.out]
            exact below_set (below_set (below_set (belowStep BA (by rw [← HZ.out]; exact BA.size) B2) bR 0 (Nat.le_refl _) _) bR 1 (Nat.le_refl _) _) bR 2 (Nat.le_refl _) _
          · refine inMem_of (p := fun b => bR + 1 ≤ b ∧ b < w1.heap.size) (fun b hb => by have := hb.2; have := B2.size; simp [World.setCell]; omega) _ (inP_of ?_ _ hy)
            intro b hb
            refine ⟨hb, fun j => ?_⟩
            rw [cell_ne _ _ _ _ _ (by show b ≠ bR; omega), cell_ne _ _ _ _ _ (by show b ≠ bR; omega), cell_ne _ _ _ _ _ (by show b ≠ bR; omega)]
            exact B2.cell (p := ⟨b, j, none⟩) hb.2
      · have l1 : ¬ (ys.length : Int) = 1 := by omega
        have l2 : ((ys.length : Int) == 1) = false := by rw [beq_eq_false_iff_ne]; exact l1
        clear hrow
        go_wp2
        refine bodyPost_ret (v := .tuple #[.agg #[.bool false, .string ⟨#[]⟩, .slice none 0 0], .int .i64 40]) (by simp [results, Try.results15, go_sem, d0, d1, d2]) rfl ⟨?_, zeroI, 40, rfl, .inr (.inl ⟨hs6, fun y h => ?_, rfl, rfl⟩), trivial⟩
        · rw [HZ.out]
          exact below_set (below_set (below_set BA bR 0 (Nat.le_refl _) _) bR 1 (Nat.le_refl _) _) bR 2 (Nat.le_refl _) _
        · have := Option.some.inj (hd.symm.trans h)
          have := congrArg List.length this
          rw [ers_map, List.length_map] at this
          exact h1 this
end Go.Proofs.Yteaongogomhooaa
