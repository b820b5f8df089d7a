/- What MulMod does at this translation: for all words, whatever the memory. -/
import Derived.Test.YtgapcjdgakamoaaW18
namespace Go.Proofs.Ytgapcjdgakamoaa
open Go.RowKit Go.Shelf

/-- Three words that lie in blocks n, n + 1 and n + 2, and a word 0 behind them, to be written. -/
abbrev SM (n : Nat) (a0 a1 a2 a3 b0 b1 b2 b3 m0 m1 m2 m3 : Int) (W : World) : Prop := n + 3 < W.heap.size ∧ W.cell? ⟨n, 0, none⟩ = some (.int .u64 a0) ∧ W.cell? ⟨n, 1, none⟩ = some (.int .u64 a1) ∧ W.cell? ⟨n, 2, none⟩ = some (.int .u64 a2) ∧ W.cell? ⟨n, 3, none⟩ = some (.int .u64 a3) ∧ W.cell? ⟨n + 1, 0, none⟩ = some (.int .u64 b0) ∧ W.cell? ⟨n + 1, 1, none⟩ = some (.int .u64 b1) ∧ W.cell? ⟨n + 1, 2, none⟩ = some (.int .u64 b2) ∧ W.cell? ⟨n + 1, 3, none⟩ = some (.int .u64 b3) ∧ W.cell? ⟨n + 1 + 1, 0, none⟩ = some (.int .u64 m0) ∧ W.cell? ⟨n + 1 + 1, 1, none⟩ = some (.int .u64 m1) ∧ W.cell? ⟨n + 1 + 1, 2, none⟩ = some (.int .u64 m2) ∧ W.cell? ⟨n + 1 + 1, 3, none⟩ = some (.int .u64 m3) ∧ W.cell? ⟨n + 1 + 1 + 1, 0, none⟩ = some (.int .u64 0) ∧ W.cell? ⟨n + 1 + 1 + 1, 1, none⟩ = some (.int .u64 0) ∧ W.cell? ⟨n + 1 + 1 + 1, 2, none⟩ = some (.int .u64 0) ∧ W.cell? ⟨n + 1 + 1 + 1, 3, none⟩ = some (.int .u64 0) ∧ (∀ o, W.frozen? ⟨n + 1 + 1 + 1, o, none⟩ = false)

section
variable {n : Nat} {a0 a1 a2 a3 b0 b1 b2 b3 m0 m1 m2 m3 : Int} {W W' : World}
theorem SM.keep (h : SM n a0 a1 a2 a3 b0 b1 b2 b3 m0 m1 m2 m3 W) (hb : Below (n + 4) W W') : SM n a0 a1 a2 a3 b0 b1 b2 b3 m0 m1 m2 m3 W' := by
  obtain ⟨z, h0, h1, h2, h3, h4, h5, h6, h7, h8, h9, h10, h11, h12, h13, h14, h15, hf⟩ := h
  exact ⟨Nat.lt_of_lt_of_le z hb.size, (hb.cell (p := ⟨n, 0, none⟩) (by dsimp only; omega)).trans h0, (hb.cell (p := ⟨n, 1, none⟩) (by dsimp only; omega)).trans h1, (hb.cell (p := ⟨n, 2, none⟩) (by dsimp only; omega)).trans h2, (hb.cell (p := ⟨n, 3, none⟩) (by dsimp only; omega)).trans h3, (hb.cell (p := ⟨n + 1, 0, none⟩) (by dsimp only; omega)).trans h4, (hb.cell (p := ⟨n + 1, 1, none⟩) (by dsimp only; omega)).trans h5, (hb.cell (p := ⟨n + 1, 2, none⟩) (by dsimp only; omega)).trans h6, (hb.cell (p := ⟨n + 1, 3, none⟩) (by dsimp only; omega)).trans h7, (hb.cell (p := ⟨n + 1 + 1, 0, none⟩) (by dsimp only; omega)).trans h8, (hb.cell (p := ⟨n + 1 + 1, 1, none⟩) (by dsimp only; omega)).trans h9, (hb.cell (p := ⟨n + 1 + 1, 2, none⟩) (by dsimp only; omega)).trans h10, (hb.cell (p := ⟨n + 1 + 1, 3, none⟩) (by dsimp only; omega)).trans h11, (hb.cell (p := ⟨n + 1 + 1 + 1, 0, none⟩) (by dsimp only; omega)).trans h12, (hb.cell (p := ⟨n + 1 + 1 + 1, 1, none⟩) (by dsimp only; omega)).trans h13, (hb.cell (p := ⟨n + 1 + 1 + 1, 2, none⟩) (by dsimp only; omega)).trans h14, (hb.cell (p := ⟨n + 1 + 1 + 1, 3, none⟩) (by dsimp only; omega)).trans h15, fun o => (hb.frozen (p := ⟨n + 1 + 1 + 1, o, none⟩) (by dsimp only; omega)).trans (hf o)⟩
theorem SM.alloc (h : SM n a0 a1 a2 a3 b0 b1 b2 b3 m0 m1 m2 m3 W) (o : Obj) : SM n a0 a1 a2 a3 b0 b1 b2 b3 m0 m1 m2 m3 (W.alloc o) := h.keep ((Below.refl _ W).alloc (by have := h.1; omega) o)
theorem SM.below (h : SM n a0 a1 a2 a3 b0 b1 b2 b3 m0 m1 m2 m3 W) (hb : Below W.heap.size W W') : SM n a0 a1 a2 a3 b0 b1 b2 b3 m0 m1 m2 m3 W' := h.keep (hb.mono (by have := h.1; omega))
theorem SM.drew (h : SM n a0 a1 a2 a3 b0 b1 b2 b3 m0 m1 m2 m3 W) : SM n a0 a1 a2 a3 b0 b1 b2 b3 m0 m1 m2 m3 W.drew := h
theorem SM.setCell (h : SM n a0 a1 a2 a3 b0 b1 b2 b3 m0 m1 m2 m3 W) (p : Addr) (hp : n + 4 ≤ p.block) (v : Value) : SM n a0 a1 a2 a3 b0 b1 b2 b3 m0 m1 m2 m3 (W.setCell p v) := h.keep ((Below.refl _ W).setCell hp v)
end

theorem mul_bd (x y : Int) (h1 : 0 ≤ x) (h2 : x < 115792089237316195423570985008687907853269984665640564039457584007913129639936) (h3 : 0 ≤ y) (h4 : y < 115792089237316195423570985008687907853269984665640564039457584007913129639936) : x * y < 13407807929942597099574024998205846127479365820592393377723561443721764030073546976801874298166903427690031858186486050853753882811946569946433649006084096 := by
  have k1 : x * y ≤ (115792089237316195423570985008687907853269984665640564039457584007913129639936 - 1) * y := Int.mul_le_mul_of_nonneg_right (by omega) h3
  omega

set_option maxHeartbeats 4000000 in
theorem mulmod_any (a0 a1 a2 a3 b0 b1 b2 b3 m0 m1 m2 m3 : Int) (ha : Ws a0 a1 a2 a3) (hb : Ws b0 b1 b2 b3) (hm : Ws m0 m1 m2 m3) (w : World) :
    Calls Try.prog 28 #[.agg #[.int .u64 a0, .int .u64 a1, .int .u64 a2, .int .u64 a3], .agg #[.int .u64 b0, .int .u64 b1, .int .u64 b2, .int .u64 b3], .agg #[.int .u64 m0, .int .u64 m1, .int .u64 m2, .int .u64 m3]] w fun e w' =>
      ∃ r0 r1 r2 r3 : Int, e = .returned (.agg #[.int .u64 r0, .int .u64 r1, .int .u64 r2, .int .u64 r3]) ∧ Ws r0 r1 r2 r3 ∧ Hid (val r0 r1 r2 r3 = rm (val a0 a1 a2 a3 * val b0 b1 b2 b3) (val m0 m1 m2 m3)) ∧ Below w.heap.size w w' := by
  have hAB : Hid (val a0 a1 a2 a3 * val b0 b1 b2 b3 < 13407807929942597099574024998205846127479365820592393377723561443721764030073546976801874298166903427690031858186486050853753882811946569946433649006084096) := mul_bd _ _ (val_bd _ _ _ _ ha).1 (val_bd _ _ _ _ ha).2 (val_bd _ _ _ _ hb).1 (val_bd _ _ _ _ hb).2
  go_enter Try.func28, Try.ntmps28
  go_wp2
  have hS00 : SM w.heap.size a0 a1 a2 a3 b0 b1 b2 b3 m0 m1 m2 m3 ((((w.alloc (.cells #[.int .u64 a0, .int .u64 a1, .int .u64 a2, .int .u64 a3] 24)).alloc (.cells #[.int .u64 b0, .int .u64 b1, .int .u64 b2, .int .u64 b3] 24)).alloc (.cells #[.int .u64 m0, .int .u64 m1, .int .u64 m2, .int .u64 m3] 24)).alloc (.cells #[.int .u64 0, .int .u64 0, .int .u64 0, .int .u64 0] 24)) := ⟨by simp, by simp [go_sem], by simp [go_sem], by simp [go_sem], by simp [go_sem], by simp [go_sem], by simp [go_sem], by simp [go_sem], by simp [go_sem], by simp [go_sem], by simp [go_sem], by simp [go_sem], by simp [go_sem], by simp [go_sem], by simp [go_sem], by simp [go_sem], by simp [go_sem], fun o => by simp [go_sem]⟩
  have hS0 := SM.drew hS00
  go_region_held3 (fun w' => w.heap.size + 3 < w'.heap.size ∧ w'.cell? ⟨w.heap.size, 0, none⟩ = some (.int .u64 a0) ∧ w'.cell? ⟨w.heap.size, 1, none⟩ = some (.int .u64 a1) ∧ w'.cell? ⟨w.heap.size, 2, none⟩ = some (.int .u64 a2) ∧ w'.cell? ⟨w.heap.size, 3, none⟩ = some (.int .u64 a3) ∧ w'.cell? ⟨w.heap.size + 1, 0, none⟩ = some (.int .u64 b0) ∧ w'.cell? ⟨w.heap.size + 1, 1, none⟩ = some (.int .u64 b1) ∧ w'.cell? ⟨w.heap.size + 1, 2, none⟩ = some (.int .u64 b2) ∧ w'.cell? ⟨w.heap.size + 1, 3, none⟩ = some (.int .u64 b3) ∧ w'.cell? ⟨w.heap.size + 1 + 1, 0, none⟩ = some (.int .u64 m0) ∧ w'.cell? ⟨w.heap.size + 1 + 1, 1, none⟩ = some (.int .u64 m1) ∧ w'.cell? ⟨w.heap.size + 1 + 1, 2, none⟩ = some (.int .u64 m2) ∧ w'.cell? ⟨w.heap.size + 1 + 1, 3, none⟩ = some (.int .u64 m3) ∧ w'.cell? ⟨w.heap.size + 1 + 1 + 1, 0, none⟩ = some (.int .u64 0) ∧ w'.cell? ⟨w.heap.size + 1 + 1 + 1, 1, none⟩ = some (.int .u64 0) ∧ w'.cell? ⟨w.heap.size + 1 + 1 + 1, 2, none⟩ = some (.int .u64 0) ∧ w'.cell? ⟨w.heap.size + 1 + 1 + 1, 3, none⟩ = some (.int .u64 0) ∧ (∀ o, w'.frozen? ⟨w.heap.size + 1 + 1 + 1, o, none⟩ = false)) (((repeat' (first | with_reducible exact sd2 | with_reducible exact sd1 | with_reducible exact hS0 | with_reducible exact hS00 | with_reducible exact SM.drew (SM.alloc hS00 _) | with_reducible exact SM.drew (SM.alloc (SM.alloc hS00 _) _) | with_reducible refine SM.alloc (n := w.heap.size) (a0 := a0) (a1 := a1) (a2 := a2) (a3 := a3) (b0 := b0) (b1 := b1) (b2 := b2) (b3 := b3) (m0 := m0) (m1 := m1) (m2 := m2) (m3 := m3) ?_ _ | with_reducible refine SM.setCell (n := w.heap.size) (a0 := a0) (a1 := a1) (a2 := a2) (a3 := a3) (b0 := b0) (b1 := b1) (b2 := b2) (b3 := b3) (m0 := m0) (m1 := m1) (m2 := m2) (m3 := m3) ?_ _ ?_ _ | (dsimp only; omega))); done))
    (first
      | (go_at_call 55; refine (product_any a0 a1 a2 a3 b0 b1 b2 b3 ha hb _).mono ?_; rintro e w1 ⟨t0, t1, t2, t3, t4, t5, t6, t7, t8, t9, t10, t11, rfl, ht, htv, hb1⟩; have h8 : vlong t0 t1 t2 t3 t4 t5 t6 t7 t8 t9 t10 t11 < 13407807929942597099574024998205846127479365820592393377723561443721764030073546976801874298166903427690031858186486050853753882811946569946433649006084096 := (by rw [htv.out]; exact hAB.out); have sd1 := SM.below (by first | with_reducible exact hS0 | with_reducible exact SM.drew (SM.alloc hS00 _) | with_reducible exact SM.drew (SM.alloc (SM.alloc hS00 _) _)) hb1; obtain ⟨hc1, hf1⟩ := oldKept hb1; have ea := hb1.size; (try simp at ea); have sa0 : w.heap.size < w1.heap.size := (by omega); have sa1 : w.heap.size + 1 < w1.heap.size := (by omega); have sa2 : w.heap.size + 1 + 1 < w1.heap.size := (by omega); have sa3 : w.heap.size + 1 + 1 + 1 < w1.heap.size := (by omega); have sa4 : w.heap.size < w1.heap.size + 1 := (by omega); have sa5 : w.heap.size < w1.heap.size + 1 + 1 := (by omega); (first | (have ta0 : w.heap.size + 1 + 1 + 1 + 1 < w1.heap.size := (by omega)) | skip); (first | (have ta1 : w.heap.size + 1 + 1 + 1 + 1 + 1 < w1.heap.size := (by omega)) | skip))
      | (go_at_call 57; refine (divide_any t0 t1 t2 t3 t4 t5 t6 t7 t8 t9 t10 t11 m0 m1 m2 m3 ht h8 hm _).mono ?_; rintro e w2 ⟨q0, q1, q2, q3, r0, r1, r2, r3, rfl, hq, hr, hv, hb2⟩; have sd2 := SM.below (by first | with_reducible exact sd1 | with_reducible exact SM.alloc sd1 _ | with_reducible exact SM.alloc (SM.alloc sd1 _) _) hb2; obtain ⟨hc2, hf2⟩ := oldKept hb2; have eb := hb2.size; (try simp at eb); have sb0 : w.heap.size < w2.heap.size := (by omega); have sb1 : w.heap.size + 1 < w2.heap.size := (by omega); have sb2 : w.heap.size + 1 + 1 < w2.heap.size := (by omega); have sb3 : w.heap.size + 1 + 1 + 1 < w2.heap.size := (by omega); have sb4 : w.heap.size < w2.heap.size + 1 := (by omega); have sb5 : w.heap.size < w2.heap.size + 1 + 1 := (by omega); (first | (have tb0 : w.heap.size + 1 + 1 + 1 + 1 < w2.heap.size := (by omega)) | skip); (first | (have tb1 : w.heap.size + 1 + 1 + 1 + 1 + 1 < w2.heap.size := (by omega)) | skip); (first | (have u0 : w1.heap.size < w2.heap.size := (by omega)) | skip); (first | (have u1 : w1.heap.size + 1 < w2.heap.size := (by omega)) | skip)))
  · have B1 := belowStep (n := w.heap.size) (w := w) (by go_grown) (by (try simp) <;> omega) hb1
    have B2 := belowStep (n := w.heap.size) (w := w) (by go_grown) (by (try simp) <;> omega) hb2
    clear hc1 hf1 hc2 hf2
    refine thenOf (fun W => Below w.heap.size w W ∧ SM w.heap.size a0 a1 a2 a3 b0 b1 b2 b3 m0 m1 m2 m3 W ∧ W.cell? ⟨w2.heap.size + 1, 0, none⟩ = some (.int .u64 r0) ∧ W.cell? ⟨w2.heap.size + 1, 1, none⟩ = some (.int .u64 r1) ∧ W.cell? ⟨w2.heap.size + 1, 2, none⟩ = some (.int .u64 r2) ∧ W.cell? ⟨w2.heap.size + 1, 3, none⟩ = some (.int .u64 r3)) ⟨?_, ?_, ?_, ?_, ?_, ?_⟩ ?_
    · go_grown
    · repeat' (first | with_reducible exact sd2 | with_reducible refine SM.alloc (n := w.heap.size) (a0 := a0) (a1 := a1) (a2 := a2) (a3 := a3) (b0 := b0) (b1 := b1) (b2 := b2) (b3 := b3) (m0 := m0) (m1 := m1) (m2 := m2) (m3 := m3) ?_ _ | with_reducible refine SM.setCell (n := w.heap.size) (a0 := a0) (a1 := a1) (a2 := a2) (a3 := a3) (b0 := b0) (b1 := b1) (b2 := b2) (b3 := b3) (m0 := m0) (m1 := m1) (m2 := m2) (m3 := m3) ?_ _ ?_ _ | (dsimp only; omega))
    · simp [go_sem, *]
    · simp [go_sem, *]
    · simp [go_sem, *]
    · simp [go_sem, *]
    · rintro W ⟨hB, ⟨zW, x0, x1, x2, x3, y0, y1, y2, y3, u0, u1, u2, u3, z0, z1, z2, z3, zf⟩, l0, l1, l2, l3⟩
      clear hb1 hb2 sd1 sd2 hS0 hS00 B1 B2
      go_wp2
      refine bodyPost_ret (v := .agg #[.int .u64 r0, .int .u64 r1, .int .u64 r2, .int .u64 r3]) (by simp [results, Try.results28, go_sem, *]) rfl ⟨r0, r1, r2, r3, rfl, hr, ?_, ?_⟩
      · show _ = _
        rw [hv.out.2, htv.out]
      · go_grown
  · have B1 := belowStep (n := w.heap.size) (w := w) (by go_grown) (by (try simp) <;> omega) hb1
    have B2 := belowStep (n := w.heap.size) (w := w) (by go_grown) (by (try simp) <;> omega) hb2
    clear hc1 hf1 hc2 hf2
    refine thenOf (fun W => Below w.heap.size w W ∧ SM w.heap.size a0 a1 a2 a3 b0 b1 b2 b3 m0 m1 m2 m3 W ∧ W.cell? ⟨w2.heap.size, 0, none⟩ = some (.int .u64 r0) ∧ W.cell? ⟨w2.heap.size, 1, none⟩ = some (.int .u64 r1) ∧ W.cell? ⟨w2.heap.size, 2, none⟩ = some (.int .u64 r2) ∧ W.cell? ⟨w2.heap.size, 3, none⟩ = some (.int .u64 r3)) ⟨?_, ?_, ?_, ?_, ?_, ?_⟩ ?_
    · go_grown
    · repeat' (first | with_reducible exact sd2 | with_reducible refine SM.alloc (n := w.heap.size) (a0 := a0) (a1 := a1) (a2 := a2) (a3 := a3) (b0 := b0) (b1 := b1) (b2 := b2) (b3 := b3) (m0 := m0) (m1 := m1) (m2 := m2) (m3 := m3) ?_ _ | with_reducible refine SM.setCell (n := w.heap.size) (a0 := a0) (a1 := a1) (a2 := a2) (a3 := a3) (b0 := b0) (b1 := b1) (b2 := b2) (b3 := b3) (m0 := m0) (m1 := m1) (m2 := m2) (m3 := m3) ?_ _ ?_ _ | (dsimp only; omega))
    · simp [go_sem, *]
    · simp [go_sem, *]
    · simp [go_sem, *]
    · simp [go_sem, *]
    · rintro W ⟨hB, ⟨zW, x0, x1, x2, x3, y0, y1, y2, y3, u0, u1, u2, u3, z0, z1, z2, z3, zf⟩, l0, l1, l2, l3⟩
      clear hb1 hb2 sd1 sd2 hS0 hS00 B1 B2
      go_wp2
      refine bodyPost_ret (v := .agg #[.int .u64 r0, .int .u64 r1, .int .u64 r2, .int .u64 r3]) (by simp [results, Try.results28, go_sem, *]) rfl ⟨r0, r1, r2, r3, rfl, hr, ?_, ?_⟩
      · show _ = _
        rw [hv.out.2, htv.out]
      · go_grown
  · have B1 := belowStep (n := w.heap.size) (w := w) (by go_grown) (by (try simp) <;> omega) hb1
    have B2 := belowStep (n := w.heap.size) (w := w) (by go_grown) (by (try simp) <;> omega) hb2
    clear hc1 hf1 hc2 hf2
    refine thenOf (fun W => Below w.heap.size w W ∧ SM w.heap.size a0 a1 a2 a3 b0 b1 b2 b3 m0 m1 m2 m3 W ∧ W.cell? ⟨w2.heap.size, 0, none⟩ = some (.int .u64 r0) ∧ W.cell? ⟨w2.heap.size, 1, none⟩ = some (.int .u64 r1) ∧ W.cell? ⟨w2.heap.size, 2, none⟩ = some (.int .u64 r2) ∧ W.cell? ⟨w2.heap.size, 3, none⟩ = some (.int .u64 r3)) ⟨?_, ?_, ?_, ?_, ?_, ?_⟩ ?_
    · go_grown
    · repeat' (first | with_reducible exact sd2 | with_reducible refine SM.alloc (n := w.heap.size) (a0 := a0) (a1 := a1) (a2 := a2) (a3 := a3) (b0 := b0) (b1 := b1) (b2 := b2) (b3 := b3) (m0 := m0) (m1 := m1) (m2 := m2) (m3 := m3) ?_ _ | with_reducible refine SM.setCell (n := w.heap.size) (a0 := a0) (a1 := a1) (a2 := a2) (a3 := a3) (b0 := b0) (b1 := b1) (b2 := b2) (b3 := b3) (m0 := m0) (m1 := m1) (m2 := m2) (m3 := m3) ?_ _ ?_ _ | (dsimp only; omega))
    · simp [go_sem, *]
    · simp [go_sem, *]
    · simp [go_sem, *]
    · simp [go_sem, *]
    · rintro W ⟨hB, ⟨zW, x0, x1, x2, x3, y0, y1, y2, y3, u0, u1, u2, u3, z0, z1, z2, z3, zf⟩, l0, l1, l2, l3⟩
      clear hb1 hb2 sd1 sd2 hS0 hS00 B1 B2
      go_wp2
      refine bodyPost_ret (v := .agg #[.int .u64 r0, .int .u64 r1, .int .u64 r2, .int .u64 r3]) (by simp [results, Try.results28, go_sem, *]) rfl ⟨r0, r1, r2, r3, rfl, hr, ?_, ?_⟩
      · show _ = _
        rw [hv.out.2, htv.out]
      · go_grown
  · have k0 : w2.cell? ⟨w1.heap.size + 1, 0, none⟩ = some (.int .u64 0) := (hb2.cell (p := ⟨w1.heap.size + 1, 0, none⟩) (by (try simp) <;> omega)).trans (by simp [go_sem])
    have k1 : w2.cell? ⟨w1.heap.size + 1, 1, none⟩ = some (.int .u64 0) := (hb2.cell (p := ⟨w1.heap.size + 1, 1, none⟩) (by (try simp) <;> omega)).trans (by simp [go_sem])
    have k2 : w2.cell? ⟨w1.heap.size + 1, 2, none⟩ = some (.int .u64 0) := (hb2.cell (p := ⟨w1.heap.size + 1, 2, none⟩) (by (try simp) <;> omega)).trans (by simp [go_sem])
    have k3 : w2.cell? ⟨w1.heap.size + 1, 3, none⟩ = some (.int .u64 0) := (hb2.cell (p := ⟨w1.heap.size + 1, 3, none⟩) (by (try simp) <;> omega)).trans (by simp [go_sem])
    have B1 := belowStep (n := w.heap.size) (w := w) (by go_grown) (by (try simp) <;> omega) hb1
    have B2 := belowStep (n := w.heap.size) (w := w) (by go_grown) (by (try simp) <;> omega) hb2
    clear hc1 hf1 hc2 hf2
    refine thenOf (fun W => Below w.heap.size w W ∧ SM w.heap.size a0 a1 a2 a3 b0 b1 b2 b3 m0 m1 m2 m3 W ∧ W.cell? ⟨w1.heap.size + 1, 0, none⟩ = some (.int .u64 r0) ∧ W.cell? ⟨w1.heap.size + 1, 1, none⟩ = some (.int .u64 r1) ∧ W.cell? ⟨w1.heap.size + 1, 2, none⟩ = some (.int .u64 r2) ∧ W.cell? ⟨w1.heap.size + 1, 3, none⟩ = some (.int .u64 r3)) ⟨?_, ?_, ?_, ?_, ?_, ?_⟩ ?_
    · go_grown
    · repeat' (first | with_reducible exact sd2 | with_reducible refine SM.alloc (n := w.heap.size) (a0 := a0) (a1 := a1) (a2 := a2) (a3 := a3) (b0 := b0) (b1 := b1) (b2 := b2) (b3 := b3) (m0 := m0) (m1 := m1) (m2 := m2) (m3 := m3) ?_ _ | with_reducible refine SM.setCell (n := w.heap.size) (a0 := a0) (a1 := a1) (a2 := a2) (a3 := a3) (b0 := b0) (b1 := b1) (b2 := b2) (b3 := b3) (m0 := m0) (m1 := m1) (m2 := m2) (m3 := m3) ?_ _ ?_ _ | (dsimp only; omega))
    · simp [go_sem, *]
    · simp [go_sem, *]
    · simp [go_sem, *]
    · simp [go_sem, *]
    · rintro W ⟨hB, ⟨zW, x0, x1, x2, x3, y0, y1, y2, y3, u0, u1, u2, u3, z0, z1, z2, z3, zf⟩, l0, l1, l2, l3⟩
      clear hb1 hb2 sd1 sd2 hS0 hS00 B1 B2
      go_wp2
      refine bodyPost_ret (v := .agg #[.int .u64 r0, .int .u64 r1, .int .u64 r2, .int .u64 r3]) (by simp [results, Try.results28, go_sem, *]) rfl ⟨r0, r1, r2, r3, rfl, hr, ?_, ?_⟩
      · show _ = _
        rw [hv.out.2, htv.out]
      · go_grown
  · have k0 : w2.cell? ⟨w1.heap.size, 0, none⟩ = some (.int .u64 0) := (hb2.cell (p := ⟨w1.heap.size, 0, none⟩) (by (try simp) <;> omega)).trans (by simp [go_sem])
    have k1 : w2.cell? ⟨w1.heap.size, 1, none⟩ = some (.int .u64 0) := (hb2.cell (p := ⟨w1.heap.size, 1, none⟩) (by (try simp) <;> omega)).trans (by simp [go_sem])
    have k2 : w2.cell? ⟨w1.heap.size, 2, none⟩ = some (.int .u64 0) := (hb2.cell (p := ⟨w1.heap.size, 2, none⟩) (by (try simp) <;> omega)).trans (by simp [go_sem])
    have k3 : w2.cell? ⟨w1.heap.size, 3, none⟩ = some (.int .u64 0) := (hb2.cell (p := ⟨w1.heap.size, 3, none⟩) (by (try simp) <;> omega)).trans (by simp [go_sem])
    have B1 := belowStep (n := w.heap.size) (w := w) (by go_grown) (by (try simp) <;> omega) hb1
    have B2 := belowStep (n := w.heap.size) (w := w) (by go_grown) (by (try simp) <;> omega) hb2
    clear hc1 hf1 hc2 hf2
    refine thenOf (fun W => Below w.heap.size w W ∧ SM w.heap.size a0 a1 a2 a3 b0 b1 b2 b3 m0 m1 m2 m3 W ∧ W.cell? ⟨w1.heap.size, 0, none⟩ = some (.int .u64 r0) ∧ W.cell? ⟨w1.heap.size, 1, none⟩ = some (.int .u64 r1) ∧ W.cell? ⟨w1.heap.size, 2, none⟩ = some (.int .u64 r2) ∧ W.cell? ⟨w1.heap.size, 3, none⟩ = some (.int .u64 r3)) ⟨?_, ?_, ?_, ?_, ?_, ?_⟩ ?_
    · go_grown
    · repeat' (first | with_reducible exact sd2 | with_reducible refine SM.alloc (n := w.heap.size) (a0 := a0) (a1 := a1) (a2 := a2) (a3 := a3) (b0 := b0) (b1 := b1) (b2 := b2) (b3 := b3) (m0 := m0) (m1 := m1) (m2 := m2) (m3 := m3) ?_ _ | with_reducible refine SM.setCell (n := w.heap.size) (a0 := a0) (a1 := a1) (a2 := a2) (a3 := a3) (b0 := b0) (b1 := b1) (b2 := b2) (b3 := b3) (m0 := m0) (m1 := m1) (m2 := m2) (m3 := m3) ?_ _ ?_ _ | (dsimp only; omega))
    · simp [go_sem, *]
    · simp [go_sem, *]
    · simp [go_sem, *]
    · simp [go_sem, *]
    · rintro W ⟨hB, ⟨zW, x0, x1, x2, x3, y0, y1, y2, y3, u0, u1, u2, u3, z0, z1, z2, z3, zf⟩, l0, l1, l2, l3⟩
      clear hb1 hb2 sd1 sd2 hS0 hS00 B1 B2
      go_wp2
      refine bodyPost_ret (v := .agg #[.int .u64 r0, .int .u64 r1, .int .u64 r2, .int .u64 r3]) (by simp [results, Try.results28, go_sem, *]) rfl ⟨r0, r1, r2, r3, rfl, hr, ?_, ?_⟩
      · show _ = _
        rw [hv.out.2, htv.out]
      · go_grown
  · have k0 : w2.cell? ⟨w1.heap.size, 0, none⟩ = some (.int .u64 0) := (hb2.cell (p := ⟨w1.heap.size, 0, none⟩) (by (try simp) <;> omega)).trans (by simp [go_sem])
    have k1 : w2.cell? ⟨w1.heap.size, 1, none⟩ = some (.int .u64 0) := (hb2.cell (p := ⟨w1.heap.size, 1, none⟩) (by (try simp) <;> omega)).trans (by simp [go_sem])
    have k2 : w2.cell? ⟨w1.heap.size, 2, none⟩ = some (.int .u64 0) := (hb2.cell (p := ⟨w1.heap.size, 2, none⟩) (by (try simp) <;> omega)).trans (by simp [go_sem])
    have k3 : w2.cell? ⟨w1.heap.size, 3, none⟩ = some (.int .u64 0) := (hb2.cell (p := ⟨w1.heap.size, 3, none⟩) (by (try simp) <;> omega)).trans (by simp [go_sem])
    have B1 := belowStep (n := w.heap.size) (w := w) (by go_grown) (by (try simp) <;> omega) hb1
    have B2 := belowStep (n := w.heap.size) (w := w) (by go_grown) (by (try simp) <;> omega) hb2
    clear hc1 hf1 hc2 hf2
    refine thenOf (fun W => Below w.heap.size w W ∧ SM w.heap.size a0 a1 a2 a3 b0 b1 b2 b3 m0 m1 m2 m3 W ∧ W.cell? ⟨w1.heap.size, 0, none⟩ = some (.int .u64 r0) ∧ W.cell? ⟨w1.heap.size, 1, none⟩ = some (.int .u64 r1) ∧ W.cell? ⟨w1.heap.size, 2, none⟩ = some (.int .u64 r2) ∧ W.cell? ⟨w1.heap.size, 3, none⟩ = some (.int .u64 r3)) ⟨?_, ?_, ?_, ?_, ?_, ?_⟩ ?_
    · go_grown
    · repeat' (first | with_reducible exact sd2 | with_reducible refine SM.alloc (n := w.heap.size) (a0 := a0) (a1 := a1) (a2 := a2) (a3 := a3) (b0 := b0) (b1 := b1) (b2 := b2) (b3 := b3) (m0 := m0) (m1 := m1) (m2 := m2) (m3 := m3) ?_ _ | with_reducible refine SM.setCell (n := w.heap.size) (a0 := a0) (a1 := a1) (a2 := a2) (a3 := a3) (b0 := b0) (b1 := b1) (b2 := b2) (b3 := b3) (m0 := m0) (m1 := m1) (m2 := m2) (m3 := m3) ?_ _ ?_ _ | (dsimp only; omega))
    · simp [go_sem, *]
    · simp [go_sem, *]
    · simp [go_sem, *]
    · simp [go_sem, *]
    · rintro W ⟨hB, ⟨zW, x0, x1, x2, x3, y0, y1, y2, y3, u0, u1, u2, u3, z0, z1, z2, z3, zf⟩, l0, l1, l2, l3⟩
      clear hb1 hb2 sd1 sd2 hS0 hS00 B1 B2
      go_wp2
      refine bodyPost_ret (v := .agg #[.int .u64 r0, .int .u64 r1, .int .u64 r2, .int .u64 r3]) (by simp [results, Try.results28, go_sem, *]) rfl ⟨r0, r1, r2, r3, rfl, hr, ?_, ?_⟩
      · show _ = _
        rw [hv.out.2, htv.out]
      · go_grown
  · have B1 := belowStep (n := w.heap.size) (w := w) (by go_grown) (by (try simp) <;> omega) hb1
    have B2 := belowStep (n := w.heap.size) (w := w) (by go_grown) (by (try simp) <;> omega) hb2
    clear hc1 hf1 hc2 hf2
    refine thenOf (fun W => Below w.heap.size w W ∧ SM w.heap.size a0 a1 a2 a3 b0 b1 b2 b3 m0 m1 m2 m3 W ∧ W.cell? ⟨w2.heap.size, 0, none⟩ = some (.int .u64 r0) ∧ W.cell? ⟨w2.heap.size, 1, none⟩ = some (.int .u64 r1) ∧ W.cell? ⟨w2.heap.size, 2, none⟩ = some (.int .u64 r2) ∧ W.cell? ⟨w2.heap.size, 3, none⟩ = some (.int .u64 r3)) ⟨?_, ?_, ?_, ?_, ?_, ?_⟩ ?_
    · go_grown
    · repeat' (first | with_reducible exact sd2 | with_reducible refine SM.alloc (n := w.heap.size) (a0 := a0) (a1 := a1) (a2 := a2) (a3 := a3) (b0 := b0) (b1 := b1) (b2 := b2) (b3 := b3) (m0 := m0) (m1 := m1) (m2 := m2) (m3 := m3) ?_ _ | with_reducible refine SM.setCell (n := w.heap.size) (a0 := a0) (a1 := a1) (a2 := a2) (a3 := a3) (b0 := b0) (b1 := b1) (b2 := b2) (b3 := b3) (m0 := m0) (m1 := m1) (m2 := m2) (m3 := m3) ?_ _ ?_ _ | (dsimp only; omega))
    · simp [go_sem, *]
    · simp [go_sem, *]
    · simp [go_sem, *]
    · simp [go_sem, *]
    · rintro W ⟨hB, ⟨zW, x0, x1, x2, x3, y0, y1, y2, y3, u0, u1, u2, u3, z0, z1, z2, z3, zf⟩, l0, l1, l2, l3⟩
      clear hb1 hb2 sd1 sd2 hS0 hS00 B1 B2
      go_wp2
      refine bodyPost_ret (v := .agg #[.int .u64 r0, .int .u64 r1, .int .u64 r2, .int .u64 r3]) (by simp [results, Try.results28, go_sem, *]) rfl ⟨r0, r1, r2, r3, rfl, hr, ?_, ?_⟩
      · show _ = _
        rw [hv.out.2, htv.out]
      · go_grown
  · have k0 : w2.cell? ⟨w1.heap.size, 0, none⟩ = some (.int .u64 0) := (hb2.cell (p := ⟨w1.heap.size, 0, none⟩) (by (try simp) <;> omega)).trans (by simp [go_sem])
    have k1 : w2.cell? ⟨w1.heap.size, 1, none⟩ = some (.int .u64 0) := (hb2.cell (p := ⟨w1.heap.size, 1, none⟩) (by (try simp) <;> omega)).trans (by simp [go_sem])
    have k2 : w2.cell? ⟨w1.heap.size, 2, none⟩ = some (.int .u64 0) := (hb2.cell (p := ⟨w1.heap.size, 2, none⟩) (by (try simp) <;> omega)).trans (by simp [go_sem])
    have k3 : w2.cell? ⟨w1.heap.size, 3, none⟩ = some (.int .u64 0) := (hb2.cell (p := ⟨w1.heap.size, 3, none⟩) (by (try simp) <;> omega)).trans (by simp [go_sem])
    have B1 := belowStep (n := w.heap.size) (w := w) (by go_grown) (by (try simp) <;> omega) hb1
    have B2 := belowStep (n := w.heap.size) (w := w) (by go_grown) (by (try simp) <;> omega) hb2
    clear hc1 hf1 hc2 hf2
    refine thenOf (fun W => Below w.heap.size w W ∧ SM w.heap.size a0 a1 a2 a3 b0 b1 b2 b3 m0 m1 m2 m3 W ∧ W.cell? ⟨w1.heap.size, 0, none⟩ = some (.int .u64 r0) ∧ W.cell? ⟨w1.heap.size, 1, none⟩ = some (.int .u64 r1) ∧ W.cell? ⟨w1.heap.size, 2, none⟩ = some (.int .u64 r2) ∧ W.cell? ⟨w1.heap.size, 3, none⟩ = some (.int .u64 r3)) ⟨?_, ?_, ?_, ?_, ?_, ?_⟩ ?_
    · go_grown
    · repeat' (first | with_reducible exact sd2 | with_reducible refine SM.alloc (n := w.heap.size) (a0 := a0) (a1 := a1) (a2 := a2) (a3 := a3) (b0 := b0) (b1 := b1) (b2 := b2) (b3 := b3) (m0 := m0) (m1 := m1) (m2 := m2) (m3 := m3) ?_ _ | with_reducible refine SM.setCell (n := w.heap.size) (a0 := a0) (a1 := a1) (a2 := a2) (a3 := a3) (b0 := b0) (b1 := b1) (b2 := b2) (b3 := b3) (m0 := m0) (m1 := m1) (m2 := m2) (m3 := m3) ?_ _ ?_ _ | (dsimp only; omega))
    · simp [go_sem, *]
    · simp [go_sem, *]
    · simp [go_sem, *]
    · simp [go_sem, *]
    · rintro W ⟨hB, ⟨zW, x0, x1, x2, x3, y0, y1, y2, y3, u0, u1, u2, u3, z0, z1, z2, z3, zf⟩, l0, l1, l2, l3⟩
      clear hb1 hb2 sd1 sd2 hS0 hS00 B1 B2
      go_wp2
      refine bodyPost_ret (v := .agg #[.int .u64 r0, .int .u64 r1, .int .u64 r2, .int .u64 r3]) (by simp [results, Try.results28, go_sem, *]) rfl ⟨r0, r1, r2, r3, rfl, hr, ?_, ?_⟩
      · show _ = _
        rw [hv.out.2, htv.out]
      · go_grown
  · have j0 : w1.cell? ⟨w.heap.size + 1 + 1 + 1 + 1 + 1, 0, none⟩ = some (.int .u64 0) := (hb1.cell (p := ⟨w.heap.size + 1 + 1 + 1 + 1 + 1, 0, none⟩) (by (try simp) <;> omega)).trans (by simp [go_sem])
    have j1 : w1.cell? ⟨w.heap.size + 1 + 1 + 1 + 1 + 1, 1, none⟩ = some (.int .u64 0) := (hb1.cell (p := ⟨w.heap.size + 1 + 1 + 1 + 1 + 1, 1, none⟩) (by (try simp) <;> omega)).trans (by simp [go_sem])
    have j2 : w1.cell? ⟨w.heap.size + 1 + 1 + 1 + 1 + 1, 2, none⟩ = some (.int .u64 0) := (hb1.cell (p := ⟨w.heap.size + 1 + 1 + 1 + 1 + 1, 2, none⟩) (by (try simp) <;> omega)).trans (by simp [go_sem])
    have j3 : w1.cell? ⟨w.heap.size + 1 + 1 + 1 + 1 + 1, 3, none⟩ = some (.int .u64 0) := (hb1.cell (p := ⟨w.heap.size + 1 + 1 + 1 + 1 + 1, 3, none⟩) (by (try simp) <;> omega)).trans (by simp [go_sem])
    have k0 : w2.cell? ⟨w.heap.size + 1 + 1 + 1 + 1 + 1, 0, none⟩ = some (.int .u64 0) := (hb2.cell (p := ⟨w.heap.size + 1 + 1 + 1 + 1 + 1, 0, none⟩) (by (try simp) <;> omega)).trans (by simp [go_sem, *])
    have k1 : w2.cell? ⟨w.heap.size + 1 + 1 + 1 + 1 + 1, 1, none⟩ = some (.int .u64 0) := (hb2.cell (p := ⟨w.heap.size + 1 + 1 + 1 + 1 + 1, 1, none⟩) (by (try simp) <;> omega)).trans (by simp [go_sem, *])
    have k2 : w2.cell? ⟨w.heap.size + 1 + 1 + 1 + 1 + 1, 2, none⟩ = some (.int .u64 0) := (hb2.cell (p := ⟨w.heap.size + 1 + 1 + 1 + 1 + 1, 2, none⟩) (by (try simp) <;> omega)).trans (by simp [go_sem, *])
    have k3 : w2.cell? ⟨w.heap.size + 1 + 1 + 1 + 1 + 1, 3, none⟩ = some (.int .u64 0) := (hb2.cell (p := ⟨w.heap.size + 1 + 1 + 1 + 1 + 1, 3, none⟩) (by (try simp) <;> omega)).trans (by simp [go_sem, *])
    have B1 := belowStep (n := w.heap.size) (w := w) (by go_grown) (by (try simp) <;> omega) hb1
    have B2 := belowStep (n := w.heap.size) (w := w) (by go_grown) (by (try simp) <;> omega) hb2
    clear hc1 hf1 hc2 hf2
    refine thenOf (fun W => Below w.heap.size w W ∧ SM w.heap.size a0 a1 a2 a3 b0 b1 b2 b3 m0 m1 m2 m3 W ∧ W.cell? ⟨w.heap.size + 1 + 1 + 1 + 1 + 1, 0, none⟩ = some (.int .u64 r0) ∧ W.cell? ⟨w.heap.size + 1 + 1 + 1 + 1 + 1, 1, none⟩ = some (.int .u64 r1) ∧ W.cell? ⟨w.heap.size + 1 + 1 + 1 + 1 + 1, 2, none⟩ = some (.int .u64 r2) ∧ W.cell? ⟨w.heap.size + 1 + 1 + 1 + 1 + 1, 3, none⟩ = some (.int .u64 r3)) ⟨?_, ?_, ?_, ?_, ?_, ?_⟩ ?_
    · go_grown
    · repeat' (first | with_reducible exact sd2 | with_reducible refine SM.alloc (n := w.heap.size) (a0 := a0) (a1 := a1) (a2 := a2) (a3 := a3) (b0 := b0) (b1 := b1) (b2 := b2) (b3 := b3) (m0 := m0) (m1 := m1) (m2 := m2) (m3 := m3) ?_ _ | with_reducible refine SM.setCell (n := w.heap.size) (a0 := a0) (a1 := a1) (a2 := a2) (a3 := a3) (b0 := b0) (b1 := b1) (b2 := b2) (b3 := b3) (m0 := m0) (m1 := m1) (m2 := m2) (m3 := m3) ?_ _ ?_ _ | (dsimp only; omega))
    · simp [go_sem, *]
    · simp [go_sem, *]
    · simp [go_sem, *]
    · simp [go_sem, *]
    · rintro W ⟨hB, ⟨zW, x0, x1, x2, x3, y0, y1, y2, y3, u0, u1, u2, u3, z0, z1, z2, z3, zf⟩, l0, l1, l2, l3⟩
      clear hb1 hb2 sd1 sd2 hS0 hS00 B1 B2
      go_wp2
      refine bodyPost_ret (v := .agg #[.int .u64 r0, .int .u64 r1, .int .u64 r2, .int .u64 r3]) (by simp [results, Try.results28, go_sem, *]) rfl ⟨r0, r1, r2, r3, rfl, hr, ?_, ?_⟩
      · show _ = _
        rw [hv.out.2, htv.out]
      · go_grown
  · have j0 : w1.cell? ⟨w.heap.size + 1 + 1 + 1 + 1, 0, none⟩ = some (.int .u64 0) := (hb1.cell (p := ⟨w.heap.size + 1 + 1 + 1 + 1, 0, none⟩) (by (try simp) <;> omega)).trans (by simp [go_sem])
    have j1 : w1.cell? ⟨w.heap.size + 1 + 1 + 1 + 1, 1, none⟩ = some (.int .u64 0) := (hb1.cell (p := ⟨w.heap.size + 1 + 1 + 1 + 1, 1, none⟩) (by (try simp) <;> omega)).trans (by simp [go_sem])
    have j2 : w1.cell? ⟨w.heap.size + 1 + 1 + 1 + 1, 2, none⟩ = some (.int .u64 0) := (hb1.cell (p := ⟨w.heap.size + 1 + 1 + 1 + 1, 2, none⟩) (by (try simp) <;> omega)).trans (by simp [go_sem])
    have j3 : w1.cell? ⟨w.heap.size + 1 + 1 + 1 + 1, 3, none⟩ = some (.int .u64 0) := (hb1.cell (p := ⟨w.heap.size + 1 + 1 + 1 + 1, 3, none⟩) (by (try simp) <;> omega)).trans (by simp [go_sem])
    have k0 : w2.cell? ⟨w.heap.size + 1 + 1 + 1 + 1, 0, none⟩ = some (.int .u64 0) := (hb2.cell (p := ⟨w.heap.size + 1 + 1 + 1 + 1, 0, none⟩) (by (try simp) <;> omega)).trans (by simp [go_sem, *])
    have k1 : w2.cell? ⟨w.heap.size + 1 + 1 + 1 + 1, 1, none⟩ = some (.int .u64 0) := (hb2.cell (p := ⟨w.heap.size + 1 + 1 + 1 + 1, 1, none⟩) (by (try simp) <;> omega)).trans (by simp [go_sem, *])
    have k2 : w2.cell? ⟨w.heap.size + 1 + 1 + 1 + 1, 2, none⟩ = some (.int .u64 0) := (hb2.cell (p := ⟨w.heap.size + 1 + 1 + 1 + 1, 2, none⟩) (by (try simp) <;> omega)).trans (by simp [go_sem, *])
    have k3 : w2.cell? ⟨w.heap.size + 1 + 1 + 1 + 1, 3, none⟩ = some (.int .u64 0) := (hb2.cell (p := ⟨w.heap.size + 1 + 1 + 1 + 1, 3, none⟩) (by (try simp) <;> omega)).trans (by simp [go_sem, *])
    have B1 := belowStep (n := w.heap.size) (w := w) (by go_grown) (by (try simp) <;> omega) hb1
    have B2 := belowStep (n := w.heap.size) (w := w) (by go_grown) (by (try simp) <;> omega) hb2
    clear hc1 hf1 hc2 hf2
    refine thenOf (fun W => Below w.heap.size w W ∧ SM w.heap.size a0 a1 a2 a3 b0 b1 b2 b3 m0 m1 m2 m3 W ∧ W.cell? ⟨w.heap.size + 1 + 1 + 1 + 1, 0, none⟩ = some (.int .u64 r0) ∧ W.cell? ⟨w.heap.size + 1 + 1 + 1 + 1, 1, none⟩ = some (.int .u64 r1) ∧ W.cell? ⟨w.heap.size + 1 + 1 + 1 + 1, 2, none⟩ = some (.int .u64 r2) ∧ W.cell? ⟨w.heap.size + 1 + 1 + 1 + 1, 3, none⟩ = some (.int .u64 r3)) ⟨?_, ?_, ?_, ?_, ?_, ?_⟩ ?_
    · go_grown
    · repeat' (first | with_reducible exact sd2 | with_reducible refine SM.alloc (n := w.heap.size) (a0 := a0) (a1 := a1) (a2 := a2) (a3 := a3) (b0 := b0) (b1 := b1) (b2 := b2) (b3 := b3) (m0 := m0) (m1 := m1) (m2 := m2) (m3 := m3) ?_ _ | with_reducible refine SM.setCell (n := w.heap.size) (a0 := a0) (a1 := a1) (a2 := a2) (a3 := a3) (b0 := b0) (b1 := b1) (b2 := b2) (b3 := b3) (m0 := m0) (m1 := m1) (m2 := m2) (m3 := m3) ?_ _ ?_ _ | (dsimp only; omega))
    · simp [go_sem, *]
    · simp [go_sem, *]
    · simp [go_sem, *]
    · simp [go_sem, *]
    · rintro W ⟨hB, ⟨zW, x0, x1, x2, x3, y0, y1, y2, y3, u0, u1, u2, u3, z0, z1, z2, z3, zf⟩, l0, l1, l2, l3⟩
      clear hb1 hb2 sd1 sd2 hS0 hS00 B1 B2
      go_wp2
      refine bodyPost_ret (v := .agg #[.int .u64 r0, .int .u64 r1, .int .u64 r2, .int .u64 r3]) (by simp [results, Try.results28, go_sem, *]) rfl ⟨r0, r1, r2, r3, rfl, hr, ?_, ?_⟩
      · show _ = _
        rw [hv.out.2, htv.out]
      · go_grown
  · have j0 : w1.cell? ⟨w.heap.size + 1 + 1 + 1 + 1, 0, none⟩ = some (.int .u64 0) := (hb1.cell (p := ⟨w.heap.size + 1 + 1 + 1 + 1, 0, none⟩) (by (try simp) <;> omega)).trans (by simp [go_sem])
    have j1 : w1.cell? ⟨w.heap.size + 1 + 1 + 1 + 1, 1, none⟩ = some (.int .u64 0) := (hb1.cell (p := ⟨w.heap.size + 1 + 1 + 1 + 1, 1, none⟩) (by (try simp) <;> omega)).trans (by simp [go_sem])
    have j2 : w1.cell? ⟨w.heap.size + 1 + 1 + 1 + 1, 2, none⟩ = some (.int .u64 0) := (hb1.cell (p := ⟨w.heap.size + 1 + 1 + 1 + 1, 2, none⟩) (by (try simp) <;> omega)).trans (by simp [go_sem])
    have j3 : w1.cell? ⟨w.heap.size + 1 + 1 + 1 + 1, 3, none⟩ = some (.int .u64 0) := (hb1.cell (p := ⟨w.heap.size + 1 + 1 + 1 + 1, 3, none⟩) (by (try simp) <;> omega)).trans (by simp [go_sem])
    have k0 : w2.cell? ⟨w.heap.size + 1 + 1 + 1 + 1, 0, none⟩ = some (.int .u64 0) := (hb2.cell (p := ⟨w.heap.size + 1 + 1 + 1 + 1, 0, none⟩) (by (try simp) <;> omega)).trans (by simp [go_sem, *])
    have k1 : w2.cell? ⟨w.heap.size + 1 + 1 + 1 + 1, 1, none⟩ = some (.int .u64 0) := (hb2.cell (p := ⟨w.heap.size + 1 + 1 + 1 + 1, 1, none⟩) (by (try simp) <;> omega)).trans (by simp [go_sem, *])
    have k2 : w2.cell? ⟨w.heap.size + 1 + 1 + 1 + 1, 2, none⟩ = some (.int .u64 0) := (hb2.cell (p := ⟨w.heap.size + 1 + 1 + 1 + 1, 2, none⟩) (by (try simp) <;> omega)).trans (by simp [go_sem, *])
    have k3 : w2.cell? ⟨w.heap.size + 1 + 1 + 1 + 1, 3, none⟩ = some (.int .u64 0) := (hb2.cell (p := ⟨w.heap.size + 1 + 1 + 1 + 1, 3, none⟩) (by (try simp) <;> omega)).trans (by simp [go_sem, *])
    have B1 := belowStep (n := w.heap.size) (w := w) (by go_grown) (by (try simp) <;> omega) hb1
    have B2 := belowStep (n := w.heap.size) (w := w) (by go_grown) (by (try simp) <;> omega) hb2
    clear hc1 hf1 hc2 hf2
    refine thenOf (fun W => Below w.heap.size w W ∧ SM w.heap.size a0 a1 a2 a3 b0 b1 b2 b3 m0 m1 m2 m3 W ∧ W.cell? ⟨w.heap.size + 1 + 1 + 1 + 1, 0, none⟩ = some (.int .u64 r0) ∧ W.cell? ⟨w.heap.size + 1 + 1 + 1 + 1, 1, none⟩ = some (.int .u64 r1) ∧ W.cell? ⟨w.heap.size + 1 + 1 + 1 + 1, 2, none⟩ = some (.int .u64 r2) ∧ W.cell? ⟨w.heap.size + 1 + 1 + 1 + 1, 3, none⟩ = some (.int .u64 r3)) ⟨?_, ?_, ?_, ?_, ?_, ?_⟩ ?_
    · go_grown
    · repeat' (first | with_reducible exact sd2 | with_reducible refine SM.alloc (n := w.heap.size) (a0 := a0) (a1 := a1) (a2 := a2) (a3 := a3) (b0 := b0) (b1 := b1) (b2 := b2) (b3 := b3) (m0 := m0) (m1 := m1) (m2 := m2) (m3 := m3) ?_ _ | with_reducible refine SM.setCell (n := w.heap.size) (a0 := a0) (a1 := a1) (a2 := a2) (a3 := a3) (b0 := b0) (b1 := b1) (b2 := b2) (b3 := b3) (m0 := m0) (m1 := m1) (m2 := m2) (m3 := m3) ?_ _ ?_ _ | (dsimp only; omega))
    · simp [go_sem, *]
    · simp [go_sem, *]
    · simp [go_sem, *]
    · simp [go_sem, *]
    · rintro W ⟨hB, ⟨zW, x0, x1, x2, x3, y0, y1, y2, y3, u0, u1, u2, u3, z0, z1, z2, z3, zf⟩, l0, l1, l2, l3⟩
      clear hb1 hb2 sd1 sd2 hS0 hS00 B1 B2
      go_wp2
      refine bodyPost_ret (v := .agg #[.int .u64 r0, .int .u64 r1, .int .u64 r2, .int .u64 r3]) (by simp [results, Try.results28, go_sem, *]) rfl ⟨r0, r1, r2, r3, rfl, hr, ?_, ?_⟩
      · show _ = _
        rw [hv.out.2, htv.out]
      · go_grown
  · have j0 : w1.cell? ⟨w.heap.size + 1 + 1 + 1 + 1, 0, none⟩ = some (.int .u64 0) := (hb1.cell (p := ⟨w.heap.size + 1 + 1 + 1 + 1, 0, none⟩) (by (try simp) <;> omega)).trans (by simp [go_sem])
    have j1 : w1.cell? ⟨w.heap.size + 1 + 1 + 1 + 1, 1, none⟩ = some (.int .u64 0) := (hb1.cell (p := ⟨w.heap.size + 1 + 1 + 1 + 1, 1, none⟩) (by (try simp) <;> omega)).trans (by simp [go_sem])
    have j2 : w1.cell? ⟨w.heap.size + 1 + 1 + 1 + 1, 2, none⟩ = some (.int .u64 0) := (hb1.cell (p := ⟨w.heap.size + 1 + 1 + 1 + 1, 2, none⟩) (by (try simp) <;> omega)).trans (by simp [go_sem])
    have j3 : w1.cell? ⟨w.heap.size + 1 + 1 + 1 + 1, 3, none⟩ = some (.int .u64 0) := (hb1.cell (p := ⟨w.heap.size + 1 + 1 + 1 + 1, 3, none⟩) (by (try simp) <;> omega)).trans (by simp [go_sem])
    have k0 : w2.cell? ⟨w.heap.size + 1 + 1 + 1 + 1, 0, none⟩ = some (.int .u64 0) := (hb2.cell (p := ⟨w.heap.size + 1 + 1 + 1 + 1, 0, none⟩) (by (try simp) <;> omega)).trans (by simp [go_sem, *])
    have k1 : w2.cell? ⟨w.heap.size + 1 + 1 + 1 + 1, 1, none⟩ = some (.int .u64 0) := (hb2.cell (p := ⟨w.heap.size + 1 + 1 + 1 + 1, 1, none⟩) (by (try simp) <;> omega)).trans (by simp [go_sem, *])
    have k2 : w2.cell? ⟨w.heap.size + 1 + 1 + 1 + 1, 2, none⟩ = some (.int .u64 0) := (hb2.cell (p := ⟨w.heap.size + 1 + 1 + 1 + 1, 2, none⟩) (by (try simp) <;> omega)).trans (by simp [go_sem, *])
    have k3 : w2.cell? ⟨w.heap.size + 1 + 1 + 1 + 1, 3, none⟩ = some (.int .u64 0) := (hb2.cell (p := ⟨w.heap.size + 1 + 1 + 1 + 1, 3, none⟩) (by (try simp) <;> omega)).trans (by simp [go_sem, *])
    have B1 := belowStep (n := w.heap.size) (w := w) (by go_grown) (by (try simp) <;> omega) hb1
    have B2 := belowStep (n := w.heap.size) (w := w) (by go_grown) (by (try simp) <;> omega) hb2
    clear hc1 hf1 hc2 hf2
    refine thenOf (fun W => Below w.heap.size w W ∧ SM w.heap.size a0 a1 a2 a3 b0 b1 b2 b3 m0 m1 m2 m3 W ∧ W.cell? ⟨w.heap.size + 1 + 1 + 1 + 1, 0, none⟩ = some (.int .u64 r0) ∧ W.cell? ⟨w.heap.size + 1 + 1 + 1 + 1, 1, none⟩ = some (.int .u64 r1) ∧ W.cell? ⟨w.heap.size + 1 + 1 + 1 + 1, 2, none⟩ = some (.int .u64 r2) ∧ W.cell? ⟨w.heap.size + 1 + 1 + 1 + 1, 3, none⟩ = some (.int .u64 r3)) ⟨?_, ?_, ?_, ?_, ?_, ?_⟩ ?_
    · go_grown
    · repeat' (first | with_reducible exact sd2 | with_reducible refine SM.alloc (n := w.heap.size) (a0 := a0) (a1 := a1) (a2 := a2) (a3 := a3) (b0 := b0) (b1 := b1) (b2 := b2) (b3 := b3) (m0 := m0) (m1 := m1) (m2 := m2) (m3 := m3) ?_ _ | with_reducible refine SM.setCell (n := w.heap.size) (a0 := a0) (a1 := a1) (a2 := a2) (a3 := a3) (b0 := b0) (b1 := b1) (b2 := b2) (b3 := b3) (m0 := m0) (m1 := m1) (m2 := m2) (m3 := m3) ?_ _ ?_ _ | (dsimp only; omega))
    · simp [go_sem, *]
    · simp [go_sem, *]
    · simp [go_sem, *]
    · simp [go_sem, *]
    · rintro W ⟨hB, ⟨zW, x0, x1, x2, x3, y0, y1, y2, y3, u0, u1, u2, u3, z0, z1, z2, z3, zf⟩, l0, l1, l2, l3⟩
      clear hb1 hb2 sd1 sd2 hS0 hS00 B1 B2
      go_wp2
      refine bodyPost_ret (v := .agg #[.int .u64 r0, .int .u64 r1, .int .u64 r2, .int .u64 r3]) (by simp [results, Try.results28, go_sem, *]) rfl ⟨r0, r1, r2, r3, rfl, hr, ?_, ?_⟩
      · show _ = _
        rw [hv.out.2, htv.out]
      · go_grown
end Go.Proofs.Ytgapcjdgakamoaa
