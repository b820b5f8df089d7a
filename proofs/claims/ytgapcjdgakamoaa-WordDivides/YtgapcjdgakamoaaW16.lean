/- What Mod does at this translation: for all words, whatever the memory. -/
import Derived.Test.YtgapcjdgakamoaaW13
namespace Go.Proofs.Ytgapcjdgakamoaa
open Go.RowKit Go.Shelf

set_option maxHeartbeats 4000000 in
theorem mod_any (a0 a1 a2 a3 b0 b1 b2 b3 : Int) (ha : Ws a0 a1 a2 a3) (hb : Ws b0 b1 b2 b3) (w : World) :
    Calls Try.prog 20 #[.agg #[.int .u64 a0, .int .u64 a1, .int .u64 a2, .int .u64 a3], .agg #[.int .u64 b0, .int .u64 b1, .int .u64 b2, .int .u64 b3]] w fun e w' =>
      ∃ r0 r1 r2 r3 : Int, e = .returned (.agg #[.int .u64 r0, .int .u64 r1, .int .u64 r2, .int .u64 r3]) ∧ Ws r0 r1 r2 r3 ∧ Hid (val r0 r1 r2 r3 = rm (val a0 a1 a2 a3) (val b0 b1 b2 b3)) ∧ Below w.heap.size w w' := by
  obtain ⟨k1, k2, k3⟩ := long_of_word a0 a1 a2 a3 ha
  have K2 : Hid (_ = _) := k2
  clear k2
  go_enter Try.func20, Try.ntmps20
  go_wp2
  have hS00 : SD w.heap.size a0 a1 a2 a3 b0 b1 b2 b3 (((w.alloc (.cells #[.int .u64 a0, .int .u64 a1, .int .u64 a2, .int .u64 a3] 24)).alloc (.cells #[.int .u64 b0, .int .u64 b1, .int .u64 b2, .int .u64 b3] 24)).alloc (.cells #[.int .u64 0, .int .u64 0, .int .u64 0, .int .u64 0] 24)) := ⟨by simp, by simp [go_sem], by simp [go_sem], by simp [go_sem], by simp [go_sem], by simp [go_sem], by simp [go_sem], by simp [go_sem], by simp [go_sem], by simp [go_sem], by simp [go_sem], by simp [go_sem], by simp [go_sem], fun o => by simp [go_sem]⟩
  have hS0 := SD.drew hS00
  go_region_held3 (fun w' => w.heap.size + 2 < w'.heap.size ∧ w'.cell? ⟨w.heap.size, 0, none⟩ = some (.int .u64 a0) ∧ w'.cell? ⟨w.heap.size, 1, none⟩ = some (.int .u64 a1) ∧ w'.cell? ⟨w.heap.size, 2, none⟩ = some (.int .u64 a2) ∧ w'.cell? ⟨w.heap.size, 3, none⟩ = some (.int .u64 a3) ∧ w'.cell? ⟨w.heap.size + 1, 0, none⟩ = some (.int .u64 b0) ∧ w'.cell? ⟨w.heap.size + 1, 1, none⟩ = some (.int .u64 b1) ∧ w'.cell? ⟨w.heap.size + 1, 2, none⟩ = some (.int .u64 b2) ∧ w'.cell? ⟨w.heap.size + 1, 3, none⟩ = some (.int .u64 b3) ∧ w'.cell? ⟨w.heap.size + 1 + 1, 0, none⟩ = some (.int .u64 0) ∧ w'.cell? ⟨w.heap.size + 1 + 1, 1, none⟩ = some (.int .u64 0) ∧ w'.cell? ⟨w.heap.size + 1 + 1, 2, none⟩ = some (.int .u64 0) ∧ w'.cell? ⟨w.heap.size + 1 + 1, 3, none⟩ = some (.int .u64 0) ∧ (∀ o, w'.frozen? ⟨w.heap.size + 1 + 1, o, none⟩ = false)) (((repeat' (first | with_reducible exact sd2 | with_reducible exact sd1 | with_reducible exact hS0 | with_reducible exact hS00 | with_reducible exact SD.drew (SD.alloc hS00 _) | with_reducible exact SD.drew (SD.alloc (SD.alloc hS00 _) _) | with_reducible refine SD.alloc (n := w.heap.size) (a0 := a0) (a1 := a1) (a2 := a2) (a3 := a3) (b0 := b0) (b1 := b1) (b2 := b2) (b3 := b3) ?_ _ | with_reducible refine SD.setCell (n := w.heap.size) (a0 := a0) (a1 := a1) (a2 := a2) (a3 := a3) (b0 := b0) (b1 := b1) (b2 := b2) (b3 := b3) ?_ _ ?_ _ | (dsimp only; omega))); done))
    (first
      | (go_at_call 58; refine (lengthen_any a0 a1 a2 a3 _).mono ?_; rintro e w1 ⟨rfl, hb1⟩; have sd1 := SD.below (by first | with_reducible exact hS0 | with_reducible exact SD.drew (SD.alloc hS00 _) | with_reducible exact SD.drew (SD.alloc (SD.alloc hS00 _) _)) hb1; obtain ⟨hc1, hf1⟩ := oldKept hb1; have ea := hb1.size; (try simp at ea); have sa0 : w.heap.size < w1.heap.size := (by omega); have sa1 : w.heap.size + 1 < w1.heap.size := (by omega); have sa2 : w.heap.size + 1 + 1 < w1.heap.size := (by omega); have sa3 : w.heap.size < w1.heap.size + 1 := (by omega); have sa4 : w.heap.size < w1.heap.size + 1 + 1 := (by omega); (first | (have ta0 : w.heap.size + 1 + 1 + 1 < w1.heap.size := (by omega)) | skip); (first | (have ta1 : w.heap.size + 1 + 1 + 1 + 1 < w1.heap.size := (by omega)) | skip))
      | (go_at_call 57; refine (divide_any a0 a1 a2 a3 0 0 0 0 0 0 0 0 b0 b1 b2 b3 k1 k3 hb _).mono ?_; rintro e w2 ⟨q0, q1, q2, q3, r0, r1, r2, r3, rfl, hq, hr, hv, hb2⟩; have sd2 := SD.below (by first | with_reducible exact sd1 | with_reducible exact SD.alloc sd1 _ | with_reducible exact SD.alloc (SD.alloc sd1 _) _) hb2; obtain ⟨hc2, hf2⟩ := oldKept hb2; have eb := hb2.size; (try simp at eb); have sb0 : w.heap.size < w2.heap.size := (by omega); have sb1 : w.heap.size + 1 < w2.heap.size := (by omega); have sb2 : w.heap.size + 1 + 1 < w2.heap.size := (by omega); have sb3 : w.heap.size < w2.heap.size + 1 := (by omega); have sb4 : w.heap.size < w2.heap.size + 1 + 1 := (by omega); (first | (have tb0 : w.heap.size + 1 + 1 + 1 < w2.heap.size := (by omega)) | skip); (first | (have tb1 : w.heap.size + 1 + 1 + 1 + 1 < w2.heap.size := (by omega)) | skip); (first | (have u0 : w1.heap.size < w2.heap.size := (by omega)) | skip); (first | (have u1 : w1.heap.size + 1 < w2.heap.size := (by omega)) | skip)))
  · have B1 := belowStep (n := w.heap.size) (w := w) (by go_grown) (by (try simp) <;> omega) hb1
    have B2 := belowStep (n := w.heap.size) (w := w) (by go_grown) (by (try simp) <;> omega) hb2
    clear hc1 hf1 hc2 hf2
    refine thenOf (fun W => Below w.heap.size w W ∧ SD w.heap.size a0 a1 a2 a3 b0 b1 b2 b3 W ∧ W.cell? ⟨w2.heap.size + 1, 0, none⟩ = some (.int .u64 r0) ∧ W.cell? ⟨w2.heap.size + 1, 1, none⟩ = some (.int .u64 r1) ∧ W.cell? ⟨w2.heap.size + 1, 2, none⟩ = some (.int .u64 r2) ∧ W.cell? ⟨w2.heap.size + 1, 3, none⟩ = some (.int .u64 r3)) ⟨?_, ?_, ?_, ?_, ?_, ?_⟩ ?_
    · go_grown
    · repeat' (first | with_reducible exact sd2 | with_reducible refine SD.alloc (n := w.heap.size) (a0 := a0) (a1 := a1) (a2 := a2) (a3 := a3) (b0 := b0) (b1 := b1) (b2 := b2) (b3 := b3) ?_ _ | with_reducible refine SD.setCell (n := w.heap.size) (a0 := a0) (a1 := a1) (a2 := a2) (a3 := a3) (b0 := b0) (b1 := b1) (b2 := b2) (b3 := b3) ?_ _ ?_ _ | (dsimp only; omega))
    · simp [go_sem, *]
    · simp [go_sem, *]
    · simp [go_sem, *]
    · simp [go_sem, *]
    · rintro W ⟨hB, ⟨zW, x0, x1, x2, x3, y0, y1, y2, y3, z0, z1, z2, z3, zf⟩, l0, l1, l2, l3⟩
      clear hb1 hb2 sd1 sd2 hS0 hS00 B1 B2
      go_wp2
      refine bodyPost_ret (v := .agg #[.int .u64 r0, .int .u64 r1, .int .u64 r2, .int .u64 r3]) (by simp [results, Try.results20, go_sem, *]) rfl ⟨r0, r1, r2, r3, rfl, hr, ?_, ?_⟩
      · show _ = _
        rw [hv.out.2, K2.out]
      · go_grown
  · have B1 := belowStep (n := w.heap.size) (w := w) (by go_grown) (by (try simp) <;> omega) hb1
    have B2 := belowStep (n := w.heap.size) (w := w) (by go_grown) (by (try simp) <;> omega) hb2
    clear hc1 hf1 hc2 hf2
    refine thenOf (fun W => Below w.heap.size w W ∧ SD w.heap.size a0 a1 a2 a3 b0 b1 b2 b3 W ∧ W.cell? ⟨w2.heap.size, 0, none⟩ = some (.int .u64 r0) ∧ W.cell? ⟨w2.heap.size, 1, none⟩ = some (.int .u64 r1) ∧ W.cell? ⟨w2.heap.size, 2, none⟩ = some (.int .u64 r2) ∧ W.cell? ⟨w2.heap.size, 3, none⟩ = some (.int .u64 r3)) ⟨?_, ?_, ?_, ?_, ?_, ?_⟩ ?_
    · go_grown
    · repeat' (first | with_reducible exact sd2 | with_reducible refine SD.alloc (n := w.heap.size) (a0 := a0) (a1 := a1) (a2 := a2) (a3 := a3) (b0 := b0) (b1 := b1) (b2 := b2) (b3 := b3) ?_ _ | with_reducible refine SD.setCell (n := w.heap.size) (a0 := a0) (a1 := a1) (a2 := a2) (a3 := a3) (b0 := b0) (b1 := b1) (b2 := b2) (b3 := b3) ?_ _ ?_ _ | (dsimp only; omega))
    · simp [go_sem, *]
    · simp [go_sem, *]
    · simp [go_sem, *]
    · simp [go_sem, *]
    · rintro W ⟨hB, ⟨zW, x0, x1, x2, x3, y0, y1, y2, y3, z0, z1, z2, z3, zf⟩, l0, l1, l2, l3⟩
      clear hb1 hb2 sd1 sd2 hS0 hS00 B1 B2
      go_wp2
      refine bodyPost_ret (v := .agg #[.int .u64 r0, .int .u64 r1, .int .u64 r2, .int .u64 r3]) (by simp [results, Try.results20, go_sem, *]) rfl ⟨r0, r1, r2, r3, rfl, hr, ?_, ?_⟩
      · show _ = _
        rw [hv.out.2, K2.out]
      · go_grown
  · have B1 := belowStep (n := w.heap.size) (w := w) (by go_grown) (by (try simp) <;> omega) hb1
    have B2 := belowStep (n := w.heap.size) (w := w) (by go_grown) (by (try simp) <;> omega) hb2
    clear hc1 hf1 hc2 hf2
    refine thenOf (fun W => Below w.heap.size w W ∧ SD w.heap.size a0 a1 a2 a3 b0 b1 b2 b3 W ∧ W.cell? ⟨w2.heap.size, 0, none⟩ = some (.int .u64 r0) ∧ W.cell? ⟨w2.heap.size, 1, none⟩ = some (.int .u64 r1) ∧ W.cell? ⟨w2.heap.size, 2, none⟩ = some (.int .u64 r2) ∧ W.cell? ⟨w2.heap.size, 3, none⟩ = some (.int .u64 r3)) ⟨?_, ?_, ?_, ?_, ?_, ?_⟩ ?_
    · go_grown
    · repeat' (first | with_reducible exact sd2 | with_reducible refine SD.alloc (n := w.heap.size) (a0 := a0) (a1 := a1) (a2 := a2) (a3 := a3) (b0 := b0) (b1 := b1) (b2 := b2) (b3 := b3) ?_ _ | with_reducible refine SD.setCell (n := w.heap.size) (a0 := a0) (a1 := a1) (a2 := a2) (a3 := a3) (b0 := b0) (b1 := b1) (b2 := b2) (b3 := b3) ?_ _ ?_ _ | (dsimp only; omega))
    · simp [go_sem, *]
    · simp [go_sem, *]
    · simp [go_sem, *]
    · simp [go_sem, *]
    · rintro W ⟨hB, ⟨zW, x0, x1, x2, x3, y0, y1, y2, y3, z0, z1, z2, z3, zf⟩, l0, l1, l2, l3⟩
      clear hb1 hb2 sd1 sd2 hS0 hS00 B1 B2
      go_wp2
      refine bodyPost_ret (v := .agg #[.int .u64 r0, .int .u64 r1, .int .u64 r2, .int .u64 r3]) (by simp [results, Try.results20, go_sem, *]) rfl ⟨r0, r1, r2, r3, rfl, hr, ?_, ?_⟩
      · show _ = _
        rw [hv.out.2, K2.out]
      · go_grown
  · have k0 : w2.cell? ⟨w1.heap.size + 1, 0, none⟩ = some (.int .u64 0) := (hb2.cell (p := ⟨w1.heap.size + 1, 0, none⟩) (by (try simp) <;> omega)).trans (by simp [go_sem])
    have k1 : w2.cell? ⟨w1.heap.size + 1, 1, none⟩ = some (.int .u64 0) := (hb2.cell (p := ⟨w1.heap.size + 1, 1, none⟩) (by (try simp) <;> omega)).trans (by simp [go_sem])
    have k2 : w2.cell? ⟨w1.heap.size + 1, 2, none⟩ = some (.int .u64 0) := (hb2.cell (p := ⟨w1.heap.size + 1, 2, none⟩) (by (try simp) <;> omega)).trans (by simp [go_sem])
    have k3 : w2.cell? ⟨w1.heap.size + 1, 3, none⟩ = some (.int .u64 0) := (hb2.cell (p := ⟨w1.heap.size + 1, 3, none⟩) (by (try simp) <;> omega)).trans (by simp [go_sem])
    have B1 := belowStep (n := w.heap.size) (w := w) (by go_grown) (by (try simp) <;> omega) hb1
    have B2 := belowStep (n := w.heap.size) (w := w) (by go_grown) (by (try simp) <;> omega) hb2
    clear hc1 hf1 hc2 hf2
    refine thenOf (fun W => Below w.heap.size w W ∧ SD w.heap.size a0 a1 a2 a3 b0 b1 b2 b3 W ∧ W.cell? ⟨w1.heap.size + 1, 0, none⟩ = some (.int .u64 r0) ∧ W.cell? ⟨w1.heap.size + 1, 1, none⟩ = some (.int .u64 r1) ∧ W.cell? ⟨w1.heap.size + 1, 2, none⟩ = some (.int .u64 r2) ∧ W.cell? ⟨w1.heap.size + 1, 3, none⟩ = some (.int .u64 r3)) ⟨?_, ?_, ?_, ?_, ?_, ?_⟩ ?_
    · go_grown
    · repeat' (first | with_reducible exact sd2 | with_reducible refine SD.alloc (n := w.heap.size) (a0 := a0) (a1 := a1) (a2 := a2) (a3 := a3) (b0 := b0) (b1 := b1) (b2 := b2) (b3 := b3) ?_ _ | with_reducible refine SD.setCell (n := w.heap.size) (a0 := a0) (a1 := a1) (a2 := a2) (a3 := a3) (b0 := b0) (b1 := b1) (b2 := b2) (b3 := b3) ?_ _ ?_ _ | (dsimp only; omega))
    · simp [go_sem, *]
    · simp [go_sem, *]
    · simp [go_sem, *]
    · simp [go_sem, *]
    · rintro W ⟨hB, ⟨zW, x0, x1, x2, x3, y0, y1, y2, y3, z0, z1, z2, z3, zf⟩, l0, l1, l2, l3⟩
      clear hb1 hb2 sd1 sd2 hS0 hS00 B1 B2
      go_wp2
      refine bodyPost_ret (v := .agg #[.int .u64 r0, .int .u64 r1, .int .u64 r2, .int .u64 r3]) (by simp [results, Try.results20, go_sem, *]) rfl ⟨r0, r1, r2, r3, rfl, hr, ?_, ?_⟩
      · show _ = _
        rw [hv.out.2, K2.out]
      · go_grown
  · have k0 : w2.cell? ⟨w1.heap.size, 0, none⟩ = some (.int .u64 0) := (hb2.cell (p := ⟨w1.heap.size, 0, none⟩) (by (try simp) <;> omega)).trans (by simp [go_sem])
    have k1 : w2.cell? ⟨w1.heap.size, 1, none⟩ = some (.int .u64 0) := (hb2.cell (p := ⟨w1.heap.size, 1, none⟩) (by (try simp) <;> omega)).trans (by simp [go_sem])
    have k2 : w2.cell? ⟨w1.heap.size, 2, none⟩ = some (.int .u64 0) := (hb2.cell (p := ⟨w1.heap.size, 2, none⟩) (by (try simp) <;> omega)).trans (by simp [go_sem])
    have k3 : w2.cell? ⟨w1.heap.size, 3, none⟩ = some (.int .u64 0) := (hb2.cell (p := ⟨w1.heap.size, 3, none⟩) (by (try simp) <;> omega)).trans (by simp [go_sem])
    have B1 := belowStep (n := w.heap.size) (w := w) (by go_grown) (by (try simp) <;> omega) hb1
    have B2 := belowStep (n := w.heap.size) (w := w) (by go_grown) (by (try simp) <;> omega) hb2
    clear hc1 hf1 hc2 hf2
    refine thenOf (fun W => Below w.heap.size w W ∧ SD w.heap.size a0 a1 a2 a3 b0 b1 b2 b3 W ∧ W.cell? ⟨w1.heap.size, 0, none⟩ = some (.int .u64 r0) ∧ W.cell? ⟨w1.heap.size, 1, none⟩ = some (.int .u64 r1) ∧ W.cell? ⟨w1.heap.size, 2, none⟩ = some (.int .u64 r2) ∧ W.cell? ⟨w1.heap.size, 3, none⟩ = some (.int .u64 r3)) ⟨?_, ?_, ?_, ?_, ?_, ?_⟩ ?_
    · go_grown
    · repeat' (first | with_reducible exact sd2 | with_reducible refine SD.alloc (n := w.heap.size) (a0 := a0) (a1 := a1) (a2 := a2) (a3 := a3) (b0 := b0) (b1 := b1) (b2 := b2) (b3 := b3) ?_ _ | with_reducible refine SD.setCell (n := w.heap.size) (a0 := a0) (a1 := a1) (a2 := a2) (a3 := a3) (b0 := b0) (b1 := b1) (b2 := b2) (b3 := b3) ?_ _ ?_ _ | (dsimp only; omega))
    · simp [go_sem, *]
    · simp [go_sem, *]
    · simp [go_sem, *]
    · simp [go_sem, *]
    · rintro W ⟨hB, ⟨zW, x0, x1, x2, x3, y0, y1, y2, y3, z0, z1, z2, z3, zf⟩, l0, l1, l2, l3⟩
      clear hb1 hb2 sd1 sd2 hS0 hS00 B1 B2
      go_wp2
      refine bodyPost_ret (v := .agg #[.int .u64 r0, .int .u64 r1, .int .u64 r2, .int .u64 r3]) (by simp [results, Try.results20, go_sem, *]) rfl ⟨r0, r1, r2, r3, rfl, hr, ?_, ?_⟩
      · show _ = _
        rw [hv.out.2, K2.out]
      · go_grown
  · have k0 : w2.cell? ⟨w1.heap.size, 0, none⟩ = some (.int .u64 0) := (hb2.cell (p := ⟨w1.heap.size, 0, none⟩) (by (try simp) <;> omega)).trans (by simp [go_sem])
    have k1 : w2.cell? ⟨w1.heap.size, 1, none⟩ = some (.int .u64 0) := (hb2.cell (p := ⟨w1.heap.size, 1, none⟩) (by (try simp) <;> omega)).trans (by simp [go_sem])
    have k2 : w2.cell? ⟨w1.heap.size, 2, none⟩ = some (.int .u64 0) := (hb2.cell (p := ⟨w1.heap.size, 2, none⟩) (by (try simp) <;> omega)).trans (by simp [go_sem])
    have k3 : w2.cell? ⟨w1.heap.size, 3, none⟩ = some (.int .u64 0) := (hb2.cell (p := ⟨w1.heap.size, 3, none⟩) (by (try simp) <;> omega)).trans (by simp [go_sem])
    have B1 := belowStep (n := w.heap.size) (w := w) (by go_grown) (by (try simp) <;> omega) hb1
    have B2 := belowStep (n := w.heap.size) (w := w) (by go_grown) (by (try simp) <;> omega) hb2
    clear hc1 hf1 hc2 hf2
    refine thenOf (fun W => Below w.heap.size w W ∧ SD w.heap.size a0 a1 a2 a3 b0 b1 b2 b3 W ∧ W.cell? ⟨w1.heap.size, 0, none⟩ = some (.int .u64 r0) ∧ W.cell? ⟨w1.heap.size, 1, none⟩ = some (.int .u64 r1) ∧ W.cell? ⟨w1.heap.size, 2, none⟩ = some (.int .u64 r2) ∧ W.cell? ⟨w1.heap.size, 3, none⟩ = some (.int .u64 r3)) ⟨?_, ?_, ?_, ?_, ?_, ?_⟩ ?_
    · go_grown
    · repeat' (first | with_reducible exact sd2 | with_reducible refine SD.alloc (n := w.heap.size) (a0 := a0) (a1 := a1) (a2 := a2) (a3 := a3) (b0 := b0) (b1 := b1) (b2 := b2) (b3 := b3) ?_ _ | with_reducible refine SD.setCell (n := w.heap.size) (a0 := a0) (a1 := a1) (a2 := a2) (a3 := a3) (b0 := b0) (b1 := b1) (b2 := b2) (b3 := b3) ?_ _ ?_ _ | (dsimp only; omega))
    · simp [go_sem, *]
    · simp [go_sem, *]
    · simp [go_sem, *]
    · simp [go_sem, *]
    · rintro W ⟨hB, ⟨zW, x0, x1, x2, x3, y0, y1, y2, y3, z0, z1, z2, z3, zf⟩, l0, l1, l2, l3⟩
      clear hb1 hb2 sd1 sd2 hS0 hS00 B1 B2
      go_wp2
      refine bodyPost_ret (v := .agg #[.int .u64 r0, .int .u64 r1, .int .u64 r2, .int .u64 r3]) (by simp [results, Try.results20, go_sem, *]) rfl ⟨r0, r1, r2, r3, rfl, hr, ?_, ?_⟩
      · show _ = _
        rw [hv.out.2, K2.out]
      · go_grown
  · have B1 := belowStep (n := w.heap.size) (w := w) (by go_grown) (by (try simp) <;> omega) hb1
    have B2 := belowStep (n := w.heap.size) (w := w) (by go_grown) (by (try simp) <;> omega) hb2
    clear hc1 hf1 hc2 hf2
    refine thenOf (fun W => Below w.heap.size w W ∧ SD w.heap.size a0 a1 a2 a3 b0 b1 b2 b3 W ∧ W.cell? ⟨w2.heap.size, 0, none⟩ = some (.int .u64 r0) ∧ W.cell? ⟨w2.heap.size, 1, none⟩ = some (.int .u64 r1) ∧ W.cell? ⟨w2.heap.size, 2, none⟩ = some (.int .u64 r2) ∧ W.cell? ⟨w2.heap.size, 3, none⟩ = some (.int .u64 r3)) ⟨?_, ?_, ?_, ?_, ?_, ?_⟩ ?_
    · go_grown
    · repeat' (first | with_reducible exact sd2 | with_reducible refine SD.alloc (n := w.heap.size) (a0 := a0) (a1 := a1) (a2 := a2) (a3 := a3) (b0 := b0) (b1 := b1) (b2 := b2) (b3 := b3) ?_ _ | with_reducible refine SD.setCell (n := w.heap.size) (a0 := a0) (a1 := a1) (a2 := a2) (a3 := a3) (b0 := b0) (b1 := b1) (b2 := b2) (b3 := b3) ?_ _ ?_ _ | (dsimp only; omega))
    · simp [go_sem, *]
    · simp [go_sem, *]
    · simp [go_sem, *]
    · simp [go_sem, *]
    · rintro W ⟨hB, ⟨zW, x0, x1, x2, x3, y0, y1, y2, y3, z0, z1, z2, z3, zf⟩, l0, l1, l2, l3⟩
      clear hb1 hb2 sd1 sd2 hS0 hS00 B1 B2
      go_wp2
      refine bodyPost_ret (v := .agg #[.int .u64 r0, .int .u64 r1, .int .u64 r2, .int .u64 r3]) (by simp [results, Try.results20, go_sem, *]) rfl ⟨r0, r1, r2, r3, rfl, hr, ?_, ?_⟩
      · show _ = _
        rw [hv.out.2, K2.out]
      · go_grown
  · have k0 : w2.cell? ⟨w1.heap.size, 0, none⟩ = some (.int .u64 0) := (hb2.cell (p := ⟨w1.heap.size, 0, none⟩) (by (try simp) <;> omega)).trans (by simp [go_sem])
    have k1 : w2.cell? ⟨w1.heap.size, 1, none⟩ = some (.int .u64 0) := (hb2.cell (p := ⟨w1.heap.size, 1, none⟩) (by (try simp) <;> omega)).trans (by simp [go_sem])
    have k2 : w2.cell? ⟨w1.heap.size, 2, none⟩ = some (.int .u64 0) := (hb2.cell (p := ⟨w1.heap.size, 2, none⟩) (by (try simp) <;> omega)).trans (by simp [go_sem])
    have k3 : w2.cell? ⟨w1.heap.size, 3, none⟩ = some (.int .u64 0) := (hb2.cell (p := ⟨w1.heap.size, 3, none⟩) (by (try simp) <;> omega)).trans (by simp [go_sem])
    have B1 := belowStep (n := w.heap.size) (w := w) (by go_grown) (by (try simp) <;> omega) hb1
    have B2 := belowStep (n := w.heap.size) (w := w) (by go_grown) (by (try simp) <;> omega) hb2
    clear hc1 hf1 hc2 hf2
    refine thenOf (fun W => Below w.heap.size w W ∧ SD w.heap.size a0 a1 a2 a3 b0 b1 b2 b3 W ∧ W.cell? ⟨w1.heap.size, 0, none⟩ = some (.int .u64 r0) ∧ W.cell? ⟨w1.heap.size, 1, none⟩ = some (.int .u64 r1) ∧ W.cell? ⟨w1.heap.size, 2, none⟩ = some (.int .u64 r2) ∧ W.cell? ⟨w1.heap.size, 3, none⟩ = some (.int .u64 r3)) ⟨?_, ?_, ?_, ?_, ?_, ?_⟩ ?_
    · go_grown
    · repeat' (first | with_reducible exact sd2 | with_reducible refine SD.alloc (n := w.heap.size) (a0 := a0) (a1 := a1) (a2 := a2) (a3 := a3) (b0 := b0) (b1 := b1) (b2 := b2) (b3 := b3) ?_ _ | with_reducible refine SD.setCell (n := w.heap.size) (a0 := a0) (a1 := a1) (a2 := a2) (a3 := a3) (b0 := b0) (b1 := b1) (b2 := b2) (b3 := b3) ?_ _ ?_ _ | (dsimp only; omega))
    · simp [go_sem, *]
    · simp [go_sem, *]
    · simp [go_sem, *]
    · simp [go_sem, *]
    · rintro W ⟨hB, ⟨zW, x0, x1, x2, x3, y0, y1, y2, y3, z0, z1, z2, z3, zf⟩, l0, l1, l2, l3⟩
      clear hb1 hb2 sd1 sd2 hS0 hS00 B1 B2
      go_wp2
      refine bodyPost_ret (v := .agg #[.int .u64 r0, .int .u64 r1, .int .u64 r2, .int .u64 r3]) (by simp [results, Try.results20, go_sem, *]) rfl ⟨r0, r1, r2, r3, rfl, hr, ?_, ?_⟩
      · show _ = _
        rw [hv.out.2, K2.out]
      · go_grown
  · have j0 : w1.cell? ⟨w.heap.size + 1 + 1 + 1 + 1, 0, none⟩ = some (.int .u64 0) := (hb1.cell (p := ⟨w.heap.size + 1 + 1 + 1 + 1, 0, none⟩) (by (try simp) <;> omega)).trans (by simp [go_sem])
    have j1 : w1.cell? ⟨w.heap.size + 1 + 1 + 1 + 1, 1, none⟩ = some (.int .u64 0) := (hb1.cell (p := ⟨w.heap.size + 1 + 1 + 1 + 1, 1, none⟩) (by (try simp) <;> omega)).trans (by simp [go_sem])
    have j2 : w1.cell? ⟨w.heap.size + 1 + 1 + 1 + 1, 2, none⟩ = some (.int .u64 0) := (hb1.cell (p := ⟨w.heap.size + 1 + 1 + 1 + 1, 2, none⟩) (by (try simp) <;> omega)).trans (by simp [go_sem])
    have j3 : w1.cell? ⟨w.heap.size + 1 + 1 + 1 + 1, 3, none⟩ = some (.int .u64 0) := (hb1.cell (p := ⟨w.heap.size + 1 + 1 + 1 + 1, 3, none⟩) (by (try simp) <;> omega)).trans (by simp [go_sem])
    have k0 : w2.cell? ⟨w.heap.size + 1 + 1 + 1 + 1, 0, none⟩ = some (.int .u64 0) := (hb2.cell (p := ⟨w.heap.size + 1 + 1 + 1 + 1, 0, none⟩) (by (try simp) <;> omega)).trans (by simp [go_sem, *])
    have k1 : w2.cell? ⟨w.heap.size + 1 + 1 + 1 + 1, 1, none⟩ = some (.int .u64 0) := (hb2.cell (p := ⟨w.heap.size + 1 + 1 + 1 + 1, 1, none⟩) (by (try simp) <;> omega)).trans (by simp [go_sem, *])
    have k2 : w2.cell? ⟨w.heap.size + 1 + 1 + 1 + 1, 2, none⟩ = some (.int .u64 0) := (hb2.cell (p := ⟨w.heap.size + 1 + 1 + 1 + 1, 2, none⟩) (by (try simp) <;> omega)).trans (by simp [go_sem, *])
    have k3 : w2.cell? ⟨w.heap.size + 1 + 1 + 1 + 1, 3, none⟩ = some (.int .u64 0) := (hb2.cell (p := ⟨w.heap.size + 1 + 1 + 1 + 1, 3, none⟩) (by (try simp) <;> omega)).trans (by simp [go_sem, *])
    have B1 := belowStep (n := w.heap.size) (w := w) (by go_grown) (by (try simp) <;> omega) hb1
    have B2 := belowStep (n := w.heap.size) (w := w) (by go_grown) (by (try simp) <;> omega) hb2
    clear hc1 hf1 hc2 hf2
    refine thenOf (fun W => Below w.heap.size w W ∧ SD w.heap.size a0 a1 a2 a3 b0 b1 b2 b3 W ∧ W.cell? ⟨w.heap.size + 1 + 1 + 1 + 1, 0, none⟩ = some (.int .u64 r0) ∧ W.cell? ⟨w.heap.size + 1 + 1 + 1 + 1, 1, none⟩ = some (.int .u64 r1) ∧ W.cell? ⟨w.heap.size + 1 + 1 + 1 + 1, 2, none⟩ = some (.int .u64 r2) ∧ W.cell? ⟨w.heap.size + 1 + 1 + 1 + 1, 3, none⟩ = some (.int .u64 r3)) ⟨?_, ?_, ?_, ?_, ?_, ?_⟩ ?_
    · go_grown
    · repeat' (first | with_reducible exact sd2 | with_reducible refine SD.alloc (n := w.heap.size) (a0 := a0) (a1 := a1) (a2 := a2) (a3 := a3) (b0 := b0) (b1 := b1) (b2 := b2) (b3 := b3) ?_ _ | with_reducible refine SD.setCell (n := w.heap.size) (a0 := a0) (a1 := a1) (a2 := a2) (a3 := a3) (b0 := b0) (b1 := b1) (b2 := b2) (b3 := b3) ?_ _ ?_ _ | (dsimp only; omega))
    · simp [go_sem, *]
    · simp [go_sem, *]
    · simp [go_sem, *]
    · simp [go_sem, *]
    · rintro W ⟨hB, ⟨zW, x0, x1, x2, x3, y0, y1, y2, y3, z0, z1, z2, z3, zf⟩, l0, l1, l2, l3⟩
      clear hb1 hb2 sd1 sd2 hS0 hS00 B1 B2
      go_wp2
      refine bodyPost_ret (v := .agg #[.int .u64 r0, .int .u64 r1, .int .u64 r2, .int .u64 r3]) (by simp [results, Try.results20, go_sem, *]) rfl ⟨r0, r1, r2, r3, rfl, hr, ?_, ?_⟩
      · show _ = _
        rw [hv.out.2, K2.out]
      · go_grown
  · have j0 : w1.cell? ⟨w.heap.size + 1 + 1 + 1, 0, none⟩ = some (.int .u64 0) := (hb1.cell (p := ⟨w.heap.size + 1 + 1 + 1, 0, none⟩) (by (try simp) <;> omega)).trans (by simp [go_sem])
    have j1 : w1.cell? ⟨w.heap.size + 1 + 1 + 1, 1, none⟩ = some (.int .u64 0) := (hb1.cell (p := ⟨w.heap.size + 1 + 1 + 1, 1, none⟩) (by (try simp) <;> omega)).trans (by simp [go_sem])
    have j2 : w1.cell? ⟨w.heap.size + 1 + 1 + 1, 2, none⟩ = some (.int .u64 0) := (hb1.cell (p := ⟨w.heap.size + 1 + 1 + 1, 2, none⟩) (by (try simp) <;> omega)).trans (by simp [go_sem])
    have j3 : w1.cell? ⟨w.heap.size + 1 + 1 + 1, 3, none⟩ = some (.int .u64 0) := (hb1.cell (p := ⟨w.heap.size + 1 + 1 + 1, 3, none⟩) (by (try simp) <;> omega)).trans (by simp [go_sem])
    have k0 : w2.cell? ⟨w.heap.size + 1 + 1 + 1, 0, none⟩ = some (.int .u64 0) := (hb2.cell (p := ⟨w.heap.size + 1 + 1 + 1, 0, none⟩) (by (try simp) <;> omega)).trans (by simp [go_sem, *])
    have k1 : w2.cell? ⟨w.heap.size + 1 + 1 + 1, 1, none⟩ = some (.int .u64 0) := (hb2.cell (p := ⟨w.heap.size + 1 + 1 + 1, 1, none⟩) (by (try simp) <;> omega)).trans (by simp [go_sem, *])
    have k2 : w2.cell? ⟨w.heap.size + 1 + 1 + 1, 2, none⟩ = some (.int .u64 0) := (hb2.cell (p := ⟨w.heap.size + 1 + 1 + 1, 2, none⟩) (by (try simp) <;> omega)).trans (by simp [go_sem, *])
    have k3 : w2.cell? ⟨w.heap.size + 1 + 1 + 1, 3, none⟩ = some (.int .u64 0) := (hb2.cell (p := ⟨w.heap.size + 1 + 1 + 1, 3, none⟩) (by (try simp) <;> omega)).trans (by simp [go_sem, *])
    have B1 := belowStep (n := w.heap.size) (w := w) (by go_grown) (by (try simp) <;> omega) hb1
    have B2 := belowStep (n := w.heap.size) (w := w) (by go_grown) (by (try simp) <;> omega) hb2
    clear hc1 hf1 hc2 hf2
    refine thenOf (fun W => Below w.heap.size w W ∧ SD w.heap.size a0 a1 a2 a3 b0 b1 b2 b3 W ∧ W.cell? ⟨w.heap.size + 1 + 1 + 1, 0, none⟩ = some (.int .u64 r0) ∧ W.cell? ⟨w.heap.size + 1 + 1 + 1, 1, none⟩ = some (.int .u64 r1) ∧ W.cell? ⟨w.heap.size + 1 + 1 + 1, 2, none⟩ = some (.int .u64 r2) ∧ W.cell? ⟨w.heap.size + 1 + 1 + 1, 3, none⟩ = some (.int .u64 r3)) ⟨?_, ?_, ?_, ?_, ?_, ?_⟩ ?_
    · go_grown
    · repeat' (first | with_reducible exact sd2 | with_reducible refine SD.alloc (n := w.heap.size) (a0 := a0) (a1 := a1) (a2 := a2) (a3 := a3) (b0 := b0) (b1 := b1) (b2 := b2) (b3 := b3) ?_ _ | with_reducible refine SD.setCell (n := w.heap.size) (a0 := a0) (a1 := a1) (a2 := a2) (a3 := a3) (b0 := b0) (b1 := b1) (b2 := b2) (b3 := b3) ?_ _ ?_ _ | (dsimp only; omega))
    · simp [go_sem, *]
    · simp [go_sem, *]
    · simp [go_sem, *]
    · simp [go_sem, *]
    · rintro W ⟨hB, ⟨zW, x0, x1, x2, x3, y0, y1, y2, y3, z0, z1, z2, z3, zf⟩, l0, l1, l2, l3⟩
      clear hb1 hb2 sd1 sd2 hS0 hS00 B1 B2
      go_wp2
      refine bodyPost_ret (v := .agg #[.int .u64 r0, .int .u64 r1, .int .u64 r2, .int .u64 r3]) (by simp [results, Try.results20, go_sem, *]) rfl ⟨r0, r1, r2, r3, rfl, hr, ?_, ?_⟩
      · show _ = _
        rw [hv.out.2, K2.out]
      · go_grown
  · have j0 : w1.cell? ⟨w.heap.size + 1 + 1 + 1, 0, none⟩ = some (.int .u64 0) := (hb1.cell (p := ⟨w.heap.size + 1 + 1 + 1, 0, none⟩) (by (try simp) <;> omega)).trans (by simp [go_sem])
    have j1 : w1.cell? ⟨w.heap.size + 1 + 1 + 1, 1, none⟩ = some (.int .u64 0) := (hb1.cell (p := ⟨w.heap.size + 1 + 1 + 1, 1, none⟩) (by (try simp) <;> omega)).trans (by simp [go_sem])
    have j2 : w1.cell? ⟨w.heap.size + 1 + 1 + 1, 2, none⟩ = some (.int .u64 0) := (hb1.cell (p := ⟨w.heap.size + 1 + 1 + 1, 2, none⟩) (by (try simp) <;> omega)).trans (by simp [go_sem])
    have j3 : w1.cell? ⟨w.heap.size + 1 + 1 + 1, 3, none⟩ = some (.int .u64 0) := (hb1.cell (p := ⟨w.heap.size + 1 + 1 + 1, 3, none⟩) (by (try simp) <;> omega)).trans (by simp [go_sem])
    have k0 : w2.cell? ⟨w.heap.size + 1 + 1 + 1, 0, none⟩ = some (.int .u64 0) := (hb2.cell (p := ⟨w.heap.size + 1 + 1 + 1, 0, none⟩) (by (try simp) <;> omega)).trans (by simp [go_sem, *])
    have k1 : w2.cell? ⟨w.heap.size + 1 + 1 + 1, 1, none⟩ = some (.int .u64 0) := (hb2.cell (p := ⟨w.heap.size + 1 + 1 + 1, 1, none⟩) (by (try simp) <;> omega)).trans (by simp [go_sem, *])
    have k2 : w2.cell? ⟨w.heap.size + 1 + 1 + 1, 2, none⟩ = some (.int .u64 0) := (hb2.cell (p := ⟨w.heap.size + 1 + 1 + 1, 2, none⟩) (by (try simp) <;> omega)).trans (by simp [go_sem, *])
    have k3 : w2.cell? ⟨w.heap.size + 1 + 1 + 1, 3, none⟩ = some (.int .u64 0) := (hb2.cell (p := ⟨w.heap.size + 1 + 1 + 1, 3, none⟩) (by (try simp) <;> omega)).trans (by simp [go_sem, *])
    have B1 := belowStep (n := w.heap.size) (w := w) (by go_grown) (by (try simp) <;> omega) hb1
    have B2 := belowStep (n := w.heap.size) (w := w) (by go_grown) (by (try simp) <;> omega) hb2
    clear hc1 hf1 hc2 hf2
    refine thenOf (fun W => Below w.heap.size w W ∧ SD w.heap.size a0 a1 a2 a3 b0 b1 b2 b3 W ∧ W.cell? ⟨w.heap.size + 1 + 1 + 1, 0, none⟩ = some (.int .u64 r0) ∧ W.cell? ⟨w.heap.size + 1 + 1 + 1, 1, none⟩ = some (.int .u64 r1) ∧ W.cell? ⟨w.heap.size + 1 + 1 + 1, 2, none⟩ = some (.int .u64 r2) ∧ W.cell? ⟨w.heap.size + 1 + 1 + 1, 3, none⟩ = some (.int .u64 r3)) ⟨?_, ?_, ?_, ?_, ?_, ?_⟩ ?_
    · go_grown
    · repeat' (first | with_reducible exact sd2 | with_reducible refine SD.alloc (n := w.heap.size) (a0 := a0) (a1 := a1) (a2 := a2) (a3 := a3) (b0 := b0) (b1 := b1) (b2 := b2) (b3 := b3) ?_ _ | with_reducible refine SD.setCell (n := w.heap.size) (a0 := a0) (a1 := a1) (a2 := a2) (a3 := a3) (b0 := b0) (b1 := b1) (b2 := b2) (b3 := b3) ?_ _ ?_ _ | (dsimp only; omega))
    · simp [go_sem, *]
    · simp [go_sem, *]
    · simp [go_sem, *]
    · simp [go_sem, *]
    · rintro W ⟨hB, ⟨zW, x0, x1, x2, x3, y0, y1, y2, y3, z0, z1, z2, z3, zf⟩, l0, l1, l2, l3⟩
      clear hb1 hb2 sd1 sd2 hS0 hS00 B1 B2
      go_wp2
      refine bodyPost_ret (v := .agg #[.int .u64 r0, .int .u64 r1, .int .u64 r2, .int .u64 r3]) (by simp [results, Try.results20, go_sem, *]) rfl ⟨r0, r1, r2, r3, rfl, hr, ?_, ?_⟩
      · show _ = _
        rw [hv.out.2, K2.out]
      · go_grown
  · have j0 : w1.cell? ⟨w.heap.size + 1 + 1 + 1, 0, none⟩ = some (.int .u64 0) := (hb1.cell (p := ⟨w.heap.size + 1 + 1 + 1, 0, none⟩) (by (try simp) <;> omega)).trans (by simp [go_sem])
    have j1 : w1.cell? ⟨w.heap.size + 1 + 1 + 1, 1, none⟩ = some (.int .u64 0) := (hb1.cell (p := ⟨w.heap.size + 1 + 1 + 1, 1, none⟩) (by (try simp) <;> omega)).trans (by simp [go_sem])
    have j2 : w1.cell? ⟨w.heap.size + 1 + 1 + 1, 2, none⟩ = some (.int .u64 0) := (hb1.cell (p := ⟨w.heap.size + 1 + 1 + 1, 2, none⟩) (by (try simp) <;> omega)).trans (by simp [go_sem])
    have j3 : w1.cell? ⟨w.heap.size + 1 + 1 + 1, 3, none⟩ = some (.int .u64 0) := (hb1.cell (p := ⟨w.heap.size + 1 + 1 + 1, 3, none⟩) (by (try simp) <;> omega)).trans (by simp [go_sem])
    have k0 : w2.cell? ⟨w.heap.size + 1 + 1 + 1, 0, none⟩ = some (.int .u64 0) := (hb2.cell (p := ⟨w.heap.size + 1 + 1 + 1, 0, none⟩) (by (try simp) <;> omega)).trans (by simp [go_sem, *])
    have k1 : w2.cell? ⟨w.heap.size + 1 + 1 + 1, 1, none⟩ = some (.int .u64 0) := (hb2.cell (p := ⟨w.heap.size + 1 + 1 + 1, 1, none⟩) (by (try simp) <;> omega)).trans (by simp [go_sem, *])
    have k2 : w2.cell? ⟨w.heap.size + 1 + 1 + 1, 2, none⟩ = some (.int .u64 0) := (hb2.cell (p := ⟨w.heap.size + 1 + 1 + 1, 2, none⟩) (by (try simp) <;> omega)).trans (by simp [go_sem, *])
    have k3 : w2.cell? ⟨w.heap.size + 1 + 1 + 1, 3, none⟩ = some (.int .u64 0) := (hb2.cell (p := ⟨w.heap.size + 1 + 1 + 1, 3, none⟩) (by (try simp) <;> omega)).trans (by simp [go_sem, *])
    have B1 := belowStep (n := w.heap.size) (w := w) (by go_grown) (by (try simp) <;> omega) hb1
    have B2 := belowStep (n := w.heap.size) (w := w) (by go_grown) (by (try simp) <;> omega) hb2
    clear hc1 hf1 hc2 hf2
    refine thenOf (fun W => Below w.heap.size w W ∧ SD w.heap.size a0 a1 a2 a3 b0 b1 b2 b3 W ∧ W.cell? ⟨w.heap.size + 1 + 1 + 1, 0, none⟩ = some (.int .u64 r0) ∧ W.cell? ⟨w.heap.size + 1 + 1 + 1, 1, none⟩ = some (.int .u64 r1) ∧ W.cell? ⟨w.heap.size + 1 + 1 + 1, 2, none⟩ = some (.int .u64 r2) ∧ W.cell? ⟨w.heap.size + 1 + 1 + 1, 3, none⟩ = some (.int .u64 r3)) ⟨?_, ?_, ?_, ?_, ?_, ?_⟩ ?_
    · go_grown
    · repeat' (first | with_reducible exact sd2 | with_reducible refine SD.alloc (n := w.heap.size) (a0 := a0) (a1 := a1) (a2 := a2) (a3 := a3) (b0 := b0) (b1 := b1) (b2 := b2) (b3 := b3) ?_ _ | with_reducible refine SD.setCell (n := w.heap.size) (a0 := a0) (a1 := a1) (a2 := a2) (a3 := a3) (b0 := b0) (b1 := b1) (b2 := b2) (b3 := b3) ?_ _ ?_ _ | (dsimp only; omega))
    · simp [go_sem, *]
    · simp [go_sem, *]
    · simp [go_sem, *]
    · simp [go_sem, *]
    · rintro W ⟨hB, ⟨zW, x0, x1, x2, x3, y0, y1, y2, y3, z0, z1, z2, z3, zf⟩, l0, l1, l2, l3⟩
      clear hb1 hb2 sd1 sd2 hS0 hS00 B1 B2
      go_wp2
      refine bodyPost_ret (v := .agg #[.int .u64 r0, .int .u64 r1, .int .u64 r2, .int .u64 r3]) (by simp [results, Try.results20, go_sem, *]) rfl ⟨r0, r1, r2, r3, rfl, hr, ?_, ?_⟩
      · show _ = _
        rw [hv.out.2, K2.out]
      · go_grown
end Go.Proofs.Ytgapcjdgakamoaa
