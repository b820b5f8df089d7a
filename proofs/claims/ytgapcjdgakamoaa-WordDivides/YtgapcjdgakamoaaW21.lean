/- What SMod does at this translation. -/
import Derived.Test.YtgapcjdgakamoaaW14
import Derived.Test.YtgapcjdgakamoaaW16
namespace Go.Proofs.Ytgapcjdgakamoaa
open Go.RowKit Go.Shelf

set_option maxHeartbeats 2000000 in
theorem smod_any (a0 a1 a2 a3 b0 b1 b2 b3 : Int) (ha : Ws a0 a1 a2 a3) (hb : Ws b0 b1 b2 b3) (w : World) :
    Calls Try.prog 24 #[.agg #[.int .u64 a0, .int .u64 a1, .int .u64 a2, .int .u64 a3], .agg #[.int .u64 b0, .int .u64 b1, .int .u64 b2, .int .u64 b3]] w fun e w' =>
      ∃ r0 r1 r2 r3 : Int, e = .returned (.agg #[.int .u64 r0, .int .u64 r1, .int .u64 r2, .int .u64 r3]) ∧ Ws r0 r1 r2 r3 ∧ Hid (val r0 r1 r2 r3 = sgn (neg a3) (rm (sgn (neg a3) (val a0 a1 a2 a3)) (sgn (neg b3) (val b0 b1 b2 b3)))) ∧ Below w.heap.size w w' := by
  obtain ⟨xa, hxa⟩ : ∃ x, neg a3 = x := ⟨_, rfl⟩
  obtain ⟨xb, hxb⟩ : ∃ x, neg b3 = x := ⟨_, rfl⟩
  have na := negative_any a0 a1 a2 a3 ha
  have za := size_any a0 a1 a2 a3 ha
  have zb := size_any b0 b1 b2 b3 hb
  rw [hxa] at na za ⊢
  rw [hxb] at zb ⊢
  have NA : Hid (∀ w : World, _) := na
  have ZA : Hid (∀ w : World, _) := za
  have ZB : Hid (∀ w : World, _) := zb
  clear na za zb hxa hxb
  go_enter Try.func24, Try.ntmps24
  go_wp2
  go_region_held3 (fun w' => w'.cell? ⟨w.heap.size, 0, none⟩ = some (.int .u64 a0) ∧ w'.cell? ⟨w.heap.size, 1, none⟩ = some (.int .u64 a1) ∧ w'.cell? ⟨w.heap.size, 2, none⟩ = some (.int .u64 a2) ∧ w'.cell? ⟨w.heap.size, 3, none⟩ = some (.int .u64 a3) ∧ w'.cell? ⟨w.heap.size + 1, 0, none⟩ = some (.int .u64 b0) ∧ w'.cell? ⟨w.heap.size + 1, 1, none⟩ = some (.int .u64 b1) ∧ w'.cell? ⟨w.heap.size + 1, 2, none⟩ = some (.int .u64 b2) ∧ w'.cell? ⟨w.heap.size + 1, 3, none⟩ = some (.int .u64 b3)) (simp [go_sem, *])
    (first
      | (go_at_call_of 62 a0; refine (NA.out _).mono ?_; rintro e w1 ⟨rfl, hb1⟩; obtain ⟨hc1, hf1⟩ := oldKept hb1; have z10 : w.heap.size + 1 + 1 < w1.heap.size := (by have := hb1.size; simp at this; omega); have z11 : w.heap.size + 1 < w1.heap.size := (by omega); have z12 : w.heap.size < w1.heap.size := (by omega))
      | (go_at_call_of 63 a0; refine (ZA.out _).mono ?_; rintro e w3 ⟨x0, x1, x2, x3, rfl, hx, hxv, hb3⟩; obtain ⟨hc3, hf3⟩ := oldKept hb3; have z30 : w.heap.size + 1 + 1 < w3.heap.size := (by have := hb3.size; omega); have z31 : w.heap.size + 1 < w3.heap.size := (by omega); have z32 : w.heap.size < w3.heap.size := (by omega))
      | (go_at_call_of 63 b0; refine (ZB.out _).mono ?_; rintro e w4 ⟨y0, y1, y2, y3, rfl, hy, hyv, hb4⟩; obtain ⟨hc4, hf4⟩ := oldKept hb4; have z40 : w.heap.size + 1 + 1 < w4.heap.size := (by have := hb4.size; omega); have z41 : w.heap.size + 1 < w4.heap.size := (by omega); have z42 : w.heap.size < w4.heap.size := (by omega))
      | (go_at_call 20; refine (mod_any x0 x1 x2 x3 y0 y1 y2 y3 hx hy _).mono ?_; rintro e w5 ⟨q0, q1, q2, q3, rfl, hq, hqv, hb5⟩; obtain ⟨hc5, hf5⟩ := oldKept hb5; have z50 : w.heap.size + 1 + 1 < w5.heap.size := (by have := hb5.size; omega); have z51 : w.heap.size + 1 < w5.heap.size := (by omega); have z52 : w.heap.size < w5.heap.size := (by omega))
      | (go_at_call 61; refine (signed_any _ q0 q1 q2 q3 hq _).mono ?_; rintro e w6 ⟨r0, r1, r2, r3, rfl, hr, hrv, hb6⟩; obtain ⟨hc6, hf6⟩ := oldKept hb6; have z60 : w.heap.size + 1 + 1 < w6.heap.size := (by have := hb6.size; omega); have z61 : w.heap.size + 1 < w6.heap.size := (by omega); have z62 : w.heap.size < w6.heap.size := (by omega)))
  go_wp2
  refine bodyPost_ret (v := .agg #[.int .u64 r0, .int .u64 r1, .int .u64 r2, .int .u64 r3]) (by simp [results, Try.results24, go_sem, *]) rfl ⟨r0, r1, r2, r3, rfl, hr, ?_, ?_⟩
  · have e1 := hrv.out
    rw [hqv.out, hxv.out, hyv.out] at e1
    show _ = _
    rw [e1]
  · have B1 := belowStep (n := w.heap.size) (w := w) (by go_grown) (by simp <;> omega) hb1
    have B3 := belowStep B1 (by omega) hb3
    have B4 := belowStep B3 (by omega) hb4
    have B5 := belowStep B4 (by omega) hb5
    have B6 := belowStep B5 (by omega) hb6
    go_grown

end Go.Proofs.Ytgapcjdgakamoaa
