/- What the reference's Less and SLess do at this translation: for all words, whatever the memory. -/
import Derived.Test.YtgapcjdgakamoaaV2
import Derived.Test.YtgapcjdgakamoaaTail
namespace Go.Proofs.Ytgapcjdgakamoaa
open Go.RowKit Go.Shelf Go.Sort

set_option maxHeartbeats 1000000 in
theorem rless_any (a0 a1 a2 a3 b0 b1 b2 b3 : Int) (ha : Ws a0 a1 a2 a3) (hb : Ws b0 b1 b2 b3) (w : World) :
    Calls Try.prog 43 #[.agg #[.int .u64 a0, .int .u64 a1, .int .u64 a2, .int .u64 a3], .agg #[.int .u64 b0, .int .u64 b1, .int .u64 b2, .int .u64 b3]] w fun e w' => e = .returned (.bool (blw (val a0 a1 a2 a3) (val b0 b1 b2 b3))) ∧ Below w.heap.size w w' := by
  obtain ⟨⟨g00, g01⟩, ⟨g10, g11⟩, ⟨g20, g21⟩, ⟨g30, g31⟩⟩ := id ha
  obtain ⟨⟨f00, f01⟩, ⟨f10, f11⟩, ⟨f20, f21⟩, ⟨f30, f31⟩⟩ := id hb
  obtain ⟨r, hr⟩ : ∃ r, blw (val a0 a1 a2 a3) (val b0 b1 b2 b3) = r := ⟨_, rfl⟩
  rw [hr]
  have HR : Hid (_ = _) := hr
  clear hr
  go_enter Try.func43, Try.ntmps43
  go_wp2
  refine wp_loop_rounds 5 ?_
  rw [rounds_succ]; go_wp2
  go_region
  by_cases h3 : a3 = b3
  · have q3 : (a3 == b3) = true := by simp [h3]
    go_wp2
    rw [rounds_succ]; go_wp2
    go_region
    by_cases h2 : a2 = b2
    · have q2 : (a2 == b2) = true := by simp [h2]
      go_wp2
      rw [rounds_succ]; go_wp2
      go_region
      by_cases h1 : a1 = b1
      · have q1 : (a1 == b1) = true := by simp [h1]
        go_wp2
        rw [rounds_succ]; go_wp2
        go_region
        by_cases h0 : a0 = b0
        · have q0 : (a0 == b0) = true := by simp [h0]
          go_wp2
          rw [rounds_succ]; go_wp2
          have E : Hid (false = r) := by
            show _ = _
            rw [← HR.out]; unfold blw val; rw [Bool.eq_iff_iff]; simp only [decide_eq_true_eq]; simp; omega
          go_ret
          exact ⟨by rw [← E.out]; rfl, by go_grown⟩
        · have q0 : (a0 == b0) = false := by simp [h0]
          have E : Hid (decide (a0 < b0) = r) := by
            show _ = _
            rw [← HR.out]; unfold blw val; rw [Bool.eq_iff_iff]; simp only [decide_eq_true_eq]; omega
          go_wp2
          go_region
          go_wp2
          go_ret
          exact ⟨by rw [← E.out]; rfl, by go_grown⟩
      · have q1 : (a1 == b1) = false := by simp [h1]
        have E : Hid (decide (a1 < b1) = r) := by
          show _ = _
          rw [← HR.out]; unfold blw val; rw [Bool.eq_iff_iff]; simp only [decide_eq_true_eq]; omega
        go_wp2
        go_region
        go_wp2
        go_ret
        exact ⟨by rw [← E.out]; rfl, by go_grown⟩
    · have q2 : (a2 == b2) = false := by simp [h2]
      have E : Hid (decide (a2 < b2) = r) := by
        show _ = _
        rw [← HR.out]; unfold blw val; rw [Bool.eq_iff_iff]; simp only [decide_eq_true_eq]; omega
      go_wp2
      go_region
      go_wp2
      go_ret
      exact ⟨by rw [← E.out]; rfl, by go_grown⟩
  · have q3 : (a3 == b3) = false := by simp [h3]
    have E : Hid (decide (a3 < b3) = r) := by
      show _ = _
      rw [← HR.out]; unfold blw val; rw [Bool.eq_iff_iff]; simp only [decide_eq_true_eq]; omega
    go_wp2
    go_region
    go_wp2
    go_ret
    exact ⟨by rw [← E.out]; rfl, by go_grown⟩

set_option maxHeartbeats 1000000 in
theorem rsless_any (a0 a1 a2 a3 b0 b1 b2 b3 : Int) (ha : Ws a0 a1 a2 a3) (hb : Ws b0 b1 b2 b3) (w : World) :
    Calls Try.prog 45 #[.agg #[.int .u64 a0, .int .u64 a1, .int .u64 a2, .int .u64 a3], .agg #[.int .u64 b0, .int .u64 b1, .int .u64 b2, .int .u64 b3]] w fun e w' => e = .returned (.bool (sbl a3 b3 (val a0 a1 a2 a3) (val b0 b1 b2 b3))) ∧ Below w.heap.size w w' := by
  by_cases hd : neg a3 = neg b3
  · have hs : sbl a3 b3 (val a0 a1 a2 a3) (val b0 b1 b2 b3) = blw (val a0 a1 a2 a3) (val b0 b1 b2 b3) := by unfold sbl; simp [hd]
    have hq : (neg a3 == neg b3) = true := by simp [hd]
    rw [hs]; clear hs hd
    go_enter Try.func45, Try.ntmps45
    go_wp2
    go_region_held3 (fun w' => w'.cell? ⟨w.heap.size, 0, none⟩ = some (.int .u64 a0) ∧ w'.cell? ⟨w.heap.size, 1, none⟩ = some (.int .u64 a1) ∧ w'.cell? ⟨w.heap.size, 2, none⟩ = some (.int .u64 a2) ∧ w'.cell? ⟨w.heap.size, 3, none⟩ = some (.int .u64 a3) ∧ w'.cell? ⟨w.heap.size + 1, 0, none⟩ = some (.int .u64 b0) ∧ w'.cell? ⟨w.heap.size + 1, 1, none⟩ = some (.int .u64 b1) ∧ w'.cell? ⟨w.heap.size + 1, 2, none⟩ = some (.int .u64 b2) ∧ w'.cell? ⟨w.heap.size + 1, 3, none⟩ = some (.int .u64 b3)) (simp [go_sem, *])
      (first
        | (go_at_call_of 65 a0; refine (rnegative_any a0 a1 a2 a3 ha _).mono ?_; rintro e w1 ⟨rfl, hb1⟩; obtain ⟨hc, hf⟩ := oldKept hb1; have hz : w.heap.size + 1 < w1.heap.size := (by have := hb1.size; simp at this; omega); have hy : w.heap.size < w1.heap.size := (by omega))
        | (go_at_call_of 65 b0; refine (rnegative_any b0 b1 b2 b3 hb _).mono ?_; rintro e w2 ⟨rfl, hb2⟩; obtain ⟨hc2, hf2⟩ := oldKept hb2; have hz2 : w.heap.size + 1 < w2.heap.size := (by have := hb2.size; omega); have hy2 : w.heap.size < w2.heap.size := (by omega)))
    go_wp2_with fail
    refine (rless_any a0 a1 a2 a3 b0 b1 b2 b3 ha hb _).mono ?_
    rintro e w3 ⟨rfl, hb3⟩
    go_wp2
    go_ret
    refine ⟨rfl, ?_⟩
    have hB1 := belowStep (n := w.heap.size) (w := w) (by go_grown) (by simp <;> omega) hb1
    have hB2 := belowStep hB1 (by omega) hb2
    have hB3 := belowStep hB2 (by omega) hb3
    go_grown
  · have hs : sbl a3 b3 (val a0 a1 a2 a3) (val b0 b1 b2 b3) = neg a3 := by unfold sbl; simp [hd]
    have hq : (neg a3 == neg b3) = false := by simp [hd]
    rw [hs]; clear hs hd
    go_enter Try.func45, Try.ntmps45
    go_wp2
    go_region_held3 (fun w' => w'.cell? ⟨w.heap.size, 0, none⟩ = some (.int .u64 a0) ∧ w'.cell? ⟨w.heap.size, 1, none⟩ = some (.int .u64 a1) ∧ w'.cell? ⟨w.heap.size, 2, none⟩ = some (.int .u64 a2) ∧ w'.cell? ⟨w.heap.size, 3, none⟩ = some (.int .u64 a3) ∧ w'.cell? ⟨w.heap.size + 1, 0, none⟩ = some (.int .u64 b0) ∧ w'.cell? ⟨w.heap.size + 1, 1, none⟩ = some (.int .u64 b1) ∧ w'.cell? ⟨w.heap.size + 1, 2, none⟩ = some (.int .u64 b2) ∧ w'.cell? ⟨w.heap.size + 1, 3, none⟩ = some (.int .u64 b3)) (simp [go_sem, *])
      (first
        | (go_at_call_of 65 a0; refine (rnegative_any a0 a1 a2 a3 ha _).mono ?_; rintro e w1 ⟨rfl, hb1⟩; obtain ⟨hc, hf⟩ := oldKept hb1; have hz : w.heap.size + 1 < w1.heap.size := (by have := hb1.size; simp at this; omega); have hy : w.heap.size < w1.heap.size := (by omega))
        | (go_at_call_of 65 b0; refine (rnegative_any b0 b1 b2 b3 hb _).mono ?_; rintro e w2 ⟨rfl, hb2⟩; obtain ⟨hc2, hf2⟩ := oldKept hb2; have hz2 : w.heap.size + 1 < w2.heap.size := (by have := hb2.size; omega); have hy2 : w.heap.size < w2.heap.size := (by omega)))
    go_wp2_with fail
    refine (rnegative_any a0 a1 a2 a3 ha _).mono ?_
    rintro e w3 ⟨rfl, hb3⟩
    go_wp2
    go_ret
    refine ⟨rfl, ?_⟩
    have hB1 := belowStep (n := w.heap.size) (w := w) (by go_grown) (by simp <;> omega) hb1
    have hB2 := belowStep hB1 (by omega) hb2
    have hB3 := belowStep hB2 (by omega) hb3
    go_grown
end Go.Proofs.Ytgapcjdgakamoaa
