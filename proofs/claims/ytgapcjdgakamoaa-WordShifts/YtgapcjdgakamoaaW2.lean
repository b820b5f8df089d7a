/- What Add, Sub, Less, signed, size, SLess do at this translation: for all words, whatever the memory. -/
import Derived.Test.YtgapcjdgakamoaaW1
import Derived.Deep.RegionHeld3
namespace Go.Proofs.Ytgapcjdgakamoaa
open Go.RowKit

theorem val_bd (a0 a1 a2 a3 : Int) (h : Ws a0 a1 a2 a3) : 0 ≤ val a0 a1 a2 a3 ∧ val a0 a1 a2 a3 < 115792089237316195423570985008687907853269984665640564039457584007913129639936 := by
  obtain ⟨⟨_, _⟩, ⟨_, _⟩, ⟨_, _⟩, ⟨_, _⟩⟩ := h
  unfold val; omega

theorem val_inj (a0 a1 a2 a3 b0 b1 b2 b3 : Int) (ha : Ws a0 a1 a2 a3) (hb : Ws b0 b1 b2 b3) (h : val a0 a1 a2 a3 = val b0 b1 b2 b3) : a0 = b0 ∧ a1 = b1 ∧ a2 = b2 ∧ a3 = b3 := by
  obtain ⟨⟨_, _⟩, ⟨_, _⟩, ⟨_, _⟩, ⟨_, _⟩⟩ := ha
  obtain ⟨⟨_, _⟩, ⟨_, _⟩, ⟨_, _⟩, ⟨_, _⟩⟩ := hb
  unfold val at h; omega

set_option maxHeartbeats 1000000 in
theorem add_any (a0 a1 a2 a3 b0 b1 b2 b3 : Int) (ha : Ws a0 a1 a2 a3) (hb : Ws b0 b1 b2 b3) (w : World) :
    Calls Try.prog 10 #[.agg #[.int .u64 a0, .int .u64 a1, .int .u64 a2, .int .u64 a3], .agg #[.int .u64 b0, .int .u64 b1, .int .u64 b2, .int .u64 b3]] w fun e w' =>
      ∃ r0 r1 r2 r3 : Int, e = .returned (.agg #[.int .u64 r0, .int .u64 r1, .int .u64 r2, .int .u64 r3]) ∧ Ws r0 r1 r2 r3 ∧ Hid (val r0 r1 r2 r3 = (val a0 a1 a2 a3 + val b0 b1 b2 b3) % 115792089237316195423570985008687907853269984665640564039457584007913129639936) ∧ Below w.heap.size w w' := by
  go_enter Try.func10, Try.ntmps10
  go_wp2_with fail
  refine (plus_any a0 a1 a2 a3 b0 b1 b2 b3 ha hb _).mono ?_
  rintro e w1 ⟨r0, r1, r2, r3, c, rfl, hr, hv, hb1⟩
  obtain ⟨hc, hf⟩ := oldKept hb1
  have hz : w.heap.size + 2 < w1.heap.size := by have := hb1.size; simp at this; omega
  go_wp2
  refine bodyPost_ret (v := .agg #[.int .u64 r0, .int .u64 r1, .int .u64 r2, .int .u64 r3]) (by simp [results, Try.results10, go_sem, hc, hz]) rfl ⟨r0, r1, r2, r3, rfl, hr, ?_, ?_⟩
  · have := hv.out; have := val_bd _ _ _ _ hr
    show _ = _
    omega
  · have hb2 := belowStep (n := w.heap.size) (w := w) (by go_grown) (by simp <;> omega) hb1
    go_grown

set_option maxHeartbeats 1000000 in
theorem sub_any (a0 a1 a2 a3 b0 b1 b2 b3 : Int) (ha : Ws a0 a1 a2 a3) (hb : Ws b0 b1 b2 b3) (w : World) :
    Calls Try.prog 12 #[.agg #[.int .u64 a0, .int .u64 a1, .int .u64 a2, .int .u64 a3], .agg #[.int .u64 b0, .int .u64 b1, .int .u64 b2, .int .u64 b3]] w fun e w' =>
      ∃ r0 r1 r2 r3 : Int, e = .returned (.agg #[.int .u64 r0, .int .u64 r1, .int .u64 r2, .int .u64 r3]) ∧ Ws r0 r1 r2 r3 ∧ Hid (val r0 r1 r2 r3 = (val a0 a1 a2 a3 - val b0 b1 b2 b3) % 115792089237316195423570985008687907853269984665640564039457584007913129639936) ∧ Below w.heap.size w w' := by
  go_enter Try.func12, Try.ntmps12
  go_wp2_with fail
  refine (minus_any a0 a1 a2 a3 b0 b1 b2 b3 ha hb _).mono ?_
  rintro e w1 ⟨r0, r1, r2, r3, c, rfl, hr, hv, hb1⟩
  obtain ⟨hc, hf⟩ := oldKept hb1
  have hz : w.heap.size + 2 < w1.heap.size := by have := hb1.size; simp at this; omega
  go_wp2
  refine bodyPost_ret (v := .agg #[.int .u64 r0, .int .u64 r1, .int .u64 r2, .int .u64 r3]) (by simp [results, Try.results12, go_sem, hc, hz]) rfl ⟨r0, r1, r2, r3, rfl, hr, ?_, ?_⟩
  · have := hv.out; have := val_bd _ _ _ _ hr
    show _ = _
    omega
  · have hb2 := belowStep (n := w.heap.size) (w := w) (by go_grown) (by simp <;> omega) hb1
    go_grown

/-- Is one number below another? -/
def blw (x y : Int) : Bool := decide (x < y)

set_option maxHeartbeats 1000000 in
theorem less_any (a0 a1 a2 a3 b0 b1 b2 b3 : Int) (ha : Ws a0 a1 a2 a3) (hb : Ws b0 b1 b2 b3) (w : World) :
    Calls Try.prog 42 #[.agg #[.int .u64 a0, .int .u64 a1, .int .u64 a2, .int .u64 a3], .agg #[.int .u64 b0, .int .u64 b1, .int .u64 b2, .int .u64 b3]] w fun e w' => e = .returned (.bool (blw (val a0 a1 a2 a3) (val b0 b1 b2 b3))) ∧ Below w.heap.size w w' := by
  go_enter Try.func42, Try.ntmps42
  go_wp2_with fail
  refine (minus_any a0 a1 a2 a3 b0 b1 b2 b3 ha hb _).mono ?_
  rintro e w1 ⟨r0, r1, r2, r3, c, rfl, hr, hv, hb1⟩
  obtain ⟨hc, hf⟩ := oldKept hb1
  have hz : w.heap.size + 1 < w1.heap.size := by have := hb1.size; simp at this; omega
  have hq : (c == 1) = blw (val a0 a1 a2 a3) (val b0 b1 b2 b3) := by
    have := hv.out; have := val_bd _ _ _ _ hr
    unfold blw; rw [Bool.eq_iff_iff]; simp; omega
  go_wp2
  go_ret
  refine ⟨rfl, ?_⟩
  have hb2 := belowStep (n := w.heap.size) (w := w) (by go_grown) (by simp <;> omega) hb1
  go_grown

/-- A number, or what is as far below 0, modulo 2^256. -/
def sgn (b : Bool) (x : Int) : Int := if b then (0 - x) % 115792089237316195423570985008687907853269984665640564039457584007913129639936 else x

set_option maxHeartbeats 1000000 in
theorem signed_any (b : Bool) (a0 a1 a2 a3 : Int) (ha : Ws a0 a1 a2 a3) (w : World) :
    Calls Try.prog 61 #[.bool b, .agg #[.int .u64 a0, .int .u64 a1, .int .u64 a2, .int .u64 a3]] w fun e w' =>
      ∃ r0 r1 r2 r3 : Int, e = .returned (.agg #[.int .u64 r0, .int .u64 r1, .int .u64 r2, .int .u64 r3]) ∧ Ws r0 r1 r2 r3 ∧ Hid (val r0 r1 r2 r3 = sgn b (val a0 a1 a2 a3)) ∧ Below w.heap.size w w' := by
  have hz0 : Ws 0 0 0 0 := ⟨⟨by decide, by decide⟩, ⟨by decide, by decide⟩, ⟨by decide, by decide⟩, ⟨by decide, by decide⟩⟩
  cases b with
  | true =>
    go_enter Try.func61, Try.ntmps61
    go_wp2_with fail
    refine (sub_any 0 0 0 0 a0 a1 a2 a3 hz0 ha _).mono ?_
    rintro e w1 ⟨r0, r1, r2, r3, rfl, hr, hv, hb1⟩
    obtain ⟨hc, hf⟩ := oldKept hb1
    have hz : w.heap.size + 1 < w1.heap.size := by have := hb1.size; simp at this; omega
    go_wp2
    refine bodyPost_ret (v := .agg #[.int .u64 r0, .int .u64 r1, .int .u64 r2, .int .u64 r3]) (by simp [results, Try.results61, go_sem, hc]) rfl ⟨r0, r1, r2, r3, rfl, hr, ?_, ?_⟩
    · have := hv.out
      show _ = _
      rw [this]; rfl
    · have hb2 := belowStep (n := w.heap.size) (w := w) (by go_grown) (by simp <;> omega) hb1
      go_grown
  | false =>
    go_enter Try.func61, Try.ntmps61
    go_wp2
    refine bodyPost_ret (v := .agg #[.int .u64 a0, .int .u64 a1, .int .u64 a2, .int .u64 a3]) (by simp [results, Try.results61, go_sem]) rfl ⟨a0, a1, a2, a3, rfl, ha, rfl, ?_⟩
    go_grown

set_option maxHeartbeats 1000000 in
theorem size_any (a0 a1 a2 a3 : Int) (ha : Ws a0 a1 a2 a3) (w : World) :
    Calls Try.prog 63 #[.agg #[.int .u64 a0, .int .u64 a1, .int .u64 a2, .int .u64 a3]] w fun e w' =>
      ∃ r0 r1 r2 r3 : Int, e = .returned (.agg #[.int .u64 r0, .int .u64 r1, .int .u64 r2, .int .u64 r3]) ∧ Ws r0 r1 r2 r3 ∧ Hid (val r0 r1 r2 r3 = sgn (neg a3) (val a0 a1 a2 a3)) ∧ Below w.heap.size w w' := by
  go_enter Try.func63, Try.ntmps63
  go_wp2
  go_region_held3 (fun w' => w'.cell? ⟨w.heap.size, 0, none⟩ = some (.int .u64 a0) ∧ w'.cell? ⟨w.heap.size, 1, none⟩ = some (.int .u64 a1) ∧ w'.cell? ⟨w.heap.size, 2, none⟩ = some (.int .u64 a2) ∧ w'.cell? ⟨w.heap.size, 3, none⟩ = some (.int .u64 a3)) (simp [go_sem, *])
    (first
      | (go_at_call 62; refine (negative_any a0 a1 a2 a3 ha _).mono ?_; rintro e w1 ⟨rfl, hb1⟩; obtain ⟨hc, hf⟩ := oldKept hb1; have hz : w.heap.size + 1 < w1.heap.size := (by have := hb1.size; simp at this; omega); have hy : w.heap.size < w1.heap.size := (by omega))
      | (go_at_call 61; refine (signed_any _ a0 a1 a2 a3 ha _).mono ?_; rintro e w2 ⟨r0, r1, r2, r3, rfl, hr, hv, hb2⟩; obtain ⟨hc2, hf2⟩ := oldKept hb2; have hz2 : w.heap.size + 1 < w2.heap.size := (by have := hb2.size; omega)))
  go_wp2
  refine bodyPost_ret (v := .agg #[.int .u64 r0, .int .u64 r1, .int .u64 r2, .int .u64 r3]) (by simp [results, Try.results63, go_sem, *]) rfl ⟨r0, r1, r2, r3, rfl, hr, hv, ?_⟩
  have hB1 := belowStep (n := w.heap.size) (w := w) (by go_grown) (by simp <;> omega) hb1
  have hB2 := belowStep hB1 (by omega) hb2
  go_grown

/-- Is one word below another, with signs? -/
def sbl (a3 b3 x y : Int) : Bool := if neg a3 != neg b3 then neg a3 else blw x y

set_option maxHeartbeats 1000000 in
theorem sless_any (a0 a1 a2 a3 b0 b1 b2 b3 : Int) (ha : Ws a0 a1 a2 a3) (hb : Ws b0 b1 b2 b3) (w : World) :
    Calls Try.prog 44 #[.agg #[.int .u64 a0, .int .u64 a1, .int .u64 a2, .int .u64 a3], .agg #[.int .u64 b0, .int .u64 b1, .int .u64 b2, .int .u64 b3]] w fun e w' => e = .returned (.bool (sbl a3 b3 (val a0 a1 a2 a3) (val b0 b1 b2 b3))) ∧ Below w.heap.size w w' := by
  by_cases hd : neg a3 = neg b3
  · have hs : sbl a3 b3 (val a0 a1 a2 a3) (val b0 b1 b2 b3) = blw (val a0 a1 a2 a3) (val b0 b1 b2 b3) := by unfold sbl; simp [hd]
    have hq : (neg a3 == neg b3) = true := by simp [hd]
    rw [hs]; clear hs hd
    go_enter Try.func44, Try.ntmps44
    go_wp2
    go_region_held3 (fun w' => w'.cell? ⟨w.heap.size, 0, none⟩ = some (.int .u64 a0) ∧ w'.cell? ⟨w.heap.size, 1, none⟩ = some (.int .u64 a1) ∧ w'.cell? ⟨w.heap.size, 2, none⟩ = some (.int .u64 a2) ∧ w'.cell? ⟨w.heap.size, 3, none⟩ = some (.int .u64 a3) ∧ w'.cell? ⟨w.heap.size + 1, 0, none⟩ = some (.int .u64 b0) ∧ w'.cell? ⟨w.heap.size + 1, 1, none⟩ = some (.int .u64 b1) ∧ w'.cell? ⟨w.heap.size + 1, 2, none⟩ = some (.int .u64 b2) ∧ w'.cell? ⟨w.heap.size + 1, 3, none⟩ = some (.int .u64 b3)) (simp [go_sem, *])
      (first
        | (go_at_call_of 62 a0; refine (negative_any a0 a1 a2 a3 ha _).mono ?_; rintro e w1 ⟨rfl, hb1⟩; obtain ⟨hc, hf⟩ := oldKept hb1; have hz : w.heap.size + 1 < w1.heap.size := (by have := hb1.size; simp at this; omega); have hy : w.heap.size < w1.heap.size := (by omega))
        | (go_at_call_of 62 b0; refine (negative_any b0 b1 b2 b3 hb _).mono ?_; rintro e w2 ⟨rfl, hb2⟩; obtain ⟨hc2, hf2⟩ := oldKept hb2; have hz2 : w.heap.size + 1 < w2.heap.size := (by have := hb2.size; omega); have hy2 : w.heap.size < w2.heap.size := (by omega)))
    go_wp2_with fail
    refine (less_any a0 a1 a2 a3 b0 b1 b2 b3 ha hb _).mono ?_
    rintro e w3 ⟨rfl, hb3⟩
    go_wp2
    go_ret
    refine ⟨rfl, ?_⟩
    have hB1 := belowStep (n := w.heap.size) (w := w) (by go_grown) (by simp <;> omega) hb1
    have hB2 := belowStep hB1 (by omega) hb2
    have hB3 := belowStep hB2 (by omega) hb3
    go_grown
  · have hs : sbl a3 b3 (val a0 a1 a2 a3) (val b0 b1 b2 b3) = neg a3 := by unfold sbl; simp [hd]
    have hq : (neg a3 == neg b3) = false := by simp [hd]
    rw [hs]; clear hs hd
    go_enter Try.func44, Try.ntmps44
    go_wp2
    go_region_held3 (fun w' => w'.cell? ⟨w.heap.size, 0, none⟩ = some (.int .u64 a0) ∧ w'.cell? ⟨w.heap.size, 1, none⟩ = some (.int .u64 a1) ∧ w'.cell? ⟨w.heap.size, 2, none⟩ = some (.int .u64 a2) ∧ w'.cell? ⟨w.heap.size, 3, none⟩ = some (.int .u64 a3) ∧ w'.cell? ⟨w.heap.size + 1, 0, none⟩ = some (.int .u64 b0) ∧ w'.cell? ⟨w.heap.size + 1, 1, none⟩ = some (.int .u64 b1) ∧ w'.cell? ⟨w.heap.size + 1, 2, none⟩ = some (.int .u64 b2) ∧ w'.cell? ⟨w.heap.size + 1, 3, none⟩ = some (.int .u64 b3)) (simp [go_sem, *])
      (first
        | (go_at_call_of 62 a0; refine (negative_any a0 a1 a2 a3 ha _).mono ?_; rintro e w1 ⟨rfl, hb1⟩; obtain ⟨hc, hf⟩ := oldKept hb1; have hz : w.heap.size + 1 < w1.heap.size := (by have := hb1.size; simp at this; omega); have hy : w.heap.size < w1.heap.size := (by omega))
        | (go_at_call_of 62 b0; refine (negative_any b0 b1 b2 b3 hb _).mono ?_; rintro e w2 ⟨rfl, hb2⟩; obtain ⟨hc2, hf2⟩ := oldKept hb2; have hz2 : w.heap.size + 1 < w2.heap.size := (by have := hb2.size; omega); have hy2 : w.heap.size < w2.heap.size := (by omega)))
    go_wp2_with fail
    refine (negative_any a0 a1 a2 a3 ha _).mono ?_
    rintro e w3 ⟨rfl, hb3⟩
    go_wp2
    go_ret
    refine ⟨rfl, ?_⟩
    have hB1 := belowStep (n := w.heap.size) (w := w) (by go_grown) (by simp <;> omega) hb1
    have hB2 := belowStep hB1 (by omega) hb2
    have hB3 := belowStep hB2 (by omega) hb3
    go_grown
end Go.Proofs.Ytgapcjdgakamoaa
