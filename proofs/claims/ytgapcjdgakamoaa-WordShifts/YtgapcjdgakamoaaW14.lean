/- What SDiv and shown do at this translation. -/
import Derived.Test.YtgapcjdgakamoaaW13
namespace Go.Proofs.Ytgapcjdgakamoaa
open Go.RowKit Go.Shelf

set_option maxHeartbeats 2000000 in
theorem sdiv_any (a0 a1 a2 a3 b0 b1 b2 b3 : Int) (ha : Ws a0 a1 a2 a3) (hb : Ws b0 b1 b2 b3) (w : World) :
    Calls Try.prog 22 #[.agg #[.int .u64 a0, .int .u64 a1, .int .u64 a2, .int .u64 a3], .agg #[.int .u64 b0, .int .u64 b1, .int .u64 b2, .int .u64 b3]] w fun e w' =>
      ∃ r0 r1 r2 r3 : Int, e = .returned (.agg #[.int .u64 r0, .int .u64 r1, .int .u64 r2, .int .u64 r3]) ∧ Ws r0 r1 r2 r3 ∧ Hid (val r0 r1 r2 r3 = sgn (neg a3 != neg b3) (qt (sgn (neg a3) (val a0 a1 a2 a3)) (sgn (neg b3) (val b0 b1 b2 b3)))) ∧ Below w.heap.size w w' := by
  obtain ⟨xa, hxa⟩ : ∃ x, neg a3 = x := ⟨_, rfl⟩
  obtain ⟨xb, hxb⟩ : ∃ x, neg b3 = x := ⟨_, rfl⟩
  have na := negative_any a0 a1 a2 a3 ha
  have nb := negative_any b0 b1 b2 b3 hb
  have za := size_any a0 a1 a2 a3 ha
  have zb := size_any b0 b1 b2 b3 hb
  rw [hxa] at na za ⊢
  rw [hxb] at nb zb ⊢
  have NA : Hid (∀ w : World, _) := na
  have NB : Hid (∀ w : World, _) := nb
  have ZA : Hid (∀ w : World, _) := za
  have ZB : Hid (∀ w : World, _) := zb
  clear na nb za zb hxa hxb
  go_enter Try.func22, Try.ntmps22
  go_wp2
  go_region_held3 (fun w' => w'.cell? ⟨w.heap.size, 0, none⟩ = some (.int .u64 a0) ∧ w'.cell? ⟨w.heap.size, 1, none⟩ = some (.int .u64 a1) ∧ w'.cell? ⟨w.heap.size, 2, none⟩ = some (.int .u64 a2) ∧ w'.cell? ⟨w.heap.size, 3, none⟩ = some (.int .u64 a3) ∧ w'.cell? ⟨w.heap.size + 1, 0, none⟩ = some (.int .u64 b0) ∧ w'.cell? ⟨w.heap.size + 1, 1, none⟩ = some (.int .u64 b1) ∧ w'.cell? ⟨w.heap.size + 1, 2, none⟩ = some (.int .u64 b2) ∧ w'.cell? ⟨w.heap.size + 1, 3, none⟩ = some (.int .u64 b3)) (simp [go_sem, *])
    (first
      | (go_at_call_of 62 a0; refine (NA.out _).mono ?_; rintro e w1 ⟨rfl, hb1⟩; obtain ⟨hc1, hf1⟩ := oldKept hb1; have z10 : w.heap.size + 1 + 1 < w1.heap.size := (by have := hb1.size; simp at this; omega); have z11 : w.heap.size + 1 < w1.heap.size := (by omega); have z12 : w.heap.size < w1.heap.size := (by omega))
      | (go_at_call_of 62 b0; refine (NB.out _).mono ?_; rintro e w2 ⟨rfl, hb2⟩; obtain ⟨hc2, hf2⟩ := oldKept hb2; have z20 : w.heap.size + 1 + 1 < w2.heap.size := (by have := hb2.size; omega); have z21 : w.heap.size + 1 < w2.heap.size := (by omega); have z22 : w.heap.size < w2.heap.size := (by omega))
      | (go_at_call_of 63 a0; refine (ZA.out _).mono ?_; rintro e w3 ⟨x0, x1, x2, x3, rfl, hx, hxv, hb3⟩; obtain ⟨hc3, hf3⟩ := oldKept hb3; have z30 : w.heap.size + 1 + 1 < w3.heap.size := (by have := hb3.size; omega); have z31 : w.heap.size + 1 < w3.heap.size := (by omega); have z32 : w.heap.size < w3.heap.size := (by omega))
      | (go_at_call_of 63 b0; refine (ZB.out _).mono ?_; rintro e w4 ⟨y0, y1, y2, y3, rfl, hy, hyv, hb4⟩; obtain ⟨hc4, hf4⟩ := oldKept hb4; have z40 : w.heap.size + 1 + 1 < w4.heap.size := (by have := hb4.size; omega); have z41 : w.heap.size + 1 < w4.heap.size := (by omega); have z42 : w.heap.size < w4.heap.size := (by omega))
      | (go_at_call 18; refine (div_any x0 x1 x2 x3 y0 y1 y2 y3 hx hy _).mono ?_; rintro e w5 ⟨q0, q1, q2, q3, rfl, hq, hqv, hb5⟩; obtain ⟨hc5, hf5⟩ := oldKept hb5; have z50 : w.heap.size + 1 + 1 < w5.heap.size := (by have := hb5.size; omega); have z51 : w.heap.size + 1 < w5.heap.size := (by omega); have z52 : w.heap.size < w5.heap.size := (by omega))
      | (go_at_call 61; refine (signed_any _ q0 q1 q2 q3 hq _).mono ?_; rintro e w6 ⟨r0, r1, r2, r3, rfl, hr, hrv, hb6⟩; obtain ⟨hc6, hf6⟩ := oldKept hb6; have z60 : w.heap.size + 1 + 1 < w6.heap.size := (by have := hb6.size; omega); have z61 : w.heap.size + 1 < w6.heap.size := (by omega); have z62 : w.heap.size < w6.heap.size := (by omega)))
  go_wp2
  refine bodyPost_ret (v := .agg #[.int .u64 r0, .int .u64 r1, .int .u64 r2, .int .u64 r3]) (by simp [results, Try.results22, go_sem, *]) rfl ⟨r0, r1, r2, r3, rfl, hr, ?_, ?_⟩
  · have e1 := hrv.out
    rw [hqv.out, hxv.out, hyv.out] at e1
    show _ = _
    rw [e1]
    cases xa <;> cases xb <;> rfl
  · have B1 := belowStep (n := w.heap.size) (w := w) (by go_grown) (by simp <;> omega) hb1
    have B2 := belowStep B1 (by omega) hb2
    have B3 := belowStep B2 (by omega) hb3
    have B4 := belowStep B3 (by omega) hb4
    have B5 := belowStep B4 (by omega) hb5
    have B6 := belowStep B5 (by omega) hb6
    go_grown

set_option maxHeartbeats 2000000 in
theorem shown_any (w : World) : Calls Try.prog 9 #[] w fun e w' => e = .returned (.bool true) ∧ Below w.heap.size w w' := by
  have ho : Pt 0 := ⟨by decide, by decide⟩
  have h1 : Ws 1 0 0 0 := ⟨⟨by decide, by decide⟩, ho, ho, ho⟩
  have h2 : Ws 2 0 0 0 := ⟨⟨by decide, by decide⟩, ho, ho, ho⟩
  have h7 : Ws 7 0 0 0 := ⟨⟨by decide, by decide⟩, ho, ho, ho⟩
  have hm1 : Ws 18446744073709551615 18446744073709551615 18446744073709551615 18446744073709551615 := ⟨⟨by decide, by decide⟩, ⟨by decide, by decide⟩, ⟨by decide, by decide⟩, ⟨by decide, by decide⟩⟩
  have hm7 : Ws 18446744073709551609 18446744073709551615 18446744073709551615 18446744073709551615 := ⟨⟨by decide, by decide⟩, ⟨by decide, by decide⟩, ⟨by decide, by decide⟩, ⟨by decide, by decide⟩⟩
  have hm3 : Ws 18446744073709551613 18446744073709551615 18446744073709551615 18446744073709551615 := ⟨⟨by decide, by decide⟩, ⟨by decide, by decide⟩, ⟨by decide, by decide⟩, ⟨by decide, by decide⟩⟩
  have q1 : ∀ w : World, (Op.equalIn 10000 24 (.agg #[.int .u64 18446744073709551615, .int .u64 18446744073709551615, .int .u64 18446744073709551615, .int .u64 18446744073709551615]) (.agg #[.int .u64 18446744073709551615, .int .u64 18446744073709551615, .int .u64 18446744073709551615, .int .u64 18446744073709551615])).run Try.prog w = .ok true w := fun w => by
    rw [eq4, decide_eq_true]; exact ⟨rfl, rfl, rfl, rfl⟩
  have q2 : ∀ w : World, (Op.equalIn 10000 24 (.agg #[.int .u64 18446744073709551613, .int .u64 18446744073709551615, .int .u64 18446744073709551615, .int .u64 18446744073709551615]) (.agg #[.int .u64 18446744073709551613, .int .u64 18446744073709551615, .int .u64 18446744073709551615, .int .u64 18446744073709551615])).run Try.prog w = .ok true w := fun w => by
    rw [eq4, decide_eq_true]; exact ⟨rfl, rfl, rfl, rfl⟩
  go_enter Try.func9, Try.ntmps9
  go_wp2_with fail
  refine (of_any 1 _).mono ?_
  rintro e w1 ⟨rfl, hb1⟩
  go_wp2_with fail
  refine (sub_any 0 0 0 0 1 0 0 0 ⟨ho, ho, ho, ho⟩ h1 _).mono ?_
  rintro e w2 ⟨a0, a1, a2, a3, rfl, ha, hav, hb2⟩
  obtain ⟨rfl, rfl, rfl, rfl⟩ := val_inj _ _ _ _ _ _ _ _ ha hm1 (by rw [hav.out]; decide +kernel)
  clear ha hav
  go_wp2_with fail
  refine (of_any 7 _).mono ?_
  rintro e w3 ⟨rfl, hb3⟩
  obtain ⟨hc3, hf3⟩ := oldKept hb3
  have s3 : w2.heap.size < w3.heap.size := by have := hb3.size; simp at this; omega
  go_wp2_with fail
  refine (sub_any 0 0 0 0 7 0 0 0 ⟨ho, ho, ho, ho⟩ h7 _).mono ?_
  rintro e w4 ⟨a0, a1, a2, a3, rfl, ha, hav, hb4⟩
  obtain ⟨rfl, rfl, rfl, rfl⟩ := val_inj _ _ _ _ _ _ _ _ ha hm7 (by rw [hav.out]; decide +kernel)
  clear ha hav
  obtain ⟨hc4, hf4⟩ := oldKept hb4
  have s4 : w2.heap.size < w4.heap.size := by have := hb4.size; omega
  go_wp2_with fail
  refine (of_any 2 _).mono ?_
  rintro e w5 ⟨rfl, hb5⟩
  obtain ⟨hc5, hf5⟩ := oldKept hb5
  have s5 : w2.heap.size < w5.heap.size := by have := hb5.size; omega
  go_wp2_with fail
  refine (sdiv_any 18446744073709551609 18446744073709551615 18446744073709551615 18446744073709551615 2 0 0 0 hm7 h2 _).mono ?_
  rintro e w6 ⟨a0, a1, a2, a3, rfl, ha, hav, hb6⟩
  obtain ⟨rfl, rfl, rfl, rfl⟩ := val_inj _ _ _ _ _ _ _ _ ha hm3 (by rw [hav.out]; decide +kernel)
  clear ha hav
  have s6 : w2.heap.size < w6.heap.size := by have := hb6.size; omega
  have o0 : w6.cell? ⟨w2.heap.size, 0, none⟩ = some (.int .u64 18446744073709551615) := (hb6.cell (p := ⟨w2.heap.size, 0, none⟩) s5).trans ((hb5.cell (p := ⟨w2.heap.size, 0, none⟩) s4).trans ((hb4.cell (p := ⟨w2.heap.size, 0, none⟩) s3).trans ((hb3.cell (p := ⟨w2.heap.size, 0, none⟩) (by simp)).trans (by simp [go_sem]))))
  have o1 : w6.cell? ⟨w2.heap.size, 1, none⟩ = some (.int .u64 18446744073709551615) := (hb6.cell (p := ⟨w2.heap.size, 1, none⟩) s5).trans ((hb5.cell (p := ⟨w2.heap.size, 1, none⟩) s4).trans ((hb4.cell (p := ⟨w2.heap.size, 1, none⟩) s3).trans ((hb3.cell (p := ⟨w2.heap.size, 1, none⟩) (by simp)).trans (by simp [go_sem]))))
  have o2 : w6.cell? ⟨w2.heap.size, 2, none⟩ = some (.int .u64 18446744073709551615) := (hb6.cell (p := ⟨w2.heap.size, 2, none⟩) s5).trans ((hb5.cell (p := ⟨w2.heap.size, 2, none⟩) s4).trans ((hb4.cell (p := ⟨w2.heap.size, 2, none⟩) s3).trans ((hb3.cell (p := ⟨w2.heap.size, 2, none⟩) (by simp)).trans (by simp [go_sem]))))
  have o3 : w6.cell? ⟨w2.heap.size, 3, none⟩ = some (.int .u64 18446744073709551615) := (hb6.cell (p := ⟨w2.heap.size, 3, none⟩) s5).trans ((hb5.cell (p := ⟨w2.heap.size, 3, none⟩) s4).trans ((hb4.cell (p := ⟨w2.heap.size, 3, none⟩) s3).trans ((hb3.cell (p := ⟨w2.heap.size, 3, none⟩) (by simp)).trans (by simp [go_sem]))))
  clear hc3 hf3 hc4 hf4 hc5 hf5
  go_wp2
  go_ret
  refine ⟨rfl, ?_⟩
  have B1 := belowStep (n := w.heap.size) (w := w) (by go_grown) (by (try simp) <;> omega) hb1
  have B2 := belowStep (n := w.heap.size) (w := w) B1 B1.size hb2
  have B3 := belowStep (B2.alloc (Nat.le_trans B1.size hb2.size) _) (by simp; have := B2.size; omega) hb3
  have B4 := belowStep B3 B3.size hb4
  have B5 := belowStep B4 B4.size hb5
  have B6 := belowStep B5 B5.size hb6
  have := B6.size
  go_grown
end Go.Proofs.Ytgapcjdgakamoaa
