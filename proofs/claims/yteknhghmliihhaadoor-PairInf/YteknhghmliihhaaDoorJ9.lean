/- What the reference's line does. No condition. -/
import Derived.Test.YteknhghmliihhaaDoorJ8
import Derived.Test.YteknhghmliihhaaDoorC6
namespace Go.Proofs.YteknhghmliihhaaDoor
open Go.RowKit Go.Shelf Go.Sort

set_option maxHeartbeats 1000000 in
theorem rone_any (w : World) :
    Calls Tryd.prog 38 #[] w fun e w' => e = .returned (vP o2) ∧ Below w.heap.size w w' := by
  go_enter Tryd.func38, Tryd.ntmps38
  go_wp2_with fail
  refine bodyPost_ret (v := vP o2) (by simp [results, Tryd.results38, go_sem, o2, *]) rfl ⟨rfl, by go_grown⟩

set_option maxRecDepth 20000 in
set_option maxHeartbeats 4000000 in
theorem rline1 (s t q : Pt) (hs : s.I = true) (w : World) :
    Calls Tryd.prog 20 #[vT s, vT t, vT q] w fun e w' => e = .returned (vP o2) ∧ Below w.heap.size w w' := by
  obtain ⟨sX, sY, sI⟩ := s
  obtain ⟨tX, tY, tI⟩ := t
  obtain ⟨qX, qY, qI⟩ := q
  simp only [vT] at hs ⊢
  subst hs
  go_enter Tryd.func20, Tryd.ntmps20
  go_wp2_with fail
  refine wpOf (fun V => Below w.heap.size w V ∧ Tb w.heap.size ⟨sX, sY, true⟩ V ∧ Tb (w.heap.size + 1) ⟨tX, tY, tI⟩ V ∧ Tb (w.heap.size + 1 + 1) ⟨qX, qY, qI⟩ V ∧ Pb (w.heap.size + 1 + 1 + 1) z2 V) ⟨by go_grown, (((Tb.new' w ⟨sX, sY, true⟩ 24 _ rfl).alloc _).alloc _).alloc _, ((Tb.new' _ ⟨tX, tY, tI⟩ 24 _ (by simp)).alloc _).alloc _, (Tb.new' _ ⟨qX, qY, qI⟩ 24 _ (by simp)).alloc _, Pb.new' _ z2 27 _ (by simp)⟩ ?_
  rintro V ⟨BV, hA, hB, hC, hO⟩
  have k0 := cell_regrown hA.a
  have k1 := cell_regrown hA.b
  have k2 := cell_regrown hA.c
  have k3 := cell_regrown hB.a
  have k4 := cell_regrown hB.b
  have k5 := cell_regrown hB.c
  have HV : Hid (_ ∧ _ ∧ _ ∧ _ ∧ _) := ⟨BV, hA, hB, hC, hO⟩
  clear hA hB hC hO BV
  refine wp_region_quiet_below (by kernel_rfl) (by kernel_rfl) ?_
  iterate 3 (quiet_step (fail))
  iterate 9 (go_big_quiet_step (fail))
  refine wpQuiet_nil ?_
  intro w8 hw8
  have B8 : Below V.heap.size V w8 := by
    obtain ⟨p, rfl⟩ := hw8
    exact below_regrown _ _ _
  obtain ⟨BV, hA, hB, hC, hO⟩ := HV.out
  have BW := belowStep BV BV.size B8
  have O8 := hO.below B8
  clear hw8 k0 k1 k2 k3 k4 k5 hA hB hC hO BV HV B8
  go_wp2_with fail
  refine (rone_any _).mono ?_
  rintro e w9 ⟨rfl, B9⟩
  have BW9 := belowStep BW BW.size B9
  obtain ⟨z, a, b, f⟩ := O8.below B9
  clear BW B9 O8
  go_wp2_with fail
  refine bodyPost_ret (v := vP o2) (by simp [results, Tryd.results20, go_sem, o2, *]) rfl ⟨rfl, ?_⟩
  exact below_sP (y := o2) BW9 (by omega)

set_option maxRecDepth 20000 in
set_option maxHeartbeats 4000000 in
theorem rline2 (s t q : Pt) (hs : s.I = false) (ht : t.I = true) (w : World) :
    Calls Tryd.prog 20 #[vT s, vT t, vT q] w fun e w' => e = .returned (vP o2) ∧ Below w.heap.size w w' := by
  obtain ⟨sX, sY, sI⟩ := s
  obtain ⟨tX, tY, tI⟩ := t
  obtain ⟨qX, qY, qI⟩ := q
  simp only [vT] at hs ht ⊢
  subst hs ht
  go_enter Tryd.func20, Tryd.ntmps20
  go_wp2_with fail
  refine wpOf (fun V => Below w.heap.size w V ∧ Tb w.heap.size ⟨sX, sY, false⟩ V ∧ Tb (w.heap.size + 1) ⟨tX, tY, true⟩ V ∧ Tb (w.heap.size + 1 + 1) ⟨qX, qY, qI⟩ V ∧ Pb (w.heap.size + 1 + 1 + 1) z2 V) ⟨by go_grown, (((Tb.new' w ⟨sX, sY, false⟩ 24 _ rfl).alloc _).alloc _).alloc _, ((Tb.new' _ ⟨tX, tY, true⟩ 24 _ (by simp)).alloc _).alloc _, (Tb.new' _ ⟨qX, qY, qI⟩ 24 _ (by simp)).alloc _, Pb.new' _ z2 27 _ (by simp)⟩ ?_
  rintro V ⟨BV, hA, hB, hC, hO⟩
  have k0 := cell_regrown hA.a
  have k1 := cell_regrown hA.b
  have k2 := cell_regrown hA.c
  have k3 := cell_regrown hB.a
  have k4 := cell_regrown hB.b
  have k5 := cell_regrown hB.c
  have HV : Hid (_ ∧ _ ∧ _ ∧ _ ∧ _) := ⟨BV, hA, hB, hC, hO⟩
  clear hA hB hC hO BV
  refine wp_region_quiet_below (by kernel_rfl) (by kernel_rfl) ?_
  iterate 7 (quiet_step (fail))
  iterate 5 (go_big_quiet_step (fail))
  refine wpQuiet_nil ?_
  intro w8 hw8
  have B8 : Below V.heap.size V w8 := by
    obtain ⟨p, rfl⟩ := hw8
    exact below_regrown _ _ _
  obtain ⟨BV, hA, hB, hC, hO⟩ := HV.out
  have BW := belowStep BV BV.size B8
  have O8 := hO.below B8
  clear hw8 k0 k1 k2 k3 k4 k5 hA hB hC hO BV HV B8
  go_wp2_with fail
  refine (rone_any _).mono ?_
  rintro e w9 ⟨rfl, B9⟩
  have BW9 := belowStep BW BW.size B9
  obtain ⟨z, a, b, f⟩ := O8.below B9
  clear BW B9 O8
  go_wp2_with fail
  refine bodyPost_ret (v := vP o2) (by simp [results, Tryd.results20, go_sem, o2, *]) rfl ⟨rfl, ?_⟩
  exact below_sP (y := o2) BW9 (by omega)

set_option maxRecDepth 20000 in
set_option maxHeartbeats 4000000 in
theorem rline3 (s t q : Pt) (hs : s.I = false) (ht : t.I = false) (hn : t = ngN s) (us : Wl s) (w : World) :
    Calls Tryd.prog 20 #[vT s, vT t, vT q] w fun e w' => e = .returned (vP o2) ∧ Below w.heap.size w w' := by
  have hG := eqlT t (ngN s)
  rw [decide_eq_true hn] at hG
  have C0 := minus_any s us
  obtain ⟨g, hg⟩ : ∃ g, ngN s = g := ⟨_, rfl⟩
  rw [hg] at C0 hG
  clear hn hg us
  obtain ⟨sX, sY, sI⟩ := s
  obtain ⟨tX, tY, tI⟩ := t
  obtain ⟨qX, qY, qI⟩ := q
  simp only [vT] at hs ht hG C0 ⊢
  subst hs ht
  go_enter Tryd.func20, Tryd.ntmps20
  go_wp2_with fail
  refine wpOf (fun V => Below w.heap.size w V ∧ Tb w.heap.size ⟨sX, sY, false⟩ V ∧ Tb (w.heap.size + 1) ⟨tX, tY, false⟩ V ∧ Tb (w.heap.size + 1 + 1) ⟨qX, qY, qI⟩ V ∧ Pb (w.heap.size + 1 + 1 + 1) z2 V) ⟨by go_grown, (((Tb.new' w ⟨sX, sY, false⟩ 24 _ rfl).alloc _).alloc _).alloc _, ((Tb.new' _ ⟨tX, tY, false⟩ 24 _ (by simp)).alloc _).alloc _, (Tb.new' _ ⟨qX, qY, qI⟩ 24 _ (by simp)).alloc _, Pb.new' _ z2 27 _ (by simp)⟩ ?_
  rintro V ⟨BV, hA, hB, hC, hO⟩
  have k0 := cell_regrown hA.a
  have k1 := cell_regrown hA.b
  have k2 := cell_regrown hA.c
  have k3 := cell_regrown hB.a
  have k4 := cell_regrown hB.b
  have k5 := cell_regrown hB.c
  have c1 := inClass (w := V) C0
  clear C0
  have HV : Hid (_ ∧ _ ∧ _ ∧ _ ∧ _) := ⟨BV, hA, hB, hC, hO⟩
  clear hA hB hC hO BV
  refine wp_region_quiet_below (by kernel_rfl) (by kernel_rfl) ?_
  iterate 9 (quiet_step (fail))
  quiet_step (exact c1 _ _)
  iterate 2 (quiet_step (fail))
  refine wpQuiet_nil ?_
  intro w8 hw8
  have B8 : Below V.heap.size V w8 := by
    obtain ⟨p, rfl⟩ := hw8
    exact below_regrown _ _ _
  obtain ⟨BV, hA, hB, hC, hO⟩ := HV.out
  have BW := belowStep BV BV.size B8
  have O8 := hO.below B8
  clear c1 hw8 k0 k1 k2 k3 k4 k5 hA hB hC hO BV HV B8
  go_wp2_with fail
  refine (rone_any _).mono ?_
  rintro e w9 ⟨rfl, B9⟩
  have BW9 := belowStep BW BW.size B9
  obtain ⟨z, a, b, f⟩ := O8.below B9
  clear BW B9 O8
  go_wp2_with fail
  refine bodyPost_ret (v := vP o2) (by simp [results, Tryd.results20, go_sem, o2, *]) rfl ⟨rfl, ?_⟩
  exact below_sP (y := o2) BW9 (by omega)

set_option maxRecDepth 20000 in
set_option maxHeartbeats 4000000 in
theorem rline4 (s t q : Pt) (hs : s.I = false) (ht : t.I = false) (hn : ¬ t = ngN s) (us : Wl s) (ut : UT t) (uq : UT q) (w : World) :
    Calls Tryd.prog 20 #[vT s, vT t, vT q] w fun e w' => e = .returned (vP ⟨sbN (muN (slN s t) (adN s.X q.X)) s.Y, q.Y⟩) ∧ Below w.heap.size w w' := by
  have vs := wl_u us
  have C1 := rslope_any s t vs ut
  have C2 := radd_any s.X q.X vs.1 uq.1
  have C3 := rmul_any (slN s t) (adN s.X q.X) (pm_u _ (sl_lt _ _)) (pm_u _ (ad_lt _ _))
  have C4 := rsub_any (muN (slN s t) (adN s.X q.X)) s.Y (pm_u _ (mu_lt _ _)) vs.2
  obtain ⟨x, hx⟩ : ∃ x, sbN (muN (slN s t) (adN s.X q.X)) s.Y = x := ⟨_, rfl⟩
  rw [hx] at C4 ⊢
  obtain ⟨x1, h1⟩ : ∃ x, slN s t = x := ⟨_, rfl⟩
  rw [h1] at C1 C3 C4
  obtain ⟨x2, h2⟩ : ∃ x, adN s.X q.X = x := ⟨_, rfl⟩
  rw [h2] at C2 C3 C4
  obtain ⟨x3, h3⟩ : ∃ x, muN x1 x2 = x := ⟨_, rfl⟩
  rw [h3] at C3 C4
  have hG := eqlT t (ngN s)
  rw [decide_eq_false hn] at hG
  have C0 := minus_any s us
  obtain ⟨g, hg⟩ : ∃ g, ngN s = g := ⟨_, rfl⟩
  rw [hg] at C0 hG
  clear hn hg us vs ut uq hx h1 h2 h3
  obtain ⟨sX, sY, sI⟩ := s
  obtain ⟨tX, tY, tI⟩ := t
  obtain ⟨qX, qY, qI⟩ := q
  simp only [vT] at hs ht hG C0 C1 C2 C4 ⊢
  subst hs ht
  go_enter Tryd.func20, Tryd.ntmps20
  go_wp2_with fail
  refine wpOf (fun V => Below w.heap.size w V ∧ Tb w.heap.size ⟨sX, sY, false⟩ V ∧ Tb (w.heap.size + 1) ⟨tX, tY, false⟩ V ∧ Tb (w.heap.size + 1 + 1) ⟨qX, qY, qI⟩ V ∧ Pb (w.heap.size + 1 + 1 + 1) z2 V) ⟨by go_grown, (((Tb.new' w ⟨sX, sY, false⟩ 24 _ rfl).alloc _).alloc _).alloc _, ((Tb.new' _ ⟨tX, tY, false⟩ 24 _ (by simp)).alloc _).alloc _, (Tb.new' _ ⟨qX, qY, qI⟩ 24 _ (by simp)).alloc _, Pb.new' _ z2 27 _ (by simp)⟩ ?_
  rintro V ⟨BV, hA, hB, hC, hO⟩
  have k0 := cell_regrown hA.a
  have k1 := cell_regrown hA.b
  have k2 := cell_regrown hA.c
  have k3 := cell_regrown hB.a
  have k4 := cell_regrown hB.b
  have k5 := cell_regrown hB.c
  have c1 := inClass (w := V) C0
  clear C0
  have HV : Hid (_ ∧ _ ∧ _ ∧ _ ∧ _) := ⟨BV, hA, hB, hC, hO⟩
  clear hA hB hC hO BV
  refine wp_region_quiet_below (by kernel_rfl) (by kernel_rfl) ?_
  iterate 9 (quiet_step (fail))
  quiet_step (exact c1 _ _)
  iterate 2 (quiet_step (fail))
  refine wpQuiet_nil ?_
  intro w8 hw8
  have B8 : Below V.heap.size V w8 := by
    obtain ⟨p, rfl⟩ := hw8
    exact below_regrown _ _ _
  obtain ⟨BV, hA, hB, hC, hO⟩ := HV.out
  have BW := belowStep BV BV.size B8
  have A8 := hA.below B8
  have D8 := hB.below B8
  have Q8 := hC.below B8
  have O8 := hO.below B8
  clear hw8 k0 k1 k2 k3 k4 k5 hA hB hC hO BV HV c1 B8 V hG
  have ⟨_, sa, sb, sc, sf⟩ := A8
  have ⟨_, ta, tb, tc, tf⟩ := D8
  go_wp2_with fail
  refine (C1 _).mono ?_
  rintro e w9 ⟨rfl, B9⟩
  have BW9 := belowStep BW BW.size B9
  have A9 := A8.below B9
  have Q9 := Q8.below B9
  have O9 := O8.below B9
  clear sa sb sc sf ta tb tc tf A8 D8 Q8 O8 BW B9
  have j0 := cell_regrown A9.a
  have j1 := cell_regrown A9.b
  have j6 := cell_regrown Q9.a
  have d2 := inClass (w := w9) C2
  have d3 := inClass (w := w9) C3
  have d4 := inClass (w := w9) C4
  have HV : Hid (_ ∧ _ ∧ _) := ⟨BW9, Q9, O9⟩
  clear A9 Q9 O9 BW9 C1 C2 C3 C4
  go_wp2_with fail
  refine wp_region_quiet_below (by kernel_rfl) (by kernel_rfl) ?_
  iterate 5 (quiet_step (fail))
  quiet_step (exact d2 _ _)
  quiet_step (exact d3 _ _)
  iterate 2 (quiet_step (fail))
  quiet_step (exact d4 _ _)
  iterate 1 (quiet_step (fail))
  refine wpQuiet_nil ?_
  intro u8 hu8
  have B8 : Below w9.heap.size w9 u8 := by
    obtain ⟨p, rfl⟩ := hu8
    exact below_regrown _ _ _
  obtain ⟨BW, Q8, O8⟩ := HV.out
  obtain ⟨_, qa, qb, qc, qf⟩ := Q8.below B8
  obtain ⟨z, a, b, f⟩ := O8.below B8
  have BW9 := belowStep BW BW.size B8
  clear hu8 j0 j1 j6 d2 d3 d4 HV O8 Q8 BW B8
  go_wp2_with fail
  refine bodyPost_ret (v := vP ⟨x, qY⟩) (by simp [results, Tryd.results20, go_sem, *]) rfl ⟨rfl, ?_⟩
  exact below_sP (y := ⟨x, qY⟩) BW9 (by omega)

theorem rline_any (s t q : Pt) (us : Wl s) (ut : Wl t) (uq : UT q) (w : World) :
    Calls Tryd.prog 20 #[vT s, vT t, vT q] w fun e w' => e = .returned (vP (lnA s t q)) ∧ Below w.heap.size w w' := by
  unfold lnA
  by_cases hs : s = iN
  · rw [if_pos (.inl hs)]; exact rline1 s t q (by rw [hs]; rfl) w
  by_cases ht : t = iN
  · rw [if_pos (.inr (.inl ht))]; exact rline2 s t q (wl_i us hs) (by rw [ht]; rfl) w
  by_cases hn : t = ngN s
  · rw [if_pos (.inr (.inr hn))]; exact rline3 s t q (wl_i us hs) (wl_i ut ht) hn us w
  rw [if_neg (by rintro (h | h | h); exact hs h; exact ht h; exact hn h)]
  exact rline4 s t q (wl_i us hs) (wl_i ut ht) hn us (wl_u ut) uq w
end Go.Proofs.YteknhghmliihhaaDoor
