/- What the package pair's line does. No condition. -/
import Derived.Test.YteknhghmliihhaaDoorJ1
import Derived.Test.YteknhghmliihhaaDoorJ2
namespace Go.Proofs.YteknhghmliihhaaDoor
open Go.RowKit Go.Shelf Go.Sort

set_option maxRecDepth 20000 in
set_option maxHeartbeats 4000000 in
theorem pline1 (s t q : Pt) (hs : s = iN) (w : World) (hL : Lp w) :
    Calls Tryd.prog 18 #[vT s, vT t, vT q] w fun e w' => e = .returned (vP (lnA s t q)) ∧ Below w.heap.size w w' := by
  have eM : lnA s t q = o2 := by unfold lnA; rw [if_pos (.inl hs)]
  rw [eM]
  have hE := eqlI s
  rw [decide_eq_true hs] at hE
  clear eM hs
  obtain ⟨sX, sY, sI⟩ := s
  obtain ⟨tX, tY, tI⟩ := t
  obtain ⟨qX, qY, qI⟩ := q
  simp only [vT] at hE ⊢
  go_enter Tryd.func18, Tryd.ntmps18
  go_wp2_with fail
  refine wpOf (fun V => Below w.heap.size w V ∧ Tb w.heap.size ⟨sX, sY, sI⟩ V ∧ Tb (w.heap.size + 1) ⟨tX, tY, tI⟩ V ∧ Tb (w.heap.size + 1 + 1) ⟨qX, qY, qI⟩ V ∧ Pb (w.heap.size + 1 + 1 + 1) z2 V ∧ Lp V) ⟨by go_grown, (((Tb.new' w ⟨sX, sY, sI⟩ 24 _ rfl).alloc _).alloc _).alloc _, ((Tb.new' _ ⟨tX, tY, tI⟩ 24 _ (by simp)).alloc _).alloc _, (Tb.new' _ ⟨qX, qY, qI⟩ 24 _ (by simp)).alloc _, Pb.new' _ z2 27 _ (by simp), (((hL.alloc _).alloc _).alloc _).alloc _⟩ ?_
  rintro V ⟨BV, hA, hB, hC, hO, hLV⟩
  have k0 := cell_regrown hA.a
  have k1 := cell_regrown hA.b
  have k2 := cell_regrown hA.c
  have k3 := cell_regrown hB.a
  have k4 := cell_regrown hB.b
  have k5 := cell_regrown hB.c
  have k6 := cell_regrown hLV.a0
  have k7 := cell_regrown hLV.a1
  have k8 := cell_regrown hLV.a2
  have HV : Hid (_ ∧ _ ∧ _ ∧ _ ∧ _ ∧ _) := ⟨BV, hA, hB, hC, hO, hLV⟩
  clear hA hB hC hO BV hL hLV
  refine wp_region_quiet_below (by kernel_rfl) (by kernel_rfl) ?_
  iterate 4 (quiet_step (fail))
  iterate 10 (go_big_quiet_step (fail))
  refine wpQuiet_nil ?_
  intro w8 hw8
  have B8 : Below V.heap.size V w8 := by
    obtain ⟨p, rfl⟩ := hw8
    exact below_regrown _ _ _
  obtain ⟨BV, hA, hB, hC, hO, hLV⟩ := HV.out
  have BW := belowStep BV BV.size B8
  obtain ⟨z, a, b, f⟩ := hO.below B8
  have L8' := hLV.below B8
  have lq := L8'.ne
  have b0 := L8'.b0
  have b1 := L8'.b1
  have zb := L8'.zb
  clear hw8 k0 k1 k2 k3 k4 k5 k6 k7 k8 hA hB hC hO hLV BV L8' HV
  go_wp2_with fail
  refine bodyPost_ret (v := vP o2) (by simp [results, Tryd.results18, go_sem, o2, *]) rfl ⟨rfl, ?_⟩
  exact (BW.setCell (p := ⟨w.heap.size + 1 + 1 + 1, 0, none⟩) (by show _ ≤ w.heap.size + 1 + 1 + 1; omega) _).setCell (p := ⟨w.heap.size + 1 + 1 + 1, 1, none⟩) (by show _ ≤ w.heap.size + 1 + 1 + 1; omega) _

set_option maxRecDepth 20000 in
set_option maxHeartbeats 4000000 in
theorem pline2 (s t q : Pt) (hs : ¬ s = iN) (ht : t = iN) (w : World) (hL : Lp w) :
    Calls Tryd.prog 18 #[vT s, vT t, vT q] w fun e w' => e = .returned (vP (lnA s t q)) ∧ Below w.heap.size w w' := by
  have eM : lnA s t q = o2 := by unfold lnA; rw [if_pos (.inr (.inl ht))]
  rw [eM]
  have hE := eqlI s
  rw [decide_eq_false hs] at hE
  have hF := eqlI t
  rw [decide_eq_true ht] at hF
  clear eM hs ht
  obtain ⟨sX, sY, sI⟩ := s
  obtain ⟨tX, tY, tI⟩ := t
  obtain ⟨qX, qY, qI⟩ := q
  simp only [vT] at hE hF ⊢
  go_enter Tryd.func18, Tryd.ntmps18
  go_wp2_with fail
  refine wpOf (fun V => Below w.heap.size w V ∧ Tb w.heap.size ⟨sX, sY, sI⟩ V ∧ Tb (w.heap.size + 1) ⟨tX, tY, tI⟩ V ∧ Tb (w.heap.size + 1 + 1) ⟨qX, qY, qI⟩ V ∧ Pb (w.heap.size + 1 + 1 + 1) z2 V ∧ Lp V) ⟨by go_grown, (((Tb.new' w ⟨sX, sY, sI⟩ 24 _ rfl).alloc _).alloc _).alloc _, ((Tb.new' _ ⟨tX, tY, tI⟩ 24 _ (by simp)).alloc _).alloc _, (Tb.new' _ ⟨qX, qY, qI⟩ 24 _ (by simp)).alloc _, Pb.new' _ z2 27 _ (by simp), (((hL.alloc _).alloc _).alloc _).alloc _⟩ ?_
  rintro V ⟨BV, hA, hB, hC, hO, hLV⟩
  have k0 := cell_regrown hA.a
  have k1 := cell_regrown hA.b
  have k2 := cell_regrown hA.c
  have k3 := cell_regrown hB.a
  have k4 := cell_regrown hB.b
  have k5 := cell_regrown hB.c
  have k6 := cell_regrown hLV.a0
  have k7 := cell_regrown hLV.a1
  have k8 := cell_regrown hLV.a2
  have HV : Hid (_ ∧ _ ∧ _ ∧ _ ∧ _ ∧ _) := ⟨BV, hA, hB, hC, hO, hLV⟩
  clear hA hB hC hO BV hL hLV
  refine wp_region_quiet_below (by kernel_rfl) (by kernel_rfl) ?_
  iterate 9 (quiet_step (fail))
  iterate 5 (go_big_quiet_step (fail))
  refine wpQuiet_nil ?_
  intro w8 hw8
  have B8 : Below V.heap.size V w8 := by
    obtain ⟨p, rfl⟩ := hw8
    exact below_regrown _ _ _
  obtain ⟨BV, hA, hB, hC, hO, hLV⟩ := HV.out
  have BW := belowStep BV BV.size B8
  obtain ⟨z, a, b, f⟩ := hO.below B8
  have L8' := hLV.below B8
  have lq := L8'.ne
  have b0 := L8'.b0
  have b1 := L8'.b1
  have zb := L8'.zb
  clear hw8 k0 k1 k2 k3 k4 k5 k6 k7 k8 hA hB hC hO hLV BV L8' HV
  go_wp2_with fail
  refine bodyPost_ret (v := vP o2) (by simp [results, Tryd.results18, go_sem, o2, *]) rfl ⟨rfl, ?_⟩
  exact (BW.setCell (p := ⟨w.heap.size + 1 + 1 + 1, 0, none⟩) (by show _ ≤ w.heap.size + 1 + 1 + 1; omega) _).setCell (p := ⟨w.heap.size + 1 + 1 + 1, 1, none⟩) (by show _ ≤ w.heap.size + 1 + 1 + 1; omega) _

set_option maxRecDepth 20000 in
set_option maxHeartbeats 4000000 in
theorem pline3 (s t q : Pt) (hs : ¬ s = iN) (ht : ¬ t = iN) (hn : t = ngN s) (us : onN s = true) (w : World) (hL : Lp w) :
    Calls Tryd.prog 18 #[vT s, vT t, vT q] w fun e w' => e = .returned (vP (lnA s t q)) ∧ Below w.heap.size w w' := by
  have eM : lnA s t q = o2 := by unfold lnA; rw [if_pos (.inr (.inr hn))]
  rw [eM]
  have hE := eqlI s
  rw [decide_eq_false hs] at hE
  have hF := eqlI t
  rw [decide_eq_false ht] at hF
  have hG := eqlT t (ngN s)
  rw [decide_eq_true hn] at hG
  have C0 := pneg_any s us
  obtain ⟨g, hg⟩ : ∃ g, ngN s = g := ⟨_, rfl⟩
  rw [hg] at C0 hG
  clear eM hs ht hn hg us
  obtain ⟨sX, sY, sI⟩ := s
  obtain ⟨tX, tY, tI⟩ := t
  obtain ⟨qX, qY, qI⟩ := q
  simp only [vT] at hE hF hG C0 ⊢
  go_enter Tryd.func18, Tryd.ntmps18
  go_wp2_with fail
  refine wpOf (fun V => Below w.heap.size w V ∧ Tb w.heap.size ⟨sX, sY, sI⟩ V ∧ Tb (w.heap.size + 1) ⟨tX, tY, tI⟩ V ∧ Tb (w.heap.size + 1 + 1) ⟨qX, qY, qI⟩ V ∧ Pb (w.heap.size + 1 + 1 + 1) z2 V ∧ Lp V) ⟨by go_grown, (((Tb.new' w ⟨sX, sY, sI⟩ 24 _ rfl).alloc _).alloc _).alloc _, ((Tb.new' _ ⟨tX, tY, tI⟩ 24 _ (by simp)).alloc _).alloc _, (Tb.new' _ ⟨qX, qY, qI⟩ 24 _ (by simp)).alloc _, Pb.new' _ z2 27 _ (by simp), (((hL.alloc _).alloc _).alloc _).alloc _⟩ ?_
  rintro V ⟨BV, hA, hB, hC, hO, hLV⟩
  have k0 := cell_regrown hA.a
  have k1 := cell_regrown hA.b
  have k2 := cell_regrown hA.c
  have k3 := cell_regrown hB.a
  have k4 := cell_regrown hB.b
  have k5 := cell_regrown hB.c
  have k6 := cell_regrown hLV.a0
  have k7 := cell_regrown hLV.a1
  have k8 := cell_regrown hLV.a2
  have c1 := inClassP C0 hLV
  clear C0
  have HV : Hid (_ ∧ _ ∧ _ ∧ _ ∧ _ ∧ _) := ⟨BV, hA, hB, hC, hO, hLV⟩
  clear hA hB hC hO BV hL hLV
  refine wp_region_quiet_below (by kernel_rfl) (by kernel_rfl) ?_
  iterate 11 (quiet_step (fail))
  quiet_step (exact c1 _ _)
  iterate 2 (quiet_step (fail))
  refine wpQuiet_nil ?_
  intro w8 hw8
  have B8 : Below V.heap.size V w8 := by
    obtain ⟨p, rfl⟩ := hw8
    exact below_regrown _ _ _
  obtain ⟨BV, hA, hB, hC, hO, hLV⟩ := HV.out
  have BW := belowStep BV BV.size B8
  obtain ⟨z, a, b, f⟩ := hO.below B8
  have L8' := hLV.below B8
  have lq := L8'.ne
  have b0 := L8'.b0
  have b1 := L8'.b1
  have zb := L8'.zb
  clear c1 hw8 k0 k1 k2 k3 k4 k5 k6 k7 k8 hA hB hC hO hLV BV L8' HV
  go_wp2_with fail
  refine bodyPost_ret (v := vP o2) (by simp [results, Tryd.results18, go_sem, o2, *]) rfl ⟨rfl, ?_⟩
  exact (BW.setCell (p := ⟨w.heap.size + 1 + 1 + 1, 0, none⟩) (by show _ ≤ w.heap.size + 1 + 1 + 1; omega) _).setCell (p := ⟨w.heap.size + 1 + 1 + 1, 1, none⟩) (by show _ ≤ w.heap.size + 1 + 1 + 1; omega) _

set_option maxRecDepth 20000 in
set_option maxHeartbeats 4000000 in
theorem pline4 (s t q : Pt) (hs : ¬ s = iN) (ht : ¬ t = iN) (hn : ¬ t = ngN s) (us : onN s = true) (ut : UT t) (uq : UT q) (w : World) (hL : Lp w) :
    Calls Tryd.prog 18 #[vT s, vT t, vT q] w fun e w' => e = .returned (vP (lnA s t q)) ∧ Below w.heap.size w w' := by
  have eM : lnA s t q = ⟨sbN (muN (slN s t) (adN s.X q.X)) s.Y, q.Y⟩ := by unfold lnA; rw [if_neg (by rintro (h | h | h); exact hs h; exact ht h; exact hn h)]
  rw [eM]
  have vs := wl_u (wl_on us)
  have C1 := pslope_any s t vs ut
  have C2 := add_any s.X q.X vs.1 uq.1
  have C3 := mul_any (slN s t) (adN s.X q.X) (pm_u _ (sl_lt _ _)) (pm_u _ (ad_lt _ _))
  have C4 := sub_any (muN (slN s t) (adN s.X q.X)) s.Y (pm_u _ (mu_lt _ _)) vs.2
  obtain ⟨x, hx⟩ : ∃ x, sbN (muN (slN s t) (adN s.X q.X)) s.Y = x := ⟨_, rfl⟩
  rw [hx] at C4 ⊢
  obtain ⟨x1, h1⟩ : ∃ x, slN s t = x := ⟨_, rfl⟩
  rw [h1] at C1 C3 C4
  obtain ⟨x2, h2⟩ : ∃ x, adN s.X q.X = x := ⟨_, rfl⟩
  rw [h2] at C2 C3 C4
  obtain ⟨x3, h3⟩ : ∃ x, muN x1 x2 = x := ⟨_, rfl⟩
  rw [h3] at C3 C4
  have hE := eqlI s
  rw [decide_eq_false hs] at hE
  have hF := eqlI t
  rw [decide_eq_false ht] at hF
  have hG := eqlT t (ngN s)
  rw [decide_eq_false hn] at hG
  have C0 := pneg_any s us
  obtain ⟨g, hg⟩ : ∃ g, ngN s = g := ⟨_, rfl⟩
  rw [hg] at C0 hG
  clear eM hs ht hn hg us vs ut uq hx h1 h2 h3
  obtain ⟨sX, sY, sI⟩ := s
  obtain ⟨tX, tY, tI⟩ := t
  obtain ⟨qX, qY, qI⟩ := q
  simp only [vT] at hE hF hG C0 C1 C2 C4 ⊢
  go_enter Tryd.func18, Tryd.ntmps18
  go_wp2_with fail
  refine wpOf (fun V => Below w.heap.size w V ∧ Tb w.heap.size ⟨sX, sY, sI⟩ V ∧ Tb (w.heap.size + 1) ⟨tX, tY, tI⟩ V ∧ Tb (w.heap.size + 1 + 1) ⟨qX, qY, qI⟩ V ∧ Pb (w.heap.size + 1 + 1 + 1) z2 V ∧ Lp V) ⟨by go_grown, (((Tb.new' w ⟨sX, sY, sI⟩ 24 _ rfl).alloc _).alloc _).alloc _, ((Tb.new' _ ⟨tX, tY, tI⟩ 24 _ (by simp)).alloc _).alloc _, (Tb.new' _ ⟨qX, qY, qI⟩ 24 _ (by simp)).alloc _, Pb.new' _ z2 27 _ (by simp), (((hL.alloc _).alloc _).alloc _).alloc _⟩ ?_
  rintro V ⟨BV, hA, hB, hC, hO, hLV⟩
  have k0 := cell_regrown hA.a
  have k1 := cell_regrown hA.b
  have k2 := cell_regrown hA.c
  have k3 := cell_regrown hB.a
  have k4 := cell_regrown hB.b
  have k5 := cell_regrown hB.c
  have k6 := cell_regrown hLV.a0
  have k7 := cell_regrown hLV.a1
  have k8 := cell_regrown hLV.a2
  have c1 := inClassP C0 hLV
  clear C0
  have HV : Hid (_ ∧ _ ∧ _ ∧ _ ∧ _ ∧ _) := ⟨BV, hA, hB, hC, hO, hLV⟩
  clear hA hB hC hO BV hL hLV
  refine wp_region_quiet_below (by kernel_rfl) (by kernel_rfl) ?_
  iterate 11 (quiet_step (fail))
  quiet_step (exact c1 _ _)
  iterate 2 (quiet_step (fail))
  refine wpQuiet_nil ?_
  intro w8 hw8
  have B8 : Below V.heap.size V w8 := by
    obtain ⟨p, rfl⟩ := hw8
    exact below_regrown _ _ _
  obtain ⟨BV, hA, hB, hC, hO, hLV⟩ := HV.out
  have BW := belowStep BV BV.size B8
  have A8 := hA.below B8
  have D8 := hB.below B8
  have Q8 := hC.below B8
  have O8 := hO.below B8
  clear hw8 k0 k1 k2 k3 k4 k5 k6 k7 k8 hA hB hC hO hLV BV HV c1 B8 V hE hF hG
  have j0 := cell_regrown A8.a
  have j1 := cell_regrown A8.b
  have j2 := cell_regrown A8.c
  have j3 := cell_regrown D8.a
  have j4 := cell_regrown D8.b
  have j5 := cell_regrown D8.c
  have j6 := cell_regrown Q8.a
  have j7 := cell_regrown Q8.b
  have d1 := inClass (w := w8) C1
  have d2 := inClass (w := w8) C2
  have d3 := inClass (w := w8) C3
  have d4 := inClass (w := w8) C4
  have HV : Hid (_ ∧ _) := ⟨BW, O8⟩
  clear A8 D8 Q8 O8 BW C1 C2 C3 C4
  go_wp2_with fail
  refine region_tail 15 (by kernel_rfl) (by kernel_rfl) ?_
  simp only [List.take_succ_cons, List.take_zero, List.drop_succ_cons, List.drop_zero]
  iterate 2 (quiet_step (fail))
  quiet_step (exact d1 _ _)
  iterate 4 (quiet_step (fail))
  quiet_step (exact d2 _ _)
  quiet_step (exact d3 _ _)
  iterate 2 (quiet_step (fail))
  quiet_step (exact d4 _ _)
  iterate 3 (quiet_step (fail))
  refine wpQuiet_nil ?_
  intro u8 hu8
  have B8 : Below w8.heap.size w8 u8 := by
    obtain ⟨p, rfl⟩ := hu8
    exact below_regrown _ _ _
  obtain ⟨BW, O8⟩ := HV.out
  obtain ⟨z, a, b, f⟩ := O8.below B8
  have BW9 := belowStep BW BW.size B8
  clear hu8 j0 j1 j2 j3 j4 j5 j6 j7 d1 d2 d3 d4 HV O8 BW B8
  go_wp2_with fail
  refine bodyPost_ret (v := vP ⟨x, qY⟩) (by simp [results, Tryd.results18, go_sem, *]) rfl ⟨rfl, ?_⟩
  exact (BW9.setCell (p := ⟨w.heap.size + 1 + 1 + 1, 0, none⟩) (by show _ ≤ w.heap.size + 1 + 1 + 1; omega) _).setCell (p := ⟨w.heap.size + 1 + 1 + 1, 1, none⟩) (by show _ ≤ w.heap.size + 1 + 1 + 1; omega) _

theorem pline_any (s t q : Pt) (us : onN s = true) (ut : UT t) (uq : UT q) (w : World) (hL : Lp w) :
    Calls Tryd.prog 18 #[vT s, vT t, vT q] w fun e w' => e = .returned (vP (lnA s t q)) ∧ Below w.heap.size w w' := by
  by_cases hs : s = iN
  · exact pline1 s t q hs w hL
  by_cases ht : t = iN
  · exact pline2 s t q hs ht w hL
  by_cases hn : t = ngN s
  · exact pline3 s t q hs ht hn us w hL
  exact pline4 s t q hs ht hn us ut uq w hL
end Go.Proofs.YteknhghmliihhaaDoor
