/- What the reference's side, None, Minus, Slope, Plus do. No condition. -/
import Derived.Test.YteknhghmliihhaaDoorC3
namespace Go.Proofs.YteknhghmliihhaaDoor
open Go.RowKit Go.Shelf Go.Sort

set_option maxHeartbeats 2000000 in
theorem side_any (x : Nat) (hx : U64 x) (w : World) :
    Calls Tryd.prog 36 #[.int .u64 x] w fun e w' => e = .returned (.int .u64 (sqN x : Nat)) ∧ Below w.heap.size w w' := by
  have C1 := rmul_any x x hx hx
  have C2 := rmul_any x (muN x x) hx (pm_u _ (mu_lt _ _))
  have C3 := radd_any (muN x (muN x x)) x (pm_u _ (mu_lt _ _)) hx
  rw [show adN (muN x (muN x x)) x = sqN x by unfold sqN; rw [mu_comm x (muN x x)]] at C3
  obtain ⟨y, hy⟩ : ∃ y, sqN x = y := ⟨_, rfl⟩
  rw [hy] at C3 ⊢
  obtain ⟨a, ea⟩ : ∃ a, muN x x = a := ⟨_, rfl⟩
  rw [ea] at C1 C2 C3
  obtain ⟨b, eb⟩ : ∃ b, muN x a = b := ⟨_, rfl⟩
  rw [eb] at C2 C3
  clear hy ea eb
  go_enter Tryd.func36, Tryd.ntmps36
  go_wp2_with fail
  refine (C1 _).mono ?_
  rintro e w1 ⟨rfl, B1⟩
  go_wp2_with fail
  refine (C2 _).mono ?_
  rintro e w2 ⟨rfl, B2⟩
  go_wp2_with fail
  refine (C3 _).mono ?_
  rintro e w3 ⟨rfl, B3⟩
  go_wp2_with fail
  go_ret
  exact ⟨rfl, belowStep (belowStep B1 B1.size B2) (Nat.le_trans B1.size B2.size) B3⟩

set_option maxHeartbeats 2000000 in
theorem none_any (w : World) :
    Calls Tryd.prog 50 #[] w fun e w' => e = .returned (vT iN) ∧ Below w.heap.size w w' := by
  go_enter Tryd.func50, Tryd.ntmps50
  go_wp2_with fail
  refine bodyPost_ret (v := vT iN) (by simp [results, Tryd.results50, go_sem, iN, *]) rfl ⟨rfl, by go_grown⟩

set_option maxRecDepth 20000 in
set_option maxHeartbeats 2000000 in
theorem minus_any (p : Pt) (hp : Wl p) (w : World) :
    Calls Tryd.prog 37 #[vT p] w fun e w' => e = .returned (vT (ngN p)) ∧ Below w.heap.size w w' := by
  by_cases hi : p = iN
  · subst hi
    go_enter Tryd.func37, Tryd.ntmps37
    simp only [vT, iN]
    go_wp2_with fail
    refine bodyPost_ret (v := vT iN) (by simp [results, Tryd.results37, go_sem, iN, *]) rfl ⟨rfl, by go_grown⟩
  have hI := wl_i hp hi
  have C1 := rsub_any 0 p.Y (by unfold U64; omega) (wl_u hp).2
  have eN : ngN p = ⟨p.X, sbN 0 p.Y, false⟩ := by unfold ngN; rw [hI]
  rw [eN]
  obtain ⟨y, hy⟩ : ∃ y, sbN 0 p.Y = y := ⟨_, rfl⟩
  rw [hy] at C1 ⊢
  clear hy eN hp hi
  obtain ⟨pX, pY, pI⟩ := p
  simp only at C1 hI ⊢
  subst hI
  go_enter Tryd.func37, Tryd.ntmps37
  go_wp2_with fail
  refine wpOf (fun V => Below w.heap.size w V ∧ Tb w.heap.size ⟨pX, pY, false⟩ V ∧ Tb (w.heap.size + 1) oP V) ⟨by go_grown, (Tb.new' w ⟨pX, pY, false⟩ 24 _ rfl).alloc _, Tb.new' _ oP 24 _ (by simp)⟩ ?_
  rintro V ⟨BV, hA, hO⟩
  have HV : Hid (_ ∧ _) := ⟨BV, hO⟩
  have c1 := inClass (w := V) C1
  have k0 := cell_regrown hA.a
  have k1 := cell_regrown hA.b
  have k2 := cell_regrown hA.c
  have lz := hO.z
  clear BV hA hO C1
  refine region_tail 6 (by kernel_rfl) (by kernel_rfl) ?_
  simp only [List.take_succ_cons, List.take_zero, List.drop_succ_cons, List.drop_zero]
  iterate 4 (quiet_step (fail))
  quiet_step (exact c1 _ _)
  iterate 1 (quiet_step (fail))
  refine wpQuiet_nil ?_
  intro w8 hw8
  have B8 : Below V.heap.size V w8 := by
    obtain ⟨p, rfl⟩ := hw8
    exact below_regrown _ _ _
  obtain ⟨BV, hO⟩ := HV.out
  have O8 := hO.below B8
  have BW := belowStep BV (by have := BV.size; omega) B8
  obtain ⟨z, a, b, c, f⟩ := O8
  clear hw8 k0 k1 k2 c1 hO BV
  go_wp2_with fail
  refine bodyPost_ret (v := vT ⟨pX, y, false⟩) (by simp [results, Tryd.results37, go_sem, *]) rfl ⟨rfl, ?_⟩
  exact below_put3 (y := ⟨pX, y, false⟩) BW (by omega)

set_option maxRecDepth 20000 in
set_option maxHeartbeats 4000000 in
theorem rslope_any (p q : Pt) (hp : UT p) (hq : UT q) (w : World) :
    Calls Tryd.prog 39 #[vT p, vT q] w fun e w' => e = .returned (.int .u64 (slN p q : Nat)) ∧ Below w.heap.size w w' := by
  have three : U64 3 := by unfold U64; omega
  have one : U64 1 := by unfold U64; omega
  by_cases hE : p = q
  · have hEq := eqlT p q
    rw [decide_eq_true hE] at hEq
    have eM : slN p q = ovN (adN (muN 3 (muN p.X p.X)) 1) (adN p.Y p.Y) := by unfold slN; rw [if_pos hE]
    rw [eM]
    have C1 := rmul_any p.X p.X hp.1 hp.1
    have C2 := rmul_any 3 (muN p.X p.X) three (pm_u _ (mu_lt _ _))
    have C3 := radd_any (muN 3 (muN p.X p.X)) 1 (pm_u _ (mu_lt _ _)) one
    have C4 := rmul_any 2 p.Y (by unfold U64; omega) hp.2
    rw [dbl] at C4
    have C6 := rinv_any (adN p.Y p.Y) (pm_u _ (ad_lt _ _))
    have C5 := rmul_any (adN (muN 3 (muN p.X p.X)) 1) (ivN (adN p.Y p.Y)) (pm_u _ (ad_lt _ _)) (pm_u _ (iv_lt _))
    rw [show muN (adN (muN 3 (muN p.X p.X)) 1) (ivN (adN p.Y p.Y)) = ovN (adN (muN 3 (muN p.X p.X)) 1) (adN p.Y p.Y) from rfl] at C5
    obtain ⟨i4, hi4⟩ : ∃ r, ivN (adN p.Y p.Y) = r := ⟨_, rfl⟩
    rw [hi4] at C5 C6
    clear hi4
    obtain ⟨r, hr⟩ : ∃ r, ovN (adN (muN 3 (muN p.X p.X)) 1) (adN p.Y p.Y) = r := ⟨_, rfl⟩
    rw [hr] at C5 ⊢
    obtain ⟨a1, h1⟩ : ∃ r, muN p.X p.X = r := ⟨_, rfl⟩
    rw [h1] at C1 C2 C3 C5
    obtain ⟨a2, h2⟩ : ∃ r, muN 3 a1 = r := ⟨_, rfl⟩
    rw [h2] at C2 C3 C5
    obtain ⟨a3, h3⟩ : ∃ r, adN a2 1 = r := ⟨_, rfl⟩
    rw [h3] at C3 C5
    obtain ⟨a4, h4⟩ : ∃ r, adN p.Y p.Y = r := ⟨_, rfl⟩
    rw [h4] at C4 C6
    clear h1 h2 h3 h4 hr eM hE
    obtain ⟨pX, pY, pI⟩ := p
    obtain ⟨qX, qY, qI⟩ := q
    simp only [vT] at hEq C1 C4 ⊢
    go_enter Tryd.func39, Tryd.ntmps39
    go_wp2_with fail
    refine wpOf (fun V => Below w.heap.size w V ∧ Tb w.heap.size ⟨pX, pY, pI⟩ V ∧ Tb (w.heap.size + 1) ⟨qX, qY, qI⟩ V) ⟨by go_grown, (Tb.new' w ⟨pX, pY, pI⟩ 24 _ rfl).alloc _, Tb.new' _ ⟨qX, qY, qI⟩ 24 _ (by simp)⟩ ?_
    rintro V ⟨BV, hA, hB⟩
    have c1 := inClass (w := V) C1
    have c2 := inClass (w := V) C2
    have c3 := inClass (w := V) C3
    have c4 := inClass (w := V) C4
    have c5 := inClass (w := V) C5
    have c6 := inClass (w := V) C6
    have k0 := cell_regrown hA.a
    have k1 := cell_regrown hA.b
    have HV : Hid (_ ∧ _) := ⟨BV, BV⟩
    clear hA hB C1 C2 C3 C4 C5 C6 BV hEq
    refine wp_region_quiet_below (by kernel_rfl) (by kernel_rfl) ?_
    iterate 4 (quiet_step (fail))
    quiet_step (exact c1 _ _)
    quiet_step (exact c2 _ _)
    quiet_step (exact c3 _ _)
    iterate 2 (quiet_step (fail))
    quiet_step (exact c4 _ _)
    quiet_step (exact c6 _ _)
    quiet_step (exact c5 _ _)
    iterate 1 (quiet_step (fail))
    refine wpQuiet_nil ?_
    intro w8 hw8
    have B8 : Below V.heap.size V w8 := by
      obtain ⟨p, rfl⟩ := hw8
      exact below_regrown _ _ _
    have BW := belowStep HV.out.1 HV.out.1.size B8
    clear hw8 k0 k1 c1 c2 c3 c4 c5 c6
    go_wp2_with fail
    go_ret
    exact ⟨rfl, BW⟩
  · have hEq := eqlT p q
    rw [decide_eq_false hE] at hEq
    have eM : slN p q = ovN (sbN q.Y p.Y) (sbN q.X p.X) := by unfold slN; rw [if_neg hE]
    rw [eM]
    have C1 := rsub_any q.Y p.Y hq.2 hp.2
    have C2 := rsub_any q.X p.X hq.1 hp.1
    have C4 := rinv_any (sbN q.X p.X) (pm_u _ (sb_lt _ _))
    have C3 := rmul_any (sbN q.Y p.Y) (ivN (sbN q.X p.X)) (pm_u _ (sb_lt _ _)) (pm_u _ (iv_lt _))
    rw [show muN (sbN q.Y p.Y) (ivN (sbN q.X p.X)) = ovN (sbN q.Y p.Y) (sbN q.X p.X) from rfl] at C3
    obtain ⟨i4, hi4⟩ : ∃ r, ivN (sbN q.X p.X) = r := ⟨_, rfl⟩
    rw [hi4] at C3 C4
    clear hi4
    obtain ⟨r, hr⟩ : ∃ r, ovN (sbN q.Y p.Y) (sbN q.X p.X) = r := ⟨_, rfl⟩
    rw [hr] at C3 ⊢
    obtain ⟨a1, h1⟩ : ∃ r, sbN q.Y p.Y = r := ⟨_, rfl⟩
    rw [h1] at C1 C3
    obtain ⟨a2, h2⟩ : ∃ r, sbN q.X p.X = r := ⟨_, rfl⟩
    rw [h2] at C2 C4
    clear h1 h2 hr eM hE
    obtain ⟨pX, pY, pI⟩ := p
    obtain ⟨qX, qY, qI⟩ := q
    simp only [vT] at hEq C1 C2 ⊢
    go_enter Tryd.func39, Tryd.ntmps39
    go_wp2_with fail
    refine wpOf (fun V => Below w.heap.size w V ∧ Tb w.heap.size ⟨pX, pY, pI⟩ V ∧ Tb (w.heap.size + 1) ⟨qX, qY, qI⟩ V) ⟨by go_grown, (Tb.new' w ⟨pX, pY, pI⟩ 24 _ rfl).alloc _, Tb.new' _ ⟨qX, qY, qI⟩ 24 _ (by simp)⟩ ?_
    rintro V ⟨BV, hA, hB⟩
    have c1 := inClass (w := V) C1
    have c2 := inClass (w := V) C2
    have c3 := inClass (w := V) C3
    have c4 := inClass (w := V) C4
    have k0 := cell_regrown hA.a
    have k1 := cell_regrown hA.b
    have k2 := cell_regrown hB.a
    have k3 := cell_regrown hB.b
    have HV : Hid (_ ∧ _) := ⟨BV, BV⟩
    clear hA hB C1 C2 C3 C4 BV hEq
    refine wp_region_quiet_below (by kernel_rfl) (by kernel_rfl) ?_
    iterate 4 (quiet_step (fail))
    quiet_step (exact c1 _ _)
    iterate 4 (quiet_step (fail))
    quiet_step (exact c2 _ _)
    quiet_step (exact c4 _ _)
    quiet_step (exact c3 _ _)
    iterate 1 (quiet_step (fail))
    refine wpQuiet_nil ?_
    intro w8 hw8
    have B8 : Below V.heap.size V w8 := by
      obtain ⟨p, rfl⟩ := hw8
      exact below_regrown _ _ _
    have BW := belowStep HV.out.1 HV.out.1.size B8
    clear hw8 k0 k1 k2 k3 c1 c2 c3 c4
    go_wp2_with fail
    go_ret
    exact ⟨rfl, BW⟩

set_option maxRecDepth 20000 in
set_option maxHeartbeats 4000000 in
theorem plus_any (p q : Pt) (hp : Wl p) (hq : Wl q) (w : World) :
    Calls Tryd.prog 48 #[vT p, vT q] w fun e w' => e = .returned (vT (smN p q)) ∧ Below w.heap.size w w' := by
  by_cases e1 : p = iN
  · rw [e1, sm_inf]
    obtain ⟨qX, qY, qI⟩ := q
    simp only [vT, iN]
    go_enter Tryd.func48, Tryd.ntmps48
    go_wp2_with fail
    refine bodyPost_ret (v := vT ⟨qX, qY, qI⟩) (by simp [results, Tryd.results48, go_sem, *]) rfl ⟨rfl, by go_grown⟩
  have i1 := wl_i hp e1
  by_cases e2 : q = iN
  · rw [e2, inf_sm]
    obtain ⟨pX, pY, pI⟩ := p
    simp only at i1
    subst i1
    simp only [vT, iN]
    go_enter Tryd.func48, Tryd.ntmps48
    go_wp2_with fail
    refine bodyPost_ret (v := vT ⟨pX, pY, false⟩) (by simp [results, Tryd.results48, go_sem, *]) rfl ⟨rfl, by go_grown⟩
  have i2 := wl_i hq e2
  have hE3 := eqlT q (ngN p)
  have CN := minus_any p hp
  have eM : smN p q = if q = ngN p then iN else lnN (slN p q) p q := by unfold smN; rw [if_neg e1, if_neg e2]
  by_cases e3 : q = ngN p
  · rw [decide_eq_true e3] at hE3
    rw [eM, if_pos e3]
    obtain ⟨n, hn⟩ : ∃ n, ngN p = n := ⟨_, rfl⟩
    rw [hn] at CN hE3
    clear hn eM e3 e2 e1 hp hq
    obtain ⟨nX, nY, nI⟩ := n
    obtain ⟨pX, pY, pI⟩ := p
    obtain ⟨qX, qY, qI⟩ := q
    simp only at i1 i2
    subst i1 i2
    simp only [vT] at hE3 CN ⊢
    go_enter Tryd.func48, Tryd.ntmps48
    go_wp2_with fail
    refine wpOf (fun V => Below w.heap.size w V ∧ Tb w.heap.size ⟨pX, pY, false⟩ V ∧ Tb (w.heap.size + 1) ⟨qX, qY, false⟩ V ∧ Tb (w.heap.size + 1 + 1) oP V) ⟨by go_grown, ((Tb.new' w ⟨pX, pY, false⟩ 24 _ rfl).alloc _).alloc _, (Tb.new' _ ⟨qX, qY, false⟩ 24 _ (by simp)).alloc _, Tb.new' _ oP 24 _ (by simp)⟩ ?_
    rintro V ⟨BV, hA, hB, hO⟩
    have c1 := inClass (w := V) CN
    have k0 := cell_regrown hA.a
    have k1 := cell_regrown hA.b
    have k2 := cell_regrown hA.c
    have k3 := cell_regrown hB.a
    have k4 := cell_regrown hB.b
    have k5 := cell_regrown hB.c
    have HV : Hid (_ ∧ _) := ⟨BV, hO⟩
    clear hA hB hO CN BV
    refine wp_region_quiet_below (by kernel_rfl) (by kernel_rfl) ?_
    iterate 2 (quiet_step (fail))
    quiet_step (exact c1 _ _)
    iterate 1 (quiet_step (fail))
    refine wpQuiet_nil ?_
    intro w8 hw8
    have B8 : Below V.heap.size V w8 := by
      obtain ⟨p, rfl⟩ := hw8
      exact below_regrown _ _ _
    obtain ⟨BV, hO⟩ := HV.out
    have BW := belowStep BV BV.size B8
    have O8 := hO.below B8
    clear hw8 k0 k1 k2 k3 k4 k5 c1 hO BV
    go_wp2_with fail
    refine (none_any _).mono ?_
    rintro e w9 ⟨rfl, B9⟩
    obtain ⟨z, a, b, c, f⟩ := O8.below B9
    have BW9 := belowStep BW BW.size B9
    clear BW O8 B9
    go_wp2_with fail
    refine bodyPost_ret (v := vT iN) (by simp [results, Tryd.results48, go_sem, iN, *]) rfl ⟨rfl, ?_⟩
    exact below_put3 (y := iN) BW9 (by omega)
  rw [decide_eq_false e3] at hE3
  rw [eM, if_neg e3]
  have CS := rslope_any p q (wl_u hp) (wl_u hq)
  have hl := sl_lt p q
  obtain ⟨l, hl'⟩ : ∃ l, slN p q = l := ⟨_, rfl⟩
  rw [hl'] at CS hl ⊢
  have ul := pm_u _ hl
  have C1 := rmul_any l l ul ul
  have C2 := rsub_any (muN l l) p.X (pm_u _ (mu_lt _ _)) (wl_u hp).1
  have C3 := rsub_any (sbN (muN l l) p.X) q.X (pm_u _ (sb_lt _ _)) (wl_u hq).1
  have eX : lnX l p q = sbN (sbN (muN l l) p.X) q.X := rfl
  obtain ⟨x, hx⟩ : ∃ x, lnX l p q = x := ⟨_, rfl⟩
  have xl : x < PM := by rw [← hx]; exact sb_lt _ _
  have eL : lnN l p q = ⟨x, lnY l x p, false⟩ := by unfold lnN; rw [hx]
  rw [← eX, hx] at C3
  have C4 := rsub_any p.X x (wl_u hp).1 (pm_u _ xl)
  have C5 := rmul_any l (sbN p.X x) ul (pm_u _ (sb_lt _ _))
  have C6 := rsub_any (muN l (sbN p.X x)) p.Y (pm_u _ (mu_lt _ _)) (wl_u hp).2
  have eY : lnY l x p = sbN (muN l (sbN p.X x)) p.Y := rfl
  obtain ⟨y, hy⟩ : ∃ y, lnY l x p = y := ⟨_, rfl⟩
  rw [hy] at eL eY
  rw [← eY] at C6
  rw [eL]
  obtain ⟨n, hn⟩ : ∃ n, ngN p = n := ⟨_, rfl⟩
  rw [hn] at CN hE3
  obtain ⟨a1, h1⟩ : ∃ r, muN l l = r := ⟨_, rfl⟩
  rw [h1] at C1 C2 C3
  obtain ⟨a2, h2⟩ : ∃ r, sbN a1 p.X = r := ⟨_, rfl⟩
  rw [h2] at C2 C3
  obtain ⟨a3, h3⟩ : ∃ r, sbN p.X x = r := ⟨_, rfl⟩
  rw [h3] at C4 C5 C6
  obtain ⟨a4, h4⟩ : ∃ r, muN l a3 = r := ⟨_, rfl⟩
  rw [h4] at C5 C6
  clear hp hq hn eM e3 e2 e1 h1 h2 h3 h4 hl' eX hx eL eY hy
  obtain ⟨nX, nY, nI⟩ := n
  obtain ⟨pX, pY, pI⟩ := p
  obtain ⟨qX, qY, qI⟩ := q
  simp only at i1 i2
  subst i1 i2
  simp only [vT] at hE3 CN CS C2 C3 C4 C6 ⊢
  go_enter Tryd.func48, Tryd.ntmps48
  go_wp2_with fail
  refine wpOf (fun V => Below w.heap.size w V ∧ Tb w.heap.size ⟨pX, pY, false⟩ V ∧ Tb (w.heap.size + 1) ⟨qX, qY, false⟩ V ∧ Tb (w.heap.size + 1 + 1) oP V) ⟨by go_grown, ((Tb.new' w ⟨pX, pY, false⟩ 24 _ rfl).alloc _).alloc _, (Tb.new' _ ⟨qX, qY, false⟩ 24 _ (by simp)).alloc _, Tb.new' _ oP 24 _ (by simp)⟩ ?_
  rintro V ⟨BV, hA, hB, hO⟩
  have c1 := inClass (w := V) CN
  have k0 := cell_regrown hA.a
  have k1 := cell_regrown hA.b
  have k2 := cell_regrown hA.c
  have k3 := cell_regrown hB.a
  have k4 := cell_regrown hB.b
  have k5 := cell_regrown hB.c
  have HV : Hid (_ ∧ _ ∧ _ ∧ _) := ⟨BV, hA, hB, hO⟩
  clear hA hB hO CN BV
  refine wp_region_quiet_below (by kernel_rfl) (by kernel_rfl) ?_
  iterate 2 (quiet_step (fail))
  quiet_step (exact c1 _ _)
  iterate 1 (quiet_step (fail))
  refine wpQuiet_nil ?_
  intro w8 hw8
  have B8 : Below V.heap.size V w8 := by
    obtain ⟨p, rfl⟩ := hw8
    exact below_regrown _ _ _
  obtain ⟨BV, hA, hB, hO⟩ := HV.out
  have BW := belowStep BV BV.size B8
  have A8 := hA.below B8
  have D8 := hB.below B8
  have O8 := hO.below B8
  clear hw8 k0 k1 k2 k3 k4 k5 c1 B8 HV hE3 BV hA hB hO V
  have ⟨az, aa, ab, ac, af⟩ := A8
  have ⟨bz, ba, bb, bc, bf⟩ := D8
  have HV : Hid (_ ∧ _ ∧ _ ∧ _) := ⟨BW, A8, D8, O8⟩
  clear BW A8 D8 O8
  go_wp2_with fail
  refine (CS _).mono ?_
  rintro e w9 ⟨rfl, B9⟩
  obtain ⟨BW, A8, D8, O8⟩ := HV.out
  have BW9 := belowStep BW BW.size B9
  have A9 := A8.below B9
  have D9 := D8.below B9
  have O9 := O8.below B9
  clear HV BW A8 D8 O8 B9 az aa ab ac af bz ba bb bc bf
  have ⟨az, aa, ab, ac, af⟩ := A9
  have ⟨bz, ba, bb, bc, bf⟩ := D9
  have HV : Hid (_ ∧ _ ∧ _ ∧ _) := ⟨BW9, A9, D9, O9⟩
  have c1 := inClass (w := w9) C1
  have c2 := inClass (w := w9) C2
  have c3 := inClass (w := w9) C3
  have k0 := cell_regrown A9.a
  have k3 := cell_regrown D9.a
  clear BW9 A9 D9 O9
  go_wp2_with fail
  refine wp_region_quiet_below (by kernel_rfl) (by kernel_rfl) ?_
  iterate 2 (quiet_step (fail))
  quiet_step (exact c1 _ _)
  iterate 2 (quiet_step (fail))
  quiet_step (exact c2 _ _)
  iterate 2 (quiet_step (fail))
  quiet_step (exact c3 _ _)
  iterate 1 (quiet_step (fail))
  refine wpQuiet_nil ?_
  intro v8 hv8
  have B8 : Below w9.heap.size w9 v8 := by
    obtain ⟨p, rfl⟩ := hv8
    exact below_regrown _ _ _
  obtain ⟨BW, A9, D9, O9⟩ := HV.out
  have BW8 := belowStep BW BW.size B8
  have A8 := A9.below B8
  have O8 := O9.below B8
  clear HV BW A9 D9 O9 B8 az aa ab ac af bz ba bb bc bf c1 c2 c3 k0 k3 hv8
  have HV : Hid (_ ∧ _) := ⟨BW8, O8⟩
  have c4 := inClass (w := v8) C4
  have c5 := inClass (w := v8) C5
  have c6 := inClass (w := v8) C6
  have k0 := cell_regrown A8.a
  have k1 := cell_regrown A8.b
  clear BW8 A8 O8 C1 C2 C3 C4 C5 C6 CS
  go_wp2_with fail
  refine wp_region_quiet_below (by kernel_rfl) (by kernel_rfl) ?_
  iterate 4 (quiet_step (fail))
  quiet_step (exact c4 _ _)
  quiet_step (exact c5 _ _)
  iterate 2 (quiet_step (fail))
  quiet_step (exact c6 _ _)
  iterate 1 (quiet_step (fail))
  refine wpQuiet_nil ?_
  intro u8 hu8
  have B8 : Below v8.heap.size v8 u8 := by
    obtain ⟨p, rfl⟩ := hu8
    exact below_regrown _ _ _
  obtain ⟨BW, O9⟩ := HV.out
  have BW8 := belowStep BW BW.size B8
  obtain ⟨z, a, b, c, f⟩ := O9.below B8
  clear hu8 k0 k1 c4 c5 c6 HV O9 BW B8
  go_wp2_with fail
  refine bodyPost_ret (v := vT ⟨x, y, false⟩) (by simp [results, Tryd.results48, go_sem, *]) rfl ⟨rfl, ?_⟩
  exact below_put3 (y := ⟨x, y, false⟩) BW8 (by omega)
end Go.Proofs.YteknhghmliihhaaDoor
