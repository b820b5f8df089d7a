/- Lemmas: What the reference's side, None, Minus, Slope, Plus do. No condition. What the program's Pow2, Inv2 do. No condition. -/
import Derived.Test.YtgefjmpnpebfoaaGreatDoorM1
import Derived.Test.YtgefjmpnpebfoaaGreatDoorM10
import Derived.Test.YtgefjmpnpebfoaaGreatDoorM11
import Derived.Test.YtgefjmpnpebfoaaGreatDoorM2
import Derived.Test.YtgefjmpnpebfoaaGreatDoorM3
import Derived.Test.YtgefjmpnpebfoaaGreatDoorM6
import Derived.Test.YtgefjmpnpebfoaaGreatDoorM7
import Derived.Test.YtgefjmpnpebfoaaGreatDoorM8
import Derived.Test.YtgefjmpnpebfoaaGreatDoorM9
import Derived.Test.YtgefjmpnpebfoaaGreatDoorRows
namespace Go.Proofs.YtgefjmpnpebfoaaGreatDoor
open Go.RowKit Go.Shelf Go.Sort

set_option maxHeartbeats 2000000 in
theorem side_any (x : Nat) (hx : U64 x) (w : World) :
    Calls Tryz.prog 58 #[.int .u64 x] w fun e w' => e = .returned (.int .u64 (sqN x : Nat)) ∧ Below w.heap.size w w' := by
  have C1 := rmul_any x x hx hx
  have C2 := rmul_any x (muN x x) hx (pm_u _ (mu_lt _ _))
  have C3 := radd_any (muN x (muN x x)) x (pm_u _ (mu_lt _ _)) hx
  rw [show adN (muN x (muN x x)) x = sqN x by unfold sqN; rw [mu_comm x (muN x x)]] at C3
  obtain ⟨y, hy⟩ : ∃ y, sqN x = y := ⟨_, rfl⟩
  rw [hy] at C3 ⊢
  obtain ⟨a, ea⟩ : ∃ a, muN x x = a := ⟨_, rfl⟩
  rw [ea] at C1 C2 C3
  obtain ⟨b, eb⟩ : ∃ b, muN x a = b := ⟨_, rfl⟩
  rw [eb] at C2 C3
  clear hy ea eb
  go_enter Tryz.func58, Tryz.ntmps58
  go_wp2_with fail
  refine (C1 _).mono ?_
  rintro e w1 ⟨rfl, B1⟩
  go_wp2_with fail
  refine (C2 _).mono ?_
  rintro e w2 ⟨rfl, B2⟩
  go_wp2_with fail
  refine (C3 _).mono ?_
  rintro e w3 ⟨rfl, B3⟩
  go_wp2_with fail
  go_ret
  exact ⟨rfl, belowStep (belowStep B1 B1.size B2) (Nat.le_trans B1.size B2.size) B3⟩

set_option maxHeartbeats 2000000 in
theorem none_any (w : World) :
    Calls Tryz.prog 47 #[] w fun e w' => e = .returned (vT iN) ∧ Below w.heap.size w w' := by
  go_enter Tryz.func47, Tryz.ntmps47
  go_wp2_with fail
  refine bodyPost_ret (v := vT iN) (by simp [results, Tryz.results47, go_sem, iN, *]) rfl ⟨rfl, by go_grown⟩

set_option maxRecDepth 20000 in
set_option maxHeartbeats 2000000 in
theorem minus_any (p : Pt) (hp : Wl p) (w : World) :
    Calls Tryz.prog 72 #[vT p] w fun e w' => e = .returned (vT (ngN p)) ∧ Below w.heap.size w w' := by
  by_cases hi : p = iN
  · subst hi
    go_enter Tryz.func72, Tryz.ntmps72
    simp only [vT, iN]
    go_wp2_with fail
    refine bodyPost_ret (v := vT iN) (by simp [results, Tryz.results72, go_sem, iN, *]) rfl ⟨rfl, by go_grown⟩
  have hI := wl_i hp hi
  have C1 := rsub_any 0 p.Y (by unfold U64; omega) (wl_u hp).2
  have eN : ngN p = ⟨p.X, sbN 0 p.Y, false⟩ := by unfold ngN; rw [hI]
  rw [eN]
  obtain ⟨y, hy⟩ : ∃ y, sbN 0 p.Y = y := ⟨_, rfl⟩
  rw [hy] at C1 ⊢
  clear hy eN hp hi
  obtain ⟨pX, pY, pI⟩ := p
  simp only at C1 hI ⊢
  subst hI
  go_enter Tryz.func72, Tryz.ntmps72
  go_wp2_with fail
  refine wpOf (fun V => Below w.heap.size w V ∧ Tb w.heap.size ⟨pX, pY, false⟩ V ∧ Tb (w.heap.size + 1) oP V) ⟨by go_grown, (Tb.new' w ⟨pX, pY, false⟩ 25 _ rfl).alloc _, Tb.new' _ oP 25 _ (by simp)⟩ ?_
  rintro V ⟨BV, hA, hO⟩
  have HV : Hid (_ ∧ _) := ⟨BV, hO⟩
  have c1 := inClass (w := V) C1
  have k0 := cell_regrown hA.a
  have k1 := cell_regrown hA.b
  have k2 := cell_regrown hA.c
  have lz := hO.z
  clear BV hA hO C1
  refine region_tail 6 (by kernel_rfl) (by kernel_rfl) ?_
  simp only [List.take_succ_cons, List.take_zero, List.drop_succ_cons, List.drop_zero]
  iterate 4 (quiet_step (fail))
  quiet_step (exact c1 _ _)
  iterate 1 (quiet_step (fail))
  refine wpQuiet_nil ?_
  intro w8 hw8
  have B8 : Below V.heap.size V w8 := by
    obtain ⟨p, rfl⟩ := hw8
    exact below_regrown _ _ _
  obtain ⟨BV, hO⟩ := HV.out
  have O8 := hO.below B8
  have BW := belowStep BV (by have := BV.size; omega) B8
  obtain ⟨z, a, b, c, f⟩ := O8
  clear hw8 k0 k1 k2 c1 hO BV
  go_wp2_with fail
  refine bodyPost_ret (v := vT ⟨pX, y, false⟩) (by simp [results, Tryz.results72, go_sem, *]) rfl ⟨rfl, ?_⟩
  exact below_put3 (y := ⟨pX, y, false⟩) BW (by omega)

set_option maxRecDepth 20000 in
set_option maxHeartbeats 4000000 in
theorem rslope_any (p q : Pt) (hp : UT p) (hq : UT q) (w : World) :
    Calls Tryz.prog 73 #[vT p, vT q] w fun e w' => e = .returned (.int .u64 (slN p q : Nat)) ∧ Below w.heap.size w w' := by
  have three : U64 3 := by unfold U64; omega
  have one : U64 1 := by unfold U64; omega
  by_cases hE : p = q
  · have hEq := eqlT p q
    rw [decide_eq_true hE] at hEq
    have eM : slN p q = ovN (adN (muN 3 (muN p.X p.X)) 1) (adN p.Y p.Y) := by unfold slN; rw [if_pos hE]
    rw [eM]
    have C1 := rmul_any p.X p.X hp.1 hp.1
    have C2 := rmul_any 3 (muN p.X p.X) three (pm_u _ (mu_lt _ _))
    have C3 := radd_any (muN 3 (muN p.X p.X)) 1 (pm_u _ (mu_lt _ _)) one
    have C4 := rmul_any 2 p.Y (by unfold U64; omega) hp.2
    rw [dbl] at C4
    have C6 := rinv_any (adN p.Y p.Y) (pm_u _ (ad_lt _ _))
    have C5 := rmul_any (adN (muN 3 (muN p.X p.X)) 1) (ivN (adN p.Y p.Y)) (pm_u _ (ad_lt _ _)) (pm_u _ (iv_lt _))
    rw [show muN (adN (muN 3 (muN p.X p.X)) 1) (ivN (adN p.Y p.Y)) = ovN (adN (muN 3 (muN p.X p.X)) 1) (adN p.Y p.Y) from rfl] at C5
    obtain ⟨i4, hi4⟩ : ∃ r, ivN (adN p.Y p.Y) = r := ⟨_, rfl⟩
    rw [hi4] at C5 C6
    clear hi4
    obtain ⟨r, hr⟩ : ∃ r, ovN (adN (muN 3 (muN p.X p.X)) 1) (adN p.Y p.Y) = r := ⟨_, rfl⟩
    rw [hr] at C5 ⊢
    obtain ⟨a1, h1⟩ : ∃ r, muN p.X p.X = r := ⟨_, rfl⟩
    rw [h1] at C1 C2 C3 C5
    obtain ⟨a2, h2⟩ : ∃ r, muN 3 a1 = r := ⟨_, rfl⟩
    rw [h2] at C2 C3 C5
    obtain ⟨a3, h3⟩ : ∃ r, adN a2 1 = r := ⟨_, rfl⟩
    rw [h3] at C3 C5
    obtain ⟨a4, h4⟩ : ∃ r, adN p.Y p.Y = r := ⟨_, rfl⟩
    rw [h4] at C4 C6
    clear h1 h2 h3 h4 hr eM hE
    obtain ⟨pX, pY, pI⟩ := p
    obtain ⟨qX, qY, qI⟩ := q
    simp only [vT] at hEq C1 C4 ⊢
    go_enter Tryz.func73, Tryz.ntmps73
    go_wp2_with fail
    refine wpOf (fun V => Below w.heap.size w V ∧ Tb w.heap.size ⟨pX, pY, pI⟩ V ∧ Tb (w.heap.size + 1) ⟨qX, qY, qI⟩ V) ⟨by go_grown, (Tb.new' w ⟨pX, pY, pI⟩ 25 _ rfl).alloc _, Tb.new' _ ⟨qX, qY, qI⟩ 25 _ (by simp)⟩ ?_
    rintro V ⟨BV, hA, hB⟩
    have c1 := inClass (w := V) C1
    have c2 := inClass (w := V) C2
    have c3 := inClass (w := V) C3
    have c4 := inClass (w := V) C4
    have c5 := inClass (w := V) C5
    have c6 := inClass (w := V) C6
    have k0 := cell_regrown hA.a
    have k1 := cell_regrown hA.b
    have HV : Hid (_ ∧ _) := ⟨BV, BV⟩
    clear hA hB C1 C2 C3 C4 C5 C6 BV hEq
    refine wp_region_quiet_below (by kernel_rfl) (by kernel_rfl) ?_
    iterate 4 (quiet_step (fail))
    quiet_step (exact c1 _ _)
    quiet_step (exact c2 _ _)
    quiet_step (exact c3 _ _)
    iterate 2 (quiet_step (fail))
    quiet_step (exact c4 _ _)
    quiet_step (exact c6 _ _)
    quiet_step (exact c5 _ _)
    iterate 1 (quiet_step (fail))
    refine wpQuiet_nil ?_
    intro w8 hw8
    have B8 : Below V.heap.size V w8 := by
      obtain ⟨p, rfl⟩ := hw8
      exact below_regrown _ _ _
    have BW := belowStep HV.out.1 HV.out.1.size B8
    clear hw8 k0 k1 c1 c2 c3 c4 c5 c6
    go_wp2_with fail
    go_ret
    exact ⟨rfl, BW⟩
  · have hEq := eqlT p q
    rw [decide_eq_false hE] at hEq
    have eM : slN p q = ovN (sbN q.Y p.Y) (sbN q.X p.X) := by unfold slN; rw [if_neg hE]
    rw [eM]
    have C1 := rsub_any q.Y p.Y hq.2 hp.2
    have C2 := rsub_any q.X p.X hq.1 hp.1
    have C4 := rinv_any (sbN q.X p.X) (pm_u _ (sb_lt _ _))
    have C3 := rmul_any (sbN q.Y p.Y) (ivN (sbN q.X p.X)) (pm_u _ (sb_lt _ _)) (pm_u _ (iv_lt _))
    rw [show muN (sbN q.Y p.Y) (ivN (sbN q.X p.X)) = ovN (sbN q.Y p.Y) (sbN q.X p.X) from rfl] at C3
    obtain ⟨i4, hi4⟩ : ∃ r, ivN (sbN q.X p.X) = r := ⟨_, rfl⟩
    rw [hi4] at C3 C4
    clear hi4
    obtain ⟨r, hr⟩ : ∃ r, ovN (sbN q.Y p.Y) (sbN q.X p.X) = r := ⟨_, rfl⟩
    rw [hr] at C3 ⊢
    obtain ⟨a1, h1⟩ : ∃ r, sbN q.Y p.Y = r := ⟨_, rfl⟩
    rw [h1] at C1 C3
    obtain ⟨a2, h2⟩ : ∃ r, sbN q.X p.X = r := ⟨_, rfl⟩
    rw [h2] at C2 C4
    clear h1 h2 hr eM hE
    obtain ⟨pX, pY, pI⟩ := p
    obtain ⟨qX, qY, qI⟩ := q
    simp only [vT] at hEq C1 C2 ⊢
    go_enter Tryz.func73, Tryz.ntmps73
    go_wp2_with fail
    refine wpOf (fun V => Below w.heap.size w V ∧ Tb w.heap.size ⟨pX, pY, pI⟩ V ∧ Tb (w.heap.size + 1) ⟨qX, qY, qI⟩ V) ⟨by go_grown, (Tb.new' w ⟨pX, pY, pI⟩ 25 _ rfl).alloc _, Tb.new' _ ⟨qX, qY, qI⟩ 25 _ (by simp)⟩ ?_
    rintro V ⟨BV, hA, hB⟩
    have c1 := inClass (w := V) C1
    have c2 := inClass (w := V) C2
    have c3 := inClass (w := V) C3
    have c4 := inClass (w := V) C4
    have k0 := cell_regrown hA.a
    have k1 := cell_regrown hA.b
    have k2 := cell_regrown hB.a
    have k3 := cell_regrown hB.b
    have HV : Hid (_ ∧ _) := ⟨BV, BV⟩
    clear hA hB C1 C2 C3 C4 BV hEq
    refine wp_region_quiet_below (by kernel_rfl) (by kernel_rfl) ?_
    iterate 4 (quiet_step (fail))
    quiet_step (exact c1 _ _)
    iterate 4 (quiet_step (fail))
    quiet_step (exact c2 _ _)
    quiet_step (exact c4 _ _)
    quiet_step (exact c3 _ _)
    iterate 1 (quiet_step (fail))
    refine wpQuiet_nil ?_
    intro w8 hw8
    have B8 : Below V.heap.size V w8 := by
      obtain ⟨p, rfl⟩ := hw8
      exact below_regrown _ _ _
    have BW := belowStep HV.out.1 HV.out.1.size B8
    clear hw8 k0 k1 k2 k3 c1 c2 c3 c4
    go_wp2_with fail
    go_ret
    exact ⟨rfl, BW⟩

set_option maxRecDepth 20000 in
set_option maxHeartbeats 4000000 in
theorem plus_any (p q : Pt) (hp : Wl p) (hq : Wl q) (w : World) :
    Calls Tryz.prog 48 #[vT p, vT q] w fun e w' => e = .returned (vT (smN p q)) ∧ Below w.heap.size w w' := by
  by_cases e1 : p = iN
  · rw [e1, sm_inf]
    obtain ⟨qX, qY, qI⟩ := q
    simp only [vT, iN]
    go_enter Tryz.func48, Tryz.ntmps48
    go_wp2_with fail
    refine bodyPost_ret (v := vT ⟨qX, qY, qI⟩) (by simp [results, Tryz.results48, go_sem, *]) rfl ⟨rfl, by go_grown⟩
  have i1 := wl_i hp e1
  by_cases e2 : q = iN
  · rw [e2, inf_sm]
    obtain ⟨pX, pY, pI⟩ := p
    simp only at i1
    subst i1
    simp only [vT, iN]
    go_enter Tryz.func48, Tryz.ntmps48
    go_wp2_with fail
    refine bodyPost_ret (v := vT ⟨pX, pY, false⟩) (by simp [results, Tryz.results48, go_sem, *]) rfl ⟨rfl, by go_grown⟩
  have i2 := wl_i hq e2
  have hE3 := eqlT q (ngN p)
  have CN := minus_any p hp
  have eM : smN p q = if q = ngN p then iN else lnN (slN p q) p q := by unfold smN; rw [if_neg e1, if_neg e2]
  by_cases e3 : q = ngN p
  · rw [decide_eq_true e3] at hE3
    rw [eM, if_pos e3]
    obtain ⟨n, hn⟩ : ∃ n, ngN p = n := ⟨_, rfl⟩
    rw [hn] at CN hE3
    clear hn eM e3 e2 e1 hp hq
    obtain ⟨nX, nY, nI⟩ := n
    obtain ⟨pX, pY, pI⟩ := p
    obtain ⟨qX, qY, qI⟩ := q
    simp only at i1 i2
    subst i1 i2
    simp only [vT] at hE3 CN ⊢
    go_enter Tryz.func48, Tryz.ntmps48
    go_wp2_with fail
    refine wpOf (fun V => Below w.heap.size w V ∧ Tb w.heap.size ⟨pX, pY, false⟩ V ∧ Tb (w.heap.size + 1) ⟨qX, qY, false⟩ V ∧ Tb (w.heap.size + 1 + 1) oP V) ⟨by go_grown, ((Tb.new' w ⟨pX, pY, false⟩ 25 _ rfl).alloc _).alloc _, (Tb.new' _ ⟨qX, qY, false⟩ 25 _ (by simp)).alloc _, Tb.new' _ oP 25 _ (by simp)⟩ ?_
    rintro V ⟨BV, hA, hB, hO⟩
    have c1 := inClass (w := V) CN
    have k0 := cell_regrown hA.a
    have k1 := cell_regrown hA.b
    have k2 := cell_regrown hA.c
    have k3 := cell_regrown hB.a
    have k4 := cell_regrown hB.b
    have k5 := cell_regrown hB.c
    have HV : Hid (_ ∧ _) := ⟨BV, hO⟩
    clear hA hB hO CN BV
    refine wp_region_quiet_below (by kernel_rfl) (by kernel_rfl) ?_
    iterate 2 (quiet_step (fail))
    quiet_step (exact c1 _ _)
    iterate 1 (quiet_step (fail))
    refine wpQuiet_nil ?_
    intro w8 hw8
    have B8 : Below V.heap.size V w8 := by
      obtain ⟨p, rfl⟩ := hw8
      exact below_regrown _ _ _
    obtain ⟨BV, hO⟩ := HV.out
    have BW := belowStep BV BV.size B8
    have O8 := hO.below B8
    clear hw8 k0 k1 k2 k3 k4 k5 c1 hO BV
    go_wp2_with fail
    refine (none_any _).mono ?_
    rintro e w9 ⟨rfl, B9⟩
    obtain ⟨z, a, b, c, f⟩ := O8.below B9
    have BW9 := belowStep BW BW.size B9
    clear BW O8 B9
    go_wp2_with fail
    refine bodyPost_ret (v := vT iN) (by simp [results, Tryz.results48, go_sem, iN, *]) rfl ⟨rfl, ?_⟩
    exact below_put3 (y := iN) BW9 (by omega)
  rw [decide_eq_false e3] at hE3
  rw [eM, if_neg e3]
  have CS := rslope_any p q (wl_u hp) (wl_u hq)
  have hl := sl_lt p q
  obtain ⟨l, hl'⟩ : ∃ l, slN p q = l := ⟨_, rfl⟩
  rw [hl'] at CS hl ⊢
  have ul := pm_u _ hl
  have C1 := rmul_any l l ul ul
  have C2 := rsub_any (muN l l) p.X (pm_u _ (mu_lt _ _)) (wl_u hp).1
  have C3 := rsub_any (sbN (muN l l) p.X) q.X (pm_u _ (sb_lt _ _)) (wl_u hq).1
  have eX : lnX l p q = sbN (sbN (muN l l) p.X) q.X := rfl
  obtain ⟨x, hx⟩ : ∃ x, lnX l p q = x := ⟨_, rfl⟩
  have xl : x < PM := by rw [← hx]; exact sb_lt _ _
  have eL : lnN l p q = ⟨x, lnY l x p, false⟩ := by unfold lnN; rw [hx]
  rw [← eX, hx] at C3
  have C4 := rsub_any p.X x (wl_u hp).1 (pm_u _ xl)
  have C5 := rmul_any l (sbN p.X x) ul (pm_u _ (sb_lt _ _))
  have C6 := rsub_any (muN l (sbN p.X x)) p.Y (pm_u _ (mu_lt _ _)) (wl_u hp).2
  have eY : lnY l x p = sbN (muN l (sbN p.X x)) p.Y := rfl
  obtain ⟨y, hy⟩ : ∃ y, lnY l x p = y := ⟨_, rfl⟩
  rw [hy] at eL eY
  rw [← eY] at C6
  rw [eL]
  obtain ⟨n, hn⟩ : ∃ n, ngN p = n := ⟨_, rfl⟩
  rw [hn] at CN hE3
  obtain ⟨a1, h1⟩ : ∃ r, muN l l = r := ⟨_, rfl⟩
  rw [h1] at C1 C2 C3
  obtain ⟨a2, h2⟩ : ∃ r, sbN a1 p.X = r := ⟨_, rfl⟩
  rw [h2] at C2 C3
  obtain ⟨a3, h3⟩ : ∃ r, sbN p.X x = r := ⟨_, rfl⟩
  rw [h3] at C4 C5 C6
  obtain ⟨a4, h4⟩ : ∃ r, muN l a3 = r := ⟨_, rfl⟩
  rw [h4] at C5 C6
  clear hp hq hn eM e3 e2 e1 h1 h2 h3 h4 hl' eX hx eL eY hy
  obtain ⟨nX, nY, nI⟩ := n
  obtain ⟨pX, pY, pI⟩ := p
  obtain ⟨qX, qY, qI⟩ := q
  simp only at i1 i2
  subst i1 i2
  simp only [vT] at hE3 CN CS C2 C3 C4 C6 ⊢
  go_enter Tryz.func48, Tryz.ntmps48
  go_wp2_with fail
  refine wpOf (fun V => Below w.heap.size w V ∧ Tb w.heap.size ⟨pX, pY, false⟩ V ∧ Tb (w.heap.size + 1) ⟨qX, qY, false⟩ V ∧ Tb (w.heap.size + 1 + 1) oP V) ⟨by go_grown, ((Tb.new' w ⟨pX, pY, false⟩ 25 _ rfl).alloc _).alloc _, (Tb.new' _ ⟨qX, qY, false⟩ 25 _ (by simp)).alloc _, Tb.new' _ oP 25 _ (by simp)⟩ ?_
  rintro V ⟨BV, hA, hB, hO⟩
  have c1 := inClass (w := V) CN
  have k0 := cell_regrown hA.a
  have k1 := cell_regrown hA.b
  have k2 := cell_regrown hA.c
  have k3 := cell_regrown hB.a
  have k4 := cell_regrown hB.b
  have k5 := cell_regrown hB.c
  have HV : Hid (_ ∧ _ ∧ _ ∧ _) := ⟨BV, hA, hB, hO⟩
  clear hA hB hO CN BV
  refine wp_region_quiet_below (by kernel_rfl) (by kernel_rfl) ?_
  iterate 2 (quiet_step (fail))
  quiet_step (exact c1 _ _)
  iterate 1 (quiet_step (fail))
  refine wpQuiet_nil ?_
  intro w8 hw8
  have B8 : Below V.heap.size V w8 := by
    obtain ⟨p, rfl⟩ := hw8
    exact below_regrown _ _ _
  obtain ⟨BV, hA, hB, hO⟩ := HV.out
  have BW := belowStep BV BV.size B8
  have A8 := hA.below B8
  have D8 := hB.below B8
  have O8 := hO.below B8
  clear hw8 k0 k1 k2 k3 k4 k5 c1 B8 HV hE3 BV hA hB hO V
  have ⟨az, aa, ab, ac, af⟩ := A8
  have ⟨bz, ba, bb, bc, bf⟩ := D8
  have HV : Hid (_ ∧ _ ∧ _ ∧ _) := ⟨BW, A8, D8, O8⟩
  clear BW A8 D8 O8
  go_wp2_with fail
  refine (CS _).mono ?_
  rintro e w9 ⟨rfl, B9⟩
  obtain ⟨BW, A8, D8, O8⟩ := HV.out
  have BW9 := belowStep BW BW.size B9
  have A9 := A8.below B9
  have D9 := D8.below B9
  have O9 := O8.below B9
  clear HV BW A8 D8 O8 B9 az aa ab ac af bz ba bb bc bf
  have ⟨az, aa, ab, ac, af⟩ := A9
  have ⟨bz, ba, bb, bc, bf⟩ := D9
  have HV : Hid (_ ∧ _ ∧ _ ∧ _) := ⟨BW9, A9, D9, O9⟩
  have c1 := inClass (w := w9) C1
  have c2 := inClass (w := w9) C2
  have c3 := inClass (w := w9) C3
  have k0 := cell_regrown A9.a
  have k3 := cell_regrown D9.a
  clear BW9 A9 D9 O9
  go_wp2_with fail
  refine wp_region_quiet_below (by kernel_rfl) (by kernel_rfl) ?_
  iterate 2 (quiet_step (fail))
  quiet_step (exact c1 _ _)
  iterate 2 (quiet_step (fail))
  quiet_step (exact c2 _ _)
  iterate 2 (quiet_step (fail))
  quiet_step (exact c3 _ _)
  iterate 1 (quiet_step (fail))
  refine wpQuiet_nil ?_
  intro v8 hv8
  have B8 : Below w9.heap.size w9 v8 := by
    obtain ⟨p, rfl⟩ := hv8
    exact below_regrown _ _ _
  obtain ⟨BW, A9, D9, O9⟩ := HV.out
  have BW8 := belowStep BW BW.size B8
  have A8 := A9.below B8
  have O8 := O9.below B8
  clear HV BW A9 D9 O9 B8 az aa ab ac af bz ba bb bc bf c1 c2 c3 k0 k3 hv8
  have HV : Hid (_ ∧ _) := ⟨BW8, O8⟩
  have c4 := inClass (w := v8) C4
  have c5 := inClass (w := v8) C5
  have c6 := inClass (w := v8) C6
  have k0 := cell_regrown A8.a
  have k1 := cell_regrown A8.b
  clear BW8 A8 O8 C1 C2 C3 C4 C5 C6 CS
  go_wp2_with fail
  refine wp_region_quiet_below (by kernel_rfl) (by kernel_rfl) ?_
  iterate 4 (quiet_step (fail))
  quiet_step (exact c4 _ _)
  quiet_step (exact c5 _ _)
  iterate 2 (quiet_step (fail))
  quiet_step (exact c6 _ _)
  iterate 1 (quiet_step (fail))
  refine wpQuiet_nil ?_
  intro u8 hu8
  have B8 : Below v8.heap.size v8 u8 := by
    obtain ⟨p, rfl⟩ := hu8
    exact below_regrown _ _ _
  obtain ⟨BW, O9⟩ := HV.out
  have BW8 := belowStep BW BW.size B8
  obtain ⟨z, a, b, c, f⟩ := O9.below B8
  clear hu8 k0 k1 c4 c5 c6 HV O9 BW B8
  go_wp2_with fail
  refine bodyPost_ret (v := vT ⟨x, y, false⟩) (by simp [results, Tryz.results48, go_sem, *]) rfl ⟨rfl, ?_⟩
  exact below_put3 (y := ⟨x, y, false⟩) BW8 (by omega)
end Go.Proofs.YtgefjmpnpebfoaaGreatDoor
namespace Go.Proofs.YtgefjmpnpebfoaaGreatDoor
open Go.RowKit Go.Shelf Go.Sort
attribute [local go_sem] Oper.semAt_some

/-- A power behind bits. -/
def stQ (a : P2) (l : List Bool) : P2 := l.foldl (fun p b => if b then m2 (m2 p p) a else m2 p p) o2
theorem stQ_snoc (a : P2) (l : List Bool) (b : Bool) : stQ a (l ++ [b]) = if b then m2 (m2 (stQ a l) (stQ a l)) a else m2 (stQ a l) (stQ a l) := by unfold stQ; rw [List.foldl_append]; rfl
theorem stQ_bits (a : P2) (n L : Nat) (h : n < 2 ^ L) : ∀ q, q ≤ L → stQ a (bitsTo n L q) = q2 a (n / 2 ^ (L - q))
  | 0, _ => by
    rw [Nat.sub_zero, Nat.div_eq_of_lt h, q2_0]
    rfl
  | q + 1, hq => by
    rw [bits_succ, stQ_snoc, stQ_bits a n L h q (by omega)]
    have := q2_step a n (L - (q + 1))
    rw [show L - (q + 1) + 1 = L - q by omega] at this
    rw [this]
    unfold bitAt
    rw [show L - 1 - q = L - (q + 1) by omega]
    simp only [beq_iff_eq]
theorem stQ_u (a : P2) (l : List Bool) : UP (stQ a l) := by
  rcases List.eq_nil_or_concat l with rfl | ⟨l', b, rfl⟩
  · exact ⟨(by show 1 < 18446744073709551616; decide), (by show 0 < 18446744073709551616; decide)⟩
  · rw [List.concat_eq_append, stQ_snoc]
    split
    · exact m2_u _ _
    · exact m2_u _ _
theorem q2_stays (a : P2) (n : Nat) : ∀ k, q2 a (n / 2 ^ k) = z2 → q2 a n = z2
  | 0, h => by rw [Nat.pow_zero, Nat.div_one] at h; exact h
  | k + 1, h => by
    refine q2_stays a n k ?_
    rw [q2_step, h, m2_zero, m2_zero]
    simp
theorem stQ_all (a : P2) (n L : Nat) (h : n < 2 ^ L) : stQ a (bitsTo n L L) = q2 a n := by rw [stQ_bits a n L h L (Nat.le_refl _), Nat.sub_self, Nat.pow_zero, Nat.div_one]
theorem stQ_dead (a : P2) (n L q : Nat) (h : n < 2 ^ L) (hq : q ≤ L) (h0 : stQ a (bitsTo n L q) = z2) : q2 a n = z2 := q2_stays a n (L - q) (by rw [← stQ_bits a n L h q hq]; exact h0)
abbrev cP (a : P2) : Array Value := #[.int .u64 (a.A : Int), .int .u64 (a.B : Int)]
abbrev sP (n : Nat) (a : P2) (W : World) : World := (W.setCell ⟨n, 0, none⟩ (.int .u64 (a.A : Int))).setCell ⟨n, 1, none⟩ (.int .u64 (a.B : Int))

set_option maxRecDepth 20000 in
set_option maxHeartbeats 4000000 in
theorem pow2_any (a : P2) (n : Nat) (ha : UP a) (hn : U64 n) (w : World) :
    Calls Tryz.prog 102 #[vP a, .int .u64 n] w fun e w' => e = .returned (vP (q2 a n)) ∧ Below w.heap.size w w' := by
  refine (callsIn_wide (n := 9)).1 ?_
  refine callsIn_of_wp_marks Tryz.func102 rfl trivial ?_ rfl
  refine wpIn_wide.2 ?_
  simp only [Tryz.ntmps102, List.size_toArray, List.length_cons, List.length_nil, Nat.reduceAdd, Nat.reduceSub, Array.replicate_succ, Array.replicate_zero, List.push_toArray, List.append_toArray, List.nil_append, List.cons_append]
  go_wp2_with fail
  refine wp_scope_straight ?_
  go_wp2_with fail
  obtain ⟨z, hz⟩ : ∃ c, w.heap.size = c := ⟨_, rfl⟩
  have HZ : Hid (w.heap.size = z) := hz
  refine wpOf (fun W => Below z w W ∧ W.heap.size = z + 3 ∧ Bq z 81 (cP a) W ∧ Bq (z + 1) 81 (cP z2) W ∧ Bq (z + 1 + 1) 81 (cP o2) W) ?_ ?_
  · have t2 := alloc_two w (.cells (cP a) 81) (.cells (cP z2) 81)
    have t3 := alloc_two (w.alloc (.cells (cP a) 81)) (.cells (cP z2) 81) (.cells (cP o2) 81)
    rw [hz] at t2
    rw [World.size_alloc, hz] at t3
    have b3 : Below ((w.alloc (.cells (cP a) 81)).alloc (.cells (cP z2) 81)).heap.size ((w.alloc (.cells (cP a) 81)).alloc (.cells (cP z2) 81)) (((w.alloc (.cells (cP a) 81)).alloc (.cells (cP z2) 81)).alloc (.cells (cP o2) 81)) := (Below.refl _ _).alloc (Nat.le_refl _) _
    refine ⟨?_, by simp [hz], (b3.block z (by simp [hz]; omega)).trans t2.1, t3.1, t3.2⟩
    rw [← hz]
    exact (((Below.refl _ w).alloc (Nat.le_refl _) _).alloc (by simp) _).alloc (by simp; omega) _
  rintro w1 ⟨BV, hs1, hA, hR, hP⟩
  rw [hz]
  clear hz
  refine wp_label ?_
  go_wp2_with fail
  refine (digits_any n w1).mono ?_
  rintro e w2 ⟨rfl, hw2⟩
  have B2 : Below w1.heap.size w1 w2 := by rw [hw2]; exact (Below.refl _ w1).alloc (Nat.le_refl _) _
  have hcx : NumIn w1.heap.size n w2 := by rw [hw2]; exact World.alloc_heap_new w1 _
  have A2 := hA.below B2
  have R2 := hR.below B2
  have P2' := hP.below B2
  have BW2 := belowStep BV (by omega) B2
  rw [hs1] at hcx ⊢
  clear hw2 B2 hA hP hR BV
  go_wp2_with fail
  have hxz : z + 3 < w2.heap.size := hcx.lt
  refine (wpIn_wide (n := 9)).1 ?_
  refine wpIn_rangeFunc_ownH rfl (by omega) (gf := 116) (lb := #[.pointer (some ⟨z + 3, 0, none⟩)]) rfl trivial (enters_of Tryz.func116 (by kernel_rfl) rfl)
    (digits_stops _ (z + 3) n hn w2 hcx) (fun h k => NumK.trans h k) (fun W l o o' hl h1 h2 h3 hx => (World.putObj_heap_other (by omega)).trans hx) (Below.refl _ _) (fun _ => rfl)
    (fun pre W => Bq z 81 (cP a) W ∧ Bq (z + 1) 81 (cP z2) W ∧ Bq (z + 1 + 1) 81 (cP (stQ a pre)) W ∧ Below z w W ∧ z + 3 < W.heap.size)
    (fun c pre W => c = .exit 0 ∧ Bq (z + 1) 81 (cP z2) W ∧ Bq (z + 1 + 1) 81 (cP z2) W ∧ stQ a pre = z2 ∧ Below z w W ∧ z + 3 < W.heap.size)
    (fun s A C row hs hg hr => ⟨hs.1.own hg (fun r e => (hr r e).2), hs.2.1.own hg (fun r e => (hr r e).2), hs.2.2.1.own hg (fun r e => (hr r e).2), hs.2.2.2.1.grown hg (by omega) (fun k e => Nat.le_trans (by omega) (hr k e).1), Nat.lt_of_lt_of_le hs.2.2.2.2 hg.size⟩)
    (fun c s A C row hs hg hr => ⟨hs.1, hs.2.1.own hg (fun r e => (hr r e).2), hs.2.2.1.own hg (fun r e => (hr r e).2), hs.2.2.2.1, hs.2.2.2.2.1.grown hg (by omega) (fun k e => Nat.le_trans (by omega) (hr k e).1), Nat.lt_of_lt_of_le hs.2.2.2.2.2 hg.size⟩)
    ⟨A2, R2, P2', BW2, hxz⟩
    (fun x a' _ => a' = { tmps := #[vP a, .int .u64 n, .pointer (some ⟨z, 0, none⟩), undef, .pointer (some ⟨z + 1, 0, none⟩), .pointer (some ⟨z + 1 + 1, 0, none⟩), .bool x, .agg #[.int .u64 1, .int .u64 0], .int .u64 n, .func (.func 116) #[] #[.pointer (some ⟨z + 3, 0, none⟩)], .bool x, undef, undef, undef, undef, undef, undef, undef, undef, undef, undef, undef, undef, undef], defers := [] })
    (fun x a' _ X Y row hs hg hr => hs)
    ?assign ?body ?done ?stop
  case assign =>
    rintro l pre x W K hI hK
    dsimp only [dEnc]
    gi_wp2
    exact hK _ _ (KeepsFrom.refl _ _) (fun h => h) hI rfl
  case body =>
    rintro l pre x a' W hl ⟨r, hr⟩ ⟨hA, hR, hP, hB, hxW⟩ rfl hlt
    obtain ⟨p, hp⟩ : ∃ p, stQ a pre = p := ⟨_, rfl⟩
    have hpU : UP p := by rw [← hp]; exact stQ_u _ _
    have hsn := stQ_snoc a pre x
    rw [hp] at hP hsn
    obtain ⟨s, hs⟩ : ∃ s, m2 p p = s := ⟨_, rfl⟩
    have hsU : UP s := by rw [← hs]; exact m2_u _ _
    rw [hs] at hsn
    have C1 := mul2_any p p hpU hpU
    rw [hs] at C1
    clear hs
    have c0 : W.cell? ⟨z + 1 + 1, 0, none⟩ = some (.int .u64 (p.A : Int)) := hP.cell 0
    have c1 : W.cell? ⟨z + 1 + 1, 1, none⟩ = some (.int .u64 (p.B : Int)) := hP.cell 1
    have HH : Hid (_ ∧ _ ∧ _ ∧ _) := ⟨hA, hR, hP, hB⟩
    clear hA hP hB hR
    gi_wp2_with fail
    refine ⟨trivial, (CallsIn.inRound l (callsIn_wide.2 (C1 _))).mono ?_⟩
    rintro e W4 ⟨rfl, B4⟩
    obtain ⟨hA, hR, hP, hB⟩ := HH.out
    have A4 := hA.below B4
    have R4' := hR.below B4
    have P4 := hP.below B4
    have BW4 := belowStep hB (by omega) B4
    have f0 := P4.fr 0
    have f1 := P4.fr 1
    have d0 : W4.cell? ⟨z + 1 + 1, 0, none⟩ = some (.int .u64 (p.A : Int)) := P4.cell 0
    have d1 : W4.cell? ⟨z + 1 + 1, 1, none⟩ = some (.int .u64 (p.B : Int)) := P4.cell 1
    have e0 : W4.cell? ⟨z, 0, none⟩ = some (.int .u64 (a.A : Int)) := A4.cell 0
    have e1 : W4.cell? ⟨z, 1, none⟩ = some (.int .u64 (a.B : Int)) := A4.cell 1
    have P5 : Bq _ _ _ (sP (z + 1 + 1) s W4) := P4.put2 (.int .u64 (s.A : Int)) (.int .u64 (s.B : Int))
    have A5 : Bq _ _ _ (sP (z + 1 + 1) s W4) := (A4.other (k := z + 1 + 1) (by omega) 0 (.int .u64 (s.A : Int))).other (k := z + 1 + 1) (by omega) 1 (.int .u64 (s.B : Int))
    have rV5 : Bq _ _ _ (sP (z + 1 + 1) s W4) := (R4'.other (k := z + 1 + 1) (by omega) 0 (.int .u64 (s.A : Int))).other (k := z + 1 + 1) (by omega) 1 (.int .u64 (s.B : Int))
    have k5 : KeepsFrom w2.heap.size W (sP (z + 1 + 1) s W4) := (((ko_below B4).from _).trans (ko_set _ _ _ _)).trans (ko_set _ _ _ _)
    have n5 : NumK (z + 3) n W (sP (z + 1 + 1) s W4) := fun h => ((h.below B4).other (by omega) _ _).other (by omega) _ _
    have b5 : Below z w (sP (z + 1 + 1) s W4) := (BW4.setCell (p := ⟨z + 1 + 1, 0, none⟩) (by show z ≤ z + 1 + 1; omega) _).setCell (p := ⟨z + 1 + 1, 1, none⟩) (by show z ≤ z + 1 + 1; omega) _
    have z5 : z + 3 < (sP (z + 1 + 1) s W4).heap.size := Nat.lt_of_lt_of_le hxW (Nat.le_trans B4.size (by simp [World.setCell]))
    have H5 : Hid (_ ∧ _ ∧ _ ∧ _ ∧ _ ∧ _ ∧ _) := ⟨A5, rV5, P5, k5, n5, b5, z5⟩
    clear A5 P5 rV5 k5 n5 b5 z5 A4 P4 R4' BW4 hA hP hB hR B4
    obtain ⟨sA, sB⟩ := s
    by_cases hA0 : sA = 0
    · subst hA0
      by_cases hB0 : sB = 0
      · subst hB0
        have hst : stQ a (pre ++ [x]) = z2 := by
          rw [hsn]
          cases x with
          | false => rfl
          | true => exact m2_zero a
        gi_wp2
        obtain ⟨A5, rV5, P5, k5, n5, b5, z5⟩ := H5.out
        exact ⟨k5, rfl, rV5, P5, hst, b5, z5⟩
      · have hi : ¬ (sB : Int) = 0 := by omega
        have hsb : ((sB : Int) == 0) = false := by rw [beq_eq_false_iff_ne]; omega
        cases x with
        | false =>
          gi_wp2
          obtain ⟨A5, rV5, P5, k5, n5, b5, z5⟩ := H5.out
          refine (?_ : KeepsFrom _ W _ ∧ NumK _ _ W _ ∧ _ ∧ _ ∧ _ ∧ _ ∧ _)
          refine ⟨k5, n5, A5, rV5, ?_, b5, z5⟩
          rw [hsn]
          exact P5
        | true =>
          have C2 := mul2_any ⟨0, sB⟩ a hsU ha
          obtain ⟨u, hu⟩ : ∃ u, m2 ⟨0, sB⟩ a = u := ⟨_, rfl⟩
          rw [hu] at C2 hsn
          gi_wp2_with fail
          refine ⟨trivial, (CallsIn.inRound l (callsIn_wide.2 (C2 _))).mono ?_⟩
          rintro e W6 ⟨rfl, B6⟩
          obtain ⟨A5, rV5, P5, k5, n5, b5, z5⟩ := H5.out
          have P6 := P5.below B6
          have f6 := P6.fr 0
          have f7 := P6.fr 1
          have g6 := P6.cell 0
          have g7 := P6.cell 1
          have H6 : Hid (_ ∧ _ ∧ _ ∧ _ ∧ _ ∧ _ ∧ _ ∧ _) := ⟨A5, rV5, P6, k5, n5, b5, z5, B6⟩
          clear A5 rV5 P6 k5 n5 b5 z5 B6 P5
          gi_wp2
          obtain ⟨A5, rV5, P6, k5, n5, b5, z5, B6⟩ := H6.out
          refine (?_ : KeepsFrom _ W _ ∧ NumK _ _ W _ ∧ _ ∧ _ ∧ _ ∧ _ ∧ _)
          refine ⟨((k5.trans ((ko_below B6).from _)).trans (ko_set _ _ _ _)).trans (ko_set _ _ _ _), n5.trans (fun h => ((h.below B6).other (by omega) _ _).other (by omega) _ _), ((A5.below B6).other (by omega) _ _).other (by omega) _ _, ((rV5.below B6).other (by omega) _ _).other (by omega) _ _, ?_, ((belowStep b5 (by omega) B6).setCell (p := ⟨z + 1 + 1, 0, none⟩) (by show z ≤ z + 1 + 1; omega) _).setCell (p := ⟨z + 1 + 1, 1, none⟩) (by show z ≤ z + 1 + 1; omega) _, Nat.lt_of_lt_of_le z5 (Nat.le_trans B6.size (by simp [World.setCell]))⟩
          rw [hsn]
          exact P6.put2 _ _
    · have hi : ¬ (sA : Int) = 0 := by omega
      have hsb : ((sA : Int) == 0) = false := by rw [beq_eq_false_iff_ne]; omega
      cases x with
      | false =>
        gi_wp2
        obtain ⟨A5, rV5, P5, k5, n5, b5, z5⟩ := H5.out
        refine (?_ : KeepsFrom _ W _ ∧ NumK _ _ W _ ∧ _ ∧ _ ∧ _ ∧ _ ∧ _)
        refine ⟨k5, n5, A5, rV5, ?_, b5, z5⟩
        rw [hsn]
        exact P5
      | true =>
        have C2 := mul2_any ⟨sA, sB⟩ a hsU ha
        obtain ⟨u, hu⟩ : ∃ u, m2 ⟨sA, sB⟩ a = u := ⟨_, rfl⟩
        rw [hu] at C2 hsn
        gi_wp2_with fail
        refine ⟨trivial, (CallsIn.inRound l (callsIn_wide.2 (C2 _))).mono ?_⟩
        rintro e W6 ⟨rfl, B6⟩
        obtain ⟨A5, rV5, P5, k5, n5, b5, z5⟩ := H5.out
        have P6 := P5.below B6
        have f6 := P6.fr 0
        have f7 := P6.fr 1
        have g6 := P6.cell 0
        have g7 := P6.cell 1
        have H6 : Hid (_ ∧ _ ∧ _ ∧ _ ∧ _ ∧ _ ∧ _ ∧ _) := ⟨A5, rV5, P6, k5, n5, b5, z5, B6⟩
        clear A5 rV5 P6 k5 n5 b5 z5 B6 P5
        gi_wp2
        obtain ⟨A5, rV5, P6, k5, n5, b5, z5, B6⟩ := H6.out
        refine (?_ : KeepsFrom _ W _ ∧ NumK _ _ W _ ∧ _ ∧ _ ∧ _ ∧ _ ∧ _)
        refine ⟨((k5.trans ((ko_below B6).from _)).trans (ko_set _ _ _ _)).trans (ko_set _ _ _ _), n5.trans (fun h => ((h.below B6).other (by omega) _ _).other (by omega) _ _), ((A5.below B6).other (by omega) _ _).other (by omega) _ _, ((rV5.below B6).other (by omega) _ _).other (by omega) _ _, ?_, ((belowStep b5 (by omega) B6).setCell (p := ⟨z + 1 + 1, 0, none⟩) (by show z ≤ z + 1 + 1; omega) _).setCell (p := ⟨z + 1 + 1, 1, none⟩) (by show z ≤ z + 1 + 1; omega) _, Nat.lt_of_lt_of_le z5 (Nat.le_trans B6.size (by simp [World.setCell]))⟩
        rw [hsn]
        exact P6.put2 _ _
  case done =>
    rintro D ys W hD ⟨L, hL, rfl⟩ ⟨hA, hR, hP, hB, hxW⟩ hK
    rw [stQ_all a n L hL] at hP
    obtain ⟨v, hv⟩ : ∃ v, q2 a n = v := ⟨_, rfl⟩
    rw [hv] at hP
    have c0 : W.cell? ⟨z + 1 + 1, 0, none⟩ = some (.int .u64 (v.A : Int)) := hP.cell 0
    have c1 : W.cell? ⟨z + 1 + 1, 1, none⟩ = some (.int .u64 (v.B : Int)) := hP.cell 1
    have d0 : W.cell? ⟨z + 1, 0, none⟩ = some (.int .u64 0) := hR.cell 0
    have d1 : W.cell? ⟨z + 1, 1, none⟩ = some (.int .u64 0) := hR.cell 1
    have f0 := hR.fr 0
    have f1 := hR.fr 1
    have hK' : (sP (z + 1) v W).heap[D]? = some (.deferred (some [])) := by
      show ((W.setCell _ _).setCell _ _).heap[D]? = _
      rw [Below.heap_setCell _ _ _ _ (show D ≠ z + 1 by omega), Below.heap_setCell _ _ _ _ (show D ≠ z + 1 by omega)]
      exact hK
    have hBx : Below z w (sP (z + 1) v W) := (hB.setCell (p := ⟨z + 1, 0, none⟩) (by show z ≤ z + 1; omega) _).setCell (p := ⟨z + 1, 1, none⟩) (by show z ≤ z + 1; omega) _
    have R9' : Bq (z + 1) 81 (cP v) ((sP (z + 1) v W).putObj D (.deferred none)) := (World.putObj_heap_other (by omega)).trans (hR.put2 (.int .u64 (v.A : Int)) (.int .u64 (v.B : Int)))
    have H8 : Hid (_ ∧ _ ∧ _) := ⟨hK', hBx, R9'⟩
    clear hK' hBx R9'
    go_wp2
    obtain ⟨hK', hBx, R9'⟩ := H8.out
    have r0 := R9'.cell 0
    have r1 := R9'.cell 1
    have hbP := belowK_b (n₀ := z) (w := w2) (by omega) (sP (z + 1) v W) D _ (.deferred none) hD hK' rfl rfl
    rw [Exit.noGoto_ret]
    refine ⟨by simp, .inl ⟨_, _, rfl, run_takeDeferred hK', ?_⟩⟩
    refine ⟨vP v, by simp [results, Tryz.results102, go_sem, *], by rw [hv], ?_⟩
    rw [HZ.out]
    exact hBx.trans hbP
  case stop =>
    rintro D c pre W hD ⟨L, q, hL, hq, rfl⟩ ⟨rfl, hR, hP, h0, hB, hxW⟩ hK
    have hv := stQ_dead a n L q hL hq h0
    have c0 : W.cell? ⟨z + 1 + 1, 0, none⟩ = some (.int .u64 0) := hP.cell 0
    have c1 : W.cell? ⟨z + 1 + 1, 1, none⟩ = some (.int .u64 0) := hP.cell 1
    have d0 : W.cell? ⟨z + 1, 0, none⟩ = some (.int .u64 0) := hR.cell 0
    have d1 : W.cell? ⟨z + 1, 1, none⟩ = some (.int .u64 0) := hR.cell 1
    have f0 := hR.fr 0
    have f1 := hR.fr 1
    have hK' : (sP (z + 1) z2 W).heap[D]? = some (.deferred (some [])) := by
      show ((W.setCell _ _).setCell _ _).heap[D]? = _
      rw [Below.heap_setCell _ _ _ _ (show D ≠ z + 1 by omega), Below.heap_setCell _ _ _ _ (show D ≠ z + 1 by omega)]
      exact hK
    have hBx : Below z w (sP (z + 1) z2 W) := (hB.setCell (p := ⟨z + 1, 0, none⟩) (by show z ≤ z + 1; omega) _).setCell (p := ⟨z + 1, 1, none⟩) (by show z ≤ z + 1; omega) _
    have R9' : Bq (z + 1) 81 (cP z2) ((sP (z + 1) z2 W).putObj D (.deferred none)) := (World.putObj_heap_other (by omega)).trans (hR.put2 (.int .u64 (z2.A : Int)) (.int .u64 (z2.B : Int)))
    have H8 : Hid (_ ∧ _ ∧ _) := ⟨hK', hBx, R9'⟩
    clear hK' hBx R9'
    gi_wp2
    go_wp2
    obtain ⟨hK', hBx, R9'⟩ := H8.out
    have r0 : (((W.setCell ⟨z + 1, 0, none⟩ (.int .u64 0)).setCell ⟨z + 1, 1, none⟩ (.int .u64 0)).putObj D (.deferred none)).cell? ⟨z + 1, 0, none⟩ = some (.int .u64 0) := R9'.cell 0
    have r1 : (((W.setCell ⟨z + 1, 0, none⟩ (.int .u64 0)).setCell ⟨z + 1, 1, none⟩ (.int .u64 0)).putObj D (.deferred none)).cell? ⟨z + 1, 1, none⟩ = some (.int .u64 0) := R9'.cell 1
    have hbP := belowK_b (n₀ := z) (w := w2) (by omega) (sP (z + 1) z2 W) D _ (.deferred none) hD hK' rfl rfl
    rw [Exit.noGoto_ret]
    refine ⟨by simp, .inl ⟨_, _, rfl, run_takeDeferred hK', ?_⟩⟩
    refine ⟨.agg #[.int .u64 0, .int .u64 0], by simp [results, Tryz.results102, go_sem, *], by rw [hv]; rfl, ?_⟩
    rw [HZ.out]
    exact hBx.trans hbP
end Go.Proofs.YtgefjmpnpebfoaaGreatDoor
