/- Lemmas: What the reference's line does. No condition. What the reference's Paired does. No condition. What the reference's Pair, Same do. No condition. -/
import Derived.Test.YtoddangedbefgabGreatDoorM12
set_option maxRecDepth 20000
set_option maxHeartbeats 4000000
namespace Go.Proofs.YtoddangedbefgabGreatDoor
open Go.RowKit Go.Shelf Go.Sort
theorem jey (w : World) :
  Calls Tryz.prog 102 #[] w fun e w' => e = .returned (vP o2) ∧ Below w.heap.size w w' := by
 go_enter Tryz.func102, Tryz.ntmps102
 go_wp2_with fail
 refine bodyPost_ret (v := vP o2) (by simp [results, Tryz.results102, go_sem, o2, *]) rfl ⟨rfl, by go_grown⟩
theorem rline1 (s t q : Pt) (hs : s.I = true) (w : World) :
  Calls Tryz.prog 104 #[vT s, vT t, vT q] w fun e w' => e = .returned (vP o2) ∧ Below w.heap.size w w' := by
 obtain ⟨sX, sY, sI⟩ := s
 obtain ⟨tX, tY, tI⟩ := t
 obtain ⟨qX, qY, qI⟩ := q
 simp only [vT] at hs ⊢
 subst hs
 go_enter Tryz.func104, Tryz.ntmps104
 go_wp2_with fail
 refine wpOf (fun V => Below w.heap.size w V ∧ Tb w.heap.size ⟨sX, sY, true⟩ V ∧ Tb (w.heap.size + 1) ⟨tX, tY, tI⟩ V ∧ Tb (w.heap.size + 1 + 1) ⟨qX, qY, qI⟩ V ∧ Pb (w.heap.size + 1 + 1 + 1) z2 V) ⟨by go_grown, (((Tb.new' w ⟨sX, sY, true⟩ 72 _ rfl).alloc _).alloc _).alloc _, ((Tb.new' _ ⟨tX, tY, tI⟩ 72 _ (by simp)).alloc _).alloc _, (Tb.new' _ ⟨qX, qY, qI⟩ 72 _ (by simp)).alloc _, Pb.new' _ z2 111 _ (by simp)⟩ ?_
 rintro V ⟨BV, hA, hB, hC, hO⟩
 have k0 := cell_regrown hA.a
 have k1 := cell_regrown hA.b
 have k2 := cell_regrown hA.c
 have k3 := cell_regrown hB.a
 have k4 := cell_regrown hB.b
 have k5 := cell_regrown hB.c
 have HV : Hid (_ ∧ _ ∧ _ ∧ _ ∧ _) := ⟨BV, hA, hB, hC, hO⟩
 clear hA hB hC hO BV
 refine wp_region_quiet_below (by kernel_rfl) (by kernel_rfl) ?_
 iterate 3 (quiet_step (fail))
 iterate 9 (go_big_quiet_step (fail))
 refine wpQuiet_nil ?_
 intro w8 hw8
 have B8 : Below V.heap.size V w8 := by
  obtain ⟨p, rfl⟩ := hw8
  exact below_regrown _ _ _
 obtain ⟨BV, hA, hB, hC, hO⟩ := HV.out
 have BW := jaa BV BV.size B8
 have O8 := hO.below B8
 clear hw8 k0 k1 k2 k3 k4 k5 hA hB hC hO BV HV B8
 go_wp2_with fail
 refine (jey _).mono ?_
 rintro e w9 ⟨rfl, B9⟩
 have BW9 := jaa BW BW.size B9
 obtain ⟨z, a, b, f⟩ := O8.below B9
 clear BW B9 O8
 go_wp2_with fail
 refine bodyPost_ret (v := vP o2) (by simp [results, Tryz.results104, go_sem, o2, *]) rfl ⟨rfl, ?_⟩
 exact jch (y := o2) BW9 (by omega)
theorem rline2 (s t q : Pt) (hs : s.I = false) (ht : t.I = true) (w : World) :
  Calls Tryz.prog 104 #[vT s, vT t, vT q] w fun e w' => e = .returned (vP o2) ∧ Below w.heap.size w w' := by
 obtain ⟨sX, sY, sI⟩ := s
 obtain ⟨tX, tY, tI⟩ := t
 obtain ⟨qX, qY, qI⟩ := q
 simp only [vT] at hs ht ⊢
 subst hs ht
 go_enter Tryz.func104, Tryz.ntmps104
 go_wp2_with fail
 refine wpOf (fun V => Below w.heap.size w V ∧ Tb w.heap.size ⟨sX, sY, false⟩ V ∧ Tb (w.heap.size + 1) ⟨tX, tY, true⟩ V ∧ Tb (w.heap.size + 1 + 1) ⟨qX, qY, qI⟩ V ∧ Pb (w.heap.size + 1 + 1 + 1) z2 V) ⟨by go_grown, (((Tb.new' w ⟨sX, sY, false⟩ 72 _ rfl).alloc _).alloc _).alloc _, ((Tb.new' _ ⟨tX, tY, true⟩ 72 _ (by simp)).alloc _).alloc _, (Tb.new' _ ⟨qX, qY, qI⟩ 72 _ (by simp)).alloc _, Pb.new' _ z2 111 _ (by simp)⟩ ?_
 rintro V ⟨BV, hA, hB, hC, hO⟩
 have k0 := cell_regrown hA.a
 have k1 := cell_regrown hA.b
 have k2 := cell_regrown hA.c
 have k3 := cell_regrown hB.a
 have k4 := cell_regrown hB.b
 have k5 := cell_regrown hB.c
 have HV : Hid (_ ∧ _ ∧ _ ∧ _ ∧ _) := ⟨BV, hA, hB, hC, hO⟩
 clear hA hB hC hO BV
 refine wp_region_quiet_below (by kernel_rfl) (by kernel_rfl) ?_
 iterate 7 (quiet_step (fail))
 iterate 5 (go_big_quiet_step (fail))
 refine wpQuiet_nil ?_
 intro w8 hw8
 have B8 : Below V.heap.size V w8 := by
  obtain ⟨p, rfl⟩ := hw8
  exact below_regrown _ _ _
 obtain ⟨BV, hA, hB, hC, hO⟩ := HV.out
 have BW := jaa BV BV.size B8
 have O8 := hO.below B8
 clear hw8 k0 k1 k2 k3 k4 k5 hA hB hC hO BV HV B8
 go_wp2_with fail
 refine (jey _).mono ?_
 rintro e w9 ⟨rfl, B9⟩
 have BW9 := jaa BW BW.size B9
 obtain ⟨z, a, b, f⟩ := O8.below B9
 clear BW B9 O8
 go_wp2_with fail
 refine bodyPost_ret (v := vP o2) (by simp [results, Tryz.results104, go_sem, o2, *]) rfl ⟨rfl, ?_⟩
 exact jch (y := o2) BW9 (by omega)
theorem rline3 (s t q : Pt) (hs : s.I = false) (ht : t.I = false) (hn : t = ngN s) (us : Wl s) (w : World) :
  Calls Tryz.prog 104 #[vT s, vT t, vT q] w fun e w' => e = .returned (vP o2) ∧ Below w.heap.size w w' := by
 have hG := eqlT t (ngN s)
 rw [decide_eq_true hn] at hG
 have C0 := minus_any s us
 obtain ⟨g, hg⟩ : ∃ g, ngN s = g := ⟨_, rfl⟩
 rw [hg] at C0 hG
 clear hn hg us
 obtain ⟨sX, sY, sI⟩ := s
 obtain ⟨tX, tY, tI⟩ := t
 obtain ⟨qX, qY, qI⟩ := q
 simp only [vT] at hs ht hG C0 ⊢
 subst hs ht
 go_enter Tryz.func104, Tryz.ntmps104
 go_wp2_with fail
 refine wpOf (fun V => Below w.heap.size w V ∧ Tb w.heap.size ⟨sX, sY, false⟩ V ∧ Tb (w.heap.size + 1) ⟨tX, tY, false⟩ V ∧ Tb (w.heap.size + 1 + 1) ⟨qX, qY, qI⟩ V ∧ Pb (w.heap.size + 1 + 1 + 1) z2 V) ⟨by go_grown, (((Tb.new' w ⟨sX, sY, false⟩ 72 _ rfl).alloc _).alloc _).alloc _, ((Tb.new' _ ⟨tX, tY, false⟩ 72 _ (by simp)).alloc _).alloc _, (Tb.new' _ ⟨qX, qY, qI⟩ 72 _ (by simp)).alloc _, Pb.new' _ z2 111 _ (by simp)⟩ ?_
 rintro V ⟨BV, hA, hB, hC, hO⟩
 have k0 := cell_regrown hA.a
 have k1 := cell_regrown hA.b
 have k2 := cell_regrown hA.c
 have k3 := cell_regrown hB.a
 have k4 := cell_regrown hB.b
 have k5 := cell_regrown hB.c
 have c1 := jae (w := V) C0
 clear C0
 have HV : Hid (_ ∧ _ ∧ _ ∧ _ ∧ _) := ⟨BV, hA, hB, hC, hO⟩
 clear hA hB hC hO BV
 refine wp_region_quiet_below (by kernel_rfl) (by kernel_rfl) ?_
 iterate 9 (quiet_step (fail))
 quiet_step (exact c1 _ _)
 iterate 2 (quiet_step (fail))
 refine wpQuiet_nil ?_
 intro w8 hw8
 have B8 : Below V.heap.size V w8 := by
  obtain ⟨p, rfl⟩ := hw8
  exact below_regrown _ _ _
 obtain ⟨BV, hA, hB, hC, hO⟩ := HV.out
 have BW := jaa BV BV.size B8
 have O8 := hO.below B8
 clear c1 hw8 k0 k1 k2 k3 k4 k5 hA hB hC hO BV HV B8
 go_wp2_with fail
 refine (jey _).mono ?_
 rintro e w9 ⟨rfl, B9⟩
 have BW9 := jaa BW BW.size B9
 obtain ⟨z, a, b, f⟩ := O8.below B9
 clear BW B9 O8
 go_wp2_with fail
 refine bodyPost_ret (v := vP o2) (by simp [results, Tryz.results104, go_sem, o2, *]) rfl ⟨rfl, ?_⟩
 exact jch (y := o2) BW9 (by omega)
theorem rline4 (s t q : Pt) (hs : s.I = false) (ht : t.I = false) (hn : ¬ t = ngN s) (us : Wl s) (ut : UT t) (uq : UT q) (w : World) :
  Calls Tryz.prog 104 #[vT s, vT t, vT q] w fun e w' => e = .returned (vP ⟨sbN (muN (slN s t) (adN s.X q.X)) s.Y, q.Y⟩) ∧ Below w.heap.size w w' := by
 have vs := wl_u us
 have C1 := rslope_any s t vs ut
 have C2 := jgb s.X q.X vs.1 uq.1
 have C3 := jbg (slN s t) (adN s.X q.X) (pm_u _ (sl_lt _ _)) (pm_u _ (ad_lt _ _))
 have C4 := jcy (muN (slN s t) (adN s.X q.X)) s.Y (pm_u _ (jbq _ _)) vs.2
 obtain ⟨x, hx⟩ : ∃ x, sbN (muN (slN s t) (adN s.X q.X)) s.Y = x := ⟨_, rfl⟩
 rw [hx] at C4 ⊢
 obtain ⟨x1, h1⟩ : ∃ x, slN s t = x := ⟨_, rfl⟩
 rw [h1] at C1 C3 C4
 obtain ⟨x2, h2⟩ : ∃ x, adN s.X q.X = x := ⟨_, rfl⟩
 rw [h2] at C2 C3 C4
 obtain ⟨x3, h3⟩ : ∃ x, muN x1 x2 = x := ⟨_, rfl⟩
 rw [h3] at C3 C4
 have hG := eqlT t (ngN s)
 rw [decide_eq_false hn] at hG
 have C0 := minus_any s us
 obtain ⟨g, hg⟩ : ∃ g, ngN s = g := ⟨_, rfl⟩
 rw [hg] at C0 hG
 clear hn hg us vs ut uq hx h1 h2 h3
 obtain ⟨sX, sY, sI⟩ := s
 obtain ⟨tX, tY, tI⟩ := t
 obtain ⟨qX, qY, qI⟩ := q
 simp only [vT] at hs ht hG C0 C1 C2 C4 ⊢
 subst hs ht
 go_enter Tryz.func104, Tryz.ntmps104
 go_wp2_with fail
 refine wpOf (fun V => Below w.heap.size w V ∧ Tb w.heap.size ⟨sX, sY, false⟩ V ∧ Tb (w.heap.size + 1) ⟨tX, tY, false⟩ V ∧ Tb (w.heap.size + 1 + 1) ⟨qX, qY, qI⟩ V ∧ Pb (w.heap.size + 1 + 1 + 1) z2 V) ⟨by go_grown, (((Tb.new' w ⟨sX, sY, false⟩ 72 _ rfl).alloc _).alloc _).alloc _, ((Tb.new' _ ⟨tX, tY, false⟩ 72 _ (by simp)).alloc _).alloc _, (Tb.new' _ ⟨qX, qY, qI⟩ 72 _ (by simp)).alloc _, Pb.new' _ z2 111 _ (by simp)⟩ ?_
 rintro V ⟨BV, hA, hB, hC, hO⟩
 have k0 := cell_regrown hA.a
 have k1 := cell_regrown hA.b
 have k2 := cell_regrown hA.c
 have k3 := cell_regrown hB.a
 have k4 := cell_regrown hB.b
 have k5 := cell_regrown hB.c
 have c1 := jae (w := V) C0
 clear C0
 have HV : Hid (_ ∧ _ ∧ _ ∧ _ ∧ _) := ⟨BV, hA, hB, hC, hO⟩
 clear hA hB hC hO BV
 refine wp_region_quiet_below (by kernel_rfl) (by kernel_rfl) ?_
 iterate 9 (quiet_step (fail))
 quiet_step (exact c1 _ _)
 iterate 2 (quiet_step (fail))
 refine wpQuiet_nil ?_
 intro w8 hw8
 have B8 : Below V.heap.size V w8 := by
  obtain ⟨p, rfl⟩ := hw8
  exact below_regrown _ _ _
 obtain ⟨BV, hA, hB, hC, hO⟩ := HV.out
 have BW := jaa BV BV.size B8
 have A8 := hA.below B8
 have D8 := hB.below B8
 have Q8 := hC.below B8
 have O8 := hO.below B8
 clear hw8 k0 k1 k2 k3 k4 k5 hA hB hC hO BV HV c1 B8 V hG
 have ⟨_, sa, sb, sc, sf⟩ := A8
 have ⟨_, ta, tb, tc, tf⟩ := D8
 go_wp2_with fail
 refine (C1 _).mono ?_
 rintro e w9 ⟨rfl, B9⟩
 have BW9 := jaa BW BW.size B9
 have A9 := A8.below B9
 have Q9 := Q8.below B9
 have O9 := O8.below B9
 clear sa sb sc sf ta tb tc tf A8 D8 Q8 O8 BW B9
 have j0 := cell_regrown A9.a
 have j1 := cell_regrown A9.b
 have j6 := cell_regrown Q9.a
 have d2 := jae (w := w9) C2
 have d3 := jae (w := w9) C3
 have d4 := jae (w := w9) C4
 have HV : Hid (_ ∧ _ ∧ _) := ⟨BW9, Q9, O9⟩
 clear A9 Q9 O9 BW9 C1 C2 C3 C4
 go_wp2_with fail
 refine wp_region_quiet_below (by kernel_rfl) (by kernel_rfl) ?_
 iterate 5 (quiet_step (fail))
 quiet_step (exact d2 _ _)
 quiet_step (exact d3 _ _)
 iterate 2 (quiet_step (fail))
 quiet_step (exact d4 _ _)
 iterate 1 (quiet_step (fail))
 refine wpQuiet_nil ?_
 intro u8 hu8
 have B8 : Below w9.heap.size w9 u8 := by
  obtain ⟨p, rfl⟩ := hu8
  exact below_regrown _ _ _
 obtain ⟨BW, Q8, O8⟩ := HV.out
 obtain ⟨_, qa, qb, qc, qf⟩ := Q8.below B8
 obtain ⟨z, a, b, f⟩ := O8.below B8
 have BW9 := jaa BW BW.size B8
 clear hu8 j0 j1 j6 d2 d3 d4 HV O8 Q8 BW B8
 go_wp2_with fail
 refine bodyPost_ret (v := vP ⟨x, qY⟩) (by simp [results, Tryz.results104, go_sem, *]) rfl ⟨rfl, ?_⟩
 exact jch (y := ⟨x, qY⟩) BW9 (by omega)
theorem rline_any (s t q : Pt) (us : Wl s) (ut : Wl t) (uq : UT q) (w : World) :
  Calls Tryz.prog 104 #[vT s, vT t, vT q] w fun e w' => e = .returned (vP (lnA s t q)) ∧ Below w.heap.size w w' := by
 unfold lnA
 by_cases hs : s = iN
 ·rw [if_pos (.inl hs)]; exact rline1 s t q (by rw [hs]; rfl) w
 by_cases ht : t = iN
 ·rw [if_pos (.inr (.inl ht))]; exact rline2 s t q (wl_i us hs) (by rw [ht]; rfl) w
 by_cases hn : t = ngN s
 ·rw [if_pos (.inr (.inr hn))]; exact rline3 s t q (wl_i us hs) (wl_i ut ht) hn us w
 rw [if_neg (by rintro (h | h | h); exact hs h; exact ht h; exact hn h)]
 exact rline4 s t q (wl_i us hs) (wl_i ut ht) hn us (wl_u ut) uq w
theorem and_one_i (k : Nat) (h : k < 9223372036854775808) : bits .and .i64 (k : Int) 1 = ((k % 2 : Nat) : Int) := by
 have e : (BitVec.ofInt 64 (k : Int) &&& BitVec.ofInt 64 1).toNat = k % 2 := by
  rw [BitVec.toNat_and]
  have a1 : (BitVec.ofInt 64 (k : Int)).toNat = k := by
   rw [BitVec.toNat_ofInt]; omega
  have a2 : (BitVec.ofInt 64 1).toNat = 1 := by decide
  rw [a1, a2, Nat.and_one_is_mod]
 show IntKind.i64.wrap ((BitVec.ofInt 64 (k : Int) &&& BitVec.ofInt 64 1).toNat : Int) = _
 rw [e]
 rw [IntKind.wrap_i64]
 omega
theorem Tb.o2 {n g : Nat} {x : Pt} {W : World} (h : Tb n x W) (y : P2) (hg : g ≠ n) : Tb n x (sP g y W) := by
 obtain ⟨z, a, b, c, f⟩ := h
 have hg' : n ≠ g := fun e => hg e.symm
 exact ⟨by simp [go_sem, *], by simp [go_sem, *], by simp [go_sem, *], by simp [go_sem, *], by simp [go_sem, *]⟩
theorem Pb.o3 {n g : Nat} {x : P2} {W : World} (h : Pb n x W) (y : Pt) (hg : g ≠ n) : Pb n x (put3 g y W) := by
 obtain ⟨z, a, b, f⟩ := h
 have hg' : n ≠ g := fun e => hg e.symm
 exact ⟨by simp [go_sem, *], by simp [go_sem, *], by simp [go_sem, *], by simp [go_sem, *]⟩
theorem rpaired_go (p q : Pt) (hp : onN p = true) (uq : UT q) (h1 : p.I = false) (h2 : q.I = false) (w : World) :
  Calls Tryz.prog 69 #[vT p, vT q] w fun e w' => e = .returned (vP (q2 (gaN p q) 8589931464)) ∧ Below w.heap.size w w' := by
 have HP : Hid (p.I = false ∧ q.I = false) := ⟨h1, h2⟩
 go_enter Tryz.func69, Tryz.ntmps69
 go_wp2_with fail
 clear h1 h2
 refine jay (fun V => Below w.heap.size w V ∧ Tb w.heap.size p V ∧ Tb (w.heap.size + 1) q V ∧ Pb (w.heap.size + 1 + 1) z2 V) ⟨by go_grown, ?_, ?_, Pb.new' _ z2 111 _ (by simp)⟩ ?_
 ·have := ((Tb.new' w p 72 _ rfl).alloc (.cells #[.int .u64 (q.X : Int), .int .u64 (q.Y : Int), .bool q.I] 72)).alloc (.cells #[.int .u64 (z2.A : Int), .int .u64 (z2.B : Int)] 111)
  rw [HP.out.1, HP.out.2] at this
  exact this
 ·have := (Tb.new' (w.alloc (.cells #[.int .u64 (p.X : Int), .int .u64 (p.Y : Int), .bool p.I] 72)) q 72 (w.heap.size + 1) (by simp)).alloc (.cells #[.int .u64 (z2.A : Int), .int .u64 (z2.B : Int)] 111)
  rw [HP.out.1, HP.out.2] at this
  exact this
 rintro V ⟨BV, hA, hQ, hR⟩
 refine (jey _).mono ?_
 rintro e w1 ⟨rfl, B1⟩
 have A1 := hA.below B1
 have Q1 := hQ.below B1
 have R1' := hR.below B1
 have BW := jaa BV BV.size B1
 have ⟨az, aa, ab, ac, af⟩ := A1
 clear B1 BV hA hQ hR V
 go_wp2_with fail
 obtain ⟨z, hz⟩ : ∃ z, w.heap.size = z := ⟨_, rfl⟩
 have HZ : Hid (w.heap.size = z) := hz
 rw [hz] at A1 Q1 R1' BW az aa ab ac af ⊢
 clear hz
 obtain ⟨m, hm⟩ : ∃ m, w1.heap.size = m := ⟨_, rfl⟩
 refine wpOf (fun V => Below z w V ∧ Tb z p V ∧ Tb (z + 1) q V ∧ Pb (z + 1 + 1) z2 V ∧ Pb m o2 V ∧ Tb (m + 1) p V) ⟨?_, (A1.alloc _).alloc _, (Q1.alloc _).alloc _, ?_, ?_, Tb.new' _ p 72 _ (by simp [hm])⟩ ?_
 ·exact (BW.alloc (by rw [← HZ.out]; exact BW.size) _).alloc (by rw [← HZ.out]; have := BW.size; simp; omega) _
 ·exact (R1'.below ((Below.refl _ _).alloc (Nat.le_refl _) _)).below ((Below.refl _ _).alloc (Nat.le_refl _) _)
 ·exact (Pb.new' _ o2 111 _ hm).below ((Below.refl _ _).alloc (Nat.le_refl _) _)
 have hzm : z + 1 + 1 < m := by rw [← hm]; exact R1'.z
 rintro V ⟨BV, hA, hQ, hR, hF, hT⟩
 rw [hm]
 clear aa ab ac af az A1 Q1 R1' BW hm w1
 obtain ⟨nO, hnO⟩ : ∃ n : Nat, 536870717 = n := ⟨_, rfl⟩
 have eGa : gaN p q = (stG p q (jbe nO 28 28)).1 := by rw [← hnO]; rfl
 go_loopg [7] 28 (fun gk i wr => i = .int .i64 ((gk : Int) - 1) ∧ gk ≤ 28 ∧ Below z w wr ∧ Tb z p wr ∧ Tb (z + 1) q wr ∧ Pb (z + 1 + 1) z2 wr ∧ Pb m (stG p q (jbe nO 28 (28 - gk))).1 wr ∧ Tb (m + 1) (stG p q (jbe nO 28 (28 - gk))).2 wr)
 case atStart =>
  exact ⟨rfl, by omega, BV, hA, hQ, hR, hF, hT⟩
 case round =>
  clear BV hA hQ hR hF hT
  obtain ⟨rfl, hg, BW, hA, hQ, hR, hF, hT⟩ := hrel
  cases gk with
  | zero =>
   rw [Nat.sub_zero, ← eGa] at hF
   have uG : UP (gaN p q) := (stG_ok hp _).2
   have CP := rpow2_any (gaN p q) 8589931464 uG (by decide)
   obtain ⟨g, hgg⟩ : ∃ x, gaN p q = x := ⟨_, rfl⟩
   rw [hgg] at CP hF
   obtain ⟨x, hx⟩ : ∃ x, q2 g 8589931464 = x := ⟨_, rfl⟩
   rw [hx] at CP
   have HX : Hid (q2 (gaN p q) 8589931464 = x) := by rw [hgg]; exact hx
   have HH : Hid (_ ∧ _) := ⟨BW, hR⟩
   have ⟨_, y0, y1, yf⟩ := hF
   clear hgg hx uG eGa hnO BW hA hQ hR hT HP
   go_wp2_with fail
   refine (CP _).mono ?_
   rintro e W6 ⟨rfl, B6⟩
   have hzz := HH.out.2.z
   have BW6 := jaa HH.out.1 (by omega) B6
   obtain ⟨_, r0, r1, rf⟩ := HH.out.2.below B6
   clear HH y0 y1 yf B6 CP
   go_wp2_with fail
   refine bodyPost_ret (v := vP x) (by simp [results, Tryz.results69, go_sem, *]) rfl ⟨by rw [HX.out], ?_⟩
   rw [HZ.out]
   exact jch BW6 (by omega) x
  | succ j =>
   obtain ⟨onS, uS⟩ := stG_ok (q := q) hp (jbe nO 28 (28 - (j + 1)))
   have hsn := stG_snoc p q (jbe nO 28 (28 - (j + 1))) (jeu nO 28 (28 - (j + 1)))
   rw [← jcf, show 28 - (j + 1) + 1 = 28 - j by omega] at hsn
   have hbt : jeu nO 28 (28 - (j + 1)) = (nO / 2 ^ j % 2 == 1) := by unfold jeu; rw [show 28 - 1 - (28 - (j + 1)) = j by omega]
   obtain ⟨⟨f, t⟩, hft⟩ : ∃ s, stG p q (jbe nO 28 (28 - (j + 1))) = s := ⟨_, rfl⟩
   rw [hft] at hF hT hsn onS uS
   simp only at hF hT onS uS
   have ot := jee onS onS
   have C1 := jep f f uS uS
   have C2 := rline_any t t q (jbs onS) (jbs onS) uq
   have C3 := jep (m2 f f) (lnA t t q) (m2_u _ _) (lnA_u t t q uq)
   have C4 := jgc t t (jbs onS) (jbs onS)
   have C5 := rline_any (smN t t) p q (jbs ot) (jbs hp) uq
   have C6 := jep (m2 (m2 f f) (lnA t t q)) (lnA (smN t t) p q) (m2_u _ _) (lnA_u _ _ q uq)
   have C7 := jgc (smN t t) p (jbs ot) (jbs hp)
   unfold gst at hsn
   simp only at hsn
   clear onS uS ot hft
   obtain ⟨f1, e1⟩ : ∃ y, m2 f f = y := ⟨_, rfl⟩
   rw [e1] at C1 C3 C6 hsn
   obtain ⟨f2, e2⟩ : ∃ y, lnA t t q = y := ⟨_, rfl⟩
   rw [e2] at C2 C3 C6 hsn
   obtain ⟨f3, e3⟩ : ∃ y, m2 f1 f2 = y := ⟨_, rfl⟩
   rw [e3] at C3 C6 hsn
   obtain ⟨t2, e4⟩ : ∃ y, smN t t = y := ⟨_, rfl⟩
   rw [e4] at C4 C5 C6 C7 hsn
   obtain ⟨f4, e5⟩ : ∃ y, lnA t2 p q = y := ⟨_, rfl⟩
   rw [e5] at C5 C6 hsn
   obtain ⟨f5, e6⟩ : ∃ y, m2 f3 f4 = y := ⟨_, rfl⟩
   rw [e6] at C6 hsn
   obtain ⟨t3, e7⟩ : ∃ y, smN t2 p = y := ⟨_, rfl⟩
   rw [e7] at C7 hsn
   clear e1 e2 e3 e4 e5 e6 e7
   have c1 := jae (w := wr) C1
   have c2 := jae (w := wr) C2
   have c3 := jae (w := wr) C3
   have k0 := cell_regrown hF.a
   have k1 := cell_regrown hF.b
   have k2 := cell_regrown hT.a
   have k3 := cell_regrown hT.b
   have k4 := cell_regrown hT.c
   have k5 := cell_regrown hQ.a
   have k6 := cell_regrown hQ.b
   have k7 := cell_regrown hQ.c
   have HH : Hid (_ ∧ _ ∧ _ ∧ _ ∧ _ ∧ _) := ⟨BW, hA, hQ, hR, hF, hT⟩
   have HC : Hid (_ ∧ _ ∧ _ ∧ _) := ⟨C4, C5, C6, C7⟩
   have HB : Hid (_ ∧ _ ∧ _) := ⟨hsn, hbt, hnO⟩
   clear BW hA hQ hR hF hT C1 C2 C3 C4 C5 C6 C7 hsn hbt hnO eGa HP
   go_wp2_with fail
   refine jar 8 (by kernel_rfl) (by kernel_rfl) ?_
   simp only [List.take_succ_cons, List.take_zero, List.drop_succ_cons, List.drop_zero]
   iterate 2 (quiet_step (fail))
   quiet_step (exact c1 _ _)
   iterate 3 (quiet_step (fail))
   quiet_step (exact c2 _ _)
   quiet_step (exact c3 _ _)
   refine wpQuiet_nil ?_
   intro W4 hw8
   have B4 : Below wr.heap.size wr W4 := by
    obtain ⟨p, rfl⟩ := hw8
    exact below_regrown _ _ _
   clear hw8 k0 k1 k2 k3 k4 k5 k6 k7 c1 c2 c3
   obtain ⟨BW, hA, hQ, hR, hF, hT⟩ := HH.out
   have A4 := hA.below B4
   have Q4 := hQ.below B4
   have R4' := hR.below B4
   have F4 := hF.below B4
   have T4 := hT.below B4
   have BW4 := jaa BW (by have := hR.z; omega) B4
   have hz4 : z ≤ W4.heap.size := by have := R4'.z; omega
   have A5 := A4.o2 (g := m) f3 (by omega)
   have Q5 := Q4.o2 (g := m) f3 (by omega)
   have R5' := R4'.other (g := m) f3 (by omega)
   have T5 := T4.o2 (g := m) f3 (by omega)
   have F5 := F4.over f3
   have BW5 := jch BW4 (g := m) (by omega) f3
   have H5 : Hid (_ ∧ _ ∧ _ ∧ _ ∧ _ ∧ _) := ⟨BW5, A5, Q5, R5', F5, T5⟩
   have ⟨_, y0, y1, yf⟩ := F4
   have ⟨_, v0, v1, v2, vf⟩ := T4
   have ⟨_, p0, p1, p2, pf⟩ := A4
   have hm1 : m + 1 ≠ m := by omega
   have hm2 : m ≠ m + 1 := by omega
   have hm3 : z ≠ m := by omega
   have hm4 : m ≠ z := by omega
   clear BW hA hQ hR hF hT A4 Q4 R4' F4 T4 BW4 A5 Q5 R5' T5 F5 BW5 B4 HH
   go_wp2_with fail
   refine (HC.out.1 _).mono ?_
   rintro e W6 ⟨rfl, B6⟩
   obtain ⟨BW5, A5, Q5, R5', F5, T5⟩ := H5.out
   have A6 := A5.below B6
   have Q6 := Q5.below B6
   have R6' := R5'.below B6
   have F6 := F5.below B6
   have T6 := T5.below B6
   have BW6 := jaa BW5 (by rw [size_sP]; exact hz4) B6
   have A7 := A6.other (g := m + 1) t2 (by omega)
   have Q7 := Q6.other (g := m + 1) t2 (by omega)
   have R7' := R6'.o3 (g := m + 1) t2 (by omega)
   have F7 := F6.o3 (g := m + 1) t2 (by omega)
   have T7 := T6.over t2
   have BW7 := jah BW6 (g := m + 1) (by omega) t2
   have H7 : Hid (_ ∧ _ ∧ _ ∧ _ ∧ _ ∧ _) := ⟨BW7, A7, Q7, R7', F7, T7⟩
   clear y0 y1 yf v0 v1 v2 vf p0 p1 p2 pf
   have ⟨_, v0, v1, v2, vf⟩ := T6
   clear A5 Q5 R5' F5 T5 BW5 A6 Q6 R6' F6 T6 BW6 A7 Q7 R7' F7 T7 BW7 B6 H5
   obtain ⟨y, hy⟩ : ∃ y, nO / 2 ^ j = y := ⟨_, rfl⟩
   obtain ⟨hsn, hbt, hnO⟩ := HB.out
   have hyU : y < 9223372036854775808 := by rw [← hy, ← hnO]; exact Nat.lt_of_le_of_lt (Nat.div_le_self _ _) (by decide)
   have hd : (536870717 : Int) / 2 ^ j = y := by rw [← hy, ← hnO]; simp [Int.natCast_ediv, Int.natCast_pow]
   have ha1 := and_one_i y hyU
   rw [hy] at hbt
   clear hy hyU hnO
   by_cases hb : y % 2 = 1
   ·rw [hb] at ha1 hbt
    rw [show ((1 : Nat) == 1) = true from rfl] at hbt
    rw [hbt, if_pos rfl] at hsn
    have HB : Hid _ := hsn
    clear hb hbt hsn
    go_wp2_with fail
    refine wpOf (fun U => Below z w U ∧ Tb z p U ∧ Tb (z + 1) q U ∧ Pb (z + 1 + 1) z2 U ∧ Pb m f3 U ∧ Tb (m + 1) t2 U) H7.out ?_
    rintro U ⟨BW, hA, hQ, hR, hF, hT⟩
    have HD : Hid (_ ∧ _ ∧ _) := HC.out.2
    clear H7 v0 v1 v2 vf HC hm1 hm2 hm3 hm4
    have c1 := jae (w := U) HD.out.1
    have c2 := jae (w := U) HD.out.2.1
    have k0 := cell_regrown hF.a
    have k1 := cell_regrown hF.b
    have k2 := cell_regrown hT.a
    have k3 := cell_regrown hT.b
    have k4 := cell_regrown hT.c
    have k5 := cell_regrown hQ.a
    have k6 := cell_regrown hQ.b
    have k7 := cell_regrown hQ.c
    have k8 := cell_regrown hA.a
    have k9 := cell_regrown hA.b
    have k10 := cell_regrown hA.c
    have HH : Hid (_ ∧ _ ∧ _ ∧ _ ∧ _ ∧ _) := ⟨BW, hA, hQ, hR, hF, hT⟩
    clear BW hA hQ hR hF hT
    refine jar 6 (by kernel_rfl) (by kernel_rfl) ?_
    simp only [List.take_succ_cons, List.take_zero, List.drop_succ_cons, List.drop_zero]
    iterate 4 (quiet_step (fail))
    quiet_step (exact c1 _ _)
    quiet_step (exact c2 _ _)
    refine wpQuiet_nil ?_
    intro W4 hw8
    have B4 : Below U.heap.size U W4 := by
     obtain ⟨p, rfl⟩ := hw8
     exact below_regrown _ _ _
    clear hw8 k0 k1 k2 k3 k4 k5 k6 k7 k8 k9 k10 c1 c2
    obtain ⟨BW, hA, hQ, hR, hF, hT⟩ := HH.out
    have A4 := hA.below B4
    have Q4 := hQ.below B4
    have R4' := hR.below B4
    have F4 := hF.below B4
    have T4 := hT.below B4
    have BW4 := jaa BW (by have := hR.z; omega) B4
    have hz4 : z ≤ W4.heap.size := by have := R4'.z; omega
    have A5 := A4.o2 (g := m) f5 (by omega)
    have Q5 := Q4.o2 (g := m) f5 (by omega)
    have R5' := R4'.other (g := m) f5 (by omega)
    have T5 := T4.o2 (g := m) f5 (by omega)
    have F5 := F4.over f5
    have BW5 := jch BW4 (g := m) (by omega) f5
    have H5 : Hid (_ ∧ _ ∧ _ ∧ _ ∧ _ ∧ _) := ⟨BW5, A5, Q5, R5', F5, T5⟩
    have ⟨_, y0, y1, yf⟩ := F4
    have ⟨_, v0, v1, v2, vf⟩ := T4
    have ⟨_, p0, p1, p2, pf⟩ := A4
    have hm1 : m + 1 ≠ m := by omega
    have hm2 : m ≠ m + 1 := by omega
    have hm3 : z ≠ m := by omega
    have hm4 : m ≠ z := by omega
    clear BW hA hQ hR hF hT A4 Q4 R4' F4 T4 BW4 A5 Q5 R5' T5 F5 BW5 B4 HH
    go_wp2_with fail
    refine (HD.out.2.2 _).mono ?_
    rintro e W6 ⟨rfl, B6⟩
    obtain ⟨BW5, A5, Q5, R5', F5, T5⟩ := H5.out
    have A6 := A5.below B6
    have Q6 := Q5.below B6
    have R6' := R5'.below B6
    have F6 := F5.below B6
    have T6 := T5.below B6
    have BW6 := jaa BW5 (by rw [size_sP]; exact hz4) B6
    have A7 := A6.other (g := m + 1) t3 (by omega)
    have Q7 := Q6.other (g := m + 1) t3 (by omega)
    have R7' := R6'.o3 (g := m + 1) t3 (by omega)
    have F7 := F6.o3 (g := m + 1) t3 (by omega)
    have T7 := T6.over t3
    have BW7 := jah BW6 (g := m + 1) (by omega) t3
    have H7 : Hid (_ ∧ _ ∧ _ ∧ _ ∧ _ ∧ _) := ⟨BW7, A7, Q7, R7', F7, T7⟩
    clear y0 y1 yf v0 v1 v2 vf p0 p1 p2 pf
    have ⟨_, v0, v1, v2, vf⟩ := T6
    clear A5 Q5 R5' F5 T5 BW5 A6 Q6 R6' F6 T6 BW6 A7 Q7 R7' F7 T7 BW7 B6 H5
    go_wp2_with fail
    go_roundg j
    case measure => omega
    case rel =>
     rw [HB.out]
     exact ⟨by simp, by omega, H7.out⟩
   ·have hb0 : y % 2 = 0 := by omega
    rw [hb0] at ha1 hbt
    rw [show ((0 : Nat) == 1) = false from rfl] at hbt
    rw [hbt, if_neg (by simp)] at hsn
    have HB : Hid _ := hsn
    clear hb hb0 hbt hsn
    go_wp2_with fail
    go_roundg j
    case measure => omega
    case rel =>
     rw [HB.out]
     exact ⟨by simp, by omega, H7.out⟩
theorem rpaired1 (p q : Pt) (h1 : p.I = true) (w : World) :
  Calls Tryz.prog 69 #[vT p, vT q] w fun e w' => e = .returned (vP o2) ∧ Below w.heap.size w w' := by
 obtain ⟨pX, pY, pI⟩ := p
 simp only [vT] at h1 ⊢
 subst h1
 go_enter Tryz.func69, Tryz.ntmps69
 go_wp2_with fail
 refine jay (fun V => Below w.heap.size w V ∧ Pb (w.heap.size + 1 + 1) z2 V) ⟨by go_grown, Pb.new' _ z2 111 _ (by simp)⟩ ?_
 rintro V ⟨BV, hR⟩
 refine (jey _).mono ?_
 rintro e w1 ⟨rfl, B1⟩
 have BW := jaa BV BV.size B1
 obtain ⟨_, r0, r1, rf⟩ := hR.below B1
 clear BV B1 hR V
 go_wp2_with fail
 refine bodyPost_ret (v := vP o2) (by simp [results, Tryz.results69, go_sem, o2, *]) rfl ⟨rfl, ?_⟩
 exact jch BW (by omega) o2
theorem rpaired2 (p q : Pt) (h1 : p.I = false) (h2 : q.I = true) (w : World) :
  Calls Tryz.prog 69 #[vT p, vT q] w fun e w' => e = .returned (vP o2) ∧ Below w.heap.size w w' := by
 obtain ⟨pX, pY, pI⟩ := p
 obtain ⟨qX, qY, qI⟩ := q
 simp only [vT] at h1 h2 ⊢
 subst h1 h2
 go_enter Tryz.func69, Tryz.ntmps69
 go_wp2_with fail
 refine jay (fun V => Below w.heap.size w V ∧ Pb (w.heap.size + 1 + 1) z2 V) ⟨by go_grown, Pb.new' _ z2 111 _ (by simp)⟩ ?_
 rintro V ⟨BV, hR⟩
 refine (jey _).mono ?_
 rintro e w1 ⟨rfl, B1⟩
 have BW := jaa BV BV.size B1
 obtain ⟨_, r0, r1, rf⟩ := hR.below B1
 clear BV B1 hR V
 go_wp2_with fail
 refine bodyPost_ret (v := vP o2) (by simp [results, Tryz.results69, go_sem, o2, *]) rfl ⟨rfl, ?_⟩
 exact jch BW (by omega) o2
theorem rpaired_any (p q : Pt) (hp : onN p = true) (hq : onN q = true) (w : World) :
  Calls Tryz.prog 69 #[vT p, vT q] w fun e w' => e = .returned (vP (prN p q)) ∧ Below w.heap.size w w' := by
 unfold prN
 by_cases h1 : p = iN
 ·rw [if_pos (.inl h1)]; exact rpaired1 p q (by rw [h1]; rfl) w
 by_cases h2 : q = iN
 ·rw [if_pos (.inr h2)]; exact rpaired2 p q (wl_i (jbs hp) h1) (by rw [h2]; rfl) w
 rw [if_neg (by rintro (h | h); exact h1 h; exact h2 h)]
 exact rpaired_go p q hp (wl_u (jbs hq)) (wl_i (jbs hp) h1) (wl_i (jbs hq) h2) w
end Go.Proofs.YtoddangedbefgabGreatDoor
