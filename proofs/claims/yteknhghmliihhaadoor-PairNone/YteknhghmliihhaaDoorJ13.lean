/- What the reference's Same does; what is shown ahead of each law. No condition. -/
import Derived.Test.YteknhghmliihhaaDoorJ12
namespace Go.Proofs.YteknhghmliihhaaDoor
open Go.RowKit Go.Shelf Go.Sort

theorem prV_two (p q : Pt) : (∃ x, prV p q = okP x ∧ (grN p && grN q) = true ∧ x = prN p q) ∨ (prV p q = erP ∧ (grN p && grN q) = false) := by
  unfold prV
  cases h : grN p && grN q
  · exact .inr ⟨by rw [if_neg (by simp)], rfl⟩
  · exact .inl ⟨_, by rw [if_pos rfl], rfl, rfl⟩

set_option maxRecDepth 20000 in
set_option maxHeartbeats 4000000 in
theorem rSame_any (a b c d : Pt) (ua : UT a) (ub : UT b) (uc : UT c) (ud : UT d) (w : World) :
    Calls Tryd.prog 14 #[vT a, vT b, vT c, vT d] w fun e w' => e = .returned (saV a b c d) ∧ Below w.heap.size w w' := by
  have C1 := rPair_any a b ua ub
  have C2 := rPair_any c d uc ud
  unfold saV saB
  clear ua ub uc ud
  rcases prV_two a b with ⟨x, e1, g1, ex⟩ | ⟨e1, g1⟩
  · rw [e1] at C1
    rw [g1]
    rcases prV_two c d with ⟨y, e2, g2, ey⟩ | ⟨e2, g2⟩
    · rw [e2] at C2
      rw [g2, Bool.and_self, if_pos rfl, ← ex, ← ey]
      have hE := eqlP x y
      obtain ⟨r, hr⟩ : ∃ r, eqP x y = r := ⟨_, rfl⟩
      rw [hr] at hE ⊢
      clear e1 g1 e2 g2 ex ey hr
      go_enter Tryd.func14, Tryd.ntmps14
      go_wp2_with fail
      refine callsOf (fun V => Below w.heap.size w V ∧ Tb (w.heap.size + 1 + 1) c V ∧ Tb (w.heap.size + 1 + 1 + 1) d V) ⟨by go_grown, (Tb.new' _ c 24 _ (by simp)).alloc _, Tb.new' _ d 24 _ (by simp)⟩ ?_
      rintro V ⟨BV, hC, hD⟩
      refine (C1 _).mono ?_
      rintro e w1 ⟨rfl, B1⟩
      have BW := belowStep BV BV.size B1
      have ⟨_, ca, cb, cc, cf⟩ := hC.below B1
      have ⟨_, da, db, dc, df⟩ := hD.below B1
      clear BV B1 hC hD C1 V
      go_wp2_with fail
      refine callsOf (fun V => Below w.heap.size w V ∧ Pb w1.heap.size x V) ⟨BW.alloc BW.size _, Pb.new' _ x 27 _ rfl⟩ ?_
      rintro V ⟨BV, hX⟩
      refine (C2 _).mono ?_
      rintro e w2 ⟨rfl, B2⟩
      have BW2 := belowStep BV BV.size B2
      obtain ⟨xz, xa, xb, xf⟩ := hX.below B2
      clear BV B2 BW C2 hX ca cb cc cf da db dc df V
      go_wp2_with fail
      refine bodyPost_ret (v := .tuple #[.bool r, .int .i64 0]) (by simp [results, Tryd.results14, go_sem, *]) rfl ⟨rfl, ?_⟩
      exact BW2.alloc BW2.size _
    · rw [e2] at C2
      rw [g2, if_neg (by simp)]
      clear e1 g1 e2 g2 ex
      go_enter Tryd.func14, Tryd.ntmps14
      go_wp2_with fail
      refine callsOf (fun V => Below w.heap.size w V ∧ Tb (w.heap.size + 1 + 1) c V ∧ Tb (w.heap.size + 1 + 1 + 1) d V) ⟨by go_grown, (Tb.new' _ c 24 _ (by simp)).alloc _, Tb.new' _ d 24 _ (by simp)⟩ ?_
      rintro V ⟨BV, hC, hD⟩
      refine (C1 _).mono ?_
      rintro e w1 ⟨rfl, B1⟩
      have BW := belowStep BV BV.size B1
      have ⟨_, ca, cb, cc, cf⟩ := hC.below B1
      have ⟨_, da, db, dc, df⟩ := hD.below B1
      clear BV B1 hC hD C1 V
      go_wp2_with fail
      refine callsOf (fun V => Below w.heap.size w V) (BW.alloc BW.size _) ?_
      rintro V BV
      refine (C2 _).mono ?_
      rintro e w2 ⟨rfl, B2⟩
      have BW2 := belowStep BV BV.size B2
      clear BV B2 BW C2 ca cb cc cf da db dc df V
      go_wp2_with fail
      refine bodyPost_ret (v := .tuple #[.bool false, .int .i64 100]) (by simp [results, Tryd.results14, go_sem, *]) rfl ⟨rfl, ?_⟩
      exact BW2.alloc BW2.size _
  · rw [e1] at C1
    rw [g1, if_neg (by simp)]
    obtain ⟨y, r, e2⟩ : ∃ y r, prV c d = .tuple #[vP y, .int .i64 r] := by
      rcases prV_two c d with ⟨y, e2, _⟩ | ⟨e2, _⟩
      · exact ⟨y, 0, e2⟩
      · exact ⟨z2, 100, e2⟩
    rw [e2] at C2
    clear e1 g1 e2
    go_enter Tryd.func14, Tryd.ntmps14
    go_wp2_with fail
    refine callsOf (fun V => Below w.heap.size w V ∧ Tb (w.heap.size + 1 + 1) c V ∧ Tb (w.heap.size + 1 + 1 + 1) d V) ⟨by go_grown, (Tb.new' _ c 24 _ (by simp)).alloc _, Tb.new' _ d 24 _ (by simp)⟩ ?_
    rintro V ⟨BV, hC, hD⟩
    refine (C1 _).mono ?_
    rintro e w1 ⟨rfl, B1⟩
    have BW := belowStep BV BV.size B1
    have ⟨_, ca, cb, cc, cf⟩ := hC.below B1
    have ⟨_, da, db, dc, df⟩ := hD.below B1
    clear BV B1 hC hD C1 V
    go_wp2_with fail
    refine callsOf (fun V => Below w.heap.size w V) (BW.alloc BW.size _) ?_
    rintro V BV
    refine (C2 _).mono ?_
    rintro e w2 ⟨rfl, B2⟩
    have BW2 := belowStep BV BV.size B2
    clear BV B2 BW C2 ca cb cc cf da db dc df V
    go_wp2_with fail
    refine bodyPost_ret (v := .tuple #[.bool false, .int .i64 100]) (by simp [results, Tryd.results14, go_sem, *]) rfl ⟨rfl, ?_⟩
    exact BW2.alloc BW2.size _

set_option maxHeartbeats 1000000 in
theorem rgen_any (w : World) :
    Calls Tryd.prog 30 #[] w fun e w' => e = .returned (vT gN) ∧ Below w.heap.size w w' := by
  go_enter Tryd.func30, Tryd.ntmps30
  go_wp2_with fail
  refine bodyPost_ret (v := vT gN) (by simp [results, Tryd.results30, go_sem, gN, *]) rfl ⟨rfl, by go_grown⟩

set_option maxRecDepth 20000 in
set_option maxHeartbeats 4000000 in
theorem lmany_any (n : Nat) (hn : U64 n) (w : World) :
    Calls Tryd.prog 17 #[.int .u64 n] w fun e w' => e = .returned (vT (tmN gN n)) ∧ Below w.heap.size w w' := by
  have C2 := many_any n hn gN (wl_on on_gen)
  obtain ⟨x, hx⟩ : ∃ x, tmN gN n = x := ⟨_, rfl⟩
  rw [hx] at C2 ⊢
  clear hx
  go_enter Tryd.func17, Tryd.ntmps17
  go_wp2_with fail
  refine callsOf (fun V => Below w.heap.size w V ∧ Tb w.heap.size oP V) ⟨by go_grown, Tb.new' w oP 24 _ rfl⟩ ?_
  rintro V ⟨BV, hO⟩
  refine (rgen_any _).mono ?_
  rintro e w1 ⟨rfl, B1⟩
  have BW := belowStep BV BV.size B1
  have O1 := hO.below B1
  clear BV B1 hO V
  go_wp2_with fail
  refine (C2 _).mono ?_
  rintro e w2 ⟨rfl, B2⟩
  have BW2 := belowStep BW BW.size B2
  obtain ⟨_, oa, ob, oc, of⟩ := O1.below B2
  clear BW B2 O1
  go_wp2_with fail
  refine bodyPost_ret (v := vT x) (by simp [results, Tryd.results17, go_sem, *]) rfl ⟨rfl, ?_⟩
  exact below_put3 BW2 (by omega) x

theorem tm_g1 : tmN gN 1 = gN := tm_1 gN
theorem ut_g3 : UT g3 := ⟨by decide, by decide⟩
theorem ut_g5 : UT g5 := ⟨by decide, by decide⟩
theorem ut_g6 : UT g6 := ⟨by decide, by decide⟩
theorem same_236 : saV dN g3 g6 gN = .tuple #[.bool true, .int .i64 0] := by
  unfold saV saB
  rw [gr_g2, gr_g3, gr_g6, gr_gen, pr_23, pr_61, if_pos (by decide), show eqP e6 e6 = true by decide]
theorem same_235 : saV dN g3 g5 gN = .tuple #[.bool false, .int .i64 0] := by
  unfold saV saB
  rw [gr_g2, gr_g3, gr_g5, gr_gen, pr_23, pr_51, if_pos (by decide), show eqP e6 e5 = false by decide]

set_option maxRecDepth 20000 in
set_option maxHeartbeats 4000000 in
theorem shown11_any (w : World) (hL : Lp w) :
    Calls Tryd.prog 8 #[] w fun e w' => e = .returned (.bool true) ∧ Below w.heap.size w w' := by
  have M1 := lmany_any 1 (by decide)
  have M2 := lmany_any 2 (by decide)
  have M3 := lmany_any 3 (by decide)
  have M5 := lmany_any 5 (by decide)
  have M6 := lmany_any 6 (by decide)
  rw [tm_g1] at M1
  rw [tm_g2] at M2
  rw [tm_g3] at M3
  rw [tm_g5] at M5
  rw [tm_g6] at M6
  have S1 := pSame_any dN g3 g6 gN ut_dbl ut_g3 ut_g6 ut_gen
  have S2 := pSame_any dN g3 g5 gN ut_dbl ut_g3 ut_g5 ut_gen
  rw [same_236] at S1
  rw [same_235] at S2
  obtain ⟨p1, h1⟩ : ∃ x, gN = x := ⟨_, rfl⟩
  obtain ⟨p2, h2⟩ : ∃ x, dN = x := ⟨_, rfl⟩
  obtain ⟨p3, h3⟩ : ∃ x, g3 = x := ⟨_, rfl⟩
  obtain ⟨p5, h5⟩ : ∃ x, g5 = x := ⟨_, rfl⟩
  obtain ⟨p6, h6⟩ : ∃ x, g6 = x := ⟨_, rfl⟩
  rw [h1] at M1 S1 S2
  rw [h2] at M2 S1 S2
  rw [h3] at M3 S1 S2
  rw [h5] at M5 S2
  rw [h6] at M6 S1
  clear h1 h2 h3 h5 h6
  go_enter Tryd.func8, Tryd.ntmps8
  go_wp2_with fail
  refine (M2 _).mono ?_
  rintro e w1 ⟨rfl, B1⟩
  have T1 := B1
  have L1x := hL.below B1
  go_wp2_with fail
  refine (M3 _).mono ?_
  rintro e w2 ⟨rfl, B2⟩
  have T2 := belowStep T1 T1.size B2
  have L2x := L1x.below B2
  clear B2 T1 L1x
  go_wp2_with fail
  refine (M6 _).mono ?_
  rintro e w3 ⟨rfl, B3⟩
  have T3 := belowStep T2 T2.size B3
  have L3x := L2x.below B3
  clear B3 T2 L2x
  go_wp2_with fail
  refine (M1 _).mono ?_
  rintro e w4 ⟨rfl, B4⟩
  have T4 := belowStep T3 T3.size B4
  have L4x := L3x.below B4
  clear B4 T3 L3x
  go_wp2_with fail
  refine (S1 _ L4x).mono ?_
  rintro e w5 ⟨rfl, B5⟩
  have T5 := belowStep T4 T4.size B5
  have L5x := L4x.below B5
  clear B5 T4 L4x
  go_wp2_with fail
  refine (M2 _).mono ?_
  rintro e w6 ⟨rfl, B6⟩
  have T6 := belowStep T5 T5.size B6
  have L6x := L5x.below B6
  clear B6 T5 L5x
  go_wp2_with fail
  refine (M3 _).mono ?_
  rintro e w7 ⟨rfl, B7⟩
  have T7 := belowStep T6 T6.size B7
  have L7x := L6x.below B7
  clear B7 T6 L6x
  go_wp2_with fail
  refine (M5 _).mono ?_
  rintro e w8 ⟨rfl, B8⟩
  have T8 := belowStep T7 T7.size B8
  have L8x := L7x.below B8
  clear B8 T7 L7x
  go_wp2_with fail
  refine (M1 _).mono ?_
  rintro e w9 ⟨rfl, B9⟩
  have T9 := belowStep T8 T8.size B9
  have L9x := L8x.below B9
  clear B9 T8 L8x
  go_wp2_with fail
  refine (S2 _ L9x).mono ?_
  rintro e w10 ⟨rfl, B10⟩
  have T10 := belowStep T9 T9.size B10
  have L10x := L9x.below B10
  clear B10 T9 L9x
  go_wp2_with fail
  go_ret
  exact ⟨rfl, T10⟩
end Go.Proofs.YteknhghmliihhaaDoor
