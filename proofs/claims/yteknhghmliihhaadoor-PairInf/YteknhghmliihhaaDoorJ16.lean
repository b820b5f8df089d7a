/- The walk of PairInf. No condition. -/
import Derived.Test.YteknhghmliihhaaDoorJ15
namespace Go.Proofs.YteknhghmliihhaaDoor
open Go.RowKit Go.Shelf Go.Sort

theorem ln_bad {s t q : Pt} (h : lnO s t q = false) : lnV s t q = erP := by unfold lnV; rw [h, if_neg (by simp)]
theorem ln_one {s t q : Pt} (h : lnO s t q = true) (h1 : lnA s t q = o2) : lnV s t q = okP o2 := by unfold lnV; rw [h, if_pos rfl, h1]
theorem la_inf1 (t q : Pt) : lnA iN t q = o2 := by unfold lnA; rw [if_pos (.inl rfl)]
theorem la_inf2 (s q : Pt) : lnA s iN q = o2 := by unfold lnA; rw [if_pos (.inr (.inl rfl))]
theorem la_neg (s q : Pt) : lnA s (ngN s) q = o2 := by unfold lnA; rw [if_pos (.inr (.inr rfl))]
theorem lo_last (s t : Pt) : lnO s t iN = false := by unfold lnO; rw [decide_eq_true rfl]; simp

set_option maxRecDepth 20000 in
set_option maxHeartbeats 8000000 in
theorem pinf1 (p q : Pt) (hp : UT p) (hq : UT q) (ho : onN p = false) (w : World) (hL : Lp w) :
    Calls Tryd.prog 7 #[vT p, vT q] w fun e w' => e = .returned (.bool true) ∧ Below w.heap.size w w' := by
  have C4 := pLine_any p p iN hp hp ut_inf
  rw [ln_bad (lo_last p p)] at C4
  have C0 := neg_any p hp
  unfold negV at C0
  rw [ho, if_neg (by simp)] at C0
  have C1 := pLine_any iN p q ut_inf hp hq
  rw [ln_bad (by unfold lnO; rw [ho]; simp)] at C1
  have C2 := pLine_any p iN q hp ut_inf hq
  rw [ln_bad (by unfold lnO; rw [ho]; simp)] at C2
  have C3 := pLine_any p oP q hp ⟨by decide, by decide⟩ hq
  rw [ln_bad (by unfold lnO; rw [ho]; simp)] at C3
  clear ho hp hq
  obtain ⟨o, hoo⟩ : ∃ o, oP = o := ⟨_, rfl⟩
  have C0 : ∀ W, Li W → Calls Tryd.prog 15 #[vT p] W fun e w' => e = .returned (.tuple #[vT oP, .int .i64 100]) ∧ Below W.heap.size W w' := C0
  rw [hoo] at C0 C3
  clear hoo
  obtain ⟨i, hi⟩ : ∃ i, iN = i := ⟨_, rfl⟩
  rw [hi] at C1 C2 C4
  go_enter Tryd.func7, Tryd.ntmps7
  go_wp2_with fail
  refine callsOf (fun W => Below w.heap.size w W ∧ Tb w.heap.size p W ∧ Tb (w.heap.size + 1) q W ∧ Lp W) ⟨by go_grown, (Tb.new' w p 24 _ rfl).alloc _, Tb.new' _ q 24 _ (by simp), ((hL).alloc _).alloc _⟩ ?_
  rintro w0 ⟨BV, h0, h1, LV⟩
  refine (shown11_any _ LV).mono ?_
  rintro e w1 ⟨rfl, B1⟩
  have g0 := h0.below B1
  have g1 := h1.below B1
  have LG := LV.below B1
  have BG := belowStep BV BV.size B1
  clear h0 h1 LV BV B1
  have ⟨zz0, a0, b0, c0, f0⟩ := g0
  have ⟨zz1, a1, b1, c1, f1⟩ := g1
  have HX : Hid (_ ∧ _ ∧ _ ∧ _ ∧ _) := ⟨BG.alloc BG.size (bxP iN), g0.alloc (bxP iN), g1.alloc (bxP iN), Tb.new' w1 iN 24 _ rfl, LG.alloc (bxP iN)⟩
  clear BG LG g0 g1
  go_wp2_with fail
  refine callsOf (fun W => Below w.heap.size w W ∧ Tb w.heap.size p W ∧ Tb (w.heap.size + 1) q W ∧ Tb w1.heap.size iN W ∧ Lp W) HX.out ?_
  rintro v1 ⟨BV, h0, h1, h2, LV⟩
  obtain ⟨n1, hn⟩ : ∃ n, w1.heap.size = n := ⟨_, rfl⟩
  rw [hn] at h2 ⊢
  clear HX hn zz0 a0 b0 c0 f0 zz1 a1 b1 c1 f1 w1
  rw [hi] at h2
  clear hi
  refine (C0 _ LV.l).mono ?_
  rintro e w2 ⟨rfl, B2⟩
  have g0 := h0.below B2
  have g1 := h1.below B2
  have g2 := h2.below B2
  have LG := LV.below B2
  have BG := belowStep BV BV.size B2
  clear h0 h1 h2 LV BV B2
  have ⟨zz0, a0, b0, c0, f0⟩ := g0
  have ⟨zz1, a1, b1, c1, f1⟩ := g1
  have ⟨zz2, a2, b2, c2, f2⟩ := g2
  have HX : Hid (_ ∧ _ ∧ _ ∧ _ ∧ _ ∧ _) := ⟨BG.alloc BG.size (bxP o), g0.alloc (bxP o), g1.alloc (bxP o), g2.alloc (bxP o), Tb.new' w2 o 24 _ rfl, LG.alloc (bxP o)⟩
  clear BG LG g0 g1 g2
  go_wp2_with fail
  refine callsOf (fun W => Below w.heap.size w W ∧ Tb w.heap.size p W ∧ Tb (w.heap.size + 1) q W ∧ Tb n1 i W ∧ Tb w2.heap.size o W ∧ Lp W) HX.out ?_
  rintro v2 ⟨BV, h0, h1, h2, h3, LV⟩
  obtain ⟨n2, hn⟩ : ∃ n, w2.heap.size = n := ⟨_, rfl⟩
  rw [hn] at h3 ⊢
  clear HX hn zz0 a0 b0 c0 f0 zz1 a1 b1 c1 f1 zz2 a2 b2 c2 f2 w2
  refine (C1 _ LV).mono ?_
  rintro e w3 ⟨rfl, B3⟩
  have g0 := h0.below B3
  have g1 := h1.below B3
  have g2 := h2.below B3
  have g3 := h3.below B3
  have LG := LV.below B3
  have BG := belowStep BV BV.size B3
  clear h0 h1 h2 h3 LV BV B3
  have ⟨zz0, a0, b0, c0, f0⟩ := g0
  have ⟨zz1, a1, b1, c1, f1⟩ := g1
  have ⟨zz2, a2, b2, c2, f2⟩ := g2
  have ⟨zz3, a3, b3, c3, f3⟩ := g3
  have HX : Hid (_ ∧ _ ∧ _ ∧ _ ∧ _ ∧ _ ∧ _) := ⟨BG.alloc BG.size (bxQ z2), g0.alloc (bxQ z2), g1.alloc (bxQ z2), g2.alloc (bxQ z2), g3.alloc (bxQ z2), Pb.new' w3 z2 27 _ rfl, LG.alloc (bxQ z2)⟩
  clear BG LG g0 g1 g2 g3
  go_wp2_with fail
  refine callsOf (fun W => Below w.heap.size w W ∧ Tb w.heap.size p W ∧ Tb (w.heap.size + 1) q W ∧ Tb n1 i W ∧ Tb n2 o W ∧ Pb w3.heap.size z2 W ∧ Lp W) HX.out ?_
  rintro v3 ⟨BV, h0, h1, h2, h3, h4, LV⟩
  obtain ⟨n3, hn⟩ : ∃ n, w3.heap.size = n := ⟨_, rfl⟩
  rw [hn] at h4 ⊢
  clear HX hn zz0 a0 b0 c0 f0 zz1 a1 b1 c1 f1 zz2 a2 b2 c2 f2 zz3 a3 b3 c3 f3 w3
  refine (C2 _ LV).mono ?_
  rintro e w4 ⟨rfl, B4⟩
  have g0 := h0.below B4
  have g1 := h1.below B4
  have g2 := h2.below B4
  have g3 := h3.below B4
  have g4 := h4.below B4
  have LG := LV.below B4
  have BG := belowStep BV BV.size B4
  clear h0 h1 h2 h3 h4 LV BV B4
  have ⟨zz0, a0, b0, c0, f0⟩ := g0
  have ⟨zz1, a1, b1, c1, f1⟩ := g1
  have ⟨zz2, a2, b2, c2, f2⟩ := g2
  have ⟨zz3, a3, b3, c3, f3⟩ := g3
  have ⟨zz4, a4, b4, f4⟩ := g4
  have HX : Hid (_ ∧ _ ∧ _ ∧ _ ∧ _ ∧ _ ∧ _ ∧ _) := ⟨BG.alloc BG.size (bxQ z2), g0.alloc (bxQ z2), g1.alloc (bxQ z2), g2.alloc (bxQ z2), g3.alloc (bxQ z2), g4.alloc (bxQ z2), Pb.new' w4 z2 27 _ rfl, LG.alloc (bxQ z2)⟩
  clear BG LG g0 g1 g2 g3 g4
  go_wp2_with fail
  refine callsOf (fun W => Below w.heap.size w W ∧ Tb w.heap.size p W ∧ Tb (w.heap.size + 1) q W ∧ Tb n1 i W ∧ Tb n2 o W ∧ Pb n3 z2 W ∧ Pb w4.heap.size z2 W ∧ Lp W) HX.out ?_
  rintro v4 ⟨BV, h0, h1, h2, h3, h4, h5, LV⟩
  obtain ⟨n4, hn⟩ : ∃ n, w4.heap.size = n := ⟨_, rfl⟩
  rw [hn] at h5 ⊢
  clear HX hn zz0 a0 b0 c0 f0 zz1 a1 b1 c1 f1 zz2 a2 b2 c2 f2 zz3 a3 b3 c3 f3 zz4 a4 b4 f4 w4
  refine (C3 _ LV).mono ?_
  rintro e w5 ⟨rfl, B5⟩
  have g0 := h0.below B5
  have g1 := h1.below B5
  have g2 := h2.below B5
  have g3 := h3.below B5
  have g4 := h4.below B5
  have g5 := h5.below B5
  have LG := LV.below B5
  have BG := belowStep BV BV.size B5
  clear h0 h1 h2 h3 h4 h5 LV BV B5
  have ⟨zz0, a0, b0, c0, f0⟩ := g0
  have ⟨zz1, a1, b1, c1, f1⟩ := g1
  have ⟨zz2, a2, b2, c2, f2⟩ := g2
  have ⟨zz3, a3, b3, c3, f3⟩ := g3
  have ⟨zz4, a4, b4, f4⟩ := g4
  have ⟨zz5, a5, b5, f5⟩ := g5
  have HX : Hid (_ ∧ _ ∧ _ ∧ _ ∧ _ ∧ _ ∧ _ ∧ _ ∧ _) := ⟨BG.alloc BG.size (bxQ z2), g0.alloc (bxQ z2), g1.alloc (bxQ z2), g2.alloc (bxQ z2), g3.alloc (bxQ z2), g4.alloc (bxQ z2), g5.alloc (bxQ z2), Pb.new' w5 z2 27 _ rfl, LG.alloc (bxQ z2)⟩
  clear BG LG g0 g1 g2 g3 g4 g5
  go_wp2_with fail
  refine callsOf (fun W => Below w.heap.size w W ∧ Tb w.heap.size p W ∧ Tb (w.heap.size + 1) q W ∧ Tb n1 i W ∧ Tb n2 o W ∧ Pb n3 z2 W ∧ Pb n4 z2 W ∧ Pb w5.heap.size z2 W ∧ Lp W) HX.out ?_
  rintro v5 ⟨BV, h0, h1, h2, h3, h4, h5, h6, LV⟩
  obtain ⟨n5, hn⟩ : ∃ n, w5.heap.size = n := ⟨_, rfl⟩
  rw [hn] at h6 ⊢
  clear HX hn zz0 a0 b0 c0 f0 zz1 a1 b1 c1 f1 zz2 a2 b2 c2 f2 zz3 a3 b3 c3 f3 zz4 a4 b4 f4 zz5 a5 b5 f5 w5
  refine (C4 _ LV).mono ?_
  rintro e w6 ⟨rfl, B6⟩
  have g0 := h0.below B6
  have g1 := h1.below B6
  have g2 := h2.below B6
  have g3 := h3.below B6
  have g4 := h4.below B6
  have g5 := h5.below B6
  have g6 := h6.below B6
  have LG := LV.below B6
  have BG := belowStep BV BV.size B6
  clear h0 h1 h2 h3 h4 h5 h6 LV BV B6
  have ⟨zz0, a0, b0, c0, f0⟩ := g0
  have ⟨zz1, a1, b1, c1, f1⟩ := g1
  have ⟨zz2, a2, b2, c2, f2⟩ := g2
  have ⟨zz3, a3, b3, c3, f3⟩ := g3
  have ⟨zz4, a4, b4, f4⟩ := g4
  have ⟨zz5, a5, b5, f5⟩ := g5
  have ⟨zz6, a6, b6, f6⟩ := g6
  have HX : Hid (_ ∧ _ ∧ _ ∧ _ ∧ _ ∧ _ ∧ _ ∧ _ ∧ _) := ⟨BG, g0, g1, g2, g3, g4, g5, g6, LG⟩
  clear BG LG g0 g1 g2 g3 g4 g5 g6
  have HQ : Hid (_ ∧ _) := ⟨HX.out.1, HX.out.1⟩
  clear HX
  go_wp2_with fail
  go_ret
  exact ⟨by simp, HQ.out.1.alloc HQ.out.1.size _⟩
set_option maxRecDepth 20000 in
set_option maxHeartbeats 8000000 in
theorem pinf2 (p q : Pt) (hp : UT p) (hq : UT q) (ho : onN p = true) (hy : onN q = false) (w : World) (hL : Lp w) :
    Calls Tryd.prog 7 #[vT p, vT q] w fun e w' => e = .returned (.bool true) ∧ Below w.heap.size w w' := by
  have C4 := pLine_any p p iN hp hp ut_inf
  rw [ln_bad (lo_last p p)] at C4
  have C0 := neg_any p hp
  unfold negV at C0
  rw [ho, if_pos rfl] at C0
  have on' := on_ng ho
  have un := wl_u (wl_on on')
  have C1 := pLine_any iN p q ut_inf hp hq
  have C2 := pLine_any p iN q hp ut_inf hq
  have C3 := pLine_any p (ngN p) q hp un hq
  have C5 := on_any q hq
  rw [hy] at C5
  rw [ln_bad (by unfold lnO; rw [hy]; simp)] at C1
  rw [ln_bad (by unfold lnO; rw [hy]; simp)] at C2
  rw [ln_bad (by unfold lnO; rw [hy]; simp)] at C3
  obtain ⟨n, hn⟩ : ∃ n, ngN p = n := ⟨_, rfl⟩
  have C0 : ∀ W, Li W → Calls Tryd.prog 15 #[vT p] W fun e w' => e = .returned (.tuple #[vT (ngN p), .int .i64 0]) ∧ Below W.heap.size W w' := C0
  rw [hn] at C0 C3
  clear hn ho hp hq on' un hy
  obtain ⟨i, hi⟩ : ∃ i, iN = i := ⟨_, rfl⟩
  rw [hi] at C1 C2 C4
  go_enter Tryd.func7, Tryd.ntmps7
  go_wp2_with fail
  refine callsOf (fun W => Below w.heap.size w W ∧ Tb w.heap.size p W ∧ Tb (w.heap.size + 1) q W ∧ Lp W) ⟨by go_grown, (Tb.new' w p 24 _ rfl).alloc _, Tb.new' _ q 24 _ (by simp), ((hL).alloc _).alloc _⟩ ?_
  rintro w0 ⟨BV, h0, h1, LV⟩
  refine (shown11_any _ LV).mono ?_
  rintro e w1 ⟨rfl, B1⟩
  have g0 := h0.below B1
  have g1 := h1.below B1
  have LG := LV.below B1
  have BG := belowStep BV BV.size B1
  clear h0 h1 LV BV B1
  have ⟨zz0, a0, b0, c0, f0⟩ := g0
  have ⟨zz1, a1, b1, c1, f1⟩ := g1
  have HX : Hid (_ ∧ _ ∧ _ ∧ _ ∧ _) := ⟨BG.alloc BG.size (bxP iN), g0.alloc (bxP iN), g1.alloc (bxP iN), Tb.new' w1 iN 24 _ rfl, LG.alloc (bxP iN)⟩
  clear BG LG g0 g1
  go_wp2_with fail
  refine callsOf (fun W => Below w.heap.size w W ∧ Tb w.heap.size p W ∧ Tb (w.heap.size + 1) q W ∧ Tb w1.heap.size iN W ∧ Lp W) HX.out ?_
  rintro v1 ⟨BV, h0, h1, h2, LV⟩
  obtain ⟨n1, hn⟩ : ∃ n, w1.heap.size = n := ⟨_, rfl⟩
  rw [hn] at h2 ⊢
  clear HX hn zz0 a0 b0 c0 f0 zz1 a1 b1 c1 f1 w1
  rw [hi] at h2
  clear hi
  refine (C0 _ LV.l).mono ?_
  rintro e w2 ⟨rfl, B2⟩
  have g0 := h0.below B2
  have g1 := h1.below B2
  have g2 := h2.below B2
  have LG := LV.below B2
  have BG := belowStep BV BV.size B2
  clear h0 h1 h2 LV BV B2
  have ⟨zz0, a0, b0, c0, f0⟩ := g0
  have ⟨zz1, a1, b1, c1, f1⟩ := g1
  have ⟨zz2, a2, b2, c2, f2⟩ := g2
  have HX : Hid (_ ∧ _ ∧ _ ∧ _ ∧ _ ∧ _) := ⟨BG.alloc BG.size (bxP n), g0.alloc (bxP n), g1.alloc (bxP n), g2.alloc (bxP n), Tb.new' w2 n 24 _ rfl, LG.alloc (bxP n)⟩
  clear BG LG g0 g1 g2
  go_wp2_with fail
  refine callsOf (fun W => Below w.heap.size w W ∧ Tb w.heap.size p W ∧ Tb (w.heap.size + 1) q W ∧ Tb n1 i W ∧ Tb w2.heap.size n W ∧ Lp W) HX.out ?_
  rintro v2 ⟨BV, h0, h1, h2, h3, LV⟩
  obtain ⟨n2, hn⟩ : ∃ n, w2.heap.size = n := ⟨_, rfl⟩
  rw [hn] at h3 ⊢
  clear HX hn zz0 a0 b0 c0 f0 zz1 a1 b1 c1 f1 zz2 a2 b2 c2 f2 w2
  refine (C1 _ LV).mono ?_
  rintro e w3 ⟨rfl, B3⟩
  have g0 := h0.below B3
  have g1 := h1.below B3
  have g2 := h2.below B3
  have g3 := h3.below B3
  have LG := LV.below B3
  have BG := belowStep BV BV.size B3
  clear h0 h1 h2 h3 LV BV B3
  have ⟨zz0, a0, b0, c0, f0⟩ := g0
  have ⟨zz1, a1, b1, c1, f1⟩ := g1
  have ⟨zz2, a2, b2, c2, f2⟩ := g2
  have ⟨zz3, a3, b3, c3, f3⟩ := g3
  have HX : Hid (_ ∧ _ ∧ _ ∧ _ ∧ _ ∧ _ ∧ _) := ⟨BG.alloc BG.size (bxQ z2), g0.alloc (bxQ z2), g1.alloc (bxQ z2), g2.alloc (bxQ z2), g3.alloc (bxQ z2), Pb.new' w3 z2 27 _ rfl, LG.alloc (bxQ z2)⟩
  clear BG LG g0 g1 g2 g3
  go_wp2_with fail
  refine callsOf (fun W => Below w.heap.size w W ∧ Tb w.heap.size p W ∧ Tb (w.heap.size + 1) q W ∧ Tb n1 i W ∧ Tb n2 n W ∧ Pb w3.heap.size z2 W ∧ Lp W) HX.out ?_
  rintro v3 ⟨BV, h0, h1, h2, h3, h4, LV⟩
  obtain ⟨n3, hn⟩ : ∃ n, w3.heap.size = n := ⟨_, rfl⟩
  rw [hn] at h4 ⊢
  clear HX hn zz0 a0 b0 c0 f0 zz1 a1 b1 c1 f1 zz2 a2 b2 c2 f2 zz3 a3 b3 c3 f3 w3
  refine (C2 _ LV).mono ?_
  rintro e w4 ⟨rfl, B4⟩
  have g0 := h0.below B4
  have g1 := h1.below B4
  have g2 := h2.below B4
  have g3 := h3.below B4
  have g4 := h4.below B4
  have LG := LV.below B4
  have BG := belowStep BV BV.size B4
  clear h0 h1 h2 h3 h4 LV BV B4
  have ⟨zz0, a0, b0, c0, f0⟩ := g0
  have ⟨zz1, a1, b1, c1, f1⟩ := g1
  have ⟨zz2, a2, b2, c2, f2⟩ := g2
  have ⟨zz3, a3, b3, c3, f3⟩ := g3
  have ⟨zz4, a4, b4, f4⟩ := g4
  have HX : Hid (_ ∧ _ ∧ _ ∧ _ ∧ _ ∧ _ ∧ _ ∧ _) := ⟨BG.alloc BG.size (bxQ z2), g0.alloc (bxQ z2), g1.alloc (bxQ z2), g2.alloc (bxQ z2), g3.alloc (bxQ z2), g4.alloc (bxQ z2), Pb.new' w4 z2 27 _ rfl, LG.alloc (bxQ z2)⟩
  clear BG LG g0 g1 g2 g3 g4
  go_wp2_with fail
  refine callsOf (fun W => Below w.heap.size w W ∧ Tb w.heap.size p W ∧ Tb (w.heap.size + 1) q W ∧ Tb n1 i W ∧ Tb n2 n W ∧ Pb n3 z2 W ∧ Pb w4.heap.size z2 W ∧ Lp W) HX.out ?_
  rintro v4 ⟨BV, h0, h1, h2, h3, h4, h5, LV⟩
  obtain ⟨n4, hn⟩ : ∃ n, w4.heap.size = n := ⟨_, rfl⟩
  rw [hn] at h5 ⊢
  clear HX hn zz0 a0 b0 c0 f0 zz1 a1 b1 c1 f1 zz2 a2 b2 c2 f2 zz3 a3 b3 c3 f3 zz4 a4 b4 f4 w4
  refine (C3 _ LV).mono ?_
  rintro e w5 ⟨rfl, B5⟩
  have g0 := h0.below B5
  have g1 := h1.below B5
  have g2 := h2.below B5
  have g3 := h3.below B5
  have g4 := h4.below B5
  have g5 := h5.below B5
  have LG := LV.below B5
  have BG := belowStep BV BV.size B5
  clear h0 h1 h2 h3 h4 h5 LV BV B5
  have ⟨zz0, a0, b0, c0, f0⟩ := g0
  have ⟨zz1, a1, b1, c1, f1⟩ := g1
  have ⟨zz2, a2, b2, c2, f2⟩ := g2
  have ⟨zz3, a3, b3, c3, f3⟩ := g3
  have ⟨zz4, a4, b4, f4⟩ := g4
  have ⟨zz5, a5, b5, f5⟩ := g5
  have HX : Hid (_ ∧ _ ∧ _ ∧ _ ∧ _ ∧ _ ∧ _ ∧ _ ∧ _) := ⟨BG.alloc BG.size (bxQ z2), g0.alloc (bxQ z2), g1.alloc (bxQ z2), g2.alloc (bxQ z2), g3.alloc (bxQ z2), g4.alloc (bxQ z2), g5.alloc (bxQ z2), Pb.new' w5 z2 27 _ rfl, LG.alloc (bxQ z2)⟩
  clear BG LG g0 g1 g2 g3 g4 g5
  go_wp2_with fail
  refine callsOf (fun W => Below w.heap.size w W ∧ Tb w.heap.size p W ∧ Tb (w.heap.size + 1) q W ∧ Tb n1 i W ∧ Tb n2 n W ∧ Pb n3 z2 W ∧ Pb n4 z2 W ∧ Pb w5.heap.size z2 W ∧ Lp W) HX.out ?_
  rintro v5 ⟨BV, h0, h1, h2, h3, h4, h5, h6, LV⟩
  obtain ⟨n5, hn⟩ : ∃ n, w5.heap.size = n := ⟨_, rfl⟩
  rw [hn] at h6 ⊢
  clear HX hn zz0 a0 b0 c0 f0 zz1 a1 b1 c1 f1 zz2 a2 b2 c2 f2 zz3 a3 b3 c3 f3 zz4 a4 b4 f4 zz5 a5 b5 f5 w5
  refine (C4 _ LV).mono ?_
  rintro e w6 ⟨rfl, B6⟩
  have g0 := h0.below B6
  have g1 := h1.below B6
  have g2 := h2.below B6
  have g3 := h3.below B6
  have g4 := h4.below B6
  have g5 := h5.below B6
  have g6 := h6.below B6
  have LG := LV.below B6
  have BG := belowStep BV BV.size B6
  clear h0 h1 h2 h3 h4 h5 h6 LV BV B6
  have ⟨zz0, a0, b0, c0, f0⟩ := g0
  have ⟨zz1, a1, b1, c1, f1⟩ := g1
  have ⟨zz2, a2, b2, c2, f2⟩ := g2
  have ⟨zz3, a3, b3, c3, f3⟩ := g3
  have ⟨zz4, a4, b4, f4⟩ := g4
  have ⟨zz5, a5, b5, f5⟩ := g5
  have ⟨zz6, a6, b6, f6⟩ := g6
  have HX : Hid (_ ∧ _ ∧ _ ∧ _ ∧ _ ∧ _ ∧ _ ∧ _ ∧ _ ∧ _) := ⟨BG.alloc BG.size (bxQ z2), g0.alloc (bxQ z2), g1.alloc (bxQ z2), g2.alloc (bxQ z2), g3.alloc (bxQ z2), g4.alloc (bxQ z2), g5.alloc (bxQ z2), g6.alloc (bxQ z2), Pb.new' w6 z2 27 _ rfl, LG.alloc (bxQ z2)⟩
  clear BG LG g0 g1 g2 g3 g4 g5 g6
  go_wp2_with fail
  refine callsOf (fun W => Below w.heap.size w W ∧ Tb w.heap.size p W ∧ Tb (w.heap.size + 1) q W ∧ Tb n1 i W ∧ Tb n2 n W ∧ Pb n3 z2 W ∧ Pb n4 z2 W ∧ Pb n5 z2 W ∧ Pb w6.heap.size z2 W ∧ Lp W) HX.out ?_
  rintro v6 ⟨BV, h0, h1, h2, h3, h4, h5, h6, h7, LV⟩
  obtain ⟨n6, hn⟩ : ∃ n, w6.heap.size = n := ⟨_, rfl⟩
  rw [hn] at h7 ⊢
  clear HX hn zz0 a0 b0 c0 f0 zz1 a1 b1 c1 f1 zz2 a2 b2 c2 f2 zz3 a3 b3 c3 f3 zz4 a4 b4 f4 zz5 a5 b5 f5 zz6 a6 b6 f6 w6
  refine (C5 _ LV.l).mono ?_
  rintro e w7 ⟨rfl, B7⟩
  have g0 := h0.below B7
  have g1 := h1.below B7
  have g2 := h2.below B7
  have g3 := h3.below B7
  have g4 := h4.below B7
  have g5 := h5.below B7
  have g6 := h6.below B7
  have g7 := h7.below B7
  have LG := LV.below B7
  have BG := belowStep BV BV.size B7
  clear h0 h1 h2 h3 h4 h5 h6 h7 LV BV B7
  have ⟨zz0, a0, b0, c0, f0⟩ := g0
  have ⟨zz1, a1, b1, c1, f1⟩ := g1
  have ⟨zz2, a2, b2, c2, f2⟩ := g2
  have ⟨zz3, a3, b3, c3, f3⟩ := g3
  have ⟨zz4, a4, b4, f4⟩ := g4
  have ⟨zz5, a5, b5, f5⟩ := g5
  have ⟨zz6, a6, b6, f6⟩ := g6
  have ⟨zz7, a7, b7, f7⟩ := g7
  have HX : Hid (_ ∧ _ ∧ _ ∧ _ ∧ _ ∧ _ ∧ _ ∧ _ ∧ _ ∧ _) := ⟨BG, g0, g1, g2, g3, g4, g5, g6, g7, LG⟩
  clear BG LG g0 g1 g2 g3 g4 g5 g6 g7
  obtain ⟨BV, _⟩ := HX.out
  go_wp2_with fail
  go_ret
  exact ⟨by simp, BV⟩
set_option maxRecDepth 20000 in
set_option maxHeartbeats 8000000 in
theorem pinf3 (p q : Pt) (hp : UT p) (hq : UT q) (ho : onN p = true) (hy : onN q = true) (hz : q = iN) (w : World) (hL : Lp w) :
    Calls Tryd.prog 7 #[vT p, vT q] w fun e w' => e = .returned (.bool true) ∧ Below w.heap.size w w' := by
  have C4 := pLine_any p p iN hp hp ut_inf
  rw [ln_bad (lo_last p p)] at C4
  have C0 := neg_any p hp
  unfold negV at C0
  rw [ho, if_pos rfl] at C0
  have on' := on_ng ho
  have un := wl_u (wl_on on')
  have C1 := pLine_any iN p q ut_inf hp hq
  have C2 := pLine_any p iN q hp ut_inf hq
  have C3 := pLine_any p (ngN p) q hp un hq
  have C5 := on_any q hq
  rw [hy] at C5
  rw [ln_bad (by rw [hz]; exact lo_last _ _)] at C1
  rw [ln_bad (by rw [hz]; exact lo_last _ _)] at C2
  rw [ln_bad (by rw [hz]; exact lo_last _ _)] at C3
  have HI : Hid (q.I = true) := by rw [hz]; rfl
  clear hz
  obtain ⟨n, hn⟩ : ∃ n, ngN p = n := ⟨_, rfl⟩
  have C0 : ∀ W, Li W → Calls Tryd.prog 15 #[vT p] W fun e w' => e = .returned (.tuple #[vT (ngN p), .int .i64 0]) ∧ Below W.heap.size W w' := C0
  rw [hn] at C0 C3
  clear hn ho hp hq on' un hy
  obtain ⟨i, hi⟩ : ∃ i, iN = i := ⟨_, rfl⟩
  rw [hi] at C1 C2 C4
  go_enter Tryd.func7, Tryd.ntmps7
  go_wp2_with fail
  refine callsOf (fun W => Below w.heap.size w W ∧ Tb w.heap.size p W ∧ Tb (w.heap.size + 1) q W ∧ Lp W) ⟨by go_grown, (Tb.new' w p 24 _ rfl).alloc _, Tb.new' _ q 24 _ (by simp), ((hL).alloc _).alloc _⟩ ?_
  rintro w0 ⟨BV, h0, h1, LV⟩
  refine (shown11_any _ LV).mono ?_
  rintro e w1 ⟨rfl, B1⟩
  have g0 := h0.below B1
  have g1 := h1.below B1
  have LG := LV.below B1
  have BG := belowStep BV BV.size B1
  clear h0 h1 LV BV B1
  have ⟨zz0, a0, b0, c0, f0⟩ := g0
  have ⟨zz1, a1, b1, c1, f1⟩ := g1
  have HX : Hid (_ ∧ _ ∧ _ ∧ _ ∧ _) := ⟨BG.alloc BG.size (bxP iN), g0.alloc (bxP iN), g1.alloc (bxP iN), Tb.new' w1 iN 24 _ rfl, LG.alloc (bxP iN)⟩
  clear BG LG g0 g1
  go_wp2_with fail
  refine callsOf (fun W => Below w.heap.size w W ∧ Tb w.heap.size p W ∧ Tb (w.heap.size + 1) q W ∧ Tb w1.heap.size iN W ∧ Lp W) HX.out ?_
  rintro v1 ⟨BV, h0, h1, h2, LV⟩
  obtain ⟨n1, hn⟩ : ∃ n, w1.heap.size = n := ⟨_, rfl⟩
  rw [hn] at h2 ⊢
  clear HX hn zz0 a0 b0 c0 f0 zz1 a1 b1 c1 f1 w1
  rw [hi] at h2
  clear hi
  refine (C0 _ LV.l).mono ?_
  rintro e w2 ⟨rfl, B2⟩
  have g0 := h0.below B2
  have g1 := h1.below B2
  have g2 := h2.below B2
  have LG := LV.below B2
  have BG := belowStep BV BV.size B2
  clear h0 h1 h2 LV BV B2
  have ⟨zz0, a0, b0, c0, f0⟩ := g0
  have ⟨zz1, a1, b1, c1, f1⟩ := g1
  have ⟨zz2, a2, b2, c2, f2⟩ := g2
  have HX : Hid (_ ∧ _ ∧ _ ∧ _ ∧ _ ∧ _) := ⟨BG.alloc BG.size (bxP n), g0.alloc (bxP n), g1.alloc (bxP n), g2.alloc (bxP n), Tb.new' w2 n 24 _ rfl, LG.alloc (bxP n)⟩
  clear BG LG g0 g1 g2
  go_wp2_with fail
  refine callsOf (fun W => Below w.heap.size w W ∧ Tb w.heap.size p W ∧ Tb (w.heap.size + 1) q W ∧ Tb n1 i W ∧ Tb w2.heap.size n W ∧ Lp W) HX.out ?_
  rintro v2 ⟨BV, h0, h1, h2, h3, LV⟩
  obtain ⟨n2, hn⟩ : ∃ n, w2.heap.size = n := ⟨_, rfl⟩
  rw [hn] at h3 ⊢
  clear HX hn zz0 a0 b0 c0 f0 zz1 a1 b1 c1 f1 zz2 a2 b2 c2 f2 w2
  refine (C1 _ LV).mono ?_
  rintro e w3 ⟨rfl, B3⟩
  have g0 := h0.below B3
  have g1 := h1.below B3
  have g2 := h2.below B3
  have g3 := h3.below B3
  have LG := LV.below B3
  have BG := belowStep BV BV.size B3
  clear h0 h1 h2 h3 LV BV B3
  have ⟨zz0, a0, b0, c0, f0⟩ := g0
  have ⟨zz1, a1, b1, c1, f1⟩ := g1
  have ⟨zz2, a2, b2, c2, f2⟩ := g2
  have ⟨zz3, a3, b3, c3, f3⟩ := g3
  have HX : Hid (_ ∧ _ ∧ _ ∧ _ ∧ _ ∧ _ ∧ _) := ⟨BG.alloc BG.size (bxQ z2), g0.alloc (bxQ z2), g1.alloc (bxQ z2), g2.alloc (bxQ z2), g3.alloc (bxQ z2), Pb.new' w3 z2 27 _ rfl, LG.alloc (bxQ z2)⟩
  clear BG LG g0 g1 g2 g3
  go_wp2_with fail
  refine callsOf (fun W => Below w.heap.size w W ∧ Tb w.heap.size p W ∧ Tb (w.heap.size + 1) q W ∧ Tb n1 i W ∧ Tb n2 n W ∧ Pb w3.heap.size z2 W ∧ Lp W) HX.out ?_
  rintro v3 ⟨BV, h0, h1, h2, h3, h4, LV⟩
  obtain ⟨n3, hn⟩ : ∃ n, w3.heap.size = n := ⟨_, rfl⟩
  rw [hn] at h4 ⊢
  clear HX hn zz0 a0 b0 c0 f0 zz1 a1 b1 c1 f1 zz2 a2 b2 c2 f2 zz3 a3 b3 c3 f3 w3
  refine (C2 _ LV).mono ?_
  rintro e w4 ⟨rfl, B4⟩
  have g0 := h0.below B4
  have g1 := h1.below B4
  have g2 := h2.below B4
  have g3 := h3.below B4
  have g4 := h4.below B4
  have LG := LV.below B4
  have BG := belowStep BV BV.size B4
  clear h0 h1 h2 h3 h4 LV BV B4
  have ⟨zz0, a0, b0, c0, f0⟩ := g0
  have ⟨zz1, a1, b1, c1, f1⟩ := g1
  have ⟨zz2, a2, b2, c2, f2⟩ := g2
  have ⟨zz3, a3, b3, c3, f3⟩ := g3
  have ⟨zz4, a4, b4, f4⟩ := g4
  have HX : Hid (_ ∧ _ ∧ _ ∧ _ ∧ _ ∧ _ ∧ _ ∧ _) := ⟨BG.alloc BG.size (bxQ z2), g0.alloc (bxQ z2), g1.alloc (bxQ z2), g2.alloc (bxQ z2), g3.alloc (bxQ z2), g4.alloc (bxQ z2), Pb.new' w4 z2 27 _ rfl, LG.alloc (bxQ z2)⟩
  clear BG LG g0 g1 g2 g3 g4
  go_wp2_with fail
  refine callsOf (fun W => Below w.heap.size w W ∧ Tb w.heap.size p W ∧ Tb (w.heap.size + 1) q W ∧ Tb n1 i W ∧ Tb n2 n W ∧ Pb n3 z2 W ∧ Pb w4.heap.size z2 W ∧ Lp W) HX.out ?_
  rintro v4 ⟨BV, h0, h1, h2, h3, h4, h5, LV⟩
  obtain ⟨n4, hn⟩ : ∃ n, w4.heap.size = n := ⟨_, rfl⟩
  rw [hn] at h5 ⊢
  clear HX hn zz0 a0 b0 c0 f0 zz1 a1 b1 c1 f1 zz2 a2 b2 c2 f2 zz3 a3 b3 c3 f3 zz4 a4 b4 f4 w4
  refine (C3 _ LV).mono ?_
  rintro e w5 ⟨rfl, B5⟩
  have g0 := h0.below B5
  have g1 := h1.below B5
  have g2 := h2.below B5
  have g3 := h3.below B5
  have g4 := h4.below B5
  have g5 := h5.below B5
  have LG := LV.below B5
  have BG := belowStep BV BV.size B5
  clear h0 h1 h2 h3 h4 h5 LV BV B5
  have ⟨zz0, a0, b0, c0, f0⟩ := g0
  have ⟨zz1, a1, b1, c1, f1⟩ := g1
  have ⟨zz2, a2, b2, c2, f2⟩ := g2
  have ⟨zz3, a3, b3, c3, f3⟩ := g3
  have ⟨zz4, a4, b4, f4⟩ := g4
  have ⟨zz5, a5, b5, f5⟩ := g5
  have HX : Hid (_ ∧ _ ∧ _ ∧ _ ∧ _ ∧ _ ∧ _ ∧ _ ∧ _) := ⟨BG.alloc BG.size (bxQ z2), g0.alloc (bxQ z2), g1.alloc (bxQ z2), g2.alloc (bxQ z2), g3.alloc (bxQ z2), g4.alloc (bxQ z2), g5.alloc (bxQ z2), Pb.new' w5 z2 27 _ rfl, LG.alloc (bxQ z2)⟩
  clear BG LG g0 g1 g2 g3 g4 g5
  go_wp2_with fail
  refine callsOf (fun W => Below w.heap.size w W ∧ Tb w.heap.size p W ∧ Tb (w.heap.size + 1) q W ∧ Tb n1 i W ∧ Tb n2 n W ∧ Pb n3 z2 W ∧ Pb n4 z2 W ∧ Pb w5.heap.size z2 W ∧ Lp W) HX.out ?_
  rintro v5 ⟨BV, h0, h1, h2, h3, h4, h5, h6, LV⟩
  obtain ⟨n5, hn⟩ : ∃ n, w5.heap.size = n := ⟨_, rfl⟩
  rw [hn] at h6 ⊢
  clear HX hn zz0 a0 b0 c0 f0 zz1 a1 b1 c1 f1 zz2 a2 b2 c2 f2 zz3 a3 b3 c3 f3 zz4 a4 b4 f4 zz5 a5 b5 f5 w5
  refine (C4 _ LV).mono ?_
  rintro e w6 ⟨rfl, B6⟩
  have g0 := h0.below B6
  have g1 := h1.below B6
  have g2 := h2.below B6
  have g3 := h3.below B6
  have g4 := h4.below B6
  have g5 := h5.below B6
  have g6 := h6.below B6
  have LG := LV.below B6
  have BG := belowStep BV BV.size B6
  clear h0 h1 h2 h3 h4 h5 h6 LV BV B6
  have ⟨zz0, a0, b0, c0, f0⟩ := g0
  have ⟨zz1, a1, b1, c1, f1⟩ := g1
  have ⟨zz2, a2, b2, c2, f2⟩ := g2
  have ⟨zz3, a3, b3, c3, f3⟩ := g3
  have ⟨zz4, a4, b4, f4⟩ := g4
  have ⟨zz5, a5, b5, f5⟩ := g5
  have ⟨zz6, a6, b6, f6⟩ := g6
  have HX : Hid (_ ∧ _ ∧ _ ∧ _ ∧ _ ∧ _ ∧ _ ∧ _ ∧ _ ∧ _) := ⟨BG.alloc BG.size (bxQ z2), g0.alloc (bxQ z2), g1.alloc (bxQ z2), g2.alloc (bxQ z2), g3.alloc (bxQ z2), g4.alloc (bxQ z2), g5.alloc (bxQ z2), g6.alloc (bxQ z2), Pb.new' w6 z2 27 _ rfl, LG.alloc (bxQ z2)⟩
  clear BG LG g0 g1 g2 g3 g4 g5 g6
  go_wp2_with fail
  refine callsOf (fun W => Below w.heap.size w W ∧ Tb w.heap.size p W ∧ Tb (w.heap.size + 1) q W ∧ Tb n1 i W ∧ Tb n2 n W ∧ Pb n3 z2 W ∧ Pb n4 z2 W ∧ Pb n5 z2 W ∧ Pb w6.heap.size z2 W ∧ Lp W) HX.out ?_
  rintro v6 ⟨BV, h0, h1, h2, h3, h4, h5, h6, h7, LV⟩
  obtain ⟨n6, hn⟩ : ∃ n, w6.heap.size = n := ⟨_, rfl⟩
  rw [hn] at h7 ⊢
  clear HX hn zz0 a0 b0 c0 f0 zz1 a1 b1 c1 f1 zz2 a2 b2 c2 f2 zz3 a3 b3 c3 f3 zz4 a4 b4 f4 zz5 a5 b5 f5 zz6 a6 b6 f6 w6
  refine (C5 _ LV.l).mono ?_
  rintro e w7 ⟨rfl, B7⟩
  have g0 := h0.below B7
  have g1 := h1.below B7
  have g2 := h2.below B7
  have g3 := h3.below B7
  have g4 := h4.below B7
  have g5 := h5.below B7
  have g6 := h6.below B7
  have g7 := h7.below B7
  have LG := LV.below B7
  have BG := belowStep BV BV.size B7
  clear h0 h1 h2 h3 h4 h5 h6 h7 LV BV B7
  have ⟨zz0, a0, b0, c0, f0⟩ := g0
  have ⟨zz1, a1, b1, c1, f1⟩ := g1
  have ⟨zz2, a2, b2, c2, f2⟩ := g2
  have ⟨zz3, a3, b3, c3, f3⟩ := g3
  have ⟨zz4, a4, b4, f4⟩ := g4
  have ⟨zz5, a5, b5, f5⟩ := g5
  have ⟨zz6, a6, b6, f6⟩ := g6
  have ⟨zz7, a7, b7, f7⟩ := g7
  have HX : Hid (_ ∧ _ ∧ _ ∧ _ ∧ _ ∧ _ ∧ _ ∧ _ ∧ _ ∧ _) := ⟨BG, g0, g1, g2, g3, g4, g5, g6, g7, LG⟩
  clear BG LG g0 g1 g2 g3 g4 g5 g6 g7
  have hI := HI.out
  obtain ⟨BV, _⟩ := HX.out
  go_wp2_with fail
  go_ret
  exact ⟨by simp, BV⟩
set_option maxRecDepth 20000 in
set_option maxHeartbeats 8000000 in
theorem pinf4 (p q : Pt) (hp : UT p) (hq : UT q) (ho : onN p = true) (hy : onN q = true) (hz : ¬ q = iN) (w : World) (hL : Lp w) :
    Calls Tryd.prog 7 #[vT p, vT q] w fun e w' => e = .returned (.bool true) ∧ Below w.heap.size w w' := by
  have C4 := pLine_any p p iN hp hp ut_inf
  rw [ln_bad (lo_last p p)] at C4
  have C0 := neg_any p hp
  unfold negV at C0
  rw [ho, if_pos rfl] at C0
  have on' := on_ng ho
  have un := wl_u (wl_on on')
  have C1 := pLine_any iN p q ut_inf hp hq
  have C2 := pLine_any p iN q hp ut_inf hq
  have C3 := pLine_any p (ngN p) q hp un hq
  have C5 := on_any q hq
  rw [hy] at C5
  have e0 : (!decide (q = iN)) = true := by rw [decide_eq_false hz]; rfl
  rw [ln_one (by unfold lnO; rw [hy, ho, on_inf, e0]; rfl) (la_inf1 p q)] at C1
  rw [ln_one (by unfold lnO; rw [hy, ho, on_inf, e0]; rfl) (la_inf2 p q)] at C2
  rw [ln_one (by unfold lnO; rw [hy, ho, on', e0]; rfl) (la_neg p q)] at C3
  have HI : Hid (q.I = false) := wl_i (wl_on hy) hz
  clear hz e0
  have E1 := eqlP o2 o2
  rw [eqP_iff.2 rfl] at E1
  have E2 : ∀ W : World, (binOp .eql 27 (vP o2) (.agg #[.int .u64 1, .int .u64 0])).run Tryd.prog W = .ok (.bool true) W := E1
  obtain ⟨r, hr⟩ : ∃ r, o2 = r := ⟨_, rfl⟩
  rw [hr] at C1 C2 C3 E1 E2
  clear hr
  obtain ⟨n, hn⟩ : ∃ n, ngN p = n := ⟨_, rfl⟩
  have C0 : ∀ W, Li W → Calls Tryd.prog 15 #[vT p] W fun e w' => e = .returned (.tuple #[vT (ngN p), .int .i64 0]) ∧ Below W.heap.size W w' := C0
  rw [hn] at C0 C3
  clear hn ho hp hq on' un hy
  obtain ⟨i, hi⟩ : ∃ i, iN = i := ⟨_, rfl⟩
  rw [hi] at C1 C2 C4
  go_enter Tryd.func7, Tryd.ntmps7
  go_wp2_with fail
  refine callsOf (fun W => Below w.heap.size w W ∧ Tb w.heap.size p W ∧ Tb (w.heap.size + 1) q W ∧ Lp W) ⟨by go_grown, (Tb.new' w p 24 _ rfl).alloc _, Tb.new' _ q 24 _ (by simp), ((hL).alloc _).alloc _⟩ ?_
  rintro w0 ⟨BV, h0, h1, LV⟩
  refine (shown11_any _ LV).mono ?_
  rintro e w1 ⟨rfl, B1⟩
  have g0 := h0.below B1
  have g1 := h1.below B1
  have LG := LV.below B1
  have BG := belowStep BV BV.size B1
  clear h0 h1 LV BV B1
  have ⟨zz0, a0, b0, c0, f0⟩ := g0
  have ⟨zz1, a1, b1, c1, f1⟩ := g1
  have HX : Hid (_ ∧ _ ∧ _ ∧ _ ∧ _) := ⟨BG.alloc BG.size (bxP iN), g0.alloc (bxP iN), g1.alloc (bxP iN), Tb.new' w1 iN 24 _ rfl, LG.alloc (bxP iN)⟩
  clear BG LG g0 g1
  go_wp2_with fail
  refine callsOf (fun W => Below w.heap.size w W ∧ Tb w.heap.size p W ∧ Tb (w.heap.size + 1) q W ∧ Tb w1.heap.size iN W ∧ Lp W) HX.out ?_
  rintro v1 ⟨BV, h0, h1, h2, LV⟩
  obtain ⟨n1, hn⟩ : ∃ n, w1.heap.size = n := ⟨_, rfl⟩
  rw [hn] at h2 ⊢
  clear HX hn zz0 a0 b0 c0 f0 zz1 a1 b1 c1 f1 w1
  rw [hi] at h2
  clear hi
  refine (C0 _ LV.l).mono ?_
  rintro e w2 ⟨rfl, B2⟩
  have g0 := h0.below B2
  have g1 := h1.below B2
  have g2 := h2.below B2
  have LG := LV.below B2
  have BG := belowStep BV BV.size B2
  clear h0 h1 h2 LV BV B2
  have ⟨zz0, a0, b0, c0, f0⟩ := g0
  have ⟨zz1, a1, b1, c1, f1⟩ := g1
  have ⟨zz2, a2, b2, c2, f2⟩ := g2
  have HX : Hid (_ ∧ _ ∧ _ ∧ _ ∧ _ ∧ _) := ⟨BG.alloc BG.size (bxP n), g0.alloc (bxP n), g1.alloc (bxP n), g2.alloc (bxP n), Tb.new' w2 n 24 _ rfl, LG.alloc (bxP n)⟩
  clear BG LG g0 g1 g2
  go_wp2_with fail
  refine callsOf (fun W => Below w.heap.size w W ∧ Tb w.heap.size p W ∧ Tb (w.heap.size + 1) q W ∧ Tb n1 i W ∧ Tb w2.heap.size n W ∧ Lp W) HX.out ?_
  rintro v2 ⟨BV, h0, h1, h2, h3, LV⟩
  obtain ⟨n2, hn⟩ : ∃ n, w2.heap.size = n := ⟨_, rfl⟩
  rw [hn] at h3 ⊢
  clear HX hn zz0 a0 b0 c0 f0 zz1 a1 b1 c1 f1 zz2 a2 b2 c2 f2 w2
  refine (C1 _ LV).mono ?_
  rintro e w3 ⟨rfl, B3⟩
  have g0 := h0.below B3
  have g1 := h1.below B3
  have g2 := h2.below B3
  have g3 := h3.below B3
  have LG := LV.below B3
  have BG := belowStep BV BV.size B3
  clear h0 h1 h2 h3 LV BV B3
  have ⟨zz0, a0, b0, c0, f0⟩ := g0
  have ⟨zz1, a1, b1, c1, f1⟩ := g1
  have ⟨zz2, a2, b2, c2, f2⟩ := g2
  have ⟨zz3, a3, b3, c3, f3⟩ := g3
  have HX : Hid (_ ∧ _ ∧ _ ∧ _ ∧ _ ∧ _ ∧ _) := ⟨BG.alloc BG.size (bxQ r), g0.alloc (bxQ r), g1.alloc (bxQ r), g2.alloc (bxQ r), g3.alloc (bxQ r), Pb.new' w3 r 27 _ rfl, LG.alloc (bxQ r)⟩
  clear BG LG g0 g1 g2 g3
  go_wp2_with fail
  refine callsOf (fun W => Below w.heap.size w W ∧ Tb w.heap.size p W ∧ Tb (w.heap.size + 1) q W ∧ Tb n1 i W ∧ Tb n2 n W ∧ Pb w3.heap.size r W ∧ Lp W) HX.out ?_
  rintro v3 ⟨BV, h0, h1, h2, h3, h4, LV⟩
  obtain ⟨n3, hn⟩ : ∃ n, w3.heap.size = n := ⟨_, rfl⟩
  rw [hn] at h4 ⊢
  clear HX hn zz0 a0 b0 c0 f0 zz1 a1 b1 c1 f1 zz2 a2 b2 c2 f2 zz3 a3 b3 c3 f3 w3
  refine (C2 _ LV).mono ?_
  rintro e w4 ⟨rfl, B4⟩
  have g0 := h0.below B4
  have g1 := h1.below B4
  have g2 := h2.below B4
  have g3 := h3.below B4
  have g4 := h4.below B4
  have LG := LV.below B4
  have BG := belowStep BV BV.size B4
  clear h0 h1 h2 h3 h4 LV BV B4
  have ⟨zz0, a0, b0, c0, f0⟩ := g0
  have ⟨zz1, a1, b1, c1, f1⟩ := g1
  have ⟨zz2, a2, b2, c2, f2⟩ := g2
  have ⟨zz3, a3, b3, c3, f3⟩ := g3
  have ⟨zz4, a4, b4, f4⟩ := g4
  have HX : Hid (_ ∧ _ ∧ _ ∧ _ ∧ _ ∧ _ ∧ _ ∧ _) := ⟨BG.alloc BG.size (bxQ r), g0.alloc (bxQ r), g1.alloc (bxQ r), g2.alloc (bxQ r), g3.alloc (bxQ r), g4.alloc (bxQ r), Pb.new' w4 r 27 _ rfl, LG.alloc (bxQ r)⟩
  clear BG LG g0 g1 g2 g3 g4
  go_wp2_with fail
  refine callsOf (fun W => Below w.heap.size w W ∧ Tb w.heap.size p W ∧ Tb (w.heap.size + 1) q W ∧ Tb n1 i W ∧ Tb n2 n W ∧ Pb n3 r W ∧ Pb w4.heap.size r W ∧ Lp W) HX.out ?_
  rintro v4 ⟨BV, h0, h1, h2, h3, h4, h5, LV⟩
  obtain ⟨n4, hn⟩ : ∃ n, w4.heap.size = n := ⟨_, rfl⟩
  rw [hn] at h5 ⊢
  clear HX hn zz0 a0 b0 c0 f0 zz1 a1 b1 c1 f1 zz2 a2 b2 c2 f2 zz3 a3 b3 c3 f3 zz4 a4 b4 f4 w4
  refine (C3 _ LV).mono ?_
  rintro e w5 ⟨rfl, B5⟩
  have g0 := h0.below B5
  have g1 := h1.below B5
  have g2 := h2.below B5
  have g3 := h3.below B5
  have g4 := h4.below B5
  have g5 := h5.below B5
  have LG := LV.below B5
  have BG := belowStep BV BV.size B5
  clear h0 h1 h2 h3 h4 h5 LV BV B5
  have ⟨zz0, a0, b0, c0, f0⟩ := g0
  have ⟨zz1, a1, b1, c1, f1⟩ := g1
  have ⟨zz2, a2, b2, c2, f2⟩ := g2
  have ⟨zz3, a3, b3, c3, f3⟩ := g3
  have ⟨zz4, a4, b4, f4⟩ := g4
  have ⟨zz5, a5, b5, f5⟩ := g5
  have HX : Hid (_ ∧ _ ∧ _ ∧ _ ∧ _ ∧ _ ∧ _ ∧ _ ∧ _) := ⟨BG.alloc BG.size (bxQ r), g0.alloc (bxQ r), g1.alloc (bxQ r), g2.alloc (bxQ r), g3.alloc (bxQ r), g4.alloc (bxQ r), g5.alloc (bxQ r), Pb.new' w5 r 27 _ rfl, LG.alloc (bxQ r)⟩
  clear BG LG g0 g1 g2 g3 g4 g5
  go_wp2_with fail
  refine callsOf (fun W => Below w.heap.size w W ∧ Tb w.heap.size p W ∧ Tb (w.heap.size + 1) q W ∧ Tb n1 i W ∧ Tb n2 n W ∧ Pb n3 r W ∧ Pb n4 r W ∧ Pb w5.heap.size r W ∧ Lp W) HX.out ?_
  rintro v5 ⟨BV, h0, h1, h2, h3, h4, h5, h6, LV⟩
  obtain ⟨n5, hn⟩ : ∃ n, w5.heap.size = n := ⟨_, rfl⟩
  rw [hn] at h6 ⊢
  clear HX hn zz0 a0 b0 c0 f0 zz1 a1 b1 c1 f1 zz2 a2 b2 c2 f2 zz3 a3 b3 c3 f3 zz4 a4 b4 f4 zz5 a5 b5 f5 w5
  refine (C4 _ LV).mono ?_
  rintro e w6 ⟨rfl, B6⟩
  have g0 := h0.below B6
  have g1 := h1.below B6
  have g2 := h2.below B6
  have g3 := h3.below B6
  have g4 := h4.below B6
  have g5 := h5.below B6
  have g6 := h6.below B6
  have LG := LV.below B6
  have BG := belowStep BV BV.size B6
  clear h0 h1 h2 h3 h4 h5 h6 LV BV B6
  have ⟨zz0, a0, b0, c0, f0⟩ := g0
  have ⟨zz1, a1, b1, c1, f1⟩ := g1
  have ⟨zz2, a2, b2, c2, f2⟩ := g2
  have ⟨zz3, a3, b3, c3, f3⟩ := g3
  have ⟨zz4, a4, b4, f4⟩ := g4
  have ⟨zz5, a5, b5, f5⟩ := g5
  have ⟨zz6, a6, b6, f6⟩ := g6
  have HX : Hid (_ ∧ _ ∧ _ ∧ _ ∧ _ ∧ _ ∧ _ ∧ _ ∧ _ ∧ _) := ⟨BG.alloc BG.size (bxQ z2), g0.alloc (bxQ z2), g1.alloc (bxQ z2), g2.alloc (bxQ z2), g3.alloc (bxQ z2), g4.alloc (bxQ z2), g5.alloc (bxQ z2), g6.alloc (bxQ z2), Pb.new' w6 z2 27 _ rfl, LG.alloc (bxQ z2)⟩
  clear BG LG g0 g1 g2 g3 g4 g5 g6
  go_wp2_with fail
  refine callsOf (fun W => Below w.heap.size w W ∧ Tb w.heap.size p W ∧ Tb (w.heap.size + 1) q W ∧ Tb n1 i W ∧ Tb n2 n W ∧ Pb n3 r W ∧ Pb n4 r W ∧ Pb n5 r W ∧ Pb w6.heap.size z2 W ∧ Lp W) HX.out ?_
  rintro v6 ⟨BV, h0, h1, h2, h3, h4, h5, h6, h7, LV⟩
  obtain ⟨n6, hn⟩ : ∃ n, w6.heap.size = n := ⟨_, rfl⟩
  rw [hn] at h7 ⊢
  clear HX hn zz0 a0 b0 c0 f0 zz1 a1 b1 c1 f1 zz2 a2 b2 c2 f2 zz3 a3 b3 c3 f3 zz4 a4 b4 f4 zz5 a5 b5 f5 zz6 a6 b6 f6 w6
  refine (C5 _ LV.l).mono ?_
  rintro e w7 ⟨rfl, B7⟩
  have g0 := h0.below B7
  have g1 := h1.below B7
  have g2 := h2.below B7
  have g3 := h3.below B7
  have g4 := h4.below B7
  have g5 := h5.below B7
  have g6 := h6.below B7
  have g7 := h7.below B7
  have LG := LV.below B7
  have BG := belowStep BV BV.size B7
  clear h0 h1 h2 h3 h4 h5 h6 h7 LV BV B7
  have ⟨zz0, a0, b0, c0, f0⟩ := g0
  have ⟨zz1, a1, b1, c1, f1⟩ := g1
  have ⟨zz2, a2, b2, c2, f2⟩ := g2
  have ⟨zz3, a3, b3, c3, f3⟩ := g3
  have ⟨zz4, a4, b4, f4⟩ := g4
  have ⟨zz5, a5, b5, f5⟩ := g5
  have ⟨zz6, a6, b6, f6⟩ := g6
  have ⟨zz7, a7, b7, f7⟩ := g7
  have HX : Hid (_ ∧ _ ∧ _ ∧ _ ∧ _ ∧ _ ∧ _ ∧ _ ∧ _ ∧ _) := ⟨BG, g0, g1, g2, g3, g4, g5, g6, g7, LG⟩
  clear BG LG g0 g1 g2 g3 g4 g5 g6 g7
  have hI := HI.out
  obtain ⟨BV, _⟩ := HX.out
  go_wp2_with fail
  go_ret
  exact ⟨by simp, BV.alloc BV.size _⟩

theorem pinf_any (p q : Pt) (hp : UT p) (hq : UT q) (w : World) (hL : Lp w) :
    Calls Tryd.prog 7 #[vT p, vT q] w fun e w' => e = .returned (.bool true) ∧ Below w.heap.size w w' := by
  cases ho : onN p
  · exact pinf1 p q hp hq ho w hL
  cases hy : onN q
  · exact pinf2 p q hp hq ho hy w hL
  by_cases hz : q = iN
  · exact pinf3 p q hp hq ho hy hz w hL
  · exact pinf4 p q hp hq ho hy hz w hL
end Go.Proofs.YteknhghmliihhaaDoor
