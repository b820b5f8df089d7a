/- The walks of CurveLaws, CurveFew. No condition. -/
import Derived.Test.YtlcdlegdnibcaaaDoorC9
namespace Go.Proofs.YtlcdlegdnibcaaaDoor
open Go.RowKit Go.Shelf Go.Sort

theorem on_inf : onN iN = true := by decide
theorem ut_inf : UT iN := ⟨by decide, by decide⟩
theorem neqI64 (c : Int) : (c == c) = true := by simp

set_option maxRecDepth 20000 in
set_option maxHeartbeats 8000000 in
theorem claws_any (p : Pt) (hp : UT p) (w : World) (hL : Li w) :
    Calls Tryd.prog 6 #[vT p] w fun e w' => e = .returned (.bool true) ∧ Below w.heap.size w w' := by
  have C1 := neg_any p hp
  have C2 := on_any p hp
  unfold negV at C1
  cases ho : onN p
  · rw [ho] at C1 C2
    rw [if_neg (by simp)] at C1
    go_enter Tryd.func6, Tryd.ntmps6
    go_wp2_with fail
    refine callsOf (fun W => Below w.heap.size w W ∧ Tb w.heap.size p W ∧ Li W) ⟨by go_grown, Tb.new' w p 24 _ rfl, (hL).alloc _⟩ ?_
    rintro w0 ⟨BV, h0, LV⟩
    refine (shown_any _ LV).mono ?_
    rintro e w1 ⟨rfl, B1⟩
    have g0 := h0.below B1
    have LG := LV.below B1
    have BG := belowStep BV BV.size B1
    clear h0 LV BV B1
    have ⟨z0, a0, b0, c0, f0⟩ := g0
    have HX : Hid (_ ∧ _ ∧ _ ∧ _) := ⟨BG.alloc BG.size (bxP iN), g0.alloc (bxP iN), Tb.new' w1 iN 24 _ rfl, LG.alloc (bxP iN)⟩
    clear BG LG g0
    go_wp2_with fail
    refine callsOf (fun W => Below w.heap.size w W ∧ Tb w.heap.size p W ∧ Tb w1.heap.size iN W ∧ Li W) HX.out ?_
    rintro v1 ⟨BV, h0, h1, LV⟩
    obtain ⟨n1, hn⟩ : ∃ n, w1.heap.size = n := ⟨_, rfl⟩
    rw [hn] at h1 ⊢
    clear HX hn z0 a0 b0 c0 f0 w1
    refine (C1 _ LV).mono ?_
    rintro e w2 ⟨rfl, B2⟩
    have g0 := h0.below B2
    have g1 := h1.below B2
    have LG := LV.below B2
    have BG := belowStep BV BV.size B2
    clear h0 h1 LV BV B2
    have ⟨z0, a0, b0, c0, f0⟩ := g0
    have ⟨z1, a1, b1, c1, f1⟩ := g1
    have HX : Hid (_ ∧ _ ∧ _ ∧ _ ∧ _) := ⟨BG.alloc BG.size (bxP oP), g0.alloc (bxP oP), g1.alloc (bxP oP), Tb.new' w2 oP 24 _ rfl, LG.alloc (bxP oP)⟩
    clear BG LG g0 g1
    go_wp2_with fail
    refine callsOf (fun W => Below w.heap.size w W ∧ Tb w.heap.size p W ∧ Tb n1 iN W ∧ Tb w2.heap.size oP W ∧ Li W) HX.out ?_
    rintro v2 ⟨BV, h0, h1, h2, LV⟩
    obtain ⟨n2, hn⟩ : ∃ n, w2.heap.size = n := ⟨_, rfl⟩
    rw [hn] at h2 ⊢
    clear HX hn z0 a0 b0 c0 f0 z1 a1 b1 c1 f1 w2
    refine (C2 _ LV).mono ?_
    rintro e w3 ⟨rfl, B3⟩
    have g0 := h0.below B3
    have g1 := h1.below B3
    have g2 := h2.below B3
    have LG := LV.below B3
    have BG := belowStep BV BV.size B3
    clear h0 h1 h2 LV BV B3
    have ⟨z0, a0, b0, c0, f0⟩ := g0
    have ⟨z1, a1, b1, c1, f1⟩ := g1
    have ⟨z2, a2, b2, c2, f2⟩ := g2
    have HX : Hid (_ ∧ _ ∧ _ ∧ _ ∧ _) := ⟨BG, g0, g1, g2, LG⟩
    clear BG LG g0 g1 g2
    go_wp2_with fail
    obtain ⟨BV, h0, h1, h2, LV⟩ := HX.out
    go_ret
    exact ⟨by simp, BV⟩
  · rw [ho] at C1 C2
    rw [if_pos rfl] at C1
    have wp := wl_on ho
    have on' := on_ng ho
    have C3 := neg_any (ngN p) (wl_u (wl_on on'))
    unfold negV at C3
    rw [on', if_pos rfl, ng_ng wp] at C3
    have C4 := add_all p (ngN p) hp (wl_u (wl_on on'))
    unfold addV at C4
    rw [on', ho, Bool.and_self, if_pos rfl, sm_ng wp] at C4
    have C5 := add_all p iN hp ut_inf
    unfold addV at C5
    rw [on_inf, ho, Bool.and_self, if_pos rfl, inf_sm] at C5
    have C6 := add_all iN p ut_inf hp
    unfold addV at C6
    rw [on_inf, ho, Bool.and_self, if_pos rfl, sm_inf] at C6
    have C7 := on_any (ngN p) (wl_u (wl_on on'))
    rw [on'] at C7
    have E1 := eqlT p p
    rw [decide_eq_true rfl] at E1
    have E2 := eqlT iN iN
    rw [decide_eq_true rfl] at E2
    obtain ⟨n, hn⟩ : ∃ n, ngN p = n := ⟨_, rfl⟩
    rw [hn] at C1 C3 C4 C7
    clear hn on' wp ho
    obtain ⟨i, hi⟩ : ∃ i, iN = i := ⟨_, rfl⟩
    have HI : Hid (iN = i) := hi
    rw [hi] at C4 C5 C6 E2
    go_enter Tryd.func6, Tryd.ntmps6
    go_wp2_with fail
    refine callsOf (fun W => Below w.heap.size w W ∧ Tb w.heap.size p W ∧ Li W) ⟨by go_grown, Tb.new' w p 24 _ rfl, (hL).alloc _⟩ ?_
    rintro w0 ⟨BV, h0, LV⟩
    refine (shown_any _ LV).mono ?_
    rintro e w1 ⟨rfl, B1⟩
    have g0 := h0.below B1
    have LG := LV.below B1
    have BG := belowStep BV BV.size B1
    clear h0 LV BV B1
    have ⟨z0, a0, b0, c0, f0⟩ := g0
    have HX : Hid (_ ∧ _ ∧ _ ∧ _) := ⟨BG.alloc BG.size (bxP iN), g0.alloc (bxP iN), Tb.new' w1 iN 24 _ rfl, LG.alloc (bxP iN)⟩
    clear BG LG g0
    go_wp2_with fail
    refine callsOf (fun W => Below w.heap.size w W ∧ Tb w.heap.size p W ∧ Tb w1.heap.size iN W ∧ Li W) HX.out ?_
    rintro v1 ⟨BV, h0, h1, LV⟩
    obtain ⟨n1, hn⟩ : ∃ n, w1.heap.size = n := ⟨_, rfl⟩
    rw [hn] at h1 ⊢
    clear HX hn z0 a0 b0 c0 f0 w1
    rw [hi] at h1
    clear hi
    refine (C1 _ LV).mono ?_
    rintro e w2 ⟨rfl, B2⟩
    have g0 := h0.below B2
    have g1 := h1.below B2
    have LG := LV.below B2
    have BG := belowStep BV BV.size B2
    clear h0 h1 LV BV B2
    have ⟨z0, a0, b0, c0, f0⟩ := g0
    have ⟨z1, a1, b1, c1, f1⟩ := g1
    have HX : Hid (_ ∧ _ ∧ _ ∧ _ ∧ _) := ⟨BG.alloc BG.size (bxP n), g0.alloc (bxP n), g1.alloc (bxP n), Tb.new' w2 n 24 _ rfl, LG.alloc (bxP n)⟩
    clear BG LG g0 g1
    go_wp2_with fail
    refine callsOf (fun W => Below w.heap.size w W ∧ Tb w.heap.size p W ∧ Tb n1 i W ∧ Tb w2.heap.size n W ∧ Li W) HX.out ?_
    rintro v2 ⟨BV, h0, h1, h2, LV⟩
    obtain ⟨n2, hn⟩ : ∃ n, w2.heap.size = n := ⟨_, rfl⟩
    rw [hn] at h2 ⊢
    clear HX hn z0 a0 b0 c0 f0 z1 a1 b1 c1 f1 w2
    refine (C2 _ LV).mono ?_
    rintro e w3 ⟨rfl, B3⟩
    have g0 := h0.below B3
    have g1 := h1.below B3
    have g2 := h2.below B3
    have LG := LV.below B3
    have BG := belowStep BV BV.size B3
    clear h0 h1 h2 LV BV B3
    have ⟨z0, a0, b0, c0, f0⟩ := g0
    have ⟨z1, a1, b1, c1, f1⟩ := g1
    have ⟨z2, a2, b2, c2, f2⟩ := g2
    have HX : Hid (_ ∧ _ ∧ _ ∧ _ ∧ _) := ⟨BG, g0, g1, g2, LG⟩
    clear BG LG g0 g1 g2
    go_wp2_with fail
    obtain ⟨BV, h0, h1, h2, LV⟩ := HX.out
    clear HX z0 a0 b0 c0 f0 z1 a1 b1 c1 f1 z2 a2 b2 c2 f2
    refine (C3 _ LV).mono ?_
    rintro e w4 ⟨rfl, B4⟩
    have g0 := h0.below B4
    have g1 := h1.below B4
    have g2 := h2.below B4
    have LG := LV.below B4
    have BG := belowStep BV BV.size B4
    clear h0 h1 h2 LV BV B4
    have ⟨z0, a0, b0, c0, f0⟩ := g0
    have ⟨z1, a1, b1, c1, f1⟩ := g1
    have ⟨z2, a2, b2, c2, f2⟩ := g2
    have HX : Hid (_ ∧ _ ∧ _ ∧ _ ∧ _ ∧ _) := ⟨BG.alloc BG.size (bxP p), g0.alloc (bxP p), g1.alloc (bxP p), g2.alloc (bxP p), Tb.new' w4 p 24 _ rfl, LG.alloc (bxP p)⟩
    clear BG LG g0 g1 g2
    go_wp2_with fail
    refine callsOf (fun W => Below w.heap.size w W ∧ Tb w.heap.size p W ∧ Tb n1 i W ∧ Tb n2 n W ∧ Tb w4.heap.size p W ∧ Li W) HX.out ?_
    rintro v4 ⟨BV, h0, h1, h2, h3, LV⟩
    obtain ⟨n3, hn⟩ : ∃ n, w4.heap.size = n := ⟨_, rfl⟩
    rw [hn] at h3 ⊢
    clear HX hn z0 a0 b0 c0 f0 z1 a1 b1 c1 f1 z2 a2 b2 c2 f2 w4
    refine (C4 _ LV).mono ?_
    rintro e w5 ⟨rfl, B5⟩
    have g0 := h0.below B5
    have g1 := h1.below B5
    have g2 := h2.below B5
    have g3 := h3.below B5
    have LG := LV.below B5
    have BG := belowStep BV BV.size B5
    clear h0 h1 h2 h3 LV BV B5
    have ⟨z0, a0, b0, c0, f0⟩ := g0
    have ⟨z1, a1, b1, c1, f1⟩ := g1
    have ⟨z2, a2, b2, c2, f2⟩ := g2
    have ⟨z3, a3, b3, c3, f3⟩ := g3
    have HX : Hid (_ ∧ _ ∧ _ ∧ _ ∧ _ ∧ _ ∧ _) := ⟨BG.alloc BG.size (bxP i), g0.alloc (bxP i), g1.alloc (bxP i), g2.alloc (bxP i), g3.alloc (bxP i), Tb.new' w5 i 24 _ rfl, LG.alloc (bxP i)⟩
    clear BG LG g0 g1 g2 g3
    go_wp2_with fail
    refine callsOf (fun W => Below w.heap.size w W ∧ Tb w.heap.size p W ∧ Tb n1 i W ∧ Tb n2 n W ∧ Tb n3 p W ∧ Tb w5.heap.size i W ∧ Li W) HX.out ?_
    rintro v5 ⟨BV, h0, h1, h2, h3, h4, LV⟩
    obtain ⟨n4, hn⟩ : ∃ n, w5.heap.size = n := ⟨_, rfl⟩
    rw [hn] at h4 ⊢
    clear HX hn z0 a0 b0 c0 f0 z1 a1 b1 c1 f1 z2 a2 b2 c2 f2 z3 a3 b3 c3 f3 w5
    refine (C5 _ LV).mono ?_
    rintro e w6 ⟨rfl, B6⟩
    have g0 := h0.below B6
    have g1 := h1.below B6
    have g2 := h2.below B6
    have g3 := h3.below B6
    have g4 := h4.below B6
    have LG := LV.below B6
    have BG := belowStep BV BV.size B6
    clear h0 h1 h2 h3 h4 LV BV B6
    have ⟨z0, a0, b0, c0, f0⟩ := g0
    have ⟨z1, a1, b1, c1, f1⟩ := g1
    have ⟨z2, a2, b2, c2, f2⟩ := g2
    have ⟨z3, a3, b3, c3, f3⟩ := g3
    have ⟨z4, a4, b4, c4, f4⟩ := g4
    have HX : Hid (_ ∧ _ ∧ _ ∧ _ ∧ _ ∧ _ ∧ _ ∧ _) := ⟨BG.alloc BG.size (bxP p), g0.alloc (bxP p), g1.alloc (bxP p), g2.alloc (bxP p), g3.alloc (bxP p), g4.alloc (bxP p), Tb.new' w6 p 24 _ rfl, LG.alloc (bxP p)⟩
    clear BG LG g0 g1 g2 g3 g4
    go_wp2_with fail
    refine callsOf (fun W => Below w.heap.size w W ∧ Tb w.heap.size p W ∧ Tb n1 i W ∧ Tb n2 n W ∧ Tb n3 p W ∧ Tb n4 i W ∧ Tb w6.heap.size p W ∧ Li W) HX.out ?_
    rintro v6 ⟨BV, h0, h1, h2, h3, h4, h5, LV⟩
    obtain ⟨n5, hn⟩ : ∃ n, w6.heap.size = n := ⟨_, rfl⟩
    rw [hn] at h5 ⊢
    clear HX hn z0 a0 b0 c0 f0 z1 a1 b1 c1 f1 z2 a2 b2 c2 f2 z3 a3 b3 c3 f3 z4 a4 b4 c4 f4 w6
    refine (C6 _ LV).mono ?_
    rintro e w7 ⟨rfl, B7⟩
    have g0 := h0.below B7
    have g1 := h1.below B7
    have g2 := h2.below B7
    have g3 := h3.below B7
    have g4 := h4.below B7
    have g5 := h5.below B7
    have LG := LV.below B7
    have BG := belowStep BV BV.size B7
    clear h0 h1 h2 h3 h4 h5 LV BV B7
    have ⟨z0, a0, b0, c0, f0⟩ := g0
    have ⟨z1, a1, b1, c1, f1⟩ := g1
    have ⟨z2, a2, b2, c2, f2⟩ := g2
    have ⟨z3, a3, b3, c3, f3⟩ := g3
    have ⟨z4, a4, b4, c4, f4⟩ := g4
    have ⟨z5, a5, b5, c5, f5⟩ := g5
    have HX : Hid (_ ∧ _ ∧ _ ∧ _ ∧ _ ∧ _ ∧ _ ∧ _ ∧ _) := ⟨BG.alloc BG.size (bxP p), g0.alloc (bxP p), g1.alloc (bxP p), g2.alloc (bxP p), g3.alloc (bxP p), g4.alloc (bxP p), g5.alloc (bxP p), Tb.new' w7 p 24 _ rfl, LG.alloc (bxP p)⟩
    clear BG LG g0 g1 g2 g3 g4 g5
    go_wp2_with fail
    refine callsOf (fun W => Below w.heap.size w W ∧ Tb w.heap.size p W ∧ Tb n1 i W ∧ Tb n2 n W ∧ Tb n3 p W ∧ Tb n4 i W ∧ Tb n5 p W ∧ Tb w7.heap.size p W ∧ Li W) HX.out ?_
    rintro v7 ⟨BV, h0, h1, h2, h3, h4, h5, h6, LV⟩
    obtain ⟨n6, hn⟩ : ∃ n, w7.heap.size = n := ⟨_, rfl⟩
    rw [hn] at h6 ⊢
    clear HX hn z0 a0 b0 c0 f0 z1 a1 b1 c1 f1 z2 a2 b2 c2 f2 z3 a3 b3 c3 f3 z4 a4 b4 c4 f4 z5 a5 b5 c5 f5 w7
    refine (C7 _ LV).mono ?_
    rintro e w8 ⟨rfl, B8⟩
    have g0 := h0.below B8
    have g1 := h1.below B8
    have g2 := h2.below B8
    have g3 := h3.below B8
    have g4 := h4.below B8
    have g5 := h5.below B8
    have g6 := h6.below B8
    have LG := LV.below B8
    have BG := belowStep BV BV.size B8
    clear h0 h1 h2 h3 h4 h5 h6 LV BV B8
    have ⟨z0, a0, b0, c0, f0⟩ := g0
    have ⟨z1, a1, b1, c1, f1⟩ := g1
    have ⟨z2, a2, b2, c2, f2⟩ := g2
    have ⟨z3, a3, b3, c3, f3⟩ := g3
    have ⟨z4, a4, b4, c4, f4⟩ := g4
    have ⟨z5, a5, b5, c5, f5⟩ := g5
    have ⟨z6, a6, b6, c6, f6⟩ := g6
    have HX : Hid (_ ∧ _ ∧ _ ∧ _ ∧ _ ∧ _ ∧ _ ∧ _ ∧ _) := ⟨BG, g0, g1, g2, g3, g4, g5, g6, LG⟩
    clear BG LG g0 g1 g2 g3 g4 g5 g6
    go_wp2_with fail
    obtain ⟨BV, h0, h1, h2, h3, h4, h5, h6, LV⟩ := HX.out
    go_ret
    exact ⟨by simp, BV⟩

set_option maxRecDepth 20000 in
set_option maxHeartbeats 8000000 in
theorem cfew_any (p : Pt) (hp : UT p) (w : World) (hL : Li w) :
    Calls Tryd.prog 8 #[vT p] w fun e w' => e = .returned (.bool true) ∧ Below w.heap.size w w' := by
  have C0 := times_all 0 (by unfold U64; omega) p hp
  have C1 := times_all 1 (by unfold U64; omega) p hp
  have C2 := times_all 2 (by unfold U64; omega) p hp
  have C3 := times_all 3 (by unfold U64; omega) p hp
  have C4 := add_all p p hp hp
  have C5 := on_any p hp
  unfold timV at C0 C1 C2 C3
  unfold addV at C4
  cases ho : onN p
  · rw [ho] at C0 C1 C2 C3 C4 C5
    rw [if_neg (by simp)] at C0 C1 C2 C3 C4
    go_enter Tryd.func8, Tryd.ntmps8
    go_wp2_with fail
    refine callsOf (fun W => Below w.heap.size w W ∧ Tb w.heap.size p W ∧ Li W) ⟨by go_grown, Tb.new' w p 24 _ rfl, (hL).alloc _⟩ ?_
    rintro w0 ⟨BV, h0, LV⟩
    refine (shown_any _ LV).mono ?_
    rintro e w1 ⟨rfl, B1⟩
    have g0 := h0.below B1
    have LG := LV.below B1
    have BG := belowStep BV BV.size B1
    clear h0 LV BV B1
    have ⟨z0, a0, b0, c0, f0⟩ := g0
    have HX : Hid (_ ∧ _ ∧ _) := ⟨BG, g0, LG⟩
    clear BG LG g0
    go_wp2_with fail
    obtain ⟨BV, h0, LV⟩ := HX.out
    clear HX z0 a0 b0 c0 f0
    refine (C0 _ LV).mono ?_
    rintro e w2 ⟨rfl, B2⟩
    have g0 := h0.below B2
    have LG := LV.below B2
    have BG := belowStep BV BV.size B2
    clear h0 LV BV B2
    have ⟨z0, a0, b0, c0, f0⟩ := g0
    have HX : Hid (_ ∧ _ ∧ _ ∧ _) := ⟨BG.alloc BG.size (bxP oP), g0.alloc (bxP oP), Tb.new' w2 oP 24 _ rfl, LG.alloc (bxP oP)⟩
    clear BG LG g0
    go_wp2_with fail
    refine callsOf (fun W => Below w.heap.size w W ∧ Tb w.heap.size p W ∧ Tb w2.heap.size oP W ∧ Li W) HX.out ?_
    rintro v2 ⟨BV, h0, h1, LV⟩
    obtain ⟨n1, hn⟩ : ∃ n, w2.heap.size = n := ⟨_, rfl⟩
    rw [hn] at h1 ⊢
    clear HX hn z0 a0 b0 c0 f0 w2
    refine (C1 _ LV).mono ?_
    rintro e w3 ⟨rfl, B3⟩
    have g0 := h0.below B3
    have g1 := h1.below B3
    have LG := LV.below B3
    have BG := belowStep BV BV.size B3
    clear h0 h1 LV BV B3
    have ⟨z0, a0, b0, c0, f0⟩ := g0
    have ⟨z1, a1, b1, c1, f1⟩ := g1
    have HX : Hid (_ ∧ _ ∧ _ ∧ _ ∧ _) := ⟨BG.alloc BG.size (bxP oP), g0.alloc (bxP oP), g1.alloc (bxP oP), Tb.new' w3 oP 24 _ rfl, LG.alloc (bxP oP)⟩
    clear BG LG g0 g1
    go_wp2_with fail
    refine callsOf (fun W => Below w.heap.size w W ∧ Tb w.heap.size p W ∧ Tb n1 oP W ∧ Tb w3.heap.size oP W ∧ Li W) HX.out ?_
    rintro v3 ⟨BV, h0, h1, h2, LV⟩
    obtain ⟨n2, hn⟩ : ∃ n, w3.heap.size = n := ⟨_, rfl⟩
    rw [hn] at h2 ⊢
    clear HX hn z0 a0 b0 c0 f0 z1 a1 b1 c1 f1 w3
    refine (C2 _ LV).mono ?_
    rintro e w4 ⟨rfl, B4⟩
    have g0 := h0.below B4
    have g1 := h1.below B4
    have g2 := h2.below B4
    have LG := LV.below B4
    have BG := belowStep BV BV.size B4
    clear h0 h1 h2 LV BV B4
    have ⟨z0, a0, b0, c0, f0⟩ := g0
    have ⟨z1, a1, b1, c1, f1⟩ := g1
    have ⟨z2, a2, b2, c2, f2⟩ := g2
    have HX : Hid (_ ∧ _ ∧ _ ∧ _ ∧ _ ∧ _) := ⟨BG.alloc BG.size (bxP oP), g0.alloc (bxP oP), g1.alloc (bxP oP), g2.alloc (bxP oP), Tb.new' w4 oP 24 _ rfl, LG.alloc (bxP oP)⟩
    clear BG LG g0 g1 g2
    go_wp2_with fail
    refine callsOf (fun W => Below w.heap.size w W ∧ Tb w.heap.size p W ∧ Tb n1 oP W ∧ Tb n2 oP W ∧ Tb w4.heap.size oP W ∧ Li W) HX.out ?_
    rintro v4 ⟨BV, h0, h1, h2, h3, LV⟩
    obtain ⟨n3, hn⟩ : ∃ n, w4.heap.size = n := ⟨_, rfl⟩
    rw [hn] at h3 ⊢
    clear HX hn z0 a0 b0 c0 f0 z1 a1 b1 c1 f1 z2 a2 b2 c2 f2 w4
    refine (C3 _ LV).mono ?_
    rintro e w5 ⟨rfl, B5⟩
    have g0 := h0.below B5
    have g1 := h1.below B5
    have g2 := h2.below B5
    have g3 := h3.below B5
    have LG := LV.below B5
    have BG := belowStep BV BV.size B5
    clear h0 h1 h2 h3 LV BV B5
    have ⟨z0, a0, b0, c0, f0⟩ := g0
    have ⟨z1, a1, b1, c1, f1⟩ := g1
    have ⟨z2, a2, b2, c2, f2⟩ := g2
    have ⟨z3, a3, b3, c3, f3⟩ := g3
    have HX : Hid (_ ∧ _ ∧ _ ∧ _ ∧ _ ∧ _ ∧ _) := ⟨BG.alloc BG.size (bxP oP), g0.alloc (bxP oP), g1.alloc (bxP oP), g2.alloc (bxP oP), g3.alloc (bxP oP), Tb.new' w5 oP 24 _ rfl, LG.alloc (bxP oP)⟩
    clear BG LG g0 g1 g2 g3
    go_wp2_with fail
    refine callsOf (fun W => Below w.heap.size w W ∧ Tb w.heap.size p W ∧ Tb n1 oP W ∧ Tb n2 oP W ∧ Tb n3 oP W ∧ Tb w5.heap.size oP W ∧ Li W) HX.out ?_
    rintro v5 ⟨BV, h0, h1, h2, h3, h4, LV⟩
    obtain ⟨n4, hn⟩ : ∃ n, w5.heap.size = n := ⟨_, rfl⟩
    rw [hn] at h4 ⊢
    clear HX hn z0 a0 b0 c0 f0 z1 a1 b1 c1 f1 z2 a2 b2 c2 f2 z3 a3 b3 c3 f3 w5
    refine (C4 _ LV).mono ?_
    rintro e w6 ⟨rfl, B6⟩
    have g0 := h0.below B6
    have g1 := h1.below B6
    have g2 := h2.below B6
    have g3 := h3.below B6
    have g4 := h4.below B6
    have LG := LV.below B6
    have BG := belowStep BV BV.size B6
    clear h0 h1 h2 h3 h4 LV BV B6
    have ⟨z0, a0, b0, c0, f0⟩ := g0
    have ⟨z1, a1, b1, c1, f1⟩ := g1
    have ⟨z2, a2, b2, c2, f2⟩ := g2
    have ⟨z3, a3, b3, c3, f3⟩ := g3
    have ⟨z4, a4, b4, c4, f4⟩ := g4
    have HX : Hid (_ ∧ _ ∧ _ ∧ _ ∧ _ ∧ _ ∧ _ ∧ _) := ⟨BG.alloc BG.size (bxP oP), g0.alloc (bxP oP), g1.alloc (bxP oP), g2.alloc (bxP oP), g3.alloc (bxP oP), g4.alloc (bxP oP), Tb.new' w6 oP 24 _ rfl, LG.alloc (bxP oP)⟩
    clear BG LG g0 g1 g2 g3 g4
    go_wp2_with fail
    refine callsOf (fun W => Below w.heap.size w W ∧ Tb w.heap.size p W ∧ Tb n1 oP W ∧ Tb n2 oP W ∧ Tb n3 oP W ∧ Tb n4 oP W ∧ Tb w6.heap.size oP W ∧ Li W) HX.out ?_
    rintro v6 ⟨BV, h0, h1, h2, h3, h4, h5, LV⟩
    obtain ⟨n5, hn⟩ : ∃ n, w6.heap.size = n := ⟨_, rfl⟩
    rw [hn] at h5 ⊢
    clear HX hn z0 a0 b0 c0 f0 z1 a1 b1 c1 f1 z2 a2 b2 c2 f2 z3 a3 b3 c3 f3 z4 a4 b4 c4 f4 w6
    refine (C5 _ LV).mono ?_
    rintro e w7 ⟨rfl, B7⟩
    have g0 := h0.below B7
    have g1 := h1.below B7
    have g2 := h2.below B7
    have g3 := h3.below B7
    have g4 := h4.below B7
    have g5 := h5.below B7
    have LG := LV.below B7
    have BG := belowStep BV BV.size B7
    clear h0 h1 h2 h3 h4 h5 LV BV B7
    have ⟨z0, a0, b0, c0, f0⟩ := g0
    have ⟨z1, a1, b1, c1, f1⟩ := g1
    have ⟨z2, a2, b2, c2, f2⟩ := g2
    have ⟨z3, a3, b3, c3, f3⟩ := g3
    have ⟨z4, a4, b4, c4, f4⟩ := g4
    have ⟨z5, a5, b5, c5, f5⟩ := g5
    have HX : Hid (_ ∧ _ ∧ _ ∧ _ ∧ _ ∧ _ ∧ _ ∧ _) := ⟨BG, g0, g1, g2, g3, g4, g5, LG⟩
    clear BG LG g0 g1 g2 g3 g4 g5
    go_wp2_with fail
    obtain ⟨BV, h0, h1, h2, h3, h4, h5, LV⟩ := HX.out
    go_ret
    exact ⟨by simp, BV⟩
  · have wlp := wl_on ho
    have wx := wl_sm wlp wlp
    rw [ho] at C0 C1 C2 C3 C4 C5
    rw [if_pos rfl, tm_0] at C0
    rw [if_pos rfl, tm_1] at C1
    rw [if_pos rfl, tm_2] at C2
    rw [if_pos rfl, tm_3] at C3
    rw [Bool.and_self, if_pos rfl] at C4
    obtain ⟨x, hx⟩ : ∃ x, smN p p = x := ⟨_, rfl⟩
    rw [hx] at C2 C3 C4 wx
    have C6 := add_all x p (wl_u wx) hp
    unfold addV at C6
    have E1 := eqlT p p
    rw [decide_eq_true rfl] at E1
    have E2 := eqlT x x
    rw [decide_eq_true rfl] at E2
    have E3 := eqlI iN
    rw [decide_eq_true rfl] at E3
    obtain ⟨d, hd⟩ : ∃ d, smN x p = d := ⟨_, rfl⟩
    rw [hd] at C3 C6
    have E4 := eqlT d d
    rw [decide_eq_true rfl] at E4
    obtain ⟨i, hi⟩ : ∃ i, iN = i := ⟨_, rfl⟩
    rw [hi] at C0 E3
    obtain ⟨bx, hbx⟩ : ∃ bx, (onN x && onN p) = bx := ⟨_, rfl⟩
    rw [hbx] at C6
    clear hx hd hi ho hbx wlp wx
    cases bx with
    | true =>
      rw [if_pos rfl] at C6
      go_enter Tryd.func8, Tryd.ntmps8
      go_wp2_with fail
      refine callsOf (fun W => Below w.heap.size w W ∧ Tb w.heap.size p W ∧ Li W) ⟨by go_grown, Tb.new' w p 24 _ rfl, (hL).alloc _⟩ ?_
      rintro w0 ⟨BV, h0, LV⟩
      refine (shown_any _ LV).mono ?_
      rintro e w1 ⟨rfl, B1⟩
      have g0 := h0.below B1
      have LG := LV.below B1
      have BG := belowStep BV BV.size B1
      clear h0 LV BV B1
      have ⟨z0, a0, b0, c0, f0⟩ := g0
      have HX : Hid (_ ∧ _ ∧ _) := ⟨BG, g0, LG⟩
      clear BG LG g0
      go_wp2_with fail
      obtain ⟨BV, h0, LV⟩ := HX.out
      clear HX z0 a0 b0 c0 f0
      refine (C0 _ LV).mono ?_
      rintro e w2 ⟨rfl, B2⟩
      have g0 := h0.below B2
      have LG := LV.below B2
      have BG := belowStep BV BV.size B2
      clear h0 LV BV B2
      have ⟨z0, a0, b0, c0, f0⟩ := g0
      have HX : Hid (_ ∧ _ ∧ _ ∧ _) := ⟨BG.alloc BG.size (bxP i), g0.alloc (bxP i), Tb.new' w2 i 24 _ rfl, LG.alloc (bxP i)⟩
      clear BG LG g0
      go_wp2_with fail
      refine callsOf (fun W => Below w.heap.size w W ∧ Tb w.heap.size p W ∧ Tb w2.heap.size i W ∧ Li W) HX.out ?_
      rintro v2 ⟨BV, h0, h1, LV⟩
      obtain ⟨n1, hn⟩ : ∃ n, w2.heap.size = n := ⟨_, rfl⟩
      rw [hn] at h1 ⊢
      clear HX hn z0 a0 b0 c0 f0 w2
      refine (C1 _ LV).mono ?_
      rintro e w3 ⟨rfl, B3⟩
      have g0 := h0.below B3
      have g1 := h1.below B3
      have LG := LV.below B3
      have BG := belowStep BV BV.size B3
      clear h0 h1 LV BV B3
      have ⟨z0, a0, b0, c0, f0⟩ := g0
      have ⟨z1, a1, b1, c1, f1⟩ := g1
      have HX : Hid (_ ∧ _ ∧ _ ∧ _ ∧ _) := ⟨BG.alloc BG.size (bxP p), g0.alloc (bxP p), g1.alloc (bxP p), Tb.new' w3 p 24 _ rfl, LG.alloc (bxP p)⟩
      clear BG LG g0 g1
      go_wp2_with fail
      refine callsOf (fun W => Below w.heap.size w W ∧ Tb w.heap.size p W ∧ Tb n1 i W ∧ Tb w3.heap.size p W ∧ Li W) HX.out ?_
      rintro v3 ⟨BV, h0, h1, h2, LV⟩
      obtain ⟨n2, hn⟩ : ∃ n, w3.heap.size = n := ⟨_, rfl⟩
      rw [hn] at h2 ⊢
      clear HX hn z0 a0 b0 c0 f0 z1 a1 b1 c1 f1 w3
      refine (C2 _ LV).mono ?_
      rintro e w4 ⟨rfl, B4⟩
      have g0 := h0.below B4
      have g1 := h1.below B4
      have g2 := h2.below B4
      have LG := LV.below B4
      have BG := belowStep BV BV.size B4
      clear h0 h1 h2 LV BV B4
      have ⟨z0, a0, b0, c0, f0⟩ := g0
      have ⟨z1, a1, b1, c1, f1⟩ := g1
      have ⟨z2, a2, b2, c2, f2⟩ := g2
      have HX : Hid (_ ∧ _ ∧ _ ∧ _ ∧ _ ∧ _) := ⟨BG.alloc BG.size (bxP x), g0.alloc (bxP x), g1.alloc (bxP x), g2.alloc (bxP x), Tb.new' w4 x 24 _ rfl, LG.alloc (bxP x)⟩
      clear BG LG g0 g1 g2
      go_wp2_with fail
      refine callsOf (fun W => Below w.heap.size w W ∧ Tb w.heap.size p W ∧ Tb n1 i W ∧ Tb n2 p W ∧ Tb w4.heap.size x W ∧ Li W) HX.out ?_
      rintro v4 ⟨BV, h0, h1, h2, h3, LV⟩
      obtain ⟨n3, hn⟩ : ∃ n, w4.heap.size = n := ⟨_, rfl⟩
      rw [hn] at h3 ⊢
      clear HX hn z0 a0 b0 c0 f0 z1 a1 b1 c1 f1 z2 a2 b2 c2 f2 w4
      refine (C3 _ LV).mono ?_
      rintro e w5 ⟨rfl, B5⟩
      have g0 := h0.below B5
      have g1 := h1.below B5
      have g2 := h2.below B5
      have g3 := h3.below B5
      have LG := LV.below B5
      have BG := belowStep BV BV.size B5
      clear h0 h1 h2 h3 LV BV B5
      have ⟨z0, a0, b0, c0, f0⟩ := g0
      have ⟨z1, a1, b1, c1, f1⟩ := g1
      have ⟨z2, a2, b2, c2, f2⟩ := g2
      have ⟨z3, a3, b3, c3, f3⟩ := g3
      have HX : Hid (_ ∧ _ ∧ _ ∧ _ ∧ _ ∧ _ ∧ _) := ⟨BG.alloc BG.size (bxP d), g0.alloc (bxP d), g1.alloc (bxP d), g2.alloc (bxP d), g3.alloc (bxP d), Tb.new' w5 d 24 _ rfl, LG.alloc (bxP d)⟩
      clear BG LG g0 g1 g2 g3
      go_wp2_with fail
      refine callsOf (fun W => Below w.heap.size w W ∧ Tb w.heap.size p W ∧ Tb n1 i W ∧ Tb n2 p W ∧ Tb n3 x W ∧ Tb w5.heap.size d W ∧ Li W) HX.out ?_
      rintro v5 ⟨BV, h0, h1, h2, h3, h4, LV⟩
      obtain ⟨n4, hn⟩ : ∃ n, w5.heap.size = n := ⟨_, rfl⟩
      rw [hn] at h4 ⊢
      clear HX hn z0 a0 b0 c0 f0 z1 a1 b1 c1 f1 z2 a2 b2 c2 f2 z3 a3 b3 c3 f3 w5
      refine (C4 _ LV).mono ?_
      rintro e w6 ⟨rfl, B6⟩
      have g0 := h0.below B6
      have g1 := h1.below B6
      have g2 := h2.below B6
      have g3 := h3.below B6
      have g4 := h4.below B6
      have LG := LV.below B6
      have BG := belowStep BV BV.size B6
      clear h0 h1 h2 h3 h4 LV BV B6
      have ⟨z0, a0, b0, c0, f0⟩ := g0
      have ⟨z1, a1, b1, c1, f1⟩ := g1
      have ⟨z2, a2, b2, c2, f2⟩ := g2
      have ⟨z3, a3, b3, c3, f3⟩ := g3
      have ⟨z4, a4, b4, c4, f4⟩ := g4
      have HX : Hid (_ ∧ _ ∧ _ ∧ _ ∧ _ ∧ _ ∧ _ ∧ _) := ⟨BG.alloc BG.size (bxP x), g0.alloc (bxP x), g1.alloc (bxP x), g2.alloc (bxP x), g3.alloc (bxP x), g4.alloc (bxP x), Tb.new' w6 x 24 _ rfl, LG.alloc (bxP x)⟩
      clear BG LG g0 g1 g2 g3 g4
      go_wp2_with fail
      refine callsOf (fun W => Below w.heap.size w W ∧ Tb w.heap.size p W ∧ Tb n1 i W ∧ Tb n2 p W ∧ Tb n3 x W ∧ Tb n4 d W ∧ Tb w6.heap.size x W ∧ Li W) HX.out ?_
      rintro v6 ⟨BV, h0, h1, h2, h3, h4, h5, LV⟩
      obtain ⟨n5, hn⟩ : ∃ n, w6.heap.size = n := ⟨_, rfl⟩
      rw [hn] at h5 ⊢
      clear HX hn z0 a0 b0 c0 f0 z1 a1 b1 c1 f1 z2 a2 b2 c2 f2 z3 a3 b3 c3 f3 z4 a4 b4 c4 f4 w6
      refine (C5 _ LV).mono ?_
      rintro e w7 ⟨rfl, B7⟩
      have g0 := h0.below B7
      have g1 := h1.below B7
      have g2 := h2.below B7
      have g3 := h3.below B7
      have g4 := h4.below B7
      have g5 := h5.below B7
      have LG := LV.below B7
      have BG := belowStep BV BV.size B7
      clear h0 h1 h2 h3 h4 h5 LV BV B7
      have ⟨z0, a0, b0, c0, f0⟩ := g0
      have ⟨z1, a1, b1, c1, f1⟩ := g1
      have ⟨z2, a2, b2, c2, f2⟩ := g2
      have ⟨z3, a3, b3, c3, f3⟩ := g3
      have ⟨z4, a4, b4, c4, f4⟩ := g4
      have ⟨z5, a5, b5, c5, f5⟩ := g5
      have HX : Hid (_ ∧ _ ∧ _ ∧ _ ∧ _ ∧ _ ∧ _ ∧ _) := ⟨BG, g0, g1, g2, g3, g4, g5, LG⟩
      clear BG LG g0 g1 g2 g3 g4 g5
      go_wp2_with fail
      obtain ⟨BV, h0, h1, h2, h3, h4, h5, LV⟩ := HX.out
      clear HX z0 a0 b0 c0 f0 z1 a1 b1 c1 f1 z2 a2 b2 c2 f2 z3 a3 b3 c3 f3 z4 a4 b4 c4 f4 z5 a5 b5 c5 f5
      refine (C6 _ LV).mono ?_
      rintro e w8 ⟨rfl, B8⟩
      have g0 := h0.below B8
      have g1 := h1.below B8
      have g2 := h2.below B8
      have g3 := h3.below B8
      have g4 := h4.below B8
      have g5 := h5.below B8
      have LG := LV.below B8
      have BG := belowStep BV BV.size B8
      clear h0 h1 h2 h3 h4 h5 LV BV B8
      have ⟨z0, a0, b0, c0, f0⟩ := g0
      have ⟨z1, a1, b1, c1, f1⟩ := g1
      have ⟨z2, a2, b2, c2, f2⟩ := g2
      have ⟨z3, a3, b3, c3, f3⟩ := g3
      have ⟨z4, a4, b4, c4, f4⟩ := g4
      have ⟨z5, a5, b5, c5, f5⟩ := g5
      have HX : Hid (_ ∧ _ ∧ _ ∧ _ ∧ _ ∧ _ ∧ _ ∧ _ ∧ _) := ⟨BG.alloc BG.size (bxP d), g0.alloc (bxP d), g1.alloc (bxP d), g2.alloc (bxP d), g3.alloc (bxP d), g4.alloc (bxP d), g5.alloc (bxP d), Tb.new' w8 d 24 _ rfl, LG.alloc (bxP d)⟩
      clear BG LG g0 g1 g2 g3 g4 g5
      go_wp2_with fail
      go_ret
      exact ⟨by simp, HX.out.1⟩
    | false =>
      rw [if_neg (by simp)] at C6
      go_enter Tryd.func8, Tryd.ntmps8
      go_wp2_with fail
      refine callsOf (fun W => Below w.heap.size w W ∧ Tb w.heap.size p W ∧ Li W) ⟨by go_grown, Tb.new' w p 24 _ rfl, (hL).alloc _⟩ ?_
      rintro w0 ⟨BV, h0, LV⟩
      refine (shown_any _ LV).mono ?_
      rintro e w1 ⟨rfl, B1⟩
      have g0 := h0.below B1
      have LG := LV.below B1
      have BG := belowStep BV BV.size B1
      clear h0 LV BV B1
      have ⟨z0, a0, b0, c0, f0⟩ := g0
      have HX : Hid (_ ∧ _ ∧ _) := ⟨BG, g0, LG⟩
      clear BG LG g0
      go_wp2_with fail
      obtain ⟨BV, h0, LV⟩ := HX.out
      clear HX z0 a0 b0 c0 f0
      refine (C0 _ LV).mono ?_
      rintro e w2 ⟨rfl, B2⟩
      have g0 := h0.below B2
      have LG := LV.below B2
      have BG := belowStep BV BV.size B2
      clear h0 LV BV B2
      have ⟨z0, a0, b0, c0, f0⟩ := g0
      have HX : Hid (_ ∧ _ ∧ _ ∧ _) := ⟨BG.alloc BG.size (bxP i), g0.alloc (bxP i), Tb.new' w2 i 24 _ rfl, LG.alloc (bxP i)⟩
      clear BG LG g0
      go_wp2_with fail
      refine callsOf (fun W => Below w.heap.size w W ∧ Tb w.heap.size p W ∧ Tb w2.heap.size i W ∧ Li W) HX.out ?_
      rintro v2 ⟨BV, h0, h1, LV⟩
      obtain ⟨n1, hn⟩ : ∃ n, w2.heap.size = n := ⟨_, rfl⟩
      rw [hn] at h1 ⊢
      clear HX hn z0 a0 b0 c0 f0 w2
      refine (C1 _ LV).mono ?_
      rintro e w3 ⟨rfl, B3⟩
      have g0 := h0.below B3
      have g1 := h1.below B3
      have LG := LV.below B3
      have BG := belowStep BV BV.size B3
      clear h0 h1 LV BV B3
      have ⟨z0, a0, b0, c0, f0⟩ := g0
      have ⟨z1, a1, b1, c1, f1⟩ := g1
      have HX : Hid (_ ∧ _ ∧ _ ∧ _ ∧ _) := ⟨BG.alloc BG.size (bxP p), g0.alloc (bxP p), g1.alloc (bxP p), Tb.new' w3 p 24 _ rfl, LG.alloc (bxP p)⟩
      clear BG LG g0 g1
      go_wp2_with fail
      refine callsOf (fun W => Below w.heap.size w W ∧ Tb w.heap.size p W ∧ Tb n1 i W ∧ Tb w3.heap.size p W ∧ Li W) HX.out ?_
      rintro v3 ⟨BV, h0, h1, h2, LV⟩
      obtain ⟨n2, hn⟩ : ∃ n, w3.heap.size = n := ⟨_, rfl⟩
      rw [hn] at h2 ⊢
      clear HX hn z0 a0 b0 c0 f0 z1 a1 b1 c1 f1 w3
      refine (C2 _ LV).mono ?_
      rintro e w4 ⟨rfl, B4⟩
      have g0 := h0.below B4
      have g1 := h1.below B4
      have g2 := h2.below B4
      have LG := LV.below B4
      have BG := belowStep BV BV.size B4
      clear h0 h1 h2 LV BV B4
      have ⟨z0, a0, b0, c0, f0⟩ := g0
      have ⟨z1, a1, b1, c1, f1⟩ := g1
      have ⟨z2, a2, b2, c2, f2⟩ := g2
      have HX : Hid (_ ∧ _ ∧ _ ∧ _ ∧ _ ∧ _) := ⟨BG.alloc BG.size (bxP x), g0.alloc (bxP x), g1.alloc (bxP x), g2.alloc (bxP x), Tb.new' w4 x 24 _ rfl, LG.alloc (bxP x)⟩
      clear BG LG g0 g1 g2
      go_wp2_with fail
      refine callsOf (fun W => Below w.heap.size w W ∧ Tb w.heap.size p W ∧ Tb n1 i W ∧ Tb n2 p W ∧ Tb w4.heap.size x W ∧ Li W) HX.out ?_
      rintro v4 ⟨BV, h0, h1, h2, h3, LV⟩
      obtain ⟨n3, hn⟩ : ∃ n, w4.heap.size = n := ⟨_, rfl⟩
      rw [hn] at h3 ⊢
      clear HX hn z0 a0 b0 c0 f0 z1 a1 b1 c1 f1 z2 a2 b2 c2 f2 w4
      refine (C3 _ LV).mono ?_
      rintro e w5 ⟨rfl, B5⟩
      have g0 := h0.below B5
      have g1 := h1.below B5
      have g2 := h2.below B5
      have g3 := h3.below B5
      have LG := LV.below B5
      have BG := belowStep BV BV.size B5
      clear h0 h1 h2 h3 LV BV B5
      have ⟨z0, a0, b0, c0, f0⟩ := g0
      have ⟨z1, a1, b1, c1, f1⟩ := g1
      have ⟨z2, a2, b2, c2, f2⟩ := g2
      have ⟨z3, a3, b3, c3, f3⟩ := g3
      have HX : Hid (_ ∧ _ ∧ _ ∧ _ ∧ _ ∧ _ ∧ _) := ⟨BG.alloc BG.size (bxP d), g0.alloc (bxP d), g1.alloc (bxP d), g2.alloc (bxP d), g3.alloc (bxP d), Tb.new' w5 d 24 _ rfl, LG.alloc (bxP d)⟩
      clear BG LG g0 g1 g2 g3
      go_wp2_with fail
      refine callsOf (fun W => Below w.heap.size w W ∧ Tb w.heap.size p W ∧ Tb n1 i W ∧ Tb n2 p W ∧ Tb n3 x W ∧ Tb w5.heap.size d W ∧ Li W) HX.out ?_
      rintro v5 ⟨BV, h0, h1, h2, h3, h4, LV⟩
      obtain ⟨n4, hn⟩ : ∃ n, w5.heap.size = n := ⟨_, rfl⟩
      rw [hn] at h4 ⊢
      clear HX hn z0 a0 b0 c0 f0 z1 a1 b1 c1 f1 z2 a2 b2 c2 f2 z3 a3 b3 c3 f3 w5
      refine (C4 _ LV).mono ?_
      rintro e w6 ⟨rfl, B6⟩
      have g0 := h0.below B6
      have g1 := h1.below B6
      have g2 := h2.below B6
      have g3 := h3.below B6
      have g4 := h4.below B6
      have LG := LV.below B6
      have BG := belowStep BV BV.size B6
      clear h0 h1 h2 h3 h4 LV BV B6
      have ⟨z0, a0, b0, c0, f0⟩ := g0
      have ⟨z1, a1, b1, c1, f1⟩ := g1
      have ⟨z2, a2, b2, c2, f2⟩ := g2
      have ⟨z3, a3, b3, c3, f3⟩ := g3
      have ⟨z4, a4, b4, c4, f4⟩ := g4
      have HX : Hid (_ ∧ _ ∧ _ ∧ _ ∧ _ ∧ _ ∧ _ ∧ _) := ⟨BG.alloc BG.size (bxP x), g0.alloc (bxP x), g1.alloc (bxP x), g2.alloc (bxP x), g3.alloc (bxP x), g4.alloc (bxP x), Tb.new' w6 x 24 _ rfl, LG.alloc (bxP x)⟩
      clear BG LG g0 g1 g2 g3 g4
      go_wp2_with fail
      refine callsOf (fun W => Below w.heap.size w W ∧ Tb w.heap.size p W ∧ Tb n1 i W ∧ Tb n2 p W ∧ Tb n3 x W ∧ Tb n4 d W ∧ Tb w6.heap.size x W ∧ Li W) HX.out ?_
      rintro v6 ⟨BV, h0, h1, h2, h3, h4, h5, LV⟩
      obtain ⟨n5, hn⟩ : ∃ n, w6.heap.size = n := ⟨_, rfl⟩
      rw [hn] at h5 ⊢
      clear HX hn z0 a0 b0 c0 f0 z1 a1 b1 c1 f1 z2 a2 b2 c2 f2 z3 a3 b3 c3 f3 z4 a4 b4 c4 f4 w6
      refine (C5 _ LV).mono ?_
      rintro e w7 ⟨rfl, B7⟩
      have g0 := h0.below B7
      have g1 := h1.below B7
      have g2 := h2.below B7
      have g3 := h3.below B7
      have g4 := h4.below B7
      have g5 := h5.below B7
      have LG := LV.below B7
      have BG := belowStep BV BV.size B7
      clear h0 h1 h2 h3 h4 h5 LV BV B7
      have ⟨z0, a0, b0, c0, f0⟩ := g0
      have ⟨z1, a1, b1, c1, f1⟩ := g1
      have ⟨z2, a2, b2, c2, f2⟩ := g2
      have ⟨z3, a3, b3, c3, f3⟩ := g3
      have ⟨z4, a4, b4, c4, f4⟩ := g4
      have ⟨z5, a5, b5, c5, f5⟩ := g5
      have HX : Hid (_ ∧ _ ∧ _ ∧ _ ∧ _ ∧ _ ∧ _ ∧ _) := ⟨BG, g0, g1, g2, g3, g4, g5, LG⟩
      clear BG LG g0 g1 g2 g3 g4 g5
      go_wp2_with fail
      obtain ⟨BV, h0, h1, h2, h3, h4, h5, LV⟩ := HX.out
      clear HX z0 a0 b0 c0 f0 z1 a1 b1 c1 f1 z2 a2 b2 c2 f2 z3 a3 b3 c3 f3 z4 a4 b4 c4 f4 z5 a5 b5 c5 f5
      refine (C6 _ LV).mono ?_
      rintro e w8 ⟨rfl, B8⟩
      have g0 := h0.below B8
      have g1 := h1.below B8
      have g2 := h2.below B8
      have g3 := h3.below B8
      have g4 := h4.below B8
      have g5 := h5.below B8
      have LG := LV.below B8
      have BG := belowStep BV BV.size B8
      clear h0 h1 h2 h3 h4 h5 LV BV B8
      have ⟨z0, a0, b0, c0, f0⟩ := g0
      have ⟨z1, a1, b1, c1, f1⟩ := g1
      have ⟨z2, a2, b2, c2, f2⟩ := g2
      have ⟨z3, a3, b3, c3, f3⟩ := g3
      have ⟨z4, a4, b4, c4, f4⟩ := g4
      have ⟨z5, a5, b5, c5, f5⟩ := g5
      have HX : Hid (_ ∧ _ ∧ _ ∧ _ ∧ _ ∧ _ ∧ _ ∧ _ ∧ _) := ⟨BG.alloc BG.size (bxP oP), g0.alloc (bxP oP), g1.alloc (bxP oP), g2.alloc (bxP oP), g3.alloc (bxP oP), g4.alloc (bxP oP), g5.alloc (bxP oP), Tb.new' w8 oP 24 _ rfl, LG.alloc (bxP oP)⟩
      clear BG LG g0 g1 g2 g3 g4 g5
      go_wp2_with fail
      go_ret
      exact ⟨by simp, HX.out.1⟩
end Go.Proofs.YtlcdlegdnibcaaaDoor
