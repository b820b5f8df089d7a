/- The walk of PairNone. No condition. -/
import Derived.Test.YteknhghmliihhaaDoorJ14
namespace Go.Proofs.YteknhghmliihhaaDoor
open Go.RowKit Go.Shelf Go.Sort

theorem Pb.alloc {n : Nat} {x : P2} {W : World} (h : Pb n x W) (o : Obj) : Pb n x (W.alloc o) := h.below ((Below.refl _ _).alloc (Nat.le_refl _) _)
abbrev bxP (r : Pt) : Obj := .cells #[.int .u64 (r.X : Int), .int .u64 (r.Y : Int), .bool r.I] 24
abbrev bxQ (r : P2) : Obj := .cells #[.int .u64 (r.A : Int), .int .u64 (r.B : Int)] 27
theorem ut_inf : UT iN := ⟨by decide, by decide⟩
theorem on_inf : onN iN = true := by decide
theorem gr_inf : grN iN = true := by
  have e : grN iN = (onN iN && decide (tmN iN 536870717 = iN)) := rfl
  rw [e, tm_inf, on_inf, decide_eq_true rfl]
  rfl

set_option maxRecDepth 20000 in
set_option maxHeartbeats 8000000 in
theorem pnone_any (p : Pt) (hp : UT p) (w : World) (hL : Lp w) :
    Calls Tryd.prog 6 #[vT p] w fun e w' => e = .returned (.bool true) ∧ Below w.heap.size w w' := by
  have C1 := pPair_any p iN hp ut_inf
  have C2 := pPair_any iN p ut_inf hp
  have C3 := pSame_any p p p p hp hp hp hp
  unfold prV at C1 C2
  unfold saV saB at C3
  rw [gr_inf, Bool.and_true] at C1
  rw [gr_inf, Bool.true_and] at C2
  rw [Bool.and_self, Bool.and_self] at C3
  cases ho : grN p
  · rw [ho] at C1 C2 C3
    rw [if_neg (by simp)] at C1 C2 C3
    obtain ⟨i, hi⟩ : ∃ i, iN = i := ⟨_, rfl⟩
    rw [hi] at C1 C2
    clear ho hp
    go_enter Tryd.func6, Tryd.ntmps6
    go_wp2_with fail
    refine callsOf (fun W => Below w.heap.size w W ∧ Tb w.heap.size p W ∧ Lp W) ⟨by go_grown, Tb.new' w p 24 _ rfl, (hL).alloc _⟩ ?_
    rintro w0 ⟨BV, h0, LV⟩
    refine (shown11_any _ LV).mono ?_
    rintro e w1 ⟨rfl, B1⟩
    have g0 := h0.below B1
    have LG := LV.below B1
    have BG := belowStep BV BV.size B1
    clear h0 LV BV B1
    have ⟨zz0, a0, b0, c0, f0⟩ := g0
    have HX : Hid (_ ∧ _ ∧ _ ∧ _) := ⟨BG.alloc BG.size (bxP iN), g0.alloc (bxP iN), Tb.new' w1 iN 24 _ rfl, LG.alloc (bxP iN)⟩
    clear BG LG g0
    go_wp2_with fail
    refine callsOf (fun W => Below w.heap.size w W ∧ Tb w.heap.size p W ∧ Tb w1.heap.size iN W ∧ Lp W) HX.out ?_
    rintro v1 ⟨BV, h0, h1, LV⟩
    obtain ⟨n1, hn⟩ : ∃ n, w1.heap.size = n := ⟨_, rfl⟩
    rw [hn] at h1 ⊢
    clear HX hn zz0 a0 b0 c0 f0 w1
    rw [hi] at h1
    show Calls Tryd.prog 11 #[vT p, vT iN] _ _
    rw [hi]
    clear hi
    refine (C1 _ LV).mono ?_
    rintro e w2 ⟨rfl, B2⟩
    have g0 := h0.below B2
    have g1 := h1.below B2
    have LG := LV.below B2
    have BG := belowStep BV BV.size B2
    clear h0 h1 LV BV B2
    have ⟨zz0, a0, b0, c0, f0⟩ := g0
    have ⟨zz1, a1, b1, c1, f1⟩ := g1
    have HX : Hid (_ ∧ _ ∧ _ ∧ _ ∧ _) := ⟨BG.alloc BG.size (bxQ z2), g0.alloc (bxQ z2), g1.alloc (bxQ z2), Pb.new' w2 z2 27 _ rfl, LG.alloc (bxQ z2)⟩
    clear BG LG g0 g1
    go_wp2_with fail
    refine callsOf (fun W => Below w.heap.size w W ∧ Tb w.heap.size p W ∧ Tb n1 i W ∧ Pb w2.heap.size z2 W ∧ Lp W) HX.out ?_
    rintro v2 ⟨BV, h0, h1, h2, LV⟩
    obtain ⟨n2, hn⟩ : ∃ n, w2.heap.size = n := ⟨_, rfl⟩
    rw [hn] at h2 ⊢
    clear HX hn zz0 a0 b0 c0 f0 zz1 a1 b1 c1 f1 w2
    refine (C2 _ LV).mono ?_
    rintro e w3 ⟨rfl, B3⟩
    have g0 := h0.below B3
    have g1 := h1.below B3
    have g2 := h2.below B3
    have LG := LV.below B3
    have BG := belowStep BV BV.size B3
    clear h0 h1 h2 LV BV B3
    have ⟨zz0, a0, b0, c0, f0⟩ := g0
    have ⟨zz1, a1, b1, c1, f1⟩ := g1
    have ⟨zz2, a2, b2, f2⟩ := g2
    have HX : Hid (_ ∧ _ ∧ _ ∧ _ ∧ _ ∧ _) := ⟨BG.alloc BG.size (bxQ z2), g0.alloc (bxQ z2), g1.alloc (bxQ z2), g2.alloc (bxQ z2), Pb.new' w3 z2 27 _ rfl, LG.alloc (bxQ z2)⟩
    clear BG LG g0 g1 g2
    go_wp2_with fail
    refine callsOf (fun W => Below w.heap.size w W ∧ Tb w.heap.size p W ∧ Tb n1 i W ∧ Pb n2 z2 W ∧ Pb w3.heap.size z2 W ∧ Lp W) HX.out ?_
    rintro v3 ⟨BV, h0, h1, h2, h3, LV⟩
    obtain ⟨n3, hn⟩ : ∃ n, w3.heap.size = n := ⟨_, rfl⟩
    rw [hn] at h3 ⊢
    clear HX hn zz0 a0 b0 c0 f0 zz1 a1 b1 c1 f1 zz2 a2 b2 f2 w3
    refine (C3 _ LV).mono ?_
    rintro e w4 ⟨rfl, B4⟩
    have g0 := h0.below B4
    have g1 := h1.below B4
    have g2 := h2.below B4
    have g3 := h3.below B4
    have LG := LV.below B4
    have BG := belowStep BV BV.size B4
    clear h0 h1 h2 h3 LV BV B4
    have ⟨zz0, a0, b0, c0, f0⟩ := g0
    have ⟨zz1, a1, b1, c1, f1⟩ := g1
    have ⟨zz2, a2, b2, f2⟩ := g2
    have ⟨zz3, a3, b3, f3⟩ := g3
    have HX : Hid (_ ∧ _ ∧ _ ∧ _ ∧ _ ∧ _) := ⟨BG, g0, g1, g2, g3, LG⟩
    clear BG LG g0 g1 g2 g3
    go_wp2_with fail
    obtain ⟨BV, h0, h1, h2, h3, LV⟩ := HX.out
    go_ret
    exact ⟨by simp, BV⟩
  · rw [ho] at C1 C2 C3
    rw [if_pos rfl] at C1 C2 C3
    rw [eqP_iff.2 rfl] at C3
    have e1 : prN p iN = o2 := by unfold prN; rw [if_pos (.inr rfl)]
    have e2 : prN iN p = o2 := by unfold prN; rw [if_pos (.inl rfl)]
    rw [e1] at C1
    rw [e2] at C2
    have E1 := eqlP o2 o2
    rw [eqP_iff.2 rfl] at E1
    have E2 : ∀ W : World, (binOp .eql 27 (vP o2) (.agg #[.int .u64 1, .int .u64 0])).run Tryd.prog W = .ok (.bool true) W := E1
    obtain ⟨i, hi⟩ : ∃ i, iN = i := ⟨_, rfl⟩
    rw [hi] at C1 C2
    obtain ⟨r, hr⟩ : ∃ r, o2 = r := ⟨_, rfl⟩
    rw [hr] at C1 C2 E1 E2
    clear ho hp e1 e2 hr
    go_enter Tryd.func6, Tryd.ntmps6
    go_wp2_with fail
    refine callsOf (fun W => Below w.heap.size w W ∧ Tb w.heap.size p W ∧ Lp W) ⟨by go_grown, Tb.new' w p 24 _ rfl, (hL).alloc _⟩ ?_
    rintro w0 ⟨BV, h0, LV⟩
    refine (shown11_any _ LV).mono ?_
    rintro e w1 ⟨rfl, B1⟩
    have g0 := h0.below B1
    have LG := LV.below B1
    have BG := belowStep BV BV.size B1
    clear h0 LV BV B1
    have ⟨zz0, a0, b0, c0, f0⟩ := g0
    have HX : Hid (_ ∧ _ ∧ _ ∧ _) := ⟨BG.alloc BG.size (bxP iN), g0.alloc (bxP iN), Tb.new' w1 iN 24 _ rfl, LG.alloc (bxP iN)⟩
    clear BG LG g0
    go_wp2_with fail
    refine callsOf (fun W => Below w.heap.size w W ∧ Tb w.heap.size p W ∧ Tb w1.heap.size iN W ∧ Lp W) HX.out ?_
    rintro v1 ⟨BV, h0, h1, LV⟩
    obtain ⟨n1, hn⟩ : ∃ n, w1.heap.size = n := ⟨_, rfl⟩
    rw [hn] at h1 ⊢
    clear HX hn zz0 a0 b0 c0 f0 w1
    rw [hi] at h1
    show Calls Tryd.prog 11 #[vT p, vT iN] _ _
    rw [hi]
    clear hi
    refine (C1 _ LV).mono ?_
    rintro e w2 ⟨rfl, B2⟩
    have g0 := h0.below B2
    have g1 := h1.below B2
    have LG := LV.below B2
    have BG := belowStep BV BV.size B2
    clear h0 h1 LV BV B2
    have ⟨zz0, a0, b0, c0, f0⟩ := g0
    have ⟨zz1, a1, b1, c1, f1⟩ := g1
    have HX : Hid (_ ∧ _ ∧ _ ∧ _ ∧ _) := ⟨BG.alloc BG.size (bxQ r), g0.alloc (bxQ r), g1.alloc (bxQ r), Pb.new' w2 r 27 _ rfl, LG.alloc (bxQ r)⟩
    clear BG LG g0 g1
    go_wp2_with fail
    refine callsOf (fun W => Below w.heap.size w W ∧ Tb w.heap.size p W ∧ Tb n1 i W ∧ Pb w2.heap.size r W ∧ Lp W) HX.out ?_
    rintro v2 ⟨BV, h0, h1, h2, LV⟩
    obtain ⟨n2, hn⟩ : ∃ n, w2.heap.size = n := ⟨_, rfl⟩
    rw [hn] at h2 ⊢
    clear HX hn zz0 a0 b0 c0 f0 zz1 a1 b1 c1 f1 w2
    refine (C2 _ LV).mono ?_
    rintro e w3 ⟨rfl, B3⟩
    have g0 := h0.below B3
    have g1 := h1.below B3
    have g2 := h2.below B3
    have LG := LV.below B3
    have BG := belowStep BV BV.size B3
    clear h0 h1 h2 LV BV B3
    have ⟨zz0, a0, b0, c0, f0⟩ := g0
    have ⟨zz1, a1, b1, c1, f1⟩ := g1
    have ⟨zz2, a2, b2, f2⟩ := g2
    have HX : Hid (_ ∧ _ ∧ _ ∧ _ ∧ _ ∧ _) := ⟨BG.alloc BG.size (bxQ r), g0.alloc (bxQ r), g1.alloc (bxQ r), g2.alloc (bxQ r), Pb.new' w3 r 27 _ rfl, LG.alloc (bxQ r)⟩
    clear BG LG g0 g1 g2
    go_wp2_with fail
    refine callsOf (fun W => Below w.heap.size w W ∧ Tb w.heap.size p W ∧ Tb n1 i W ∧ Pb n2 r W ∧ Pb w3.heap.size r W ∧ Lp W) HX.out ?_
    rintro v3 ⟨BV, h0, h1, h2, h3, LV⟩
    obtain ⟨n3, hn⟩ : ∃ n, w3.heap.size = n := ⟨_, rfl⟩
    rw [hn] at h3 ⊢
    clear HX hn zz0 a0 b0 c0 f0 zz1 a1 b1 c1 f1 zz2 a2 b2 f2 w3
    refine (C3 _ LV).mono ?_
    rintro e w4 ⟨rfl, B4⟩
    have g0 := h0.below B4
    have g1 := h1.below B4
    have g2 := h2.below B4
    have g3 := h3.below B4
    have LG := LV.below B4
    have BG := belowStep BV BV.size B4
    clear h0 h1 h2 h3 LV BV B4
    have ⟨zz0, a0, b0, c0, f0⟩ := g0
    have ⟨zz1, a1, b1, c1, f1⟩ := g1
    have ⟨zz2, a2, b2, f2⟩ := g2
    have ⟨zz3, a3, b3, f3⟩ := g3
    have HX : Hid (_ ∧ _ ∧ _ ∧ _ ∧ _ ∧ _) := ⟨BG, g0, g1, g2, g3, LG⟩
    clear BG LG g0 g1 g2 g3
    go_wp2_with fail
    obtain ⟨BV, h0, h1, h2, h3, LV⟩ := HX.out
    go_ret
    exact ⟨by simp, BV⟩
end Go.Proofs.YteknhghmliihhaaDoor
