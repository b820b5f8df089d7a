/- What the package pair's Pair does. No condition. -/
import Derived.Test.YteknhghmliihhaaDoorJ6
namespace Go.Proofs.YteknhghmliihhaaDoor
open Go.RowKit Go.Shelf Go.Sort

def prV (p q : Pt) : Value := if (grN p && grN q) = true then okP (prN p q) else erP
theorem gr_on {p : Pt} (h : grN p = true) : onN p = true := by
  have e : grN p = (onN p && decide (tmN p 536870717 = iN)) := rfl
  rw [e] at h
  exact (Bool.and_eq_true_iff.1 h).1

set_option maxRecDepth 20000 in
set_option maxHeartbeats 4000000 in
theorem pPair1 (p q : Pt) (up : UT p) (hp : grN p = false) (w : World) (hL : Lp w) :
    Calls Tryd.prog 11 #[vT p, vT q] w fun e w' => e = .returned (erP) ∧ Below w.heap.size w w' := by
  have C1 := ingroup_any p up
  rw [hp] at C1
  clear up hp
  go_enter Tryd.func11, Tryd.ntmps11
  go_wp2_with fail
  refine callsOf (fun V => Below w.heap.size w V ∧ Tb w.heap.size p V ∧ Tb (w.heap.size + 1) q V ∧ Pb (w.heap.size + 1 + 1) z2 V ∧ Lp V) ⟨by go_grown, ((Tb.new' w p 24 _ rfl).alloc _).alloc _, (Tb.new' _ q 24 _ (by simp)).alloc _, Pb.new' _ z2 27 _ (by simp), ((hL.alloc _).alloc _).alloc _⟩ ?_
  rintro V ⟨BV, hA, hB, hO, hLV⟩
  have H0 : Hid (_ ∧ _ ∧ _ ∧ _ ∧ _) := ⟨BV, hA, hB, hO, hLV⟩
  clear BV hA hB hO hLV hL
  refine (C1 _ H0.out.2.2.2.2.l).mono ?_
  rintro e w1 ⟨rfl, B1⟩
  obtain ⟨BW, hA, hB, hO, hLV⟩ := H0.out
  have BW' := belowStep BW BW.size B1
  have A' := hA.below B1
  have D' := hB.below B1
  have O' := hO.below B1
  have L' := hLV.below B1
  have H1 : Hid (_ ∧ _ ∧ _ ∧ _ ∧ _) := ⟨BW', A', D', O', L'⟩
  clear BW hA hB hO hLV H0 BW' A' D' O' L' B1
  obtain ⟨BW, hA, hB, hO, hLV⟩ := H1.out
  have lq := hLV.ne
  obtain ⟨z, a, b, f⟩ := hO
  clear hA hB hLV H1
  go_wp2_with fail
  refine bodyPost_ret (v := erP) (by simp [results, Tryd.results11, go_sem, z2, *]) rfl ⟨rfl, ?_⟩
  exact (BW.setCell (p := ⟨w.heap.size + 1 + 1, 0, none⟩) (by show _ ≤ w.heap.size + 1 + 1; omega) _).setCell (p := ⟨w.heap.size + 1 + 1, 1, none⟩) (by show _ ≤ w.heap.size + 1 + 1; omega) _

set_option maxRecDepth 20000 in
set_option maxHeartbeats 4000000 in
theorem pPair2 (p q : Pt) (up : UT p) (uq : UT q) (hp : grN p = true) (hq : grN q = false) (w : World) (hL : Lp w) :
    Calls Tryd.prog 11 #[vT p, vT q] w fun e w' => e = .returned (erP) ∧ Below w.heap.size w w' := by
  have C1 := ingroup_any p up
  rw [hp] at C1
  have C2 := ingroup_any q uq
  rw [hq] at C2
  clear up uq hp hq
  go_enter Tryd.func11, Tryd.ntmps11
  go_wp2_with fail
  refine callsOf (fun V => Below w.heap.size w V ∧ Tb w.heap.size p V ∧ Tb (w.heap.size + 1) q V ∧ Pb (w.heap.size + 1 + 1) z2 V ∧ Lp V) ⟨by go_grown, ((Tb.new' w p 24 _ rfl).alloc _).alloc _, (Tb.new' _ q 24 _ (by simp)).alloc _, Pb.new' _ z2 27 _ (by simp), ((hL.alloc _).alloc _).alloc _⟩ ?_
  rintro V ⟨BV, hA, hB, hO, hLV⟩
  have H0 : Hid (_ ∧ _ ∧ _ ∧ _ ∧ _) := ⟨BV, hA, hB, hO, hLV⟩
  clear BV hA hB hO hLV hL
  refine (C1 _ H0.out.2.2.2.2.l).mono ?_
  rintro e w1 ⟨rfl, B1⟩
  obtain ⟨BW, hA, hB, hO, hLV⟩ := H0.out
  have BW' := belowStep BW BW.size B1
  have A' := hA.below B1
  have D' := hB.below B1
  have O' := hO.below B1
  have L' := hLV.below B1
  have H1 : Hid (_ ∧ _ ∧ _ ∧ _ ∧ _) := ⟨BW', A', D', O', L'⟩
  clear BW hA hB hO hLV H0 BW' A' D' O' L' B1
  have ⟨_, ba, bb, bc, bf⟩ := H1.out.2.2.1
  go_wp2_with fail
  refine (C2 _ H1.out.2.2.2.2.l).mono ?_
  clear ba bb bc bf
  rintro e w2 ⟨rfl, B2⟩
  obtain ⟨BW, hA, hB, hO, hLV⟩ := H1.out
  have BW' := belowStep BW BW.size B2
  have A' := hA.below B2
  have D' := hB.below B2
  have O' := hO.below B2
  have L' := hLV.below B2
  have H2 : Hid (_ ∧ _ ∧ _ ∧ _ ∧ _) := ⟨BW', A', D', O', L'⟩
  clear BW hA hB hO hLV H1 BW' A' D' O' L' B2
  obtain ⟨BW, hA, hB, hO, hLV⟩ := H2.out
  have lq := hLV.ne
  obtain ⟨z, a, b, f⟩ := hO
  clear hA hB hLV H2
  go_wp2_with fail
  refine bodyPost_ret (v := erP) (by simp [results, Tryd.results11, go_sem, z2, *]) rfl ⟨rfl, ?_⟩
  exact (BW.setCell (p := ⟨w.heap.size + 1 + 1, 0, none⟩) (by show _ ≤ w.heap.size + 1 + 1; omega) _).setCell (p := ⟨w.heap.size + 1 + 1, 1, none⟩) (by show _ ≤ w.heap.size + 1 + 1; omega) _

set_option maxRecDepth 20000 in
set_option maxHeartbeats 4000000 in
theorem pPair3 (p q : Pt) (up : UT p) (uq : UT q) (hp : grN p = true) (hq : grN q = true) (h1 : p = iN) (w : World) (hL : Lp w) :
    Calls Tryd.prog 11 #[vT p, vT q] w fun e w' => e = .returned (okP (prN p q)) ∧ Below w.heap.size w w' := by
  have eM : prN p q = o2 := by unfold prN; rw [if_pos (.inl h1)]
  rw [eM]
  have C1 := ingroup_any p up
  rw [hp] at C1
  have C2 := ingroup_any q uq
  rw [hq] at C2
  have hE := eqlI p
  rw [decide_eq_true h1] at hE
  clear up uq hp hq eM h1
  go_enter Tryd.func11, Tryd.ntmps11
  go_wp2_with fail
  refine callsOf (fun V => Below w.heap.size w V ∧ Tb w.heap.size p V ∧ Tb (w.heap.size + 1) q V ∧ Pb (w.heap.size + 1 + 1) z2 V ∧ Lp V) ⟨by go_grown, ((Tb.new' w p 24 _ rfl).alloc _).alloc _, (Tb.new' _ q 24 _ (by simp)).alloc _, Pb.new' _ z2 27 _ (by simp), ((hL.alloc _).alloc _).alloc _⟩ ?_
  rintro V ⟨BV, hA, hB, hO, hLV⟩
  have H0 : Hid (_ ∧ _ ∧ _ ∧ _ ∧ _) := ⟨BV, hA, hB, hO, hLV⟩
  clear BV hA hB hO hLV hL
  refine (C1 _ H0.out.2.2.2.2.l).mono ?_
  rintro e w1 ⟨rfl, B1⟩
  obtain ⟨BW, hA, hB, hO, hLV⟩ := H0.out
  have BW' := belowStep BW BW.size B1
  have A' := hA.below B1
  have D' := hB.below B1
  have O' := hO.below B1
  have L' := hLV.below B1
  have H1 : Hid (_ ∧ _ ∧ _ ∧ _ ∧ _) := ⟨BW', A', D', O', L'⟩
  clear BW hA hB hO hLV H0 BW' A' D' O' L' B1
  have ⟨_, ba, bb, bc, bf⟩ := H1.out.2.2.1
  go_wp2_with fail
  refine (C2 _ H1.out.2.2.2.2.l).mono ?_
  clear ba bb bc bf
  rintro e w2 ⟨rfl, B2⟩
  obtain ⟨BW, hA, hB, hO, hLV⟩ := H1.out
  have BW' := belowStep BW BW.size B2
  have A' := hA.below B2
  have D' := hB.below B2
  have O' := hO.below B2
  have L' := hLV.below B2
  have H2 : Hid (_ ∧ _ ∧ _ ∧ _ ∧ _) := ⟨BW', A', D', O', L'⟩
  clear BW hA hB hO hLV H1 BW' A' D' O' L' B2
  have ⟨_, aa, ab, ac, af⟩ := H2.out.2.1
  have ⟨_, ba, bb, bc, bf⟩ := H2.out.2.2.1
  have lq := H2.out.2.2.2.2.ne
  have za := H2.out.2.2.2.2.za
  have a0 := H2.out.2.2.2.2.a0
  have a1 := H2.out.2.2.2.2.a1
  have a2 := H2.out.2.2.2.2.a2
  have zb := H2.out.2.2.2.2.zb
  have b0 := H2.out.2.2.2.2.b0
  have b1 := H2.out.2.2.2.2.b1
  obtain ⟨z, a, b, f⟩ := H2.out.2.2.2.1
  go_wp2_with fail
  obtain ⟨BW, _⟩ := H2.out
  refine bodyPost_ret (v := okP o2) (by simp [results, Tryd.results11, go_sem, o2, *]) rfl ⟨rfl, ?_⟩
  exact (BW.setCell (p := ⟨w.heap.size + 1 + 1, 0, none⟩) (by show _ ≤ w.heap.size + 1 + 1; omega) _).setCell (p := ⟨w.heap.size + 1 + 1, 1, none⟩) (by show _ ≤ w.heap.size + 1 + 1; omega) _

set_option maxRecDepth 20000 in
set_option maxHeartbeats 4000000 in
theorem pPair4 (p q : Pt) (up : UT p) (uq : UT q) (hp : grN p = true) (hq : grN q = true) (h1 : ¬ p = iN) (h2 : q = iN) (w : World) (hL : Lp w) :
    Calls Tryd.prog 11 #[vT p, vT q] w fun e w' => e = .returned (okP (prN p q)) ∧ Below w.heap.size w w' := by
  have eM : prN p q = o2 := by unfold prN; rw [if_pos (.inr h2)]
  rw [eM]
  have C1 := ingroup_any p up
  rw [hp] at C1
  have C2 := ingroup_any q uq
  rw [hq] at C2
  have hE := eqlI p
  rw [decide_eq_false h1] at hE
  have hF := eqlI q
  rw [decide_eq_true h2] at hF
  clear up uq hp hq eM h1 h2
  go_enter Tryd.func11, Tryd.ntmps11
  go_wp2_with fail
  refine callsOf (fun V => Below w.heap.size w V ∧ Tb w.heap.size p V ∧ Tb (w.heap.size + 1) q V ∧ Pb (w.heap.size + 1 + 1) z2 V ∧ Lp V) ⟨by go_grown, ((Tb.new' w p 24 _ rfl).alloc _).alloc _, (Tb.new' _ q 24 _ (by simp)).alloc _, Pb.new' _ z2 27 _ (by simp), ((hL.alloc _).alloc _).alloc _⟩ ?_
  rintro V ⟨BV, hA, hB, hO, hLV⟩
  have H0 : Hid (_ ∧ _ ∧ _ ∧ _ ∧ _) := ⟨BV, hA, hB, hO, hLV⟩
  clear BV hA hB hO hLV hL
  refine (C1 _ H0.out.2.2.2.2.l).mono ?_
  rintro e w1 ⟨rfl, B1⟩
  obtain ⟨BW, hA, hB, hO, hLV⟩ := H0.out
  have BW' := belowStep BW BW.size B1
  have A' := hA.below B1
  have D' := hB.below B1
  have O' := hO.below B1
  have L' := hLV.below B1
  have H1 : Hid (_ ∧ _ ∧ _ ∧ _ ∧ _) := ⟨BW', A', D', O', L'⟩
  clear BW hA hB hO hLV H0 BW' A' D' O' L' B1
  have ⟨_, ba, bb, bc, bf⟩ := H1.out.2.2.1
  go_wp2_with fail
  refine (C2 _ H1.out.2.2.2.2.l).mono ?_
  clear ba bb bc bf
  rintro e w2 ⟨rfl, B2⟩
  obtain ⟨BW, hA, hB, hO, hLV⟩ := H1.out
  have BW' := belowStep BW BW.size B2
  have A' := hA.below B2
  have D' := hB.below B2
  have O' := hO.below B2
  have L' := hLV.below B2
  have H2 : Hid (_ ∧ _ ∧ _ ∧ _ ∧ _) := ⟨BW', A', D', O', L'⟩
  clear BW hA hB hO hLV H1 BW' A' D' O' L' B2
  have ⟨_, aa, ab, ac, af⟩ := H2.out.2.1
  have ⟨_, ba, bb, bc, bf⟩ := H2.out.2.2.1
  have lq := H2.out.2.2.2.2.ne
  have za := H2.out.2.2.2.2.za
  have a0 := H2.out.2.2.2.2.a0
  have a1 := H2.out.2.2.2.2.a1
  have a2 := H2.out.2.2.2.2.a2
  have zb := H2.out.2.2.2.2.zb
  have b0 := H2.out.2.2.2.2.b0
  have b1 := H2.out.2.2.2.2.b1
  obtain ⟨z, a, b, f⟩ := H2.out.2.2.2.1
  go_wp2_with fail
  obtain ⟨BW, _⟩ := H2.out
  refine bodyPost_ret (v := okP o2) (by simp [results, Tryd.results11, go_sem, o2, *]) rfl ⟨rfl, ?_⟩
  exact (BW.setCell (p := ⟨w.heap.size + 1 + 1, 0, none⟩) (by show _ ≤ w.heap.size + 1 + 1; omega) _).setCell (p := ⟨w.heap.size + 1 + 1, 1, none⟩) (by show _ ≤ w.heap.size + 1 + 1; omega) _

set_option maxRecDepth 20000 in
set_option maxHeartbeats 4000000 in
theorem pPair5 (p q : Pt) (up : UT p) (uq : UT q) (hp : grN p = true) (hq : grN q = true) (h1 : ¬ p = iN) (h2 : ¬ q = iN) (w : World) (hL : Lp w) :
    Calls Tryd.prog 11 #[vT p, vT q] w fun e w' => e = .returned (okP (prN p q)) ∧ Below w.heap.size w w' := by
  have eM : prN p q = q2 (gaN p q) 8589931464 := by unfold prN; rw [if_neg (by rintro (h | h); exact h1 h; exact h2 h)]
  rw [eM]
  have C1 := ingroup_any p up
  rw [hp] at C1
  have C2 := ingroup_any q uq
  rw [hq] at C2
  have hE := eqlI p
  rw [decide_eq_false h1] at hE
  have hF := eqlI q
  rw [decide_eq_false h2] at hF
  have CG := gathered_any p q (gr_on hp) uq
  have uG : UP (gaN p q) := (stG_ok (gr_on hp) _).2
  have CP := pow2_any (gaN p q) 8589931464 uG (by decide)
  obtain ⟨g, hg⟩ : ∃ x, gaN p q = x := ⟨_, rfl⟩
  rw [hg] at CG CP ⊢
  obtain ⟨x, hx⟩ : ∃ x, q2 g 8589931464 = x := ⟨_, rfl⟩
  rw [hx] at CP ⊢
  clear hg hx uG
  clear up uq hp hq eM h1 h2
  go_enter Tryd.func11, Tryd.ntmps11
  go_wp2_with fail
  refine callsOf (fun V => Below w.heap.size w V ∧ Tb w.heap.size p V ∧ Tb (w.heap.size + 1) q V ∧ Pb (w.heap.size + 1 + 1) z2 V ∧ Lp V) ⟨by go_grown, ((Tb.new' w p 24 _ rfl).alloc _).alloc _, (Tb.new' _ q 24 _ (by simp)).alloc _, Pb.new' _ z2 27 _ (by simp), ((hL.alloc _).alloc _).alloc _⟩ ?_
  rintro V ⟨BV, hA, hB, hO, hLV⟩
  have H0 : Hid (_ ∧ _ ∧ _ ∧ _ ∧ _) := ⟨BV, hA, hB, hO, hLV⟩
  clear BV hA hB hO hLV hL
  refine (C1 _ H0.out.2.2.2.2.l).mono ?_
  rintro e w1 ⟨rfl, B1⟩
  obtain ⟨BW, hA, hB, hO, hLV⟩ := H0.out
  have BW' := belowStep BW BW.size B1
  have A' := hA.below B1
  have D' := hB.below B1
  have O' := hO.below B1
  have L' := hLV.below B1
  have H1 : Hid (_ ∧ _ ∧ _ ∧ _ ∧ _) := ⟨BW', A', D', O', L'⟩
  clear BW hA hB hO hLV H0 BW' A' D' O' L' B1
  have ⟨_, ba, bb, bc, bf⟩ := H1.out.2.2.1
  go_wp2_with fail
  refine (C2 _ H1.out.2.2.2.2.l).mono ?_
  clear ba bb bc bf
  rintro e w2 ⟨rfl, B2⟩
  obtain ⟨BW, hA, hB, hO, hLV⟩ := H1.out
  have BW' := belowStep BW BW.size B2
  have A' := hA.below B2
  have D' := hB.below B2
  have O' := hO.below B2
  have L' := hLV.below B2
  have H2 : Hid (_ ∧ _ ∧ _ ∧ _ ∧ _) := ⟨BW', A', D', O', L'⟩
  clear BW hA hB hO hLV H1 BW' A' D' O' L' B2
  have ⟨_, aa, ab, ac, af⟩ := H2.out.2.1
  have ⟨_, ba, bb, bc, bf⟩ := H2.out.2.2.1
  have lq := H2.out.2.2.2.2.ne
  have za := H2.out.2.2.2.2.za
  have a0 := H2.out.2.2.2.2.a0
  have a1 := H2.out.2.2.2.2.a1
  have a2 := H2.out.2.2.2.2.a2
  go_wp2_with fail
  refine (CG _ H2.out.2.2.2.2).mono ?_
  clear aa ab ac af ba bb bc bf lq za a0 a1 a2
  rintro e w3 ⟨rfl, B3⟩
  obtain ⟨BW, hA, hB, hO, hLV⟩ := H2.out
  have BW' := belowStep BW BW.size B3
  have A' := hA.below B3
  have D' := hB.below B3
  have O' := hO.below B3
  have L' := hLV.below B3
  have H3 : Hid (_ ∧ _ ∧ _ ∧ _ ∧ _) := ⟨BW', A', D', O', L'⟩
  clear BW hA hB hO hLV H2 BW' A' D' O' L' B3
  go_wp2_with fail
  refine (CP _).mono ?_
  rintro e w4 ⟨rfl, B4⟩
  obtain ⟨BW, hA, hB, hO, hLV⟩ := H3.out
  have BW' := belowStep BW BW.size B4
  have A' := hA.below B4
  have D' := hB.below B4
  have O' := hO.below B4
  have L' := hLV.below B4
  have H4 : Hid (_ ∧ _ ∧ _ ∧ _ ∧ _) := ⟨BW', A', D', O', L'⟩
  clear BW hA hB hO hLV H3 BW' A' D' O' L' B4
  obtain ⟨BW, hA, hB, hO, hLV⟩ := H4.out
  obtain ⟨z, a, b, f⟩ := hO
  clear hA hB hLV H4
  go_wp2_with fail
  refine bodyPost_ret (v := okP x) (by simp [results, Tryd.results11, go_sem, *]) rfl ⟨rfl, ?_⟩
  exact (BW.setCell (p := ⟨w.heap.size + 1 + 1, 0, none⟩) (by show _ ≤ w.heap.size + 1 + 1; omega) _).setCell (p := ⟨w.heap.size + 1 + 1, 1, none⟩) (by show _ ≤ w.heap.size + 1 + 1; omega) _

theorem pPair_any (p q : Pt) (up : UT p) (uq : UT q) (w : World) (hL : Lp w) :
    Calls Tryd.prog 11 #[vT p, vT q] w fun e w' => e = .returned (prV p q) ∧ Below w.heap.size w w' := by
  unfold prV
  cases hp : grN p
  · rw [if_neg (by simp)]; exact pPair1 p q up hp w hL
  cases hq : grN q
  · rw [if_neg (by simp)]; exact pPair2 p q up uq hp hq w hL
  rw [if_pos (by simp)]
  by_cases h1 : p = iN
  · exact pPair3 p q up uq hp hq h1 w hL
  by_cases h2 : q = iN
  · exact pPair4 p q up uq hp hq h1 h2 w hL
  exact pPair5 p q up uq hp hq h1 h2 w hL
end Go.Proofs.YteknhghmliihhaaDoor
