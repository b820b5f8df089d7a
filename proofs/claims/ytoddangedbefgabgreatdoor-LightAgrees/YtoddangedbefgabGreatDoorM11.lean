/- Lemmas: What the package pair's Pair does. No condition. What the package pair's Same does. No condition. What the program's first, Bytes, named, From do. No condition. What the program's named does. No condition. What the program's From does. No condition. -/
import Derived.Test.YtoddangedbefgabGreatDoorM1
import Derived.Test.YtoddangedbefgabGreatDoorM10
import Derived.Test.YtoddangedbefgabGreatDoorM2
import Derived.Test.YtoddangedbefgabGreatDoorM3
import Derived.Test.YtoddangedbefgabGreatDoorM5
import Derived.Test.YtoddangedbefgabGreatDoorM6
import Derived.Test.YtoddangedbefgabGreatDoorM7
import Derived.Test.YtoddangedbefgabGreatDoorM8
import Derived.Test.YtoddangedbefgabGreatDoorM9
import Derived.Test.YtoddangedbefgabGreatDoorRows
namespace Go.Proofs.YtoddangedbefgabGreatDoor
open Go.RowKit Go.Shelf Go.Sort

def prV (p q : Pt) : Value := if (grN p && grN q) = true then okP (prN p q) else erP
theorem gr_on {p : Pt} (h : grN p = true) : onN p = true := by
 have e : grN p = (onN p && decide (tmN p 536870717 = iN)) := rfl
 rw [e] at h
 exact (Bool.and_eq_true_iff.1 h).1

set_option maxRecDepth 20000 in
set_option maxHeartbeats 4000000 in
theorem pPair1 (p q : Pt) (up : UT p) (hp : grN p = false) (w : World) (hL : Lp w) :
  Calls Tryz.prog 159 #[vT p, vT q] w fun e w' => e = .returned (erP) ∧ Below w.heap.size w w' := by
 have C1 := ingroup_any p up
 rw [hp] at C1
 clear up hp
 go_enter Tryz.func159, Tryz.ntmps159
 go_wp2_with fail
 refine callsOf (fun V => Below w.heap.size w V ∧ Tb w.heap.size p V ∧ Tb (w.heap.size + 1) q V ∧ Pb (w.heap.size + 1 + 1) z2 V ∧ Lp V) ⟨by go_grown, ((Tb.new' w p 72 _ rfl).alloc _).alloc _, (Tb.new' _ q 72 _ (by simp)).alloc _, Pb.new' _ z2 111 _ (by simp), ((hL.alloc _).alloc _).alloc _⟩ ?_
 rintro V ⟨BV, hA, hB, hO, hLV⟩
 have H0 : Hid (_ ∧ _ ∧ _ ∧ _ ∧ _) := ⟨BV, hA, hB, hO, hLV⟩
 clear BV hA hB hO hLV hL
 refine (C1 _ H0.out.2.2.2.2.l).mono ?_
 rintro e w1 ⟨rfl, B1⟩
 obtain ⟨BW, hA, hB, hO, hLV⟩ := H0.out
 have BW' := belowStep BW BW.size B1
 have A' := hA.below B1
 have D' := hB.below B1
 have O' := hO.below B1
 have L' := hLV.below B1
 have H1 : Hid (_ ∧ _ ∧ _ ∧ _ ∧ _) := ⟨BW', A', D', O', L'⟩
 clear BW hA hB hO hLV H0 BW' A' D' O' L' B1
 obtain ⟨BW, hA, hB, hO, hLV⟩ := H1.out
 have lq := hLV.ne
 obtain ⟨z, a, b, f⟩ := hO
 clear hA hB hLV H1
 go_wp2_with fail
 refine bodyPost_ret (v := erP) (by simp [results, Tryz.results159, go_sem, z2, *]) rfl ⟨rfl, ?_⟩
 exact (BW.setCell (p := ⟨w.heap.size + 1 + 1, 0, none⟩) (by show _ ≤ w.heap.size + 1 + 1; omega) _).setCell (p := ⟨w.heap.size + 1 + 1, 1, none⟩) (by show _ ≤ w.heap.size + 1 + 1; omega) _

set_option maxRecDepth 20000 in
set_option maxHeartbeats 4000000 in
theorem pPair2 (p q : Pt) (up : UT p) (uq : UT q) (hp : grN p = true) (hq : grN q = false) (w : World) (hL : Lp w) :
  Calls Tryz.prog 159 #[vT p, vT q] w fun e w' => e = .returned (erP) ∧ Below w.heap.size w w' := by
 have C1 := ingroup_any p up
 rw [hp] at C1
 have C2 := ingroup_any q uq
 rw [hq] at C2
 clear up uq hp hq
 go_enter Tryz.func159, Tryz.ntmps159
 go_wp2_with fail
 refine callsOf (fun V => Below w.heap.size w V ∧ Tb w.heap.size p V ∧ Tb (w.heap.size + 1) q V ∧ Pb (w.heap.size + 1 + 1) z2 V ∧ Lp V) ⟨by go_grown, ((Tb.new' w p 72 _ rfl).alloc _).alloc _, (Tb.new' _ q 72 _ (by simp)).alloc _, Pb.new' _ z2 111 _ (by simp), ((hL.alloc _).alloc _).alloc _⟩ ?_
 rintro V ⟨BV, hA, hB, hO, hLV⟩
 have H0 : Hid (_ ∧ _ ∧ _ ∧ _ ∧ _) := ⟨BV, hA, hB, hO, hLV⟩
 clear BV hA hB hO hLV hL
 refine (C1 _ H0.out.2.2.2.2.l).mono ?_
 rintro e w1 ⟨rfl, B1⟩
 obtain ⟨BW, hA, hB, hO, hLV⟩ := H0.out
 have BW' := belowStep BW BW.size B1
 have A' := hA.below B1
 have D' := hB.below B1
 have O' := hO.below B1
 have L' := hLV.below B1
 have H1 : Hid (_ ∧ _ ∧ _ ∧ _ ∧ _) := ⟨BW', A', D', O', L'⟩
 clear BW hA hB hO hLV H0 BW' A' D' O' L' B1
 have ⟨_, ba, bb, bc, bf⟩ := H1.out.2.2.1
 go_wp2_with fail
 refine (C2 _ H1.out.2.2.2.2.l).mono ?_
 clear ba bb bc bf
 rintro e w2 ⟨rfl, B2⟩
 obtain ⟨BW, hA, hB, hO, hLV⟩ := H1.out
 have BW' := belowStep BW BW.size B2
 have A' := hA.below B2
 have D' := hB.below B2
 have O' := hO.below B2
 have L' := hLV.below B2
 have H2 : Hid (_ ∧ _ ∧ _ ∧ _ ∧ _) := ⟨BW', A', D', O', L'⟩
 clear BW hA hB hO hLV H1 BW' A' D' O' L' B2
 obtain ⟨BW, hA, hB, hO, hLV⟩ := H2.out
 have lq := hLV.ne
 obtain ⟨z, a, b, f⟩ := hO
 clear hA hB hLV H2
 go_wp2_with fail
 refine bodyPost_ret (v := erP) (by simp [results, Tryz.results159, go_sem, z2, *]) rfl ⟨rfl, ?_⟩
 exact (BW.setCell (p := ⟨w.heap.size + 1 + 1, 0, none⟩) (by show _ ≤ w.heap.size + 1 + 1; omega) _).setCell (p := ⟨w.heap.size + 1 + 1, 1, none⟩) (by show _ ≤ w.heap.size + 1 + 1; omega) _

set_option maxRecDepth 20000 in
set_option maxHeartbeats 4000000 in
theorem pPair3 (p q : Pt) (up : UT p) (uq : UT q) (hp : grN p = true) (hq : grN q = true) (h1 : p = iN) (w : World) (hL : Lp w) :
  Calls Tryz.prog 159 #[vT p, vT q] w fun e w' => e = .returned (okP (prN p q)) ∧ Below w.heap.size w w' := by
 have eM : prN p q = o2 := by unfold prN; rw [if_pos (.inl h1)]
 rw [eM]
 have C1 := ingroup_any p up
 rw [hp] at C1
 have C2 := ingroup_any q uq
 rw [hq] at C2
 have hE := eqlI p
 rw [decide_eq_true h1] at hE
 clear up uq hp hq eM h1
 go_enter Tryz.func159, Tryz.ntmps159
 go_wp2_with fail
 refine callsOf (fun V => Below w.heap.size w V ∧ Tb w.heap.size p V ∧ Tb (w.heap.size + 1) q V ∧ Pb (w.heap.size + 1 + 1) z2 V ∧ Lp V) ⟨by go_grown, ((Tb.new' w p 72 _ rfl).alloc _).alloc _, (Tb.new' _ q 72 _ (by simp)).alloc _, Pb.new' _ z2 111 _ (by simp), ((hL.alloc _).alloc _).alloc _⟩ ?_
 rintro V ⟨BV, hA, hB, hO, hLV⟩
 have H0 : Hid (_ ∧ _ ∧ _ ∧ _ ∧ _) := ⟨BV, hA, hB, hO, hLV⟩
 clear BV hA hB hO hLV hL
 refine (C1 _ H0.out.2.2.2.2.l).mono ?_
 rintro e w1 ⟨rfl, B1⟩
 obtain ⟨BW, hA, hB, hO, hLV⟩ := H0.out
 have BW' := belowStep BW BW.size B1
 have A' := hA.below B1
 have D' := hB.below B1
 have O' := hO.below B1
 have L' := hLV.below B1
 have H1 : Hid (_ ∧ _ ∧ _ ∧ _ ∧ _) := ⟨BW', A', D', O', L'⟩
 clear BW hA hB hO hLV H0 BW' A' D' O' L' B1
 have ⟨_, ba, bb, bc, bf⟩ := H1.out.2.2.1
 go_wp2_with fail
 refine (C2 _ H1.out.2.2.2.2.l).mono ?_
 clear ba bb bc bf
 rintro e w2 ⟨rfl, B2⟩
 obtain ⟨BW, hA, hB, hO, hLV⟩ := H1.out
 have BW' := belowStep BW BW.size B2
 have A' := hA.below B2
 have D' := hB.below B2
 have O' := hO.below B2
 have L' := hLV.below B2
 have H2 : Hid (_ ∧ _ ∧ _ ∧ _ ∧ _) := ⟨BW', A', D', O', L'⟩
 clear BW hA hB hO hLV H1 BW' A' D' O' L' B2
 have ⟨_, aa, ab, ac, af⟩ := H2.out.2.1
 have ⟨_, ba, bb, bc, bf⟩ := H2.out.2.2.1
 have lq := H2.out.2.2.2.2.ne
 have za := H2.out.2.2.2.2.za
 have a0 := H2.out.2.2.2.2.a0
 have a1 := H2.out.2.2.2.2.a1
 have a2 := H2.out.2.2.2.2.a2
 have zb := H2.out.2.2.2.2.zb
 have b0 := H2.out.2.2.2.2.b0
 have b1 := H2.out.2.2.2.2.b1
 obtain ⟨z, a, b, f⟩ := H2.out.2.2.2.1
 go_wp2_with fail
 obtain ⟨BW, _⟩ := H2.out
 refine bodyPost_ret (v := okP o2) (by simp [results, Tryz.results159, go_sem, o2, *]) rfl ⟨rfl, ?_⟩
 exact (BW.setCell (p := ⟨w.heap.size + 1 + 1, 0, none⟩) (by show _ ≤ w.heap.size + 1 + 1; omega) _).setCell (p := ⟨w.heap.size + 1 + 1, 1, none⟩) (by show _ ≤ w.heap.size + 1 + 1; omega) _

set_option maxRecDepth 20000 in
set_option maxHeartbeats 4000000 in
theorem pPair4 (p q : Pt) (up : UT p) (uq : UT q) (hp : grN p = true) (hq : grN q = true) (h1 : ¬ p = iN) (h2 : q = iN) (w : World) (hL : Lp w) :
  Calls Tryz.prog 159 #[vT p, vT q] w fun e w' => e = .returned (okP (prN p q)) ∧ Below w.heap.size w w' := by
 have eM : prN p q = o2 := by unfold prN; rw [if_pos (.inr h2)]
 rw [eM]
 have C1 := ingroup_any p up
 rw [hp] at C1
 have C2 := ingroup_any q uq
 rw [hq] at C2
 have hE := eqlI p
 rw [decide_eq_false h1] at hE
 have hF := eqlI q
 rw [decide_eq_true h2] at hF
 clear up uq hp hq eM h1 h2
 go_enter Tryz.func159, Tryz.ntmps159
 go_wp2_with fail
 refine callsOf (fun V => Below w.heap.size w V ∧ Tb w.heap.size p V ∧ Tb (w.heap.size + 1) q V ∧ Pb (w.heap.size + 1 + 1) z2 V ∧ Lp V) ⟨by go_grown, ((Tb.new' w p 72 _ rfl).alloc _).alloc _, (Tb.new' _ q 72 _ (by simp)).alloc _, Pb.new' _ z2 111 _ (by simp), ((hL.alloc _).alloc _).alloc _⟩ ?_
 rintro V ⟨BV, hA, hB, hO, hLV⟩
 have H0 : Hid (_ ∧ _ ∧ _ ∧ _ ∧ _) := ⟨BV, hA, hB, hO, hLV⟩
 clear BV hA hB hO hLV hL
 refine (C1 _ H0.out.2.2.2.2.l).mono ?_
 rintro e w1 ⟨rfl, B1⟩
 obtain ⟨BW, hA, hB, hO, hLV⟩ := H0.out
 have BW' := belowStep BW BW.size B1
 have A' := hA.below B1
 have D' := hB.below B1
 have O' := hO.below B1
 have L' := hLV.below B1
 have H1 : Hid (_ ∧ _ ∧ _ ∧ _ ∧ _) := ⟨BW', A', D', O', L'⟩
 clear BW hA hB hO hLV H0 BW' A' D' O' L' B1
 have ⟨_, ba, bb, bc, bf⟩ := H1.out.2.2.1
 go_wp2_with fail
 refine (C2 _ H1.out.2.2.2.2.l).mono ?_
 clear ba bb bc bf
 rintro e w2 ⟨rfl, B2⟩
 obtain ⟨BW, hA, hB, hO, hLV⟩ := H1.out
 have BW' := belowStep BW BW.size B2
 have A' := hA.below B2
 have D' := hB.below B2
 have O' := hO.below B2
 have L' := hLV.below B2
 have H2 : Hid (_ ∧ _ ∧ _ ∧ _ ∧ _) := ⟨BW', A', D', O', L'⟩
 clear BW hA hB hO hLV H1 BW' A' D' O' L' B2
 have ⟨_, aa, ab, ac, af⟩ := H2.out.2.1
 have ⟨_, ba, bb, bc, bf⟩ := H2.out.2.2.1
 have lq := H2.out.2.2.2.2.ne
 have za := H2.out.2.2.2.2.za
 have a0 := H2.out.2.2.2.2.a0
 have a1 := H2.out.2.2.2.2.a1
 have a2 := H2.out.2.2.2.2.a2
 have zb := H2.out.2.2.2.2.zb
 have b0 := H2.out.2.2.2.2.b0
 have b1 := H2.out.2.2.2.2.b1
 obtain ⟨z, a, b, f⟩ := H2.out.2.2.2.1
 go_wp2_with fail
 obtain ⟨BW, _⟩ := H2.out
 refine bodyPost_ret (v := okP o2) (by simp [results, Tryz.results159, go_sem, o2, *]) rfl ⟨rfl, ?_⟩
 exact (BW.setCell (p := ⟨w.heap.size + 1 + 1, 0, none⟩) (by show _ ≤ w.heap.size + 1 + 1; omega) _).setCell (p := ⟨w.heap.size + 1 + 1, 1, none⟩) (by show _ ≤ w.heap.size + 1 + 1; omega) _

set_option maxRecDepth 20000 in
set_option maxHeartbeats 4000000 in
theorem pPair5 (p q : Pt) (up : UT p) (uq : UT q) (hp : grN p = true) (hq : grN q = true) (h1 : ¬ p = iN) (h2 : ¬ q = iN) (w : World) (hL : Lp w) :
  Calls Tryz.prog 159 #[vT p, vT q] w fun e w' => e = .returned (okP (prN p q)) ∧ Below w.heap.size w w' := by
 have eM : prN p q = q2 (gaN p q) 8589931464 := by unfold prN; rw [if_neg (by rintro (h | h); exact h1 h; exact h2 h)]
 rw [eM]
 have C1 := ingroup_any p up
 rw [hp] at C1
 have C2 := ingroup_any q uq
 rw [hq] at C2
 have hE := eqlI p
 rw [decide_eq_false h1] at hE
 have hF := eqlI q
 rw [decide_eq_false h2] at hF
 have CG := gathered_any p q (gr_on hp) uq
 have uG : UP (gaN p q) := (stG_ok (gr_on hp) _).2
 have CP := pow2_any (gaN p q) 8589931464 uG (by decide)
 obtain ⟨g, hg⟩ : ∃ x, gaN p q = x := ⟨_, rfl⟩
 rw [hg] at CG CP ⊢
 obtain ⟨x, hx⟩ : ∃ x, q2 g 8589931464 = x := ⟨_, rfl⟩
 rw [hx] at CP ⊢
 clear hg hx uG
 clear up uq hp hq eM h1 h2
 go_enter Tryz.func159, Tryz.ntmps159
 go_wp2_with fail
 refine callsOf (fun V => Below w.heap.size w V ∧ Tb w.heap.size p V ∧ Tb (w.heap.size + 1) q V ∧ Pb (w.heap.size + 1 + 1) z2 V ∧ Lp V) ⟨by go_grown, ((Tb.new' w p 72 _ rfl).alloc _).alloc _, (Tb.new' _ q 72 _ (by simp)).alloc _, Pb.new' _ z2 111 _ (by simp), ((hL.alloc _).alloc _).alloc _⟩ ?_
 rintro V ⟨BV, hA, hB, hO, hLV⟩
 have H0 : Hid (_ ∧ _ ∧ _ ∧ _ ∧ _) := ⟨BV, hA, hB, hO, hLV⟩
 clear BV hA hB hO hLV hL
 refine (C1 _ H0.out.2.2.2.2.l).mono ?_
 rintro e w1 ⟨rfl, B1⟩
 obtain ⟨BW, hA, hB, hO, hLV⟩ := H0.out
 have BW' := belowStep BW BW.size B1
 have A' := hA.below B1
 have D' := hB.below B1
 have O' := hO.below B1
 have L' := hLV.below B1
 have H1 : Hid (_ ∧ _ ∧ _ ∧ _ ∧ _) := ⟨BW', A', D', O', L'⟩
 clear BW hA hB hO hLV H0 BW' A' D' O' L' B1
 have ⟨_, ba, bb, bc, bf⟩ := H1.out.2.2.1
 go_wp2_with fail
 refine (C2 _ H1.out.2.2.2.2.l).mono ?_
 clear ba bb bc bf
 rintro e w2 ⟨rfl, B2⟩
 obtain ⟨BW, hA, hB, hO, hLV⟩ := H1.out
 have BW' := belowStep BW BW.size B2
 have A' := hA.below B2
 have D' := hB.below B2
 have O' := hO.below B2
 have L' := hLV.below B2
 have H2 : Hid (_ ∧ _ ∧ _ ∧ _ ∧ _) := ⟨BW', A', D', O', L'⟩
 clear BW hA hB hO hLV H1 BW' A' D' O' L' B2
 have ⟨_, aa, ab, ac, af⟩ := H2.out.2.1
 have ⟨_, ba, bb, bc, bf⟩ := H2.out.2.2.1
 have lq := H2.out.2.2.2.2.ne
 have za := H2.out.2.2.2.2.za
 have a0 := H2.out.2.2.2.2.a0
 have a1 := H2.out.2.2.2.2.a1
 have a2 := H2.out.2.2.2.2.a2
 go_wp2_with fail
 refine (CG _ H2.out.2.2.2.2).mono ?_
 clear aa ab ac af ba bb bc bf lq za a0 a1 a2
 rintro e w3 ⟨rfl, B3⟩
 obtain ⟨BW, hA, hB, hO, hLV⟩ := H2.out
 have BW' := belowStep BW BW.size B3
 have A' := hA.below B3
 have D' := hB.below B3
 have O' := hO.below B3
 have L' := hLV.below B3
 have H3 : Hid (_ ∧ _ ∧ _ ∧ _ ∧ _) := ⟨BW', A', D', O', L'⟩
 clear BW hA hB hO hLV H2 BW' A' D' O' L' B3
 go_wp2_with fail
 refine (CP _).mono ?_
 rintro e w4 ⟨rfl, B4⟩
 obtain ⟨BW, hA, hB, hO, hLV⟩ := H3.out
 have BW' := belowStep BW BW.size B4
 have A' := hA.below B4
 have D' := hB.below B4
 have O' := hO.below B4
 have L' := hLV.below B4
 have H4 : Hid (_ ∧ _ ∧ _ ∧ _ ∧ _) := ⟨BW', A', D', O', L'⟩
 clear BW hA hB hO hLV H3 BW' A' D' O' L' B4
 obtain ⟨BW, hA, hB, hO, hLV⟩ := H4.out
 obtain ⟨z, a, b, f⟩ := hO
 clear hA hB hLV H4
 go_wp2_with fail
 refine bodyPost_ret (v := okP x) (by simp [results, Tryz.results159, go_sem, *]) rfl ⟨rfl, ?_⟩
 exact (BW.setCell (p := ⟨w.heap.size + 1 + 1, 0, none⟩) (by show _ ≤ w.heap.size + 1 + 1; omega) _).setCell (p := ⟨w.heap.size + 1 + 1, 1, none⟩) (by show _ ≤ w.heap.size + 1 + 1; omega) _

theorem pPair_any (p q : Pt) (up : UT p) (uq : UT q) (w : World) (hL : Lp w) :
  Calls Tryz.prog 159 #[vT p, vT q] w fun e w' => e = .returned (prV p q) ∧ Below w.heap.size w w' := by
 unfold prV
 cases hp : grN p
 ·rw [if_neg (by simp)]; exact pPair1 p q up hp w hL
 cases hq : grN q
 ·rw [if_neg (by simp)]; exact pPair2 p q up uq hp hq w hL
 rw [if_pos (by simp)]
 by_cases h1 : p = iN
 ·exact pPair3 p q up uq hp hq h1 w hL
 by_cases h2 : q = iN
 ·exact pPair4 p q up uq hp hq h1 h2 w hL
 exact pPair5 p q up uq hp hq h1 h2 w hL
end Go.Proofs.YtoddangedbefgabGreatDoor
namespace Go.Proofs.YtoddangedbefgabGreatDoor
open Go.RowKit Go.Shelf Go.Sort

def eqP (p q : P2) : Bool := decide (p.A = q.A) && decide (p.B = q.B)
def saB (a b c d : Pt) : Bool := (grN a && grN b) && (grN c && grN d)
def saV (a b c d : Pt) : Value := if saB a b c d = true then .tuple #[.bool (eqP (prN a b) (prN c d)), .int .i64 0] else .tuple #[.bool false, .int .i64 100]

theorem eqlP (p q : P2) (W : World) : (binOp .eql 111 (vP p) (vP q)).run Tryz.prog W = .ok (.bool (eqP p q)) W := by
 obtain ⟨a, b⟩ := p
 obtain ⟨c, d⟩ := q
 unfold eqP
 by_cases h1 : a = c
 ·by_cases h2 : b = d
  ·subst h1 h2; simp [go_sem]
  ·subst h1
   have h2' : ¬ (b : Int) = d := by omega
   simp [go_sem, h2, h2']
 ·have h1' : ¬ (a : Int) = c := by omega
  simp [go_sem, h1, h1']

set_option maxRecDepth 20000 in
set_option maxHeartbeats 4000000 in
theorem pSame1 (a b c d : Pt) (ua : UT a) (ub : UT b) (h : (grN a && grN b) = false) (w : World) (hL : Lp w) :
  Calls Tryz.prog 142 #[vT a, vT b, vT c, vT d] w fun e w' => e = .returned (.tuple #[.bool false, .int .i64 100]) ∧ Below w.heap.size w w' := by
 have C1 := pPair_any a b ua ub
 unfold prV at C1
 rw [if_neg (by rw [h]; simp)] at C1
 clear h
 go_enter Tryz.func142, Tryz.ntmps142
 go_wp2_with fail
 refine callsOf (fun V => Below w.heap.size w V ∧ Lp V) ⟨by go_grown, (((hL.alloc _).alloc _).alloc _).alloc _⟩ ?_
 rintro V ⟨BV, hLV⟩
 refine (C1 _ hLV).mono ?_
 rintro e w1 ⟨rfl, B1⟩
 have BW := belowStep BV BV.size B1
 clear BV B1 hLV hL C1 V
 go_wp2_with fail
 refine bodyPost_ret (v := .tuple #[.bool false, .int .i64 100]) (by simp [results, Tryz.results142, go_sem, *]) rfl ⟨rfl, ?_⟩
 exact BW.alloc BW.size _

set_option maxRecDepth 20000 in
set_option maxHeartbeats 4000000 in
theorem pSame2 (a b c d : Pt) (ua : UT a) (ub : UT b) (uc : UT c) (ud : UT d) (h : (grN a && grN b) = true) (h' : (grN c && grN d) = false) (w : World) (hL : Lp w) :
  Calls Tryz.prog 142 #[vT a, vT b, vT c, vT d] w fun e w' => e = .returned (.tuple #[.bool false, .int .i64 100]) ∧ Below w.heap.size w w' := by
 have C1 := pPair_any a b ua ub
 have C2 := pPair_any c d uc ud
 unfold prV at C1 C2
 rw [if_pos h] at C1
 rw [if_neg (by rw [h']; simp)] at C2
 obtain ⟨x, hx⟩ : ∃ x, prN a b = x := ⟨_, rfl⟩
 rw [hx] at C1
 clear h h' hx ua ub uc ud
 go_enter Tryz.func142, Tryz.ntmps142
 go_wp2_with fail
 refine callsOf (fun V => Below w.heap.size w V ∧ Tb (w.heap.size + 1 + 1) c V ∧ Tb (w.heap.size + 1 + 1 + 1) d V ∧ Lp V) ⟨by go_grown, (Tb.new' _ c 72 _ (by simp)).alloc _, Tb.new' _ d 72 _ (by simp), (((hL.alloc _).alloc _).alloc _).alloc _⟩ ?_
 rintro V ⟨BV, hC, hD, hLV⟩
 refine (C1 _ hLV).mono ?_
 rintro e w1 ⟨rfl, B1⟩
 have BW := belowStep BV BV.size B1
 have D1 := hC.below B1
 have E1 := hD.below B1
 have L1' := hLV.below B1
 clear BV B1 hLV hL C1 hC hD V
 have ⟨_, ca, cb, cc, cf⟩ := D1
 have ⟨_, da, db, dc, df⟩ := E1
 go_wp2_with fail
 refine callsOf (fun V => Below w.heap.size w V ∧ Pb w1.heap.size x V ∧ Lp V) ⟨BW.alloc BW.size _, Pb.new' _ x 111 _ rfl, L1'.alloc _⟩ ?_
 rintro V ⟨BV, hX, hLV⟩
 refine (C2 _ hLV).mono ?_
 rintro e w2 ⟨rfl, B2⟩
 have BW2 := belowStep BV BV.size B2
 have X2' := hX.below B2
 clear BV B2 hLV BW C2 hX D1 E1 L1' ca cb cc cf da db dc df V
 obtain ⟨xz, xa, xb, xf⟩ := X2'
 go_wp2_with fail
 refine bodyPost_ret (v := .tuple #[.bool false, .int .i64 100]) (by simp [results, Tryz.results142, go_sem, *]) rfl ⟨rfl, ?_⟩
 exact BW2.alloc BW2.size _
set_option maxRecDepth 20000 in
set_option maxHeartbeats 4000000 in
theorem pSame3 (a b c d : Pt) (ua : UT a) (ub : UT b) (uc : UT c) (ud : UT d) (h : (grN a && grN b) = true) (h' : (grN c && grN d) = true) (w : World) (hL : Lp w) :
  Calls Tryz.prog 142 #[vT a, vT b, vT c, vT d] w fun e w' => e = .returned (.tuple #[.bool (eqP (prN a b) (prN c d)), .int .i64 0]) ∧ Below w.heap.size w w' := by
 have C1 := pPair_any a b ua ub
 have C2 := pPair_any c d uc ud
 unfold prV at C1 C2
 rw [if_pos h] at C1
 rw [if_pos h'] at C2
 have hE := eqlP (prN a b) (prN c d)
 obtain ⟨x, hx⟩ : ∃ x, prN a b = x := ⟨_, rfl⟩
 obtain ⟨y, hy⟩ : ∃ x, prN c d = x := ⟨_, rfl⟩
 rw [hx] at C1 hE ⊢
 rw [hy] at C2 hE ⊢
 obtain ⟨r, hr⟩ : ∃ r, eqP x y = r := ⟨_, rfl⟩
 rw [hr] at hE ⊢
 clear h h' hx hy hr ua ub uc ud
 go_enter Tryz.func142, Tryz.ntmps142
 go_wp2_with fail
 refine callsOf (fun V => Below w.heap.size w V ∧ Tb (w.heap.size + 1 + 1) c V ∧ Tb (w.heap.size + 1 + 1 + 1) d V ∧ Lp V) ⟨by go_grown, (Tb.new' _ c 72 _ (by simp)).alloc _, Tb.new' _ d 72 _ (by simp), (((hL.alloc _).alloc _).alloc _).alloc _⟩ ?_
 rintro V ⟨BV, hC, hD, hLV⟩
 refine (C1 _ hLV).mono ?_
 rintro e w1 ⟨rfl, B1⟩
 have BW := belowStep BV BV.size B1
 have D1 := hC.below B1
 have E1 := hD.below B1
 have L1' := hLV.below B1
 clear BV B1 hLV hL C1 hC hD V
 have ⟨_, ca, cb, cc, cf⟩ := D1
 have ⟨_, da, db, dc, df⟩ := E1
 go_wp2_with fail
 refine callsOf (fun V => Below w.heap.size w V ∧ Pb w1.heap.size x V ∧ Lp V) ⟨BW.alloc BW.size _, Pb.new' _ x 111 _ rfl, L1'.alloc _⟩ ?_
 rintro V ⟨BV, hX, hLV⟩
 refine (C2 _ hLV).mono ?_
 rintro e w2 ⟨rfl, B2⟩
 have BW2 := belowStep BV BV.size B2
 have X2' := hX.below B2
 clear BV B2 hLV BW C2 hX D1 E1 L1' ca cb cc cf da db dc df V
 obtain ⟨xz, xa, xb, xf⟩ := X2'
 go_wp2_with fail
 refine bodyPost_ret (v := .tuple #[.bool r, .int .i64 0]) (by simp [results, Tryz.results142, go_sem, *]) rfl ⟨rfl, ?_⟩
 exact BW2.alloc BW2.size _

theorem pSame_any (a b c d : Pt) (ua : UT a) (ub : UT b) (uc : UT c) (ud : UT d) (w : World) (hL : Lp w) :
  Calls Tryz.prog 142 #[vT a, vT b, vT c, vT d] w fun e w' => e = .returned (saV a b c d) ∧ Below w.heap.size w w' := by
 unfold saV saB
 cases h : grN a && grN b
 ·rw [if_neg (by simp)]; exact pSame1 a b c d ua ub h w hL
 cases h' : grN c && grN d
 ·rw [if_neg (by simp)]; exact pSame2 a b c d ua ub uc ud h h' w hL
 ·rw [if_pos (by simp)]; exact pSame3 a b c d ua ub uc ud h h' w hL
end Go.Proofs.YtoddangedbefgabGreatDoor
namespace Go.Proofs.YtoddangedbefgabGreatDoor
open Go.RowKit Go.Shelf Go.Sort

def fsN (p : Pt) : Nat := if p = iN then 0 else if p.Y % 2 = 0 then 2 else 3

set_option maxRecDepth 20000 in
set_option maxHeartbeats 4000000 in
theorem first_any (p : Pt) (hp : UT p) (w : World) (hL : Li w) :
  Calls Tryz.prog 176 #[vT p] w fun e w' => e = .returned (.int .u8 (fsN p : Nat)) ∧ Below w.heap.size w w' := by
 have lq := (hL).ne
 have ⟨lz, la, lb, lc, lo⟩ := hL
 have hE := eqlI p
 unfold fsN
 by_cases e1 : p = iN
 ·rw [decide_eq_true e1] at hE
  rw [if_pos e1]
  obtain ⟨pX, pY, pI⟩ := p
  simp only [vT] at hE ⊢
  clear e1
  go_enter Tryz.func176, Tryz.ntmps176
  go_wp2_with fail
  go_ret
  exact ⟨rfl, by go_grown⟩
 ·rw [decide_eq_false e1] at hE
  rw [if_neg e1]
  obtain ⟨pX, pY, pI⟩ := p
  simp only [vT] at hE ⊢
  clear e1
  by_cases h2 : pY % 2 = 0
  ·rw [if_pos h2]
   have h2' : (pY : Int) % 2 = 0 := by omega
   go_enter Tryz.func176, Tryz.ntmps176
   go_wp2_with fail
   go_ret
   exact ⟨rfl, by go_grown⟩
  ·rw [if_neg h2]
   have h2' : (pY : Int) % 2 = 1 := by omega
   go_enter Tryz.func176, Tryz.ntmps176
   go_wp2_with fail
   go_ret
   exact ⟨rfl, by go_grown⟩

def bvF (f x : Nat) (j : Nat) : Int := if j = 0 then (f : Int) else ((x / 256 ^ (4 - j) % 256 : Nat) : Int)
def txF (f x : Nat) : ByteArray := ⟨(by8 5 (bvF f x)).toArray⟩
theorem fs_lt (p : Pt) : fsN p < 256 := by unfold fsN; split; omega; split <;> omega
theorem bv_bd (f x : Nat) (hf : f < 256) (j : Nat) : 0 ≤ bvF f x j ∧ bvF f x j < 256 := by
 unfold bvF
 split
 ·omega
 ·have := Nat.mod_lt (x / 256 ^ (4 - j)) (show 0 < 256 by omega)
  omega
theorem text_of (f x b1 b2 b3 b4 : Nat) (hf : f < 256) (h1 : x / 16777216 % 256 = b1) (h2 : x / 65536 % 256 = b2) (h3 : x / 256 % 256 = b3) (h4 : x % 256 = b4) (W : World) (t : TypeId) :
  (convert 116 9 (.slice (some ⟨W.heap.size, 0, none⟩) 5 5)).run Tryz.prog (W.alloc (.cells #[.int .u8 (f : Int), .int .u8 (b1 : Int), .int .u8 (b2 : Int), .int .u8 (b3 : Int), .int .u8 (b4 : Int)] t)) = .ok (.string (txF f x)) (W.alloc (.cells #[.int .u8 (f : Int), .int .u8 (b1 : Int), .int .u8 (b2 : Int), .int .u8 (b3 : Int), .int .u8 (b4 : Int)] t)) := by
 have hl : (by8 5 (bvF f x)).length = 5 := by8_len 5 _
 have := run_convert_bytes_back (P := Tryz.prog) (W.alloc (.cells #[.int .u8 (f : Int), .int .u8 (b1 : Int), .int .u8 (b2 : Int), .int .u8 (b3 : Int), .int .u8 (b4 : Int)] t)) 116 9 5 ⟨W.heap.size, 0, none⟩ 5 (by8 5 (bvF f x)) Tryz.underlying116 Tryz.underlying5 Tryz.underlying9 (fun j hj => by
  rw [Addr.add_mid, Nat.zero_add, by8_at 5 _ (bv_bd f x hf)]
  rw [hl] at hj
  subst h1 h2 h3 h4
  match j, hj with
  | 0, _ => simp [go_sem, bvF]
  | 1, _ => simp [go_sem, bvF]
  | 2, _ => simp [go_sem, bvF]
  | 3, _ => simp [go_sem, bvF]
  | 4, _ => simp [go_sem, bvF])
 rw [hl] at this
 exact this
def bytV (p : Pt) : Value := if grN p = true then .tuple #[.string (txF (fsN p) p.X), .int .i64 0] else .tuple #[.string ⟨#[]⟩, .int .i64 100]

set_option maxRecDepth 20000 in
set_option maxHeartbeats 4000000 in
theorem bytes_any (p : Pt) (hp : UT p) (w : World) (hL : Li w) :
  Calls Tryz.prog 157 #[vT p] w fun e w' => e = .returned (bytV p) ∧ Below w.heap.size w w' := by
 have C1 := ingroup_any p hp
 have C2 := first_any p hp
 have hf := fs_lt p
 unfold bytV
 cases hg : grN p
 ·rw [hg] at C1
  rw [if_neg (by simp)]
  go_enter Tryz.func157, Tryz.ntmps157
  go_wp2_with fail
  refine callsOf (fun W => Below w.heap.size w W ∧ Tb w.heap.size p W ∧ Li W) ⟨by go_grown, Tb.new' w p 72 _ rfl, hL.below (by go_grown)⟩ ?_
  rintro V ⟨BV, hA, LV⟩
  refine (C1 _ LV).mono ?_
  rintro e w1 ⟨rfl, B1⟩
  have BW := belowStep BV BV.size B1
  clear BV hA LV B1
  go_wp2_with fail
  refine bodyPost_ret (v := .tuple #[.string ⟨#[]⟩, .int .i64 100]) (by simp [results, Tryz.results157, go_sem, *]) rfl ⟨rfl, BW⟩
 rw [hg] at C1
 rw [if_pos rfl]
 obtain ⟨f, hf'⟩ : ∃ f, fsN p = f := ⟨_, rfl⟩
 rw [hf'] at C2 hf ⊢
 clear hf'
 go_enter Tryz.func157, Tryz.ntmps157
 go_wp2_with fail
 refine callsOf (fun W => Below w.heap.size w W ∧ Tb w.heap.size p W ∧ Li W) ⟨by go_grown, Tb.new' w p 72 _ rfl, hL.below (by go_grown)⟩ ?_
 rintro V ⟨BV, hA, LV⟩
 refine (C1 _ LV).mono ?_
 rintro e w1 ⟨rfl, B1⟩
 have A1 := hA.below B1
 have LW1 := LV.below B1
 have BW := belowStep BV BV.size B1
 clear BV hA LV B1 V
 go_wp2_with fail
 have c2 := inClassL C2 LW1
 have k0 := cell_regrown A1.a
 have k1 := cell_regrown A1.b
 have k2 := cell_regrown A1.c
 have HV : Hid _ := BW
 obtain ⟨b1, h1⟩ : ∃ b, p.X / 16777216 % 256 = b := ⟨_, rfl⟩
 obtain ⟨b2, h2⟩ : ∃ b, p.X / 65536 % 256 = b := ⟨_, rfl⟩
 obtain ⟨b3, h3⟩ : ∃ b, p.X / 256 % 256 = b := ⟨_, rfl⟩
 obtain ⟨b4, h4⟩ : ∃ b, p.X % 256 = b := ⟨_, rfl⟩
 have e1 : IntKind.u8.wrap ((p.X : Int) / 16777216) = b1 := by rw [IntKind.wrap_u8]; omega
 have e2 : IntKind.u8.wrap ((p.X : Int) / 65536) = b2 := by rw [IntKind.wrap_u8]; omega
 have e3 : IntKind.u8.wrap ((p.X : Int) / 256) = b3 := by rw [IntKind.wrap_u8]; omega
 have e4 : IntKind.u8.wrap (p.X : Int) = b4 := by rw [IntKind.wrap_u8]; omega
 clear A1 LW1 BW C1 C2
 refine region_tail 17 (by kernel_rfl) (by kernel_rfl) ?_
 simp only [List.take_succ_cons, List.take_zero, List.drop_succ_cons, List.drop_zero]
 quiet_step (fail)
 quiet_step (exact c2 _ _)
 iterate 15 (quiet_step (fail))
 refine wpQuiet_nil ?_
 intro w8 hw8
 have B8 : Below w1.heap.size w1 w8 := by
  obtain ⟨p, rfl⟩ := hw8
  exact below_regrown _ _ _
 have BW := belowStep HV.out (HV.out).size B8
 have hcv := text_of f p.X b1 b2 b3 b4 hf h1 h2 h3 h4 w8
 clear hw8 k0 k1 k2 c2 B8 HV h1 h2 h3 h4 e1 e2 e3 e4
 go_wp2_with fail
 refine bodyPost_ret (v := .tuple #[.string (txF f p.X), .int .i64 0]) (by simp [results, Tryz.results157, go_sem, *]) rfl ⟨rfl, BW.alloc BW.size _⟩

end Go.Proofs.YtoddangedbefgabGreatDoor
namespace Go.Proofs.YtoddangedbefgabGreatDoor
open Go.RowKit Go.Shelf Go.Sort

theorem ofInt_nat64 (x : Nat) (hx : x < 18446744073709551616) : (BitVec.ofInt 64 (x : Int)).toNat = x := by
 rw [BitVec.toNat_ofInt]
 omega
theorem or_nat64 (x y : Nat) (hx : x < 18446744073709551616) (hy : y < 18446744073709551616) : bits .or .u64 (x : Int) (y : Int) = ((x ||| y : Nat) : Int) := by
 have h : (x ||| y) < 2 ^ 64 := Nat.or_lt_two_pow hx hy
 have e : bits .or .u64 (x : Int) (y : Int) = IntKind.u64.wrap (((BitVec.ofInt 64 (x : Int)) ||| (BitVec.ofInt 64 (y : Int))).toNat : Int) := rfl
 rw [e, BitVec.toNat_or, ofInt_nat64 x hx, ofInt_nat64 y hy, IntKind.wrap_u64]
 omega
def btN (s : ByteArray) (i : Nat) : Nat := (s.data.getD i 0).toNat
theorem bt_N (s : ByteArray) (i : Nat) : bt s i = (btN s i : Int) := rfl
theorem btN_lt (s : ByteArray) (i : Nat) : btN s i < 256 := (s.data.getD i 0).toNat_lt
def fourN (y1 y2 y3 y4 : Nat) : Nat := y1 * 16777216 + y2 * 65536 + y3 * 256 + y4
theorem four_lt (y1 y2 y3 y4 : Nat) (h1 : y1 < 256) (h2 : y2 < 256) (h3 : y3 < 256) (h4 : y4 < 256) : fourN y1 y2 y3 y4 < 4294967296 := by unfold fourN; omega
theorem shl_n (y k : Nat) (h : y * k < 18446744073709551616) : IntKind.u64.wrap ((y : Int) * (k : Int)) = ((y * k : Nat) : Int) := by
 rw [← Int.natCast_mul, IntKind.wrap_u64]
 omega
theorem or_1 (y1 y2 : Nat) (h1 : y1 < 256) (h2 : y2 < 256) : bits .or .u64 ((y1 * 16777216 : Nat) : Int) ((y2 * 65536 : Nat) : Int) = ((y1 * 16777216 + y2 * 65536 : Nat) : Int) := by
 rw [or_nat64 _ _ (by omega) (by omega)]
 have := Nat.two_pow_add_eq_or_of_lt (i := 24) (b := y2 * 65536) (by omega) y1
 rw [show 2 ^ 24 * y1 = y1 * 16777216 by omega] at this
 rw [this]
theorem or_2 (m y3 : Nat) (h1 : m < 65536) (h2 : y3 < 256) : bits .or .u64 ((m * 65536 : Nat) : Int) ((y3 * 256 : Nat) : Int) = ((m * 65536 + y3 * 256 : Nat) : Int) := by
 rw [or_nat64 _ _ (by omega) (by omega)]
 have := Nat.two_pow_add_eq_or_of_lt (i := 16) (b := y3 * 256) (by omega) m
 rw [show 2 ^ 16 * m = m * 65536 by omega] at this
 rw [this]
theorem or_3 (m y4 : Nat) (h1 : m < 16777216) (h2 : y4 < 256) : bits .or .u64 ((m * 256 : Nat) : Int) (y4 : Int) = ((m * 256 + y4 : Nat) : Int) := by
 rw [or_nat64 _ _ (by omega) (by omega)]
 have := Nat.two_pow_add_eq_or_of_lt (i := 8) (b := y4) (by omega) m
 rw [show 2 ^ 8 * m = m * 256 by omega] at this
 rw [this]
structure Four (y1 y2 y3 y4 m1 m2 m3 n1 n2 x : Nat) : Prop where
 s1 : IntKind.u64.wrap ((y1 : Int) * 16777216) = (m1 : Int)
 s2 : IntKind.u64.wrap ((y2 : Int) * 65536) = (m2 : Int)
 s3 : IntKind.u64.wrap ((y3 : Int) * 256) = (m3 : Int)
 o1 : bits .or .u64 (m1 : Int) (m2 : Int) = (n1 : Int)
 o2 : bits .or .u64 (n1 : Int) (m3 : Int) = (n2 : Int)
 o3 : bits .or .u64 (n2 : Int) (y4 : Int) = (x : Int)
theorem four_of (y1 y2 y3 y4 : Nat) (h1 : y1 < 256) (h2 : y2 < 256) (h3 : y3 < 256) (h4 : y4 < 256) : ∃ m1 m2 m3 n1 n2, Four y1 y2 y3 y4 m1 m2 m3 n1 n2 (fourN y1 y2 y3 y4) := by
 refine ⟨y1 * 16777216, y2 * 65536, y3 * 256, y1 * 16777216 + y2 * 65536, y1 * 16777216 + y2 * 65536 + y3 * 256, ?_, ?_, ?_, or_1 y1 y2 h1 h2, ?_, ?_⟩
 ·exact shl_n y1 16777216 (by omega)
 ·exact shl_n y2 65536 (by omega)
 ·exact shl_n y3 256 (by omega)
 ·have := or_2 (y1 * 256 + y2) y3 (by omega) h3
  rw [show (y1 * 256 + y2) * 65536 = y1 * 16777216 + y2 * 65536 by omega] at this
  exact this
 ·have := or_3 (y1 * 65536 + y2 * 256 + y3) y4 (by omega) h4
  rw [show (y1 * 65536 + y2 * 256 + y3) * 256 = y1 * 16777216 + y2 * 65536 + y3 * 256 by omega] at this
  exact this
theorem Tb.setY {n : Nat} {p : Pt} {W : World} (h : Tb n p W) (r : Nat) : Tb n ⟨p.X, r, p.I⟩ (W.setCell ⟨n, 1, none⟩ (.int .u64 (r : Int))) := by
 obtain ⟨z, a, b, c, f⟩ := h
 exact ⟨by simp [go_sem, *], by simp [go_sem, *], by simp [go_sem, *], by simp [go_sem, *], by simp [go_sem, *]⟩
theorem Tb.otherC {n g : Nat} {p : Pt} {W : World} (h : Tb n p W) (hg : g ≠ n) (o : Nat) (u : Value) : Tb n p (W.setCell ⟨g, o, none⟩ u) := by
 obtain ⟨z, a, b, c, f⟩ := h
 have hg' : n ≠ g := fun e => hg e.symm
 exact ⟨by simp [go_sem, *], by simp [go_sem, *], by simp [go_sem, *], by simp [go_sem, *], by simp [go_sem, *]⟩
def nmX (s : ByteArray) : Nat := fourN (btN s 1) (btN s 2) (btN s 3) (btN s 4)
def nmN (s : ByteArray) : Pt := if btN s 0 = 0 then iN else if btN s 0 = 3 then ngN ⟨nmX s, roN (sqN (nmX s)), false⟩ else ⟨nmX s, roN (sqN (nmX s)), false⟩
structure NmD (V : World) (s : ByteArray) (y1 y2 y3 y4 m1 m2 m3 n1 n2 x : Nat) (S : Nat → Bool) (x3 x8 x9 x10 x11 x12 x13 x14 x15 x16 x17 x18 x19 x20 x21 x22 x23 x24 x25 x26 : Value) (W : World) : Prop where
 e : Below V.heap.size V W
 f0 : S 0 = true → x8 = .string s
 f1 : S 1 = true → x9 = .int .u8 (y1 : Int)
 f2 : S 2 = true → x10 = .int .u64 (y1 : Int)
 f3 : S 3 = true → x11 = .int .u64 (m1 : Int)
 f4 : S 4 = true → x12 = .string s
 f5 : S 5 = true → x13 = .int .u8 (y2 : Int)
 f6 : S 6 = true → x14 = .int .u64 (y2 : Int)
 f7 : S 7 = true → x15 = .int .u64 (m2 : Int)
 f8 : S 8 = true → x16 = .int .u64 (n1 : Int)
 f9 : S 9 = true → x17 = .string s
 f10 : S 10 = true → x18 = .int .u8 (y3 : Int)
 f11 : S 11 = true → x19 = .int .u64 (y3 : Int)
 f12 : S 12 = true → x20 = .int .u64 (m3 : Int)
 f13 : S 13 = true → x21 = .int .u64 (n2 : Int)
 f14 : S 14 = true → x22 = .string s
 f15 : S 15 = true → x23 = .int .u8 (y4 : Int)
 f16 : S 16 = true → x24 = .int .u64 (y4 : Int)
 f17 : S 17 = true → x25 = .int .u64 (x : Int)
 f18 : S 18 = true → x26 = .agg #[.int .u64 (x : Int), .int .u64 0, .bool false]
 f19 : S 19 = true → ∃ b, x3 = .pointer (some ⟨b, 0, none⟩) ∧ V.heap.size ≤ b ∧ Tb b oP W
theorem NmD.grow {V : World} {s : ByteArray} {y1 y2 y3 y4 m1 m2 m3 n1 n2 x : Nat} {S : Nat → Bool} {x3 x8 x9 x10 x11 x12 x13 x14 x15 x16 x17 x18 x19 x20 x21 x22 x23 x24 x25 x26 : Value} {W W' : World} (h : NmD V s y1 y2 y3 y4 m1 m2 m3 n1 n2 x S x3 x8 x9 x10 x11 x12 x13 x14 x15 x16 x17 x18 x19 x20 x21 x22 x23 x24 x25 x26 W) (hb : Below W.heap.size W W') : NmD V s y1 y2 y3 y4 m1 m2 m3 n1 n2 x S x3 x8 x9 x10 x11 x12 x13 x14 x15 x16 x17 x18 x19 x20 x21 x22 x23 x24 x25 x26 W' :=
 ⟨belowStep h.e h.e.size hb, h.f0, h.f1, h.f2, h.f3, h.f4, h.f5, h.f6, h.f7, h.f8, h.f9, h.f10, h.f11, h.f12, h.f13, h.f14, h.f15, h.f16, h.f17, h.f18, fun s => (let ⟨b, e, hz, t⟩ := (h.f19 s); ⟨b, e, hz, t.below hb⟩)⟩
set_option maxRecDepth 20000 in
set_option maxHeartbeats 4000000 in
theorem named_any (s : ByteArray) (hs : s.size = 5) (w : World) (hL : Li w) :
  Calls Tryz.prog 156 #[.string s] w fun e w' => e = .returned (vT (nmN s)) ∧ Below w.heap.size w w' := by
 have lq := (hL).ne
 have ⟨lz, la, lb, lc, lo⟩ := hL
 have g0 := bt_get s 0 (by omega)
 have g1 := bt_get s 1 (by omega)
 have g2 := bt_get s 2 (by omega)
 have g3 := bt_get s 3 (by omega)
 have g4 := bt_get s 4 (by omega)
 have q1 := btN_lt s 1
 have q2 := btN_lt s 2
 have q3 := btN_lt s 3
 have q4 := btN_lt s 4
 have q0 := btN_lt s 0
 rw [bt_N] at g0 g1 g2 g3 g4
 obtain ⟨m1, m2, m3, n1, n2, F4⟩ := four_of _ _ _ _ q1 q2 q3 q4
 have hx4 := four_lt _ _ _ _ q1 q2 q3 q4
 unfold nmN
 have eX : nmX s = fourN (btN s 1) (btN s 2) (btN s 3) (btN s 4) := rfl
 rw [← eX] at F4 hx4
 clear eX
 obtain ⟨x, ex⟩ : ∃ x, nmX s = x := ⟨_, rfl⟩
 rw [ex] at F4 hx4 ⊢
 obtain ⟨y0, e0⟩ : ∃ y, btN s 0 = y := ⟨_, rfl⟩
 obtain ⟨y1, e1⟩ : ∃ y, btN s 1 = y := ⟨_, rfl⟩
 obtain ⟨y2, e2⟩ : ∃ y, btN s 2 = y := ⟨_, rfl⟩
 obtain ⟨y3, e3⟩ : ∃ y, btN s 3 = y := ⟨_, rfl⟩
 obtain ⟨y4, e4⟩ : ∃ y, btN s 4 = y := ⟨_, rfl⟩
 rw [e1, e2, e3, e4] at F4
 rw [e0] at g0 q0 ⊢
 rw [e1] at g1 q1
 rw [e2] at g2 q2
 rw [e3] at g3 q3
 rw [e4] at g4 q4
 clear ex e0 e1 e2 e3 e4
 obtain ⟨s1, s2, s3, o1, o2, o3⟩ := F4
 have t1 : IntKind.u64.wrap (y1 : Int) = (y1 : Int) := by rw [IntKind.wrap_u64]; omega
 have t2 : IntKind.u64.wrap (y2 : Int) = (y2 : Int) := by rw [IntKind.wrap_u64]; omega
 have t3 : IntKind.u64.wrap (y3 : Int) = (y3 : Int) := by rw [IntKind.wrap_u64]; omega
 have t4 : IntKind.u64.wrap (y4 : Int) = (y4 : Int) := by rw [IntKind.wrap_u64]; omega
 by_cases h0 : y0 = 0
 ·rw [if_pos h0]
  subst h0
  go_enter Tryz.func156, Tryz.ntmps156
  go_wp2_with fail
  refine bodyPost_ret (v := vT iN) (by simp [results, Tryz.results156, go_sem, iN, *]) rfl ⟨rfl, by go_grown⟩
 rw [if_neg h0]
 have h0' : ¬ (y0 : Int) = 0 := by omega
 have h0'' : ((y0 : Int) == 0) = false := by rw [beq_eq_false_iff_ne]; exact h0'
 have C1 := square_any x (by unfold U64; omega)
 have hq := sq_lt x
 obtain ⟨q, eq⟩ : ∃ q, sqN x = q := ⟨_, rfl⟩
 rw [eq] at C1 hq ⊢
 have C2 := root_any q (pm_u _ hq)
 have hr := ro_lt q
 obtain ⟨r, er⟩ : ∃ r, roN q = r := ⟨_, rfl⟩
 obtain ⟨rb, erb⟩ : ∃ b, roB q = b := ⟨_, rfl⟩
 rw [er, erb] at C2
 rw [er] at hr ⊢
 clear eq er erb
 have C3 := negative_any ⟨x, r, false⟩ ⟨by show x < _; omega, pm_u _ hr⟩
 obtain ⟨n, en⟩ : ∃ n, ngN ⟨x, r, false⟩ = n := ⟨_, rfl⟩
 rw [en] at C3 ⊢
 clear en
 obtain ⟨fv, hfv⟩ : ∃ v : Pt, (if y0 = 3 then n else ⟨x, r, false⟩) = v := ⟨_, rfl⟩
 rw [hfv]
 have HF : Hid ((if y0 = 3 then n else (⟨x, r, false⟩ : Pt)) = fv) := hfv
 clear hfv
 go_enter Tryz.func156, Tryz.ntmps156
 go_wp2_with fail
 refine wpOf (fun V => Below w.heap.size w V ∧ Tb w.heap.size oP V) ⟨by go_grown, Tb.new' w oP 72 _ rfl⟩ ?_
 rintro V ⟨BV, hO⟩
 have HV : Hid (_ ∧ _) := ⟨BV, hO⟩
 clear BV hO lq la lb lc lz lo hL
 refine region_inv_tail 20 (fun S aa W => ∃ x3 x8 x9 x10 x11 x12 x13 x14 x15 x16 x17 x18 x19 x20 x21 x22 x23 x24 x25 x26 : Value, aa = { tmps := #[.string s, undef, .pointer (some ⟨w.heap.size, 0, none⟩), x3, .string s, .int .u8 (y0 : Int), .bool false, undef, x8, x9, x10, x11, x12, x13, x14, x15, x16, x17, x18, x19, x20, x21, x22, x23, x24, x25, x26, undef, undef, undef, undef, undef, undef, undef, undef, undef, undef, undef, undef, undef, undef], defers := [] } ∧ NmD V s y1 y2 y3 y4 m1 m2 m3 n1 n2 x S x3 x8 x9 x10 x11 x12 x13 x14 x15 x16 x17 x18 x19 x20 x21 x22 x23 x24 x25 x26 W) (by kernel_rfl) (by kernel_rfl) ?_ ?_ ?_
 ·exact ⟨undef, undef, undef, undef, undef, undef, undef, undef, undef, undef, undef, undef, undef, undef, undef, undef, undef, undef, undef, undef, rfl, ⟨(Below.refl _ V).drew, nofun, nofun, nofun, nofun, nofun, nofun, nofun, nofun, nofun, nofun, nofun, nofun, nofun, nofun, nofun, nofun, nofun, nofun, nofun, nofun⟩⟩
 ·intro i o S aa W hin hi hun hJ hall K hK
  obtain ⟨x3, x8, x9, x10, x11, x12, x13, x14, x15, x16, x17, x18, x19, x20, x21, x22, x23, x24, x25, x26, rfl, h⟩ := hJ
  have hlt : i < 20 := hin
  have hcase : i = 0 ∨ i = 1 ∨ i = 2 ∨ i = 3 ∨ i = 4 ∨ i = 5 ∨ i = 6 ∨ i = 7 ∨ i = 8 ∨ i = 9 ∨ i = 10 ∨ i = 11 ∨ i = 12 ∨ i = 13 ∨ i = 14 ∨ i = 15 ∨ i = 16 ∨ i = 17 ∨ i = 18 ∨ i = 19 := by omega
  rcases hcase with rfl | rfl | rfl | rfl | rfl | rfl | rfl | rfl | rfl | rfl | rfl | rfl | rfl | rfl | rfl | rfl | rfl | rfl | rfl | rfl
  all_goals (have ho := (Option.some.inj hi).symm; subst ho; clear hi hlt hin)
  ·go_simp
   exact hK _ _ ⟨_, _, _, _, _, _, _, _, _, _, _, _, _, _, _, _, _, _, _, _, rfl, { h with f0 := fun _ => rfl }⟩
  ·have s_0 : S 0 = true := hall ⟨0, .data⟩ (by simp) rfl
   obtain rfl := h.f0 s_0
   go_simp
   exact hK _ _ ⟨_, _, _, _, _, _, _, _, _, _, _, _, _, _, _, _, _, _, _, _, rfl, { h with f1 := fun _ => rfl }⟩
  ·have s_1 : S 1 = true := hall ⟨1, .data⟩ (by simp) rfl
   obtain rfl := h.f1 s_1
   go_simp
   exact hK _ _ ⟨_, _, _, _, _, _, _, _, _, _, _, _, _, _, _, _, _, _, _, _, rfl, { h with f2 := fun _ => rfl }⟩
  ·have s_2 : S 2 = true := hall ⟨2, .data⟩ (by simp) rfl
   obtain rfl := h.f2 s_2
   go_simp
   exact hK _ _ ⟨_, _, _, _, _, _, _, _, _, _, _, _, _, _, _, _, _, _, _, _, rfl, { h with f3 := fun _ => rfl }⟩
  ·go_simp
   exact hK _ _ ⟨_, _, _, _, _, _, _, _, _, _, _, _, _, _, _, _, _, _, _, _, rfl, { h with f4 := fun _ => rfl }⟩
  ·have s_4 : S 4 = true := hall ⟨4, .data⟩ (by simp) rfl
   obtain rfl := h.f4 s_4
   go_simp
   exact hK _ _ ⟨_, _, _, _, _, _, _, _, _, _, _, _, _, _, _, _, _, _, _, _, rfl, { h with f5 := fun _ => rfl }⟩
  ·have s_5 : S 5 = true := hall ⟨5, .data⟩ (by simp) rfl
   obtain rfl := h.f5 s_5
   go_simp
   exact hK _ _ ⟨_, _, _, _, _, _, _, _, _, _, _, _, _, _, _, _, _, _, _, _, rfl, { h with f6 := fun _ => rfl }⟩
  ·have s_6 : S 6 = true := hall ⟨6, .data⟩ (by simp) rfl
   obtain rfl := h.f6 s_6
   go_simp
   exact hK _ _ ⟨_, _, _, _, _, _, _, _, _, _, _, _, _, _, _, _, _, _, _, _, rfl, { h with f7 := fun _ => rfl }⟩
  ·have s_3 : S 3 = true := hall ⟨3, .data⟩ (by simp) rfl
   obtain rfl := h.f3 s_3
   have s_7 : S 7 = true := hall ⟨7, .data⟩ (by simp) rfl
   obtain rfl := h.f7 s_7
   go_simp
   exact hK _ _ ⟨_, _, _, _, _, _, _, _, _, _, _, _, _, _, _, _, _, _, _, _, rfl, { h with f8 := fun _ => rfl }⟩
  ·go_simp
   exact hK _ _ ⟨_, _, _, _, _, _, _, _, _, _, _, _, _, _, _, _, _, _, _, _, rfl, { h with f9 := fun _ => rfl }⟩
  ·have s_9 : S 9 = true := hall ⟨9, .data⟩ (by simp) rfl
   obtain rfl := h.f9 s_9
   go_simp
   exact hK _ _ ⟨_, _, _, _, _, _, _, _, _, _, _, _, _, _, _, _, _, _, _, _, rfl, { h with f10 := fun _ => rfl }⟩
  ·have s_10 : S 10 = true := hall ⟨10, .data⟩ (by simp) rfl
   obtain rfl := h.f10 s_10
   go_simp
   exact hK _ _ ⟨_, _, _, _, _, _, _, _, _, _, _, _, _, _, _, _, _, _, _, _, rfl, { h with f11 := fun _ => rfl }⟩
  ·have s_11 : S 11 = true := hall ⟨11, .data⟩ (by simp) rfl
   obtain rfl := h.f11 s_11
   go_simp
   exact hK _ _ ⟨_, _, _, _, _, _, _, _, _, _, _, _, _, _, _, _, _, _, _, _, rfl, { h with f12 := fun _ => rfl }⟩
  ·have s_8 : S 8 = true := hall ⟨8, .data⟩ (by simp) rfl
   obtain rfl := h.f8 s_8
   have s_12 : S 12 = true := hall ⟨12, .data⟩ (by simp) rfl
   obtain rfl := h.f12 s_12
   go_simp
   exact hK _ _ ⟨_, _, _, _, _, _, _, _, _, _, _, _, _, _, _, _, _, _, _, _, rfl, { h with f13 := fun _ => rfl }⟩
  ·go_simp
   exact hK _ _ ⟨_, _, _, _, _, _, _, _, _, _, _, _, _, _, _, _, _, _, _, _, rfl, { h with f14 := fun _ => rfl }⟩
  ·have s_14 : S 14 = true := hall ⟨14, .data⟩ (by simp) rfl
   obtain rfl := h.f14 s_14
   go_simp
   exact hK _ _ ⟨_, _, _, _, _, _, _, _, _, _, _, _, _, _, _, _, _, _, _, _, rfl, { h with f15 := fun _ => rfl }⟩
  ·have s_15 : S 15 = true := hall ⟨15, .data⟩ (by simp) rfl
   obtain rfl := h.f15 s_15
   go_simp
   exact hK _ _ ⟨_, _, _, _, _, _, _, _, _, _, _, _, _, _, _, _, _, _, _, _, rfl, { h with f16 := fun _ => rfl }⟩
  ·have s_13 : S 13 = true := hall ⟨13, .data⟩ (by simp) rfl
   obtain rfl := h.f13 s_13
   have s_16 : S 16 = true := hall ⟨16, .data⟩ (by simp) rfl
   obtain rfl := h.f16 s_16
   go_simp
   exact hK _ _ ⟨_, _, _, _, _, _, _, _, _, _, _, _, _, _, _, _, _, _, _, _, rfl, { h with f17 := fun _ => rfl }⟩
  ·have s_17 : S 17 = true := hall ⟨17, .data⟩ (by simp) rfl
   obtain rfl := h.f17 s_17
   go_simp
   exact hK _ _ ⟨_, _, _, _, _, _, _, _, _, _, _, _, _, _, _, _, _, _, _, _, rfl, { h with f18 := fun _ => rfl }⟩
  ·have h1 := h.grow ((Below.refl _ W).alloc (Nat.le_refl _) (.cells #[.int .u64 0, .int .u64 0, .bool false] 72))
   go_simp
   exact hK _ _ ⟨_, _, _, _, _, _, _, _, _, _, _, _, _, _, _, _, _, _, _, _, rfl, { h1 with f19 := fun _ => ⟨_, rfl, h.e.size, Tb.new' W oP 72 _ rfl⟩ }⟩
 ·rintro S aa W hall ⟨x3, x8, x9, x10, x11, x12, x13, x14, x15, x16, x17, x18, x19, x20, x21, x22, x23, x24, x25, x26, rfl, h⟩
  obtain rfl := h.f0 (hall 0 (by decide))
  obtain rfl := h.f1 (hall 1 (by decide))
  obtain rfl := h.f2 (hall 2 (by decide))
  obtain rfl := h.f3 (hall 3 (by decide))
  obtain rfl := h.f4 (hall 4 (by decide))
  obtain rfl := h.f5 (hall 5 (by decide))
  obtain rfl := h.f6 (hall 6 (by decide))
  obtain rfl := h.f7 (hall 7 (by decide))
  obtain rfl := h.f8 (hall 8 (by decide))
  obtain rfl := h.f9 (hall 9 (by decide))
  obtain rfl := h.f10 (hall 10 (by decide))
  obtain rfl := h.f11 (hall 11 (by decide))
  obtain rfl := h.f12 (hall 12 (by decide))
  obtain rfl := h.f13 (hall 13 (by decide))
  obtain rfl := h.f14 (hall 14 (by decide))
  obtain rfl := h.f15 (hall 15 (by decide))
  obtain rfl := h.f16 (hall 16 (by decide))
  obtain rfl := h.f17 (hall 17 (by decide))
  obtain rfl := h.f18 (hall 18 (by decide))
  obtain ⟨b, rfl, hbz, hTb⟩ := h.f19 (hall 19 (by decide))
  have BWD := h.e
  clear h hall
  obtain ⟨BV, hO⟩ := HV.out
  have BW := belowStep BV BV.size BWD
  have O1 := hO.below BWD
  have hbw : w.heap.size < b := Nat.lt_of_lt_of_le hO.z hbz
  have P1 := hTb.over ⟨x, 0, false⟩
  have O1' := O1.other (g := b) ⟨x, 0, false⟩ (by omega)
  have BP := below_put3 BW (g := b) (by omega) ⟨x, 0, false⟩
  obtain ⟨tz, ta, tb, tc, tf⟩ := hTb
  have HX : Hid (_ ∧ _ ∧ _) := ⟨BP, O1', P1⟩
  clear BV hO BW O1 P1 O1' BP BWD HV
  go_wp2_with fail
  refine callsOf (fun W => Below w.heap.size w W ∧ Tb w.heap.size oP W ∧ Tb b ⟨x, 0, false⟩ W) HX.out ?_
  rintro v1 ⟨BV, hO, hP⟩
  clear HX tz ta tb tc tf
  refine (C1 _).mono ?_
  rintro e v2 ⟨rfl, B2⟩
  have O2 := hO.below B2
  have P2' := hP.below B2
  have BW2 := belowStep BV BV.size B2
  clear BV hO hP B2
  go_wp2_with fail
  refine (C2 _).mono ?_
  rintro e v3 ⟨rfl, B3⟩
  have O3 := O2.below B3
  have P3 := P2'.below B3
  have BW3 := belowStep BW2 BW2.size B3
  clear BW2 O2 P2' B3
  have PZ : Tb b ⟨x, r, false⟩ (v3.setCell ⟨b, 1, none⟩ (.int .u64 (r : Int))) := P3.setY r
  have OZ : Tb w.heap.size oP (v3.setCell ⟨b, 1, none⟩ (.int .u64 (r : Int))) := O3.otherC (by omega) 1 _
  have BZ : Below w.heap.size w (v3.setCell ⟨b, 1, none⟩ (.int .u64 (r : Int))) := BW3.setCell (p := ⟨b, 1, none⟩) (by show _ ≤ b; omega) _
  have HX : Hid (_ ∧ _ ∧ _) := ⟨BZ, OZ, PZ⟩
  obtain ⟨tz, ta, tb, tc, tf⟩ := P3
  have ⟨oz, oa, ob, oc, of⟩ := O3
  have hne : w.heap.size ≠ b := by omega
  have hne' : b ≠ w.heap.size := by omega
  clear BW3 PZ OZ BZ
  by_cases h3 : y0 = 3
  ·subst h3
   go_wp2_with fail
   refine callsOf (fun W => Below w.heap.size w W ∧ Tb w.heap.size oP W ∧ Tb b ⟨x, r, false⟩ W) HX.out ?_
   rintro v4 ⟨BV, hO, hP⟩
   clear HX tz ta tb tc tf O3
   refine (C3 _).mono ?_
   rintro e v5 ⟨rfl, B5⟩
   obtain ⟨qz, qa, qb, qc, qf⟩ := hO.below B5
   have BW5 := belowStep BV BV.size B5
   clear BV hO hP B5
   go_wp2_with fail
   refine bodyPost_ret (v := vT n) (by simp [results, Tryz.results156, go_sem, *]) rfl ⟨by rw [← HF.out, if_pos trivial], ?_⟩
   exact below_put3 (y := n) BW5 (by omega)
  ·have h3' : ¬ (y0 : Int) = 3 := by omega
   have h3'' : ((y0 : Int) == 3) = false := by rw [beq_eq_false_iff_ne]; exact h3'
   go_wp2_with fail
   refine bodyPost_ret (v := vT ⟨x, r, false⟩) (by simp [results, Tryz.results156, go_sem, *]) rfl ⟨by rw [← HF.out, if_neg h3], ?_⟩
   exact below_put3 (y := ⟨x, r, false⟩) HX.out.1 (Nat.le_refl _)
end Go.Proofs.YtoddangedbefgabGreatDoor
namespace Go.Proofs.YtoddangedbefgabGreatDoor
open Go.RowKit Go.Shelf Go.Sort

theorem ut_nm (s : ByteArray) : UT (nmN s) := by
 have hx : nmX s < 4294967296 := four_lt _ _ _ _ (btN_lt s 1) (btN_lt s 2) (btN_lt s 3) (btN_lt s 4)
 have hr := pm_u _ (ro_lt (sqN (nmX s)))
 unfold nmN
 split
 ·exact ⟨by decide, by decide⟩
 ·split
  ·exact ⟨by show nmX s < _; omega, pm_u _ (sb_lt _ _)⟩
  ·exact ⟨by show nmX s < _; omega, hr⟩
theorem q_toList_inj {s t : ByteArray} (h : s.toList = t.toList) : s = t := by
 rw [ByteArray.toList_eq, ByteArray.toList_eq] at h
 have h2 : s.data = t.data := Array.toList_inj.1 h
 cases s
 cases t
 cases h2
 rfl

theorem ne_list {s t : ByteArray} (h : ¬ s = t) : (s.toList == t.toList) = false := by rw [beq_eq_false_iff_ne]; exact fun e => h (q_toList_inj e)
def frB (s : ByteArray) : Bool := decide (s.size = 5) && grN (nmN s) && decide (txF (fsN (nmN s)) (nmN s).X = s)
def frV (s : ByteArray) : Value := if frB s = true then okT (nmN s) else errT

abbrev bxQ (r : Pt) : Obj := .cells #[.int .u64 (r.X : Int), .int .u64 (r.Y : Int), .bool r.I] 72
set_option maxRecDepth 20000 in
set_option maxHeartbeats 4000000 in
theorem from_any (s : ByteArray) (w : World) (hL : Li w) :
  Calls Tryz.prog 140 #[.string s] w fun e w' => e = .returned (frV s) ∧ Below w.heap.size w w' := by
 have eV : frV s = if frB s = true then okT (nmN s) else errT := rfl
 rw [eV]
 by_cases h5 : s.size = 5
 ·have C1 := named_any s h5
  have C2 := bytes_any (nmN s) (ut_nm s)
  have eB : frB s = (grN (nmN s) && decide (txF (fsN (nmN s)) (nmN s).X = s)) := by unfold frB; rw [decide_eq_true h5, Bool.true_and]
  rw [eB]
  unfold bytV at C2
  obtain ⟨p, hp⟩ : ∃ p, nmN s = p := ⟨_, rfl⟩
  rw [hp] at C1 C2 ⊢
  have h5' : (s.size : Int) = 5 := by omega
  cases hg : grN p
  ·rw [hg] at C2
   rw [if_neg (by simp)] at C2 ⊢
   go_enter Tryz.func140, Tryz.ntmps140
   go_wp2_with fail
   refine callsOf (fun W => Below w.heap.size w W ∧ Tb w.heap.size oP W ∧ Li W) ⟨by go_grown, Tb.new' w oP 72 _ rfl, hL.alloc _⟩ ?_
   rintro v0 ⟨BV, hO, LV⟩
   refine (C1 _ LV).mono ?_
   rintro e w1 ⟨rfl, B1⟩
   have O1 := hO.below B1
   have LW1 := LV.below B1
   have BW1 := belowStep BV BV.size B1
   have HX : Hid (_ ∧ _ ∧ _ ∧ _) := ⟨BW1.alloc BW1.size (bxQ p), O1.alloc (bxQ p), Tb.new' w1 p 72 _ rfl, LW1.alloc (bxQ p)⟩
   clear BV hO LV B1 O1 LW1 BW1
   go_wp2_with fail
   refine callsOf (fun W => Below w.heap.size w W ∧ Tb w.heap.size oP W ∧ Tb w1.heap.size p W ∧ Li W) HX.out ?_
   rintro v2 ⟨BV, hO, hP, LV⟩
   obtain ⟨n1, hn1⟩ : ∃ n, w1.heap.size = n := ⟨_, rfl⟩
   rw [hn1] at hP ⊢
   clear HX hn1 w1
   refine (C2 _ LV).mono ?_
   rintro e w3 ⟨rfl, B3⟩
   have O3 := hO.below B3
   have P3 := hP.below B3
   have BW3 := belowStep BV BV.size B3
   clear BV hO hP LV B3
   have ⟨oz, oa, ob, oc, of⟩ := O3
   have ⟨pz, pa, pb, pc, pf⟩ := P3
   clear O3 P3
   go_wp2_with fail
   refine bodyPost_ret (v := errT) (by simp [oP, results, Tryz.results140, go_sem, *]) rfl ⟨rfl, ?_⟩
   exact below_put3 (y := oP) BW3 (Nat.le_refl _)
  ·rw [hg] at C2
   rw [if_pos rfl] at C2
   obtain ⟨t, ht⟩ : ∃ t, txF (fsN p) p.X = t := ⟨_, rfl⟩
   rw [ht] at C2 ⊢
   clear ht eB eV
   by_cases hts : t = s
   ·subst hts
    rw [if_pos (by simp)]
    go_enter Tryz.func140, Tryz.ntmps140
    go_wp2_with fail
    refine callsOf (fun W => Below w.heap.size w W ∧ Tb w.heap.size oP W ∧ Li W) ⟨by go_grown, Tb.new' w oP 72 _ rfl, hL.alloc _⟩ ?_
    rintro v0 ⟨BV, hO, LV⟩
    refine (C1 _ LV).mono ?_
    rintro e w1 ⟨rfl, B1⟩
    have O1 := hO.below B1
    have LW1 := LV.below B1
    have BW1 := belowStep BV BV.size B1
    have HX : Hid (_ ∧ _ ∧ _ ∧ _) := ⟨BW1.alloc BW1.size (bxQ p), O1.alloc (bxQ p), Tb.new' w1 p 72 _ rfl, LW1.alloc (bxQ p)⟩
    clear BV hO LV B1 O1 LW1 BW1
    go_wp2_with fail
    refine callsOf (fun W => Below w.heap.size w W ∧ Tb w.heap.size oP W ∧ Tb w1.heap.size p W ∧ Li W) HX.out ?_
    rintro v2 ⟨BV, hO, hP, LV⟩
    obtain ⟨n1, hn1⟩ : ∃ n, w1.heap.size = n := ⟨_, rfl⟩
    rw [hn1] at hP ⊢
    clear HX hn1 w1
    refine (C2 _ LV).mono ?_
    rintro e w3 ⟨rfl, B3⟩
    have O3 := hO.below B3
    have P3 := hP.below B3
    have BW3 := belowStep BV BV.size B3
    clear BV hO hP LV B3
    have ⟨oz, oa, ob, oc, of⟩ := O3
    have ⟨pz, pa, pb, pc, pf⟩ := P3
    clear O3 P3
    go_wp2_with fail
    refine bodyPost_ret (v := okT p) (by simp [results, Tryz.results140, go_sem, *]) rfl ⟨rfl, ?_⟩
    exact below_put3 (y := p) BW3 (Nat.le_refl _)
   ·rw [if_neg (by simp [hts])]
    have htl := ne_list hts
    go_enter Tryz.func140, Tryz.ntmps140
    go_wp2_with fail
    refine callsOf (fun W => Below w.heap.size w W ∧ Tb w.heap.size oP W ∧ Li W) ⟨by go_grown, Tb.new' w oP 72 _ rfl, hL.alloc _⟩ ?_
    rintro v0 ⟨BV, hO, LV⟩
    refine (C1 _ LV).mono ?_
    rintro e w1 ⟨rfl, B1⟩
    have O1 := hO.below B1
    have LW1 := LV.below B1
    have BW1 := belowStep BV BV.size B1
    have HX : Hid (_ ∧ _ ∧ _ ∧ _) := ⟨BW1.alloc BW1.size (bxQ p), O1.alloc (bxQ p), Tb.new' w1 p 72 _ rfl, LW1.alloc (bxQ p)⟩
    clear BV hO LV B1 O1 LW1 BW1
    go_wp2_with fail
    refine callsOf (fun W => Below w.heap.size w W ∧ Tb w.heap.size oP W ∧ Tb w1.heap.size p W ∧ Li W) HX.out ?_
    rintro v2 ⟨BV, hO, hP, LV⟩
    obtain ⟨n1, hn1⟩ : ∃ n, w1.heap.size = n := ⟨_, rfl⟩
    rw [hn1] at hP ⊢
    clear HX hn1 w1
    refine (C2 _ LV).mono ?_
    rintro e w3 ⟨rfl, B3⟩
    have O3 := hO.below B3
    have P3 := hP.below B3
    have BW3 := belowStep BV BV.size B3
    clear BV hO hP LV B3
    have ⟨oz, oa, ob, oc, of⟩ := O3
    have ⟨pz, pa, pb, pc, pf⟩ := P3
    clear O3 P3
    go_wp2_with fail
    refine bodyPost_ret (v := errT) (by simp [oP, results, Tryz.results140, go_sem, *]) rfl ⟨rfl, ?_⟩
    exact below_put3 (y := oP) BW3 (Nat.le_refl _)
 ·have eB : frB s = false := by unfold frB; rw [decide_eq_false h5, Bool.false_and, Bool.false_and]
  rw [eB, if_neg (by simp)]
  have h5' : ¬ (s.size : Int) = 5 := by omega
  have h5'' : ((s.size : Int) == 5) = false := by rw [beq_eq_false_iff_ne]; exact h5'
  go_enter Tryz.func140, Tryz.ntmps140
  go_wp2_with fail
  refine bodyPost_ret (v := errT) (by simp [oP, results, Tryz.results140, go_sem, *]) rfl ⟨rfl, by go_grown⟩
end Go.Proofs.YtoddangedbefgabGreatDoor
