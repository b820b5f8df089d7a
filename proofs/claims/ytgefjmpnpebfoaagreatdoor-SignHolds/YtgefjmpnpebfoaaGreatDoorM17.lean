/- Lemmas: What the package pair's Pair does. No condition. What the package pair's Same does. No condition. What the program's first, Bytes, named, From do. No condition. -/
import Derived.Test.YtgefjmpnpebfoaaGreatDoorM1
import Derived.Test.YtgefjmpnpebfoaaGreatDoorM10
import Derived.Test.YtgefjmpnpebfoaaGreatDoorM11
import Derived.Test.YtgefjmpnpebfoaaGreatDoorM12
import Derived.Test.YtgefjmpnpebfoaaGreatDoorM13
import Derived.Test.YtgefjmpnpebfoaaGreatDoorM14
import Derived.Test.YtgefjmpnpebfoaaGreatDoorM15
import Derived.Test.YtgefjmpnpebfoaaGreatDoorM16
import Derived.Test.YtgefjmpnpebfoaaGreatDoorM2
import Derived.Test.YtgefjmpnpebfoaaGreatDoorM3
import Derived.Test.YtgefjmpnpebfoaaGreatDoorM4
import Derived.Test.YtgefjmpnpebfoaaGreatDoorM6
import Derived.Test.YtgefjmpnpebfoaaGreatDoorM7
import Derived.Test.YtgefjmpnpebfoaaGreatDoorM8
import Derived.Test.YtgefjmpnpebfoaaGreatDoorM9
import Derived.Test.YtgefjmpnpebfoaaGreatDoorRows
namespace Go.Proofs.YtgefjmpnpebfoaaGreatDoor
open Go.RowKit Go.Shelf Go.Sort

def prV (p q : Pt) : Value := if (grN p && grN q) = true then okP (prN p q) else erP
theorem gr_on {p : Pt} (h : grN p = true) : onN p = true := by
  have e : grN p = (onN p && decide (tmN p 536870717 = iN)) := rfl
  rw [e] at h
  exact (Bool.and_eq_true_iff.1 h).1

set_option maxRecDepth 20000 in
set_option maxHeartbeats 4000000 in
theorem pPair1 (p q : Pt) (up : UT p) (hp : grN p = false) (w : World) (hL : Lp w) :
    Calls Tryz.prog 81 #[vT p, vT q] w fun e w' => e = .returned (erP) ∧ Below w.heap.size w w' := by
  have C1 := ingroup_any p up
  rw [hp] at C1
  clear up hp
  go_enter Tryz.func81, Tryz.ntmps81
  go_wp2_with fail
  refine callsOf (fun V => Below w.heap.size w V ∧ Tb w.heap.size p V ∧ Tb (w.heap.size + 1) q V ∧ Pb (w.heap.size + 1 + 1) z2 V ∧ Lp V) ⟨by go_grown, ((Tb.new' w p 25 _ rfl).alloc _).alloc _, (Tb.new' _ q 25 _ (by simp)).alloc _, Pb.new' _ z2 81 _ (by simp), ((hL.alloc _).alloc _).alloc _⟩ ?_
  rintro V ⟨BV, hA, hB, hO, hLV⟩
  have H0 : Hid (_ ∧ _ ∧ _ ∧ _ ∧ _) := ⟨BV, hA, hB, hO, hLV⟩
  clear BV hA hB hO hLV hL
  refine (C1 _ H0.out.2.2.2.2.l).mono ?_
  rintro e w1 ⟨rfl, B1⟩
  obtain ⟨BW, hA, hB, hO, hLV⟩ := H0.out
  have BW' := belowStep BW BW.size B1
  have A' := hA.below B1
  have D' := hB.below B1
  have O' := hO.below B1
  have L' := hLV.below B1
  have H1 : Hid (_ ∧ _ ∧ _ ∧ _ ∧ _) := ⟨BW', A', D', O', L'⟩
  clear BW hA hB hO hLV H0 BW' A' D' O' L' B1
  obtain ⟨BW, hA, hB, hO, hLV⟩ := H1.out
  have lq := hLV.ne
  obtain ⟨z, a, b, f⟩ := hO
  clear hA hB hLV H1
  go_wp2_with fail
  refine bodyPost_ret (v := erP) (by simp [results, Tryz.results81, go_sem, z2, *]) rfl ⟨rfl, ?_⟩
  exact (BW.setCell (p := ⟨w.heap.size + 1 + 1, 0, none⟩) (by show _ ≤ w.heap.size + 1 + 1; omega) _).setCell (p := ⟨w.heap.size + 1 + 1, 1, none⟩) (by show _ ≤ w.heap.size + 1 + 1; omega) _

set_option maxRecDepth 20000 in
set_option maxHeartbeats 4000000 in
theorem pPair2 (p q : Pt) (up : UT p) (uq : UT q) (hp : grN p = true) (hq : grN q = false) (w : World) (hL : Lp w) :
    Calls Tryz.prog 81 #[vT p, vT q] w fun e w' => e = .returned (erP) ∧ Below w.heap.size w w' := by
  have C1 := ingroup_any p up
  rw [hp] at C1
  have C2 := ingroup_any q uq
  rw [hq] at C2
  clear up uq hp hq
  go_enter Tryz.func81, Tryz.ntmps81
  go_wp2_with fail
  refine callsOf (fun V => Below w.heap.size w V ∧ Tb w.heap.size p V ∧ Tb (w.heap.size + 1) q V ∧ Pb (w.heap.size + 1 + 1) z2 V ∧ Lp V) ⟨by go_grown, ((Tb.new' w p 25 _ rfl).alloc _).alloc _, (Tb.new' _ q 25 _ (by simp)).alloc _, Pb.new' _ z2 81 _ (by simp), ((hL.alloc _).alloc _).alloc _⟩ ?_
  rintro V ⟨BV, hA, hB, hO, hLV⟩
  have H0 : Hid (_ ∧ _ ∧ _ ∧ _ ∧ _) := ⟨BV, hA, hB, hO, hLV⟩
  clear BV hA hB hO hLV hL
  refine (C1 _ H0.out.2.2.2.2.l).mono ?_
  rintro e w1 ⟨rfl, B1⟩
  obtain ⟨BW, hA, hB, hO, hLV⟩ := H0.out
  have BW' := belowStep BW BW.size B1
  have A' := hA.below B1
  have D' := hB.below B1
  have O' := hO.below B1
  have L' := hLV.below B1
  have H1 : Hid (_ ∧ _ ∧ _ ∧ _ ∧ _) := ⟨BW', A', D', O', L'⟩
  clear BW hA hB hO hLV H0 BW' A' D' O' L' B1
  have ⟨_, ba, bb, bc, bf⟩ := H1.out.2.2.1
  go_wp2_with fail
  refine (C2 _ H1.out.2.2.2.2.l).mono ?_
  clear ba bb bc bf
  rintro e w2 ⟨rfl, B2⟩
  obtain ⟨BW, hA, hB, hO, hLV⟩ := H1.out
  have BW' := belowStep BW BW.size B2
  have A' := hA.below B2
  have D' := hB.below B2
  have O' := hO.below B2
  have L' := hLV.below B2
  have H2 : Hid (_ ∧ _ ∧ _ ∧ _ ∧ _) := ⟨BW', A', D', O', L'⟩
  clear BW hA hB hO hLV H1 BW' A' D' O' L' B2
  obtain ⟨BW, hA, hB, hO, hLV⟩ := H2.out
  have lq := hLV.ne
  obtain ⟨z, a, b, f⟩ := hO
  clear hA hB hLV H2
  go_wp2_with fail
  refine bodyPost_ret (v := erP) (by simp [results, Tryz.results81, go_sem, z2, *]) rfl ⟨rfl, ?_⟩
  exact (BW.setCell (p := ⟨w.heap.size + 1 + 1, 0, none⟩) (by show _ ≤ w.heap.size + 1 + 1; omega) _).setCell (p := ⟨w.heap.size + 1 + 1, 1, none⟩) (by show _ ≤ w.heap.size + 1 + 1; omega) _

set_option maxRecDepth 20000 in
set_option maxHeartbeats 4000000 in
theorem pPair3 (p q : Pt) (up : UT p) (uq : UT q) (hp : grN p = true) (hq : grN q = true) (h1 : p = iN) (w : World) (hL : Lp w) :
    Calls Tryz.prog 81 #[vT p, vT q] w fun e w' => e = .returned (okP (prN p q)) ∧ Below w.heap.size w w' := by
  have eM : prN p q = o2 := by unfold prN; rw [if_pos (.inl h1)]
  rw [eM]
  have C1 := ingroup_any p up
  rw [hp] at C1
  have C2 := ingroup_any q uq
  rw [hq] at C2
  have hE := eqlI p
  rw [decide_eq_true h1] at hE
  clear up uq hp hq eM h1
  go_enter Tryz.func81, Tryz.ntmps81
  go_wp2_with fail
  refine callsOf (fun V => Below w.heap.size w V ∧ Tb w.heap.size p V ∧ Tb (w.heap.size + 1) q V ∧ Pb (w.heap.size + 1 + 1) z2 V ∧ Lp V) ⟨by go_grown, ((Tb.new' w p 25 _ rfl).alloc _).alloc _, (Tb.new' _ q 25 _ (by simp)).alloc _, Pb.new' _ z2 81 _ (by simp), ((hL.alloc _).alloc _).alloc _⟩ ?_
  rintro V ⟨BV, hA, hB, hO, hLV⟩
  have H0 : Hid (_ ∧ _ ∧ _ ∧ _ ∧ _) := ⟨BV, hA, hB, hO, hLV⟩
  clear BV hA hB hO hLV hL
  refine (C1 _ H0.out.2.2.2.2.l).mono ?_
  rintro e w1 ⟨rfl, B1⟩
  obtain ⟨BW, hA, hB, hO, hLV⟩ := H0.out
  have BW' := belowStep BW BW.size B1
  have A' := hA.below B1
  have D' := hB.below B1
  have O' := hO.below B1
  have L' := hLV.below B1
  have H1 : Hid (_ ∧ _ ∧ _ ∧ _ ∧ _) := ⟨BW', A', D', O', L'⟩
  clear BW hA hB hO hLV H0 BW' A' D' O' L' B1
  have ⟨_, ba, bb, bc, bf⟩ := H1.out.2.2.1
  go_wp2_with fail
  refine (C2 _ H1.out.2.2.2.2.l).mono ?_
  clear ba bb bc bf
  rintro e w2 ⟨rfl, B2⟩
  obtain ⟨BW, hA, hB, hO, hLV⟩ := H1.out
  have BW' := belowStep BW BW.size B2
  have A' := hA.below B2
  have D' := hB.below B2
  have O' := hO.below B2
  have L' := hLV.below B2
  have H2 : Hid (_ ∧ _ ∧ _ ∧ _ ∧ _) := ⟨BW', A', D', O', L'⟩
  clear BW hA hB hO hLV H1 BW' A' D' O' L' B2
  have ⟨_, aa, ab, ac, af⟩ := H2.out.2.1
  have ⟨_, ba, bb, bc, bf⟩ := H2.out.2.2.1
  have lq := H2.out.2.2.2.2.ne
  have za := H2.out.2.2.2.2.za
  have a0 := H2.out.2.2.2.2.a0
  have a1 := H2.out.2.2.2.2.a1
  have a2 := H2.out.2.2.2.2.a2
  have zb := H2.out.2.2.2.2.zb
  have b0 := H2.out.2.2.2.2.b0
  have b1 := H2.out.2.2.2.2.b1
  obtain ⟨z, a, b, f⟩ := H2.out.2.2.2.1
  go_wp2_with fail
  obtain ⟨BW, _⟩ := H2.out
  refine bodyPost_ret (v := okP o2) (by simp [results, Tryz.results81, go_sem, o2, *]) rfl ⟨rfl, ?_⟩
  exact (BW.setCell (p := ⟨w.heap.size + 1 + 1, 0, none⟩) (by show _ ≤ w.heap.size + 1 + 1; omega) _).setCell (p := ⟨w.heap.size + 1 + 1, 1, none⟩) (by show _ ≤ w.heap.size + 1 + 1; omega) _

set_option maxRecDepth 20000 in
set_option maxHeartbeats 4000000 in
theorem pPair4 (p q : Pt) (up : UT p) (uq : UT q) (hp : grN p = true) (hq : grN q = true) (h1 : ¬ p = iN) (h2 : q = iN) (w : World) (hL : Lp w) :
    Calls Tryz.prog 81 #[vT p, vT q] w fun e w' => e = .returned (okP (prN p q)) ∧ Below w.heap.size w w' := by
  have eM : prN p q = o2 := by unfold prN; rw [if_pos (.inr h2)]
  rw [eM]
  have C1 := ingroup_any p up
  rw [hp] at C1
  have C2 := ingroup_any q uq
  rw [hq] at C2
  have hE := eqlI p
  rw [decide_eq_false h1] at hE
  have hF := eqlI q
  rw [decide_eq_true h2] at hF
  clear up uq hp hq eM h1 h2
  go_enter Tryz.func81, Tryz.ntmps81
  go_wp2_with fail
  refine callsOf (fun V => Below w.heap.size w V ∧ Tb w.heap.size p V ∧ Tb (w.heap.size + 1) q V ∧ Pb (w.heap.size + 1 + 1) z2 V ∧ Lp V) ⟨by go_grown, ((Tb.new' w p 25 _ rfl).alloc _).alloc _, (Tb.new' _ q 25 _ (by simp)).alloc _, Pb.new' _ z2 81 _ (by simp), ((hL.alloc _).alloc _).alloc _⟩ ?_
  rintro V ⟨BV, hA, hB, hO, hLV⟩
  have H0 : Hid (_ ∧ _ ∧ _ ∧ _ ∧ _) := ⟨BV, hA, hB, hO, hLV⟩
  clear BV hA hB hO hLV hL
  refine (C1 _ H0.out.2.2.2.2.l).mono ?_
  rintro e w1 ⟨rfl, B1⟩
  obtain ⟨BW, hA, hB, hO, hLV⟩ := H0.out
  have BW' := belowStep BW BW.size B1
  have A' := hA.below B1
  have D' := hB.below B1
  have O' := hO.below B1
  have L' := hLV.below B1
  have H1 : Hid (_ ∧ _ ∧ _ ∧ _ ∧ _) := ⟨BW', A', D', O', L'⟩
  clear BW hA hB hO hLV H0 BW' A' D' O' L' B1
  have ⟨_, ba, bb, bc, bf⟩ := H1.out.2.2.1
  go_wp2_with fail
  refine (C2 _ H1.out.2.2.2.2.l).mono ?_
  clear ba bb bc bf
  rintro e w2 ⟨rfl, B2⟩
  obtain ⟨BW, hA, hB, hO, hLV⟩ := H1.out
  have BW' := belowStep BW BW.size B2
  have A' := hA.below B2
  have D' := hB.below B2
  have O' := hO.below B2
  have L' := hLV.below B2
  have H2 : Hid (_ ∧ _ ∧ _ ∧ _ ∧ _) := ⟨BW', A', D', O', L'⟩
  clear BW hA hB hO hLV H1 BW' A' D' O' L' B2
  have ⟨_, aa, ab, ac, af⟩ := H2.out.2.1
  have ⟨_, ba, bb, bc, bf⟩ := H2.out.2.2.1
  have lq := H2.out.2.2.2.2.ne
  have za := H2.out.2.2.2.2.za
  have a0 := H2.out.2.2.2.2.a0
  have a1 := H2.out.2.2.2.2.a1
  have a2 := H2.out.2.2.2.2.a2
  have zb := H2.out.2.2.2.2.zb
  have b0 := H2.out.2.2.2.2.b0
  have b1 := H2.out.2.2.2.2.b1
  obtain ⟨z, a, b, f⟩ := H2.out.2.2.2.1
  go_wp2_with fail
  obtain ⟨BW, _⟩ := H2.out
  refine bodyPost_ret (v := okP o2) (by simp [results, Tryz.results81, go_sem, o2, *]) rfl ⟨rfl, ?_⟩
  exact (BW.setCell (p := ⟨w.heap.size + 1 + 1, 0, none⟩) (by show _ ≤ w.heap.size + 1 + 1; omega) _).setCell (p := ⟨w.heap.size + 1 + 1, 1, none⟩) (by show _ ≤ w.heap.size + 1 + 1; omega) _

set_option maxRecDepth 20000 in
set_option maxHeartbeats 4000000 in
theorem pPair5 (p q : Pt) (up : UT p) (uq : UT q) (hp : grN p = true) (hq : grN q = true) (h1 : ¬ p = iN) (h2 : ¬ q = iN) (w : World) (hL : Lp w) :
    Calls Tryz.prog 81 #[vT p, vT q] w fun e w' => e = .returned (okP (prN p q)) ∧ Below w.heap.size w w' := by
  have eM : prN p q = q2 (gaN p q) 8589931464 := by unfold prN; rw [if_neg (by rintro (h | h); exact h1 h; exact h2 h)]
  rw [eM]
  have C1 := ingroup_any p up
  rw [hp] at C1
  have C2 := ingroup_any q uq
  rw [hq] at C2
  have hE := eqlI p
  rw [decide_eq_false h1] at hE
  have hF := eqlI q
  rw [decide_eq_false h2] at hF
  have CG := gathered_any p q (gr_on hp) uq
  have uG : UP (gaN p q) := (stG_ok (gr_on hp) _).2
  have CP := pow2_any (gaN p q) 8589931464 uG (by decide)
  obtain ⟨g, hg⟩ : ∃ x, gaN p q = x := ⟨_, rfl⟩
  rw [hg] at CG CP ⊢
  obtain ⟨x, hx⟩ : ∃ x, q2 g 8589931464 = x := ⟨_, rfl⟩
  rw [hx] at CP ⊢
  clear hg hx uG
  clear up uq hp hq eM h1 h2
  go_enter Tryz.func81, Tryz.ntmps81
  go_wp2_with fail
  refine callsOf (fun V => Below w.heap.size w V ∧ Tb w.heap.size p V ∧ Tb (w.heap.size + 1) q V ∧ Pb (w.heap.size + 1 + 1) z2 V ∧ Lp V) ⟨by go_grown, ((Tb.new' w p 25 _ rfl).alloc _).alloc _, (Tb.new' _ q 25 _ (by simp)).alloc _, Pb.new' _ z2 81 _ (by simp), ((hL.alloc _).alloc _).alloc _⟩ ?_
  rintro V ⟨BV, hA, hB, hO, hLV⟩
  have H0 : Hid (_ ∧ _ ∧ _ ∧ _ ∧ _) := ⟨BV, hA, hB, hO, hLV⟩
  clear BV hA hB hO hLV hL
  refine (C1 _ H0.out.2.2.2.2.l).mono ?_
  rintro e w1 ⟨rfl, B1⟩
  obtain ⟨BW, hA, hB, hO, hLV⟩ := H0.out
  have BW' := belowStep BW BW.size B1
  have A' := hA.below B1
  have D' := hB.below B1
  have O' := hO.below B1
  have L' := hLV.below B1
  have H1 : Hid (_ ∧ _ ∧ _ ∧ _ ∧ _) := ⟨BW', A', D', O', L'⟩
  clear BW hA hB hO hLV H0 BW' A' D' O' L' B1
  have ⟨_, ba, bb, bc, bf⟩ := H1.out.2.2.1
  go_wp2_with fail
  refine (C2 _ H1.out.2.2.2.2.l).mono ?_
  clear ba bb bc bf
  rintro e w2 ⟨rfl, B2⟩
  obtain ⟨BW, hA, hB, hO, hLV⟩ := H1.out
  have BW' := belowStep BW BW.size B2
  have A' := hA.below B2
  have D' := hB.below B2
  have O' := hO.below B2
  have L' := hLV.below B2
  have H2 : Hid (_ ∧ _ ∧ _ ∧ _ ∧ _) := ⟨BW', A', D', O', L'⟩
  clear BW hA hB hO hLV H1 BW' A' D' O' L' B2
  have ⟨_, aa, ab, ac, af⟩ := H2.out.2.1
  have ⟨_, ba, bb, bc, bf⟩ := H2.out.2.2.1
  have lq := H2.out.2.2.2.2.ne
  have za := H2.out.2.2.2.2.za
  have a0 := H2.out.2.2.2.2.a0
  have a1 := H2.out.2.2.2.2.a1
  have a2 := H2.out.2.2.2.2.a2
  go_wp2_with fail
  refine (CG _ H2.out.2.2.2.2).mono ?_
  clear aa ab ac af ba bb bc bf lq za a0 a1 a2
  rintro e w3 ⟨rfl, B3⟩
  obtain ⟨BW, hA, hB, hO, hLV⟩ := H2.out
  have BW' := belowStep BW BW.size B3
  have A' := hA.below B3
  have D' := hB.below B3
  have O' := hO.below B3
  have L' := hLV.below B3
  have H3 : Hid (_ ∧ _ ∧ _ ∧ _ ∧ _) := ⟨BW', A', D', O', L'⟩
  clear BW hA hB hO hLV H2 BW' A' D' O' L' B3
  go_wp2_with fail
  refine (CP _).mono ?_
  rintro e w4 ⟨rfl, B4⟩
  obtain ⟨BW, hA, hB, hO, hLV⟩ := H3.out
  have BW' := belowStep BW BW.size B4
  have A' := hA.below B4
  have D' := hB.below B4
  have O' := hO.below B4
  have L' := hLV.below B4
  have H4 : Hid (_ ∧ _ ∧ _ ∧ _ ∧ _) := ⟨BW', A', D', O', L'⟩
  clear BW hA hB hO hLV H3 BW' A' D' O' L' B4
  obtain ⟨BW, hA, hB, hO, hLV⟩ := H4.out
  obtain ⟨z, a, b, f⟩ := hO
  clear hA hB hLV H4
  go_wp2_with fail
  refine bodyPost_ret (v := okP x) (by simp [results, Tryz.results81, go_sem, *]) rfl ⟨rfl, ?_⟩
  exact (BW.setCell (p := ⟨w.heap.size + 1 + 1, 0, none⟩) (by show _ ≤ w.heap.size + 1 + 1; omega) _).setCell (p := ⟨w.heap.size + 1 + 1, 1, none⟩) (by show _ ≤ w.heap.size + 1 + 1; omega) _

theorem pPair_any (p q : Pt) (up : UT p) (uq : UT q) (w : World) (hL : Lp w) :
    Calls Tryz.prog 81 #[vT p, vT q] w fun e w' => e = .returned (prV p q) ∧ Below w.heap.size w w' := by
  unfold prV
  cases hp : grN p
  · rw [if_neg (by simp)]; exact pPair1 p q up hp w hL
  cases hq : grN q
  · rw [if_neg (by simp)]; exact pPair2 p q up uq hp hq w hL
  rw [if_pos (by simp)]
  by_cases h1 : p = iN
  · exact pPair3 p q up uq hp hq h1 w hL
  by_cases h2 : q = iN
  · exact pPair4 p q up uq hp hq h1 h2 w hL
  exact pPair5 p q up uq hp hq h1 h2 w hL
end Go.Proofs.YtgefjmpnpebfoaaGreatDoor
namespace Go.Proofs.YtgefjmpnpebfoaaGreatDoor
open Go.RowKit Go.Shelf Go.Sort

def eqP (p q : P2) : Bool := decide (p.A = q.A) && decide (p.B = q.B)
theorem eqP_iff {p q : P2} : eqP p q = true ↔ p = q := by
  obtain ⟨a, b⟩ := p
  obtain ⟨c, d⟩ := q
  unfold eqP
  simp only [Bool.and_eq_true, decide_eq_true_eq]
  constructor
  · rintro ⟨rfl, rfl⟩; rfl
  · intro h; injection h with h1 h2; exact ⟨h1, h2⟩
def saB (a b c d : Pt) : Bool := (grN a && grN b) && (grN c && grN d)
def saV (a b c d : Pt) : Value := if saB a b c d = true then .tuple #[.bool (eqP (prN a b) (prN c d)), .int .i64 0] else .tuple #[.bool false, .int .i64 100]

theorem eqlP (p q : P2) (W : World) : (binOp .eql 81 (vP p) (vP q)).run Tryz.prog W = .ok (.bool (eqP p q)) W := by
  obtain ⟨a, b⟩ := p
  obtain ⟨c, d⟩ := q
  unfold eqP
  by_cases h1 : a = c
  · by_cases h2 : b = d
    · subst h1 h2; simp [go_sem]
    · subst h1
      have h2' : ¬ (b : Int) = d := by omega
      simp [go_sem, h2, h2']
  · have h1' : ¬ (a : Int) = c := by omega
    simp [go_sem, h1, h1']

set_option maxRecDepth 20000 in
set_option maxHeartbeats 4000000 in
theorem pSame1 (a b c d : Pt) (ua : UT a) (ub : UT b) (h : (grN a && grN b) = false) (w : World) (hL : Lp w) :
    Calls Tryz.prog 57 #[vT a, vT b, vT c, vT d] w fun e w' => e = .returned (.tuple #[.bool false, .int .i64 100]) ∧ Below w.heap.size w w' := by
  have C1 := pPair_any a b ua ub
  unfold prV at C1
  rw [if_neg (by rw [h]; simp)] at C1
  clear h
  go_enter Tryz.func57, Tryz.ntmps57
  go_wp2_with fail
  refine callsOf (fun V => Below w.heap.size w V ∧ Lp V) ⟨by go_grown, (((hL.alloc _).alloc _).alloc _).alloc _⟩ ?_
  rintro V ⟨BV, hLV⟩
  refine (C1 _ hLV).mono ?_
  rintro e w1 ⟨rfl, B1⟩
  have BW := belowStep BV BV.size B1
  clear BV B1 hLV hL C1 V
  go_wp2_with fail
  refine bodyPost_ret (v := .tuple #[.bool false, .int .i64 100]) (by simp [results, Tryz.results57, go_sem, *]) rfl ⟨rfl, ?_⟩
  exact BW.alloc BW.size _

set_option maxRecDepth 20000 in
set_option maxHeartbeats 4000000 in
theorem pSame2 (a b c d : Pt) (ua : UT a) (ub : UT b) (uc : UT c) (ud : UT d) (h : (grN a && grN b) = true) (h' : (grN c && grN d) = false) (w : World) (hL : Lp w) :
    Calls Tryz.prog 57 #[vT a, vT b, vT c, vT d] w fun e w' => e = .returned (.tuple #[.bool false, .int .i64 100]) ∧ Below w.heap.size w w' := by
  have C1 := pPair_any a b ua ub
  have C2 := pPair_any c d uc ud
  unfold prV at C1 C2
  rw [if_pos h] at C1
  rw [if_neg (by rw [h']; simp)] at C2
  obtain ⟨x, hx⟩ : ∃ x, prN a b = x := ⟨_, rfl⟩
  rw [hx] at C1
  clear h h' hx ua ub uc ud
  go_enter Tryz.func57, Tryz.ntmps57
  go_wp2_with fail
  refine callsOf (fun V => Below w.heap.size w V ∧ Tb (w.heap.size + 1 + 1) c V ∧ Tb (w.heap.size + 1 + 1 + 1) d V ∧ Lp V) ⟨by go_grown, (Tb.new' _ c 25 _ (by simp)).alloc _, Tb.new' _ d 25 _ (by simp), (((hL.alloc _).alloc _).alloc _).alloc _⟩ ?_
  rintro V ⟨BV, hC, hD, hLV⟩
  refine (C1 _ hLV).mono ?_
  rintro e w1 ⟨rfl, B1⟩
  have BW := belowStep BV BV.size B1
  have D1 := hC.below B1
  have E1 := hD.below B1
  have L1' := hLV.below B1
  clear BV B1 hLV hL C1 hC hD V
  have ⟨_, ca, cb, cc, cf⟩ := D1
  have ⟨_, da, db, dc, df⟩ := E1
  go_wp2_with fail
  refine callsOf (fun V => Below w.heap.size w V ∧ Pb w1.heap.size x V ∧ Lp V) ⟨BW.alloc BW.size _, Pb.new' _ x 81 _ rfl, L1'.alloc _⟩ ?_
  rintro V ⟨BV, hX, hLV⟩
  refine (C2 _ hLV).mono ?_
  rintro e w2 ⟨rfl, B2⟩
  have BW2 := belowStep BV BV.size B2
  have X2' := hX.below B2
  clear BV B2 hLV BW C2 hX D1 E1 L1' ca cb cc cf da db dc df V
  obtain ⟨xz, xa, xb, xf⟩ := X2'
  go_wp2_with fail
  refine bodyPost_ret (v := .tuple #[.bool false, .int .i64 100]) (by simp [results, Tryz.results57, go_sem, *]) rfl ⟨rfl, ?_⟩
  exact BW2.alloc BW2.size _
set_option maxRecDepth 20000 in
set_option maxHeartbeats 4000000 in
theorem pSame3 (a b c d : Pt) (ua : UT a) (ub : UT b) (uc : UT c) (ud : UT d) (h : (grN a && grN b) = true) (h' : (grN c && grN d) = true) (w : World) (hL : Lp w) :
    Calls Tryz.prog 57 #[vT a, vT b, vT c, vT d] w fun e w' => e = .returned (.tuple #[.bool (eqP (prN a b) (prN c d)), .int .i64 0]) ∧ Below w.heap.size w w' := by
  have C1 := pPair_any a b ua ub
  have C2 := pPair_any c d uc ud
  unfold prV at C1 C2
  rw [if_pos h] at C1
  rw [if_pos h'] at C2
  have hE := eqlP (prN a b) (prN c d)
  obtain ⟨x, hx⟩ : ∃ x, prN a b = x := ⟨_, rfl⟩
  obtain ⟨y, hy⟩ : ∃ x, prN c d = x := ⟨_, rfl⟩
  rw [hx] at C1 hE ⊢
  rw [hy] at C2 hE ⊢
  obtain ⟨r, hr⟩ : ∃ r, eqP x y = r := ⟨_, rfl⟩
  rw [hr] at hE ⊢
  clear h h' hx hy hr ua ub uc ud
  go_enter Tryz.func57, Tryz.ntmps57
  go_wp2_with fail
  refine callsOf (fun V => Below w.heap.size w V ∧ Tb (w.heap.size + 1 + 1) c V ∧ Tb (w.heap.size + 1 + 1 + 1) d V ∧ Lp V) ⟨by go_grown, (Tb.new' _ c 25 _ (by simp)).alloc _, Tb.new' _ d 25 _ (by simp), (((hL.alloc _).alloc _).alloc _).alloc _⟩ ?_
  rintro V ⟨BV, hC, hD, hLV⟩
  refine (C1 _ hLV).mono ?_
  rintro e w1 ⟨rfl, B1⟩
  have BW := belowStep BV BV.size B1
  have D1 := hC.below B1
  have E1 := hD.below B1
  have L1' := hLV.below B1
  clear BV B1 hLV hL C1 hC hD V
  have ⟨_, ca, cb, cc, cf⟩ := D1
  have ⟨_, da, db, dc, df⟩ := E1
  go_wp2_with fail
  refine callsOf (fun V => Below w.heap.size w V ∧ Pb w1.heap.size x V ∧ Lp V) ⟨BW.alloc BW.size _, Pb.new' _ x 81 _ rfl, L1'.alloc _⟩ ?_
  rintro V ⟨BV, hX, hLV⟩
  refine (C2 _ hLV).mono ?_
  rintro e w2 ⟨rfl, B2⟩
  have BW2 := belowStep BV BV.size B2
  have X2' := hX.below B2
  clear BV B2 hLV BW C2 hX D1 E1 L1' ca cb cc cf da db dc df V
  obtain ⟨xz, xa, xb, xf⟩ := X2'
  go_wp2_with fail
  refine bodyPost_ret (v := .tuple #[.bool r, .int .i64 0]) (by simp [results, Tryz.results57, go_sem, *]) rfl ⟨rfl, ?_⟩
  exact BW2.alloc BW2.size _

theorem pSame_any (a b c d : Pt) (ua : UT a) (ub : UT b) (uc : UT c) (ud : UT d) (w : World) (hL : Lp w) :
    Calls Tryz.prog 57 #[vT a, vT b, vT c, vT d] w fun e w' => e = .returned (saV a b c d) ∧ Below w.heap.size w w' := by
  unfold saV saB
  cases h : grN a && grN b
  · rw [if_neg (by simp)]; exact pSame1 a b c d ua ub h w hL
  cases h' : grN c && grN d
  · rw [if_neg (by simp)]; exact pSame2 a b c d ua ub uc ud h h' w hL
  · rw [if_pos (by simp)]; exact pSame3 a b c d ua ub uc ud h h' w hL
end Go.Proofs.YtgefjmpnpebfoaaGreatDoor
namespace Go.Proofs.YtgefjmpnpebfoaaGreatDoor
open Go.RowKit Go.Shelf Go.Sort

def fsN (p : Pt) : Nat := if p = iN then 0 else if p.Y % 2 = 0 then 2 else 3

set_option maxRecDepth 20000 in
set_option maxHeartbeats 4000000 in
theorem first_any (p : Pt) (hp : UT p) (w : World) (hL : Li w) :
    Calls Tryz.prog 55 #[vT p] w fun e w' => e = .returned (.int .u8 (fsN p : Nat)) ∧ Below w.heap.size w w' := by
  have lq := (hL).ne
  have ⟨lz, la, lb, lc, lo⟩ := hL
  have hE := eqlI p
  unfold fsN
  by_cases e1 : p = iN
  · rw [decide_eq_true e1] at hE
    rw [if_pos e1]
    obtain ⟨pX, pY, pI⟩ := p
    simp only [vT] at hE ⊢
    clear e1
    go_enter Tryz.func55, Tryz.ntmps55
    go_wp2_with fail
    go_ret
    exact ⟨rfl, by go_grown⟩
  · rw [decide_eq_false e1] at hE
    rw [if_neg e1]
    obtain ⟨pX, pY, pI⟩ := p
    simp only [vT] at hE ⊢
    clear e1
    by_cases h2 : pY % 2 = 0
    · rw [if_pos h2]
      have h2' : (pY : Int) % 2 = 0 := by omega
      go_enter Tryz.func55, Tryz.ntmps55
      go_wp2_with fail
      go_ret
      exact ⟨rfl, by go_grown⟩
    · rw [if_neg h2]
      have h2' : (pY : Int) % 2 = 1 := by omega
      go_enter Tryz.func55, Tryz.ntmps55
      go_wp2_with fail
      go_ret
      exact ⟨rfl, by go_grown⟩

/-- A point's bytes: the first one, and a number in four. -/
def bvF (f x : Nat) (j : Nat) : Int := if j = 0 then (f : Int) else ((x / 256 ^ (4 - j) % 256 : Nat) : Int)
def txF (f x : Nat) : ByteArray := ⟨(by8 5 (bvF f x)).toArray⟩
theorem fs_lt (p : Pt) : fsN p < 256 := by unfold fsN; split; omega; split <;> omega
theorem bv_bd (f x : Nat) (hf : f < 256) (j : Nat) : 0 ≤ bvF f x j ∧ bvF f x j < 256 := by
  unfold bvF
  split
  · omega
  · have := Nat.mod_lt (x / 256 ^ (4 - j)) (show 0 < 256 by omega)
    omega
theorem tx_size (f x : Nat) : (txF f x).size = 5 := by8_size 5 _
theorem text_of (f x b1 b2 b3 b4 : Nat) (hf : f < 256) (h1 : x / 16777216 % 256 = b1) (h2 : x / 65536 % 256 = b2) (h3 : x / 256 % 256 = b3) (h4 : x % 256 = b4) (W : World) (t : TypeId) :
    (convert 43 9 (.slice (some ⟨W.heap.size, 0, none⟩) 5 5)).run Tryz.prog (W.alloc (.cells #[.int .u8 (f : Int), .int .u8 (b1 : Int), .int .u8 (b2 : Int), .int .u8 (b3 : Int), .int .u8 (b4 : Int)] t)) = .ok (.string (txF f x)) (W.alloc (.cells #[.int .u8 (f : Int), .int .u8 (b1 : Int), .int .u8 (b2 : Int), .int .u8 (b3 : Int), .int .u8 (b4 : Int)] t)) := by
  have hl : (by8 5 (bvF f x)).length = 5 := by8_len 5 _
  have := run_convert_bytes_back (P := Tryz.prog) (W.alloc (.cells #[.int .u8 (f : Int), .int .u8 (b1 : Int), .int .u8 (b2 : Int), .int .u8 (b3 : Int), .int .u8 (b4 : Int)] t)) 43 9 5 ⟨W.heap.size, 0, none⟩ 5 (by8 5 (bvF f x)) Tryz.underlying43 Tryz.underlying5 Tryz.underlying9 (fun j hj => by
    rw [Addr.add_mid, Nat.zero_add, by8_at 5 _ (bv_bd f x hf)]
    rw [hl] at hj
    subst h1 h2 h3 h4
    match j, hj with
    | 0, _ => simp [go_sem, bvF]
    | 1, _ => simp [go_sem, bvF]
    | 2, _ => simp [go_sem, bvF]
    | 3, _ => simp [go_sem, bvF]
    | 4, _ => simp [go_sem, bvF])
  rw [hl] at this
  exact this
def bytV (p : Pt) : Value := if grN p = true then .tuple #[.string (txF (fsN p) p.X), .int .i64 0] else .tuple #[.string ⟨#[]⟩, .int .i64 100]

set_option maxRecDepth 20000 in
set_option maxHeartbeats 4000000 in
theorem bytes_any (p : Pt) (hp : UT p) (w : World) (hL : Li w) :
    Calls Tryz.prog 35 #[vT p] w fun e w' => e = .returned (bytV p) ∧ Below w.heap.size w w' := by
  have C1 := ingroup_any p hp
  have C2 := first_any p hp
  have hf := fs_lt p
  unfold bytV
  cases hg : grN p
  · rw [hg] at C1
    rw [if_neg (by simp)]
    go_enter Tryz.func35, Tryz.ntmps35
    go_wp2_with fail
    refine callsOf (fun W => Below w.heap.size w W ∧ Tb w.heap.size p W ∧ Li W) ⟨by go_grown, Tb.new' w p 25 _ rfl, hL.below (by go_grown)⟩ ?_
    rintro V ⟨BV, hA, LV⟩
    refine (C1 _ LV).mono ?_
    rintro e w1 ⟨rfl, B1⟩
    have BW := belowStep BV BV.size B1
    clear BV hA LV B1
    go_wp2_with fail
    refine bodyPost_ret (v := .tuple #[.string ⟨#[]⟩, .int .i64 100]) (by simp [results, Tryz.results35, go_sem, *]) rfl ⟨rfl, BW⟩
  rw [hg] at C1
  rw [if_pos rfl]
  obtain ⟨f, hf'⟩ : ∃ f, fsN p = f := ⟨_, rfl⟩
  rw [hf'] at C2 hf ⊢
  clear hf'
  go_enter Tryz.func35, Tryz.ntmps35
  go_wp2_with fail
  refine callsOf (fun W => Below w.heap.size w W ∧ Tb w.heap.size p W ∧ Li W) ⟨by go_grown, Tb.new' w p 25 _ rfl, hL.below (by go_grown)⟩ ?_
  rintro V ⟨BV, hA, LV⟩
  refine (C1 _ LV).mono ?_
  rintro e w1 ⟨rfl, B1⟩
  have A1 := hA.below B1
  have LW1 := LV.below B1
  have BW := belowStep BV BV.size B1
  clear BV hA LV B1 V
  go_wp2_with fail
  have c2 := inClassL C2 LW1
  have k0 := cell_regrown A1.a
  have k1 := cell_regrown A1.b
  have k2 := cell_regrown A1.c
  have HV : Hid _ := BW
  obtain ⟨b1, h1⟩ : ∃ b, p.X / 16777216 % 256 = b := ⟨_, rfl⟩
  obtain ⟨b2, h2⟩ : ∃ b, p.X / 65536 % 256 = b := ⟨_, rfl⟩
  obtain ⟨b3, h3⟩ : ∃ b, p.X / 256 % 256 = b := ⟨_, rfl⟩
  obtain ⟨b4, h4⟩ : ∃ b, p.X % 256 = b := ⟨_, rfl⟩
  have e1 : IntKind.u8.wrap ((p.X : Int) / 16777216) = b1 := by rw [IntKind.wrap_u8]; omega
  have e2 : IntKind.u8.wrap ((p.X : Int) / 65536) = b2 := by rw [IntKind.wrap_u8]; omega
  have e3 : IntKind.u8.wrap ((p.X : Int) / 256) = b3 := by rw [IntKind.wrap_u8]; omega
  have e4 : IntKind.u8.wrap (p.X : Int) = b4 := by rw [IntKind.wrap_u8]; omega
  clear A1 LW1 BW C1 C2
  refine region_tail 17 (by kernel_rfl) (by kernel_rfl) ?_
  simp only [List.take_succ_cons, List.take_zero, List.drop_succ_cons, List.drop_zero]
  quiet_step (fail)
  quiet_step (exact c2 _ _)
  iterate 15 (quiet_step (fail))
  refine wpQuiet_nil ?_
  intro w8 hw8
  have B8 : Below w1.heap.size w1 w8 := by
    obtain ⟨p, rfl⟩ := hw8
    exact below_regrown _ _ _
  have BW := belowStep HV.out (HV.out).size B8
  have hcv := text_of f p.X b1 b2 b3 b4 hf h1 h2 h3 h4 w8
  clear hw8 k0 k1 k2 c2 B8 HV h1 h2 h3 h4 e1 e2 e3 e4
  go_wp2_with fail
  refine bodyPost_ret (v := .tuple #[.string (txF f p.X), .int .i64 0]) (by simp [results, Tryz.results35, go_sem, *]) rfl ⟨rfl, BW.alloc BW.size _⟩

end Go.Proofs.YtgefjmpnpebfoaaGreatDoor
