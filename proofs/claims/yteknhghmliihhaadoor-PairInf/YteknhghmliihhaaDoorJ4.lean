/- What the package pair's Line does. No condition. -/
import Derived.Test.YteknhghmliihhaaDoorJ3
namespace Go.Proofs.YteknhghmliihhaaDoor
open Go.RowKit Go.Shelf Go.Sort

abbrev okP (x : P2) : Value := .tuple #[vP x, .int .i64 0]
abbrev erP : Value := .tuple #[vP z2, .int .i64 100]
/-- Is there a line? -/
def lnO (s t q : Pt) : Bool := onN s && onN t && onN q && !decide (q = iN)
def lnV (s t q : Pt) : Value := if lnO s t q = true then okP (lnA s t q) else erP

set_option maxRecDepth 20000 in
set_option maxHeartbeats 4000000 in
theorem pLine1 (s t q : Pt) (us : UT s) (hs : onN s = false) (w : World) (hL : Lp w) :
    Calls Tryd.prog 9 #[vT s, vT t, vT q] w fun e w' => e = .returned (erP) ∧ Below w.heap.size w w' := by
  have C1 := on_any s us
  rw [hs] at C1
  clear us hs
  go_enter Tryd.func9, Tryd.ntmps9
  go_wp2_with fail
  refine callsOf (fun V => Below w.heap.size w V ∧ Tb w.heap.size s V ∧ Tb (w.heap.size + 1) t V ∧ Tb (w.heap.size + 1 + 1) q V ∧ Pb (w.heap.size + 1 + 1 + 1) z2 V ∧ Lp V) ⟨by go_grown, (((Tb.new' w s 24 _ rfl).alloc _).alloc _).alloc _, ((Tb.new' _ t 24 _ (by simp)).alloc _).alloc _, (Tb.new' _ q 24 _ (by simp)).alloc _, Pb.new' _ z2 27 _ (by simp), (((hL.alloc _).alloc _).alloc _).alloc _⟩ ?_
  rintro V ⟨BV, hA, hB, hC, hO, hLV⟩
  have H0 : Hid (_ ∧ _ ∧ _ ∧ _ ∧ _ ∧ _) := ⟨BV, hA, hB, hC, hO, hLV⟩
  clear BV hA hB hC hO hLV hL
  refine (C1 _ H0.out.2.2.2.2.2.l).mono ?_
  rintro e w1 ⟨rfl, B1⟩
  obtain ⟨BW, hA, hB, hC, hO, hLV⟩ := H0.out
  have BW' := belowStep BW BW.size B1
  have A' := hA.below B1
  have D' := hB.below B1
  have Q' := hC.below B1
  have O' := hO.below B1
  have L' := hLV.below B1
  have H1 : Hid (_ ∧ _ ∧ _ ∧ _ ∧ _ ∧ _) := ⟨BW', A', D', Q', O', L'⟩
  clear BW hA hB hC hO hLV H0 BW' A' D' Q' O' L' B1
  obtain ⟨BW, hA, hB, hC, hO, hLV⟩ := H1.out
  have lq := hLV.ne
  obtain ⟨z, a, b, f⟩ := hO
  clear hA hB hC hLV H1
  go_wp2_with fail
  refine bodyPost_ret (v := erP) (by simp [results, Tryd.results9, go_sem, z2, *]) rfl ⟨rfl, ?_⟩
  exact (BW.setCell (p := ⟨w.heap.size + 1 + 1 + 1, 0, none⟩) (by show _ ≤ w.heap.size + 1 + 1 + 1; omega) _).setCell (p := ⟨w.heap.size + 1 + 1 + 1, 1, none⟩) (by show _ ≤ w.heap.size + 1 + 1 + 1; omega) _

set_option maxRecDepth 20000 in
set_option maxHeartbeats 4000000 in
theorem pLine2 (s t q : Pt) (us : UT s) (ut : UT t) (hs : onN s = true) (ht : onN t = false) (w : World) (hL : Lp w) :
    Calls Tryd.prog 9 #[vT s, vT t, vT q] w fun e w' => e = .returned (erP) ∧ Below w.heap.size w w' := by
  have C1 := on_any s us
  rw [hs] at C1
  have C2 := on_any t ut
  rw [ht] at C2
  clear us ut hs ht
  go_enter Tryd.func9, Tryd.ntmps9
  go_wp2_with fail
  refine callsOf (fun V => Below w.heap.size w V ∧ Tb w.heap.size s V ∧ Tb (w.heap.size + 1) t V ∧ Tb (w.heap.size + 1 + 1) q V ∧ Pb (w.heap.size + 1 + 1 + 1) z2 V ∧ Lp V) ⟨by go_grown, (((Tb.new' w s 24 _ rfl).alloc _).alloc _).alloc _, ((Tb.new' _ t 24 _ (by simp)).alloc _).alloc _, (Tb.new' _ q 24 _ (by simp)).alloc _, Pb.new' _ z2 27 _ (by simp), (((hL.alloc _).alloc _).alloc _).alloc _⟩ ?_
  rintro V ⟨BV, hA, hB, hC, hO, hLV⟩
  have H0 : Hid (_ ∧ _ ∧ _ ∧ _ ∧ _ ∧ _) := ⟨BV, hA, hB, hC, hO, hLV⟩
  clear BV hA hB hC hO hLV hL
  refine (C1 _ H0.out.2.2.2.2.2.l).mono ?_
  rintro e w1 ⟨rfl, B1⟩
  obtain ⟨BW, hA, hB, hC, hO, hLV⟩ := H0.out
  have BW' := belowStep BW BW.size B1
  have A' := hA.below B1
  have D' := hB.below B1
  have Q' := hC.below B1
  have O' := hO.below B1
  have L' := hLV.below B1
  have H1 : Hid (_ ∧ _ ∧ _ ∧ _ ∧ _ ∧ _) := ⟨BW', A', D', Q', O', L'⟩
  clear BW hA hB hC hO hLV H0 BW' A' D' Q' O' L' B1
  have ⟨_, aa, ab, ac, af⟩ := H1.out.2.2.1
  go_wp2_with fail
  refine (C2 _ H1.out.2.2.2.2.2.l).mono ?_
  clear aa ab ac af
  rintro e w2 ⟨rfl, B2⟩
  obtain ⟨BW, hA, hB, hC, hO, hLV⟩ := H1.out
  have BW' := belowStep BW BW.size B2
  have A' := hA.below B2
  have D' := hB.below B2
  have Q' := hC.below B2
  have O' := hO.below B2
  have L' := hLV.below B2
  have H2 : Hid (_ ∧ _ ∧ _ ∧ _ ∧ _ ∧ _) := ⟨BW', A', D', Q', O', L'⟩
  clear BW hA hB hC hO hLV H1 BW' A' D' Q' O' L' B2
  obtain ⟨BW, hA, hB, hC, hO, hLV⟩ := H2.out
  have lq := hLV.ne
  obtain ⟨z, a, b, f⟩ := hO
  clear hA hB hC hLV H2
  go_wp2_with fail
  refine bodyPost_ret (v := erP) (by simp [results, Tryd.results9, go_sem, z2, *]) rfl ⟨rfl, ?_⟩
  exact (BW.setCell (p := ⟨w.heap.size + 1 + 1 + 1, 0, none⟩) (by show _ ≤ w.heap.size + 1 + 1 + 1; omega) _).setCell (p := ⟨w.heap.size + 1 + 1 + 1, 1, none⟩) (by show _ ≤ w.heap.size + 1 + 1 + 1; omega) _

set_option maxRecDepth 20000 in
set_option maxHeartbeats 4000000 in
theorem pLine3 (s t q : Pt) (us : UT s) (ut : UT t) (uq : UT q) (hs : onN s = true) (ht : onN t = true) (hq : onN q = false) (w : World) (hL : Lp w) :
    Calls Tryd.prog 9 #[vT s, vT t, vT q] w fun e w' => e = .returned (erP) ∧ Below w.heap.size w w' := by
  have C1 := on_any s us
  rw [hs] at C1
  have C2 := on_any t ut
  rw [ht] at C2
  have C3 := on_any q uq
  rw [hq] at C3
  clear us ut uq hs ht hq
  go_enter Tryd.func9, Tryd.ntmps9
  go_wp2_with fail
  refine callsOf (fun V => Below w.heap.size w V ∧ Tb w.heap.size s V ∧ Tb (w.heap.size + 1) t V ∧ Tb (w.heap.size + 1 + 1) q V ∧ Pb (w.heap.size + 1 + 1 + 1) z2 V ∧ Lp V) ⟨by go_grown, (((Tb.new' w s 24 _ rfl).alloc _).alloc _).alloc _, ((Tb.new' _ t 24 _ (by simp)).alloc _).alloc _, (Tb.new' _ q 24 _ (by simp)).alloc _, Pb.new' _ z2 27 _ (by simp), (((hL.alloc _).alloc _).alloc _).alloc _⟩ ?_
  rintro V ⟨BV, hA, hB, hC, hO, hLV⟩
  have H0 : Hid (_ ∧ _ ∧ _ ∧ _ ∧ _ ∧ _) := ⟨BV, hA, hB, hC, hO, hLV⟩
  clear BV hA hB hC hO hLV hL
  refine (C1 _ H0.out.2.2.2.2.2.l).mono ?_
  rintro e w1 ⟨rfl, B1⟩
  obtain ⟨BW, hA, hB, hC, hO, hLV⟩ := H0.out
  have BW' := belowStep BW BW.size B1
  have A' := hA.below B1
  have D' := hB.below B1
  have Q' := hC.below B1
  have O' := hO.below B1
  have L' := hLV.below B1
  have H1 : Hid (_ ∧ _ ∧ _ ∧ _ ∧ _ ∧ _) := ⟨BW', A', D', Q', O', L'⟩
  clear BW hA hB hC hO hLV H0 BW' A' D' Q' O' L' B1
  have ⟨_, aa, ab, ac, af⟩ := H1.out.2.2.1
  go_wp2_with fail
  refine (C2 _ H1.out.2.2.2.2.2.l).mono ?_
  clear aa ab ac af
  rintro e w2 ⟨rfl, B2⟩
  obtain ⟨BW, hA, hB, hC, hO, hLV⟩ := H1.out
  have BW' := belowStep BW BW.size B2
  have A' := hA.below B2
  have D' := hB.below B2
  have Q' := hC.below B2
  have O' := hO.below B2
  have L' := hLV.below B2
  have H2 : Hid (_ ∧ _ ∧ _ ∧ _ ∧ _ ∧ _) := ⟨BW', A', D', Q', O', L'⟩
  clear BW hA hB hC hO hLV H1 BW' A' D' Q' O' L' B2
  have ⟨_, aa, ab, ac, af⟩ := H2.out.2.2.2.1
  go_wp2_with fail
  refine (C3 _ H2.out.2.2.2.2.2.l).mono ?_
  clear aa ab ac af
  rintro e w3 ⟨rfl, B3⟩
  obtain ⟨BW, hA, hB, hC, hO, hLV⟩ := H2.out
  have BW' := belowStep BW BW.size B3
  have A' := hA.below B3
  have D' := hB.below B3
  have Q' := hC.below B3
  have O' := hO.below B3
  have L' := hLV.below B3
  have H3 : Hid (_ ∧ _ ∧ _ ∧ _ ∧ _ ∧ _) := ⟨BW', A', D', Q', O', L'⟩
  clear BW hA hB hC hO hLV H2 BW' A' D' Q' O' L' B3
  obtain ⟨BW, hA, hB, hC, hO, hLV⟩ := H3.out
  have lq := hLV.ne
  obtain ⟨z, a, b, f⟩ := hO
  clear hA hB hC hLV H3
  go_wp2_with fail
  refine bodyPost_ret (v := erP) (by simp [results, Tryd.results9, go_sem, z2, *]) rfl ⟨rfl, ?_⟩
  exact (BW.setCell (p := ⟨w.heap.size + 1 + 1 + 1, 0, none⟩) (by show _ ≤ w.heap.size + 1 + 1 + 1; omega) _).setCell (p := ⟨w.heap.size + 1 + 1 + 1, 1, none⟩) (by show _ ≤ w.heap.size + 1 + 1 + 1; omega) _

set_option maxRecDepth 20000 in
set_option maxHeartbeats 4000000 in
theorem pLine4 (s t q : Pt) (us : UT s) (ut : UT t) (uq : UT q) (hs : onN s = true) (ht : onN t = true) (hq : onN q = true) (hi : q = iN) (w : World) (hL : Lp w) :
    Calls Tryd.prog 9 #[vT s, vT t, vT q] w fun e w' => e = .returned (erP) ∧ Below w.heap.size w w' := by
  have C1 := on_any s us
  rw [hs] at C1
  have C2 := on_any t ut
  rw [ht] at C2
  have C3 := on_any q uq
  rw [hq] at C3
  have hE := eqlI q
  rw [decide_eq_true hi] at hE
  clear us ut uq hs ht hq
  clear hi
  go_enter Tryd.func9, Tryd.ntmps9
  go_wp2_with fail
  refine callsOf (fun V => Below w.heap.size w V ∧ Tb w.heap.size s V ∧ Tb (w.heap.size + 1) t V ∧ Tb (w.heap.size + 1 + 1) q V ∧ Pb (w.heap.size + 1 + 1 + 1) z2 V ∧ Lp V) ⟨by go_grown, (((Tb.new' w s 24 _ rfl).alloc _).alloc _).alloc _, ((Tb.new' _ t 24 _ (by simp)).alloc _).alloc _, (Tb.new' _ q 24 _ (by simp)).alloc _, Pb.new' _ z2 27 _ (by simp), (((hL.alloc _).alloc _).alloc _).alloc _⟩ ?_
  rintro V ⟨BV, hA, hB, hC, hO, hLV⟩
  have H0 : Hid (_ ∧ _ ∧ _ ∧ _ ∧ _ ∧ _) := ⟨BV, hA, hB, hC, hO, hLV⟩
  clear BV hA hB hC hO hLV hL
  refine (C1 _ H0.out.2.2.2.2.2.l).mono ?_
  rintro e w1 ⟨rfl, B1⟩
  obtain ⟨BW, hA, hB, hC, hO, hLV⟩ := H0.out
  have BW' := belowStep BW BW.size B1
  have A' := hA.below B1
  have D' := hB.below B1
  have Q' := hC.below B1
  have O' := hO.below B1
  have L' := hLV.below B1
  have H1 : Hid (_ ∧ _ ∧ _ ∧ _ ∧ _ ∧ _) := ⟨BW', A', D', Q', O', L'⟩
  clear BW hA hB hC hO hLV H0 BW' A' D' Q' O' L' B1
  have ⟨_, aa, ab, ac, af⟩ := H1.out.2.2.1
  go_wp2_with fail
  refine (C2 _ H1.out.2.2.2.2.2.l).mono ?_
  clear aa ab ac af
  rintro e w2 ⟨rfl, B2⟩
  obtain ⟨BW, hA, hB, hC, hO, hLV⟩ := H1.out
  have BW' := belowStep BW BW.size B2
  have A' := hA.below B2
  have D' := hB.below B2
  have Q' := hC.below B2
  have O' := hO.below B2
  have L' := hLV.below B2
  have H2 : Hid (_ ∧ _ ∧ _ ∧ _ ∧ _ ∧ _) := ⟨BW', A', D', Q', O', L'⟩
  clear BW hA hB hC hO hLV H1 BW' A' D' Q' O' L' B2
  have ⟨_, aa, ab, ac, af⟩ := H2.out.2.2.2.1
  go_wp2_with fail
  refine (C3 _ H2.out.2.2.2.2.2.l).mono ?_
  clear aa ab ac af
  rintro e w3 ⟨rfl, B3⟩
  obtain ⟨BW, hA, hB, hC, hO, hLV⟩ := H2.out
  have BW' := belowStep BW BW.size B3
  have A' := hA.below B3
  have D' := hB.below B3
  have Q' := hC.below B3
  have O' := hO.below B3
  have L' := hLV.below B3
  have H3 : Hid (_ ∧ _ ∧ _ ∧ _ ∧ _ ∧ _) := ⟨BW', A', D', Q', O', L'⟩
  clear BW hA hB hC hO hLV H2 BW' A' D' Q' O' L' B3
  have ⟨_, aa, ab, ac, af⟩ := H3.out.2.2.2.1
  have lq := H3.out.2.2.2.2.2.ne
  have za := H3.out.2.2.2.2.2.za
  have a0 := H3.out.2.2.2.2.2.a0
  have a1 := H3.out.2.2.2.2.2.a1
  have a2 := H3.out.2.2.2.2.2.a2
  obtain ⟨z, a, b, f⟩ := H3.out.2.2.2.2.1
  go_wp2_with fail
  obtain ⟨BW, _⟩ := H3.out
  refine bodyPost_ret (v := erP) (by simp [results, Tryd.results9, go_sem, z2, *]) rfl ⟨rfl, ?_⟩
  exact (BW.setCell (p := ⟨w.heap.size + 1 + 1 + 1, 0, none⟩) (by show _ ≤ w.heap.size + 1 + 1 + 1; omega) _).setCell (p := ⟨w.heap.size + 1 + 1 + 1, 1, none⟩) (by show _ ≤ w.heap.size + 1 + 1 + 1; omega) _

set_option maxRecDepth 20000 in
set_option maxHeartbeats 4000000 in
theorem pLine5 (s t q : Pt) (us : UT s) (ut : UT t) (uq : UT q) (hs : onN s = true) (ht : onN t = true) (hq : onN q = true) (hi : ¬ q = iN) (w : World) (hL : Lp w) :
    Calls Tryd.prog 9 #[vT s, vT t, vT q] w fun e w' => e = .returned (okP (lnA s t q)) ∧ Below w.heap.size w w' := by
  have C1 := on_any s us
  rw [hs] at C1
  have C2 := on_any t ut
  rw [ht] at C2
  have C3 := on_any q uq
  rw [hq] at C3
  have hE := eqlI q
  rw [decide_eq_false hi] at hE
  have CL := pline_any s t q hs ut uq
  obtain ⟨x, hx⟩ : ∃ x, lnA s t q = x := ⟨_, rfl⟩
  rw [hx] at CL ⊢
  clear hx
  clear us ut uq hs ht hq
  clear hi
  go_enter Tryd.func9, Tryd.ntmps9
  go_wp2_with fail
  refine callsOf (fun V => Below w.heap.size w V ∧ Tb w.heap.size s V ∧ Tb (w.heap.size + 1) t V ∧ Tb (w.heap.size + 1 + 1) q V ∧ Pb (w.heap.size + 1 + 1 + 1) z2 V ∧ Lp V) ⟨by go_grown, (((Tb.new' w s 24 _ rfl).alloc _).alloc _).alloc _, ((Tb.new' _ t 24 _ (by simp)).alloc _).alloc _, (Tb.new' _ q 24 _ (by simp)).alloc _, Pb.new' _ z2 27 _ (by simp), (((hL.alloc _).alloc _).alloc _).alloc _⟩ ?_
  rintro V ⟨BV, hA, hB, hC, hO, hLV⟩
  have H0 : Hid (_ ∧ _ ∧ _ ∧ _ ∧ _ ∧ _) := ⟨BV, hA, hB, hC, hO, hLV⟩
  clear BV hA hB hC hO hLV hL
  refine (C1 _ H0.out.2.2.2.2.2.l).mono ?_
  rintro e w1 ⟨rfl, B1⟩
  obtain ⟨BW, hA, hB, hC, hO, hLV⟩ := H0.out
  have BW' := belowStep BW BW.size B1
  have A' := hA.below B1
  have D' := hB.below B1
  have Q' := hC.below B1
  have O' := hO.below B1
  have L' := hLV.below B1
  have H1 : Hid (_ ∧ _ ∧ _ ∧ _ ∧ _ ∧ _) := ⟨BW', A', D', Q', O', L'⟩
  clear BW hA hB hC hO hLV H0 BW' A' D' Q' O' L' B1
  have ⟨_, aa, ab, ac, af⟩ := H1.out.2.2.1
  go_wp2_with fail
  refine (C2 _ H1.out.2.2.2.2.2.l).mono ?_
  clear aa ab ac af
  rintro e w2 ⟨rfl, B2⟩
  obtain ⟨BW, hA, hB, hC, hO, hLV⟩ := H1.out
  have BW' := belowStep BW BW.size B2
  have A' := hA.below B2
  have D' := hB.below B2
  have Q' := hC.below B2
  have O' := hO.below B2
  have L' := hLV.below B2
  have H2 : Hid (_ ∧ _ ∧ _ ∧ _ ∧ _ ∧ _) := ⟨BW', A', D', Q', O', L'⟩
  clear BW hA hB hC hO hLV H1 BW' A' D' Q' O' L' B2
  have ⟨_, aa, ab, ac, af⟩ := H2.out.2.2.2.1
  go_wp2_with fail
  refine (C3 _ H2.out.2.2.2.2.2.l).mono ?_
  clear aa ab ac af
  rintro e w3 ⟨rfl, B3⟩
  obtain ⟨BW, hA, hB, hC, hO, hLV⟩ := H2.out
  have BW' := belowStep BW BW.size B3
  have A' := hA.below B3
  have D' := hB.below B3
  have Q' := hC.below B3
  have O' := hO.below B3
  have L' := hLV.below B3
  have H3 : Hid (_ ∧ _ ∧ _ ∧ _ ∧ _ ∧ _) := ⟨BW', A', D', Q', O', L'⟩
  clear BW hA hB hC hO hLV H2 BW' A' D' Q' O' L' B3
  have ⟨_, aa, ab, ac, af⟩ := H3.out.2.2.2.1
  have lq := H3.out.2.2.2.2.2.ne
  have za := H3.out.2.2.2.2.2.za
  have a0 := H3.out.2.2.2.2.2.a0
  have a1 := H3.out.2.2.2.2.2.a1
  have a2 := H3.out.2.2.2.2.2.a2
  have ⟨_, ba, bb, bc, bf⟩ := H3.out.2.1
  have ⟨_, ca, cb, cc, cf⟩ := H3.out.2.2.1
  go_wp2_with fail
  refine (CL _ H3.out.2.2.2.2.2).mono ?_
  clear aa ab ac af ba bb bc bf ca cb cc cf lq za a0 a1 a2
  rintro e w9 ⟨rfl, B9⟩
  obtain ⟨BW, hA, hB, hC, hO, hLV⟩ := H3.out
  have BW' := belowStep BW BW.size B9
  have A' := hA.below B9
  have D' := hB.below B9
  have Q' := hC.below B9
  have O' := hO.below B9
  have L' := hLV.below B9
  have H9 : Hid (_ ∧ _ ∧ _ ∧ _ ∧ _ ∧ _) := ⟨BW', A', D', Q', O', L'⟩
  clear BW hA hB hC hO hLV H3 BW' A' D' Q' O' L' B9
  obtain ⟨BW, hA, hB, hC, hO, hLV⟩ := H9.out
  obtain ⟨z, a, b, f⟩ := hO
  clear hA hB hC hLV H9
  go_wp2_with fail
  refine bodyPost_ret (v := okP x) (by simp [results, Tryd.results9, go_sem, *]) rfl ⟨rfl, ?_⟩
  exact (BW.setCell (p := ⟨w.heap.size + 1 + 1 + 1, 0, none⟩) (by show _ ≤ w.heap.size + 1 + 1 + 1; omega) _).setCell (p := ⟨w.heap.size + 1 + 1 + 1, 1, none⟩) (by show _ ≤ w.heap.size + 1 + 1 + 1; omega) _

theorem pLine_any (s t q : Pt) (us : UT s) (ut : UT t) (uq : UT q) (w : World) (hL : Lp w) :
    Calls Tryd.prog 9 #[vT s, vT t, vT q] w fun e w' => e = .returned (lnV s t q) ∧ Below w.heap.size w w' := by
  unfold lnV lnO
  cases hs : onN s
  · rw [if_neg (by simp)]; exact pLine1 s t q us hs w hL
  cases ht : onN t
  · rw [if_neg (by simp)]; exact pLine2 s t q us ut hs ht w hL
  cases hq : onN q
  · rw [if_neg (by simp)]; exact pLine3 s t q us ut uq hs ht hq w hL
  by_cases hi : q = iN
  · rw [if_neg (by rw [decide_eq_true hi]; simp)]; exact pLine4 s t q us ut uq hs ht hq hi w hL
  · rw [if_pos (by rw [decide_eq_false hi]; simp)]; exact pLine5 s t q us ut uq hs ht hq hi w hL
end Go.Proofs.YteknhghmliihhaaDoor
