/- What the reference's Line does. No condition. -/
import Derived.Test.YteknhghmliihhaaDoorJ9
namespace Go.Proofs.YteknhghmliihhaaDoor
open Go.RowKit Go.Shelf Go.Sort

set_option maxRecDepth 20000 in
set_option maxHeartbeats 4000000 in
theorem rLine1 (s t q : Pt) (us : UT s) (ut : UT t) (uq : UT q) (hs : onN s = false) (w : World) :
    Calls Tryd.prog 10 #[vT s, vT t, vT q] w fun e w' => e = .returned (erP) ∧ Below w.heap.size w w' := by
  have C1 := ron_any s us
  rw [hs] at C1
  have C2 := ron_any t ut
  obtain ⟨bt, et⟩ : ∃ b, onN t = b := ⟨_, rfl⟩
  rw [et] at C2
  clear et
  have C3 := ron_any q uq
  obtain ⟨bq, eq⟩ : ∃ b, onN q = b := ⟨_, rfl⟩
  rw [eq] at C3
  clear eq
  clear us ut uq hs
  obtain ⟨qX, qY, qI⟩ := q
  simp only [vT] at C3 ⊢
  go_enter Tryd.func10, Tryd.ntmps10
  go_wp2_with fail
  refine callsOf (fun V => Below w.heap.size w V ∧ Tb w.heap.size s V ∧ Tb (w.heap.size + 1) t V ∧ Tb (w.heap.size + 1 + 1) ⟨qX, qY, qI⟩ V ∧ Pb (w.heap.size + 1 + 1 + 1) z2 V) ⟨by go_grown, (((Tb.new' w s 24 _ rfl).alloc _).alloc _).alloc _, ((Tb.new' _ t 24 _ (by simp)).alloc _).alloc _, (Tb.new' _ ⟨qX, qY, qI⟩ 24 _ (by simp)).alloc _, Pb.new' _ z2 27 _ (by simp)⟩ ?_
  rintro V ⟨BV, hA, hB, hC, hO⟩
  have H0 : Hid (_ ∧ _ ∧ _ ∧ _ ∧ _) := ⟨BV, hA, hB, hC, hO⟩
  clear BV hA hB hC hO
  refine (C1 _).mono ?_
  rintro e w1 ⟨rfl, B1⟩
  obtain ⟨BW, hA, hB, hC, hO⟩ := H0.out
  have BW' := belowStep BW BW.size B1
  have A' := hA.below B1
  have D' := hB.below B1
  have Q' := hC.below B1
  have O' := hO.below B1
  have H1 : Hid (_ ∧ _ ∧ _ ∧ _ ∧ _) := ⟨BW', A', D', Q', O'⟩
  clear BW hA hB hC hO H0 BW' A' D' Q' O' B1
  have ⟨_, ba, bb, bc, bf⟩ := H1.out.2.2.1
  go_wp2_with fail
  refine (C2 _).mono ?_
  clear ba bb bc bf
  rintro e w2 ⟨rfl, B2⟩
  obtain ⟨BW, hA, hB, hC, hO⟩ := H1.out
  have BW' := belowStep BW BW.size B2
  have A' := hA.below B2
  have D' := hB.below B2
  have Q' := hC.below B2
  have O' := hO.below B2
  have H2 : Hid (_ ∧ _ ∧ _ ∧ _ ∧ _) := ⟨BW', A', D', Q', O'⟩
  clear BW hA hB hC hO H1 BW' A' D' Q' O' B2
  have ⟨_, ca, cb, cc, cf⟩ := H2.out.2.2.2.1
  go_wp2_with fail
  refine (C3 _).mono ?_
  clear ca cb cc cf
  rintro e w3 ⟨rfl, B3⟩
  obtain ⟨BW, hA, hB, hC, hO⟩ := H2.out
  have BW' := belowStep BW BW.size B3
  have A' := hA.below B3
  have D' := hB.below B3
  have Q' := hC.below B3
  have O' := hO.below B3
  have H3 : Hid (_ ∧ _ ∧ _ ∧ _ ∧ _) := ⟨BW', A', D', Q', O'⟩
  clear BW hA hB hC hO H2 BW' A' D' Q' O' B3
  have ⟨_, ca, cb, cc, cf⟩ := H3.out.2.2.2.1
  obtain ⟨z, a, b, f⟩ := H3.out.2.2.2.2
  go_wp2_with fail
  obtain ⟨BW, _⟩ := H3.out
  refine bodyPost_ret (v := erP) (by simp [results, Tryd.results10, go_sem, z2, *]) rfl ⟨rfl, ?_⟩
  exact below_sP (y := z2) BW (by omega)

set_option maxRecDepth 20000 in
set_option maxHeartbeats 4000000 in
theorem rLine2 (s t q : Pt) (us : UT s) (ut : UT t) (uq : UT q) (hs : onN s = true) (ht : onN t = false) (w : World) :
    Calls Tryd.prog 10 #[vT s, vT t, vT q] w fun e w' => e = .returned (erP) ∧ Below w.heap.size w w' := by
  have C1 := ron_any s us
  rw [hs] at C1
  have C2 := ron_any t ut
  rw [ht] at C2
  have C3 := ron_any q uq
  obtain ⟨bq, eq⟩ : ∃ b, onN q = b := ⟨_, rfl⟩
  rw [eq] at C3
  clear eq
  clear us ut uq hs ht
  obtain ⟨qX, qY, qI⟩ := q
  simp only [vT] at C3 ⊢
  go_enter Tryd.func10, Tryd.ntmps10
  go_wp2_with fail
  refine callsOf (fun V => Below w.heap.size w V ∧ Tb w.heap.size s V ∧ Tb (w.heap.size + 1) t V ∧ Tb (w.heap.size + 1 + 1) ⟨qX, qY, qI⟩ V ∧ Pb (w.heap.size + 1 + 1 + 1) z2 V) ⟨by go_grown, (((Tb.new' w s 24 _ rfl).alloc _).alloc _).alloc _, ((Tb.new' _ t 24 _ (by simp)).alloc _).alloc _, (Tb.new' _ ⟨qX, qY, qI⟩ 24 _ (by simp)).alloc _, Pb.new' _ z2 27 _ (by simp)⟩ ?_
  rintro V ⟨BV, hA, hB, hC, hO⟩
  have H0 : Hid (_ ∧ _ ∧ _ ∧ _ ∧ _) := ⟨BV, hA, hB, hC, hO⟩
  clear BV hA hB hC hO
  refine (C1 _).mono ?_
  rintro e w1 ⟨rfl, B1⟩
  obtain ⟨BW, hA, hB, hC, hO⟩ := H0.out
  have BW' := belowStep BW BW.size B1
  have A' := hA.below B1
  have D' := hB.below B1
  have Q' := hC.below B1
  have O' := hO.below B1
  have H1 : Hid (_ ∧ _ ∧ _ ∧ _ ∧ _) := ⟨BW', A', D', Q', O'⟩
  clear BW hA hB hC hO H0 BW' A' D' Q' O' B1
  have ⟨_, ba, bb, bc, bf⟩ := H1.out.2.2.1
  go_wp2_with fail
  refine (C2 _).mono ?_
  clear ba bb bc bf
  rintro e w2 ⟨rfl, B2⟩
  obtain ⟨BW, hA, hB, hC, hO⟩ := H1.out
  have BW' := belowStep BW BW.size B2
  have A' := hA.below B2
  have D' := hB.below B2
  have Q' := hC.below B2
  have O' := hO.below B2
  have H2 : Hid (_ ∧ _ ∧ _ ∧ _ ∧ _) := ⟨BW', A', D', Q', O'⟩
  clear BW hA hB hC hO H1 BW' A' D' Q' O' B2
  have ⟨_, ca, cb, cc, cf⟩ := H2.out.2.2.2.1
  go_wp2_with fail
  refine (C3 _).mono ?_
  clear ca cb cc cf
  rintro e w3 ⟨rfl, B3⟩
  obtain ⟨BW, hA, hB, hC, hO⟩ := H2.out
  have BW' := belowStep BW BW.size B3
  have A' := hA.below B3
  have D' := hB.below B3
  have Q' := hC.below B3
  have O' := hO.below B3
  have H3 : Hid (_ ∧ _ ∧ _ ∧ _ ∧ _) := ⟨BW', A', D', Q', O'⟩
  clear BW hA hB hC hO H2 BW' A' D' Q' O' B3
  have ⟨_, ca, cb, cc, cf⟩ := H3.out.2.2.2.1
  obtain ⟨z, a, b, f⟩ := H3.out.2.2.2.2
  go_wp2_with fail
  obtain ⟨BW, _⟩ := H3.out
  refine bodyPost_ret (v := erP) (by simp [results, Tryd.results10, go_sem, z2, *]) rfl ⟨rfl, ?_⟩
  exact below_sP (y := z2) BW (by omega)

set_option maxRecDepth 20000 in
set_option maxHeartbeats 4000000 in
theorem rLine3 (s t q : Pt) (us : UT s) (ut : UT t) (uq : UT q) (hs : onN s = true) (ht : onN t = true) (hq : onN q = false) (w : World) :
    Calls Tryd.prog 10 #[vT s, vT t, vT q] w fun e w' => e = .returned (erP) ∧ Below w.heap.size w w' := by
  have C1 := ron_any s us
  rw [hs] at C1
  have C2 := ron_any t ut
  rw [ht] at C2
  have C3 := ron_any q uq
  rw [hq] at C3
  clear us ut uq hs ht hq
  obtain ⟨qX, qY, qI⟩ := q
  simp only [vT] at C3 ⊢
  go_enter Tryd.func10, Tryd.ntmps10
  go_wp2_with fail
  refine callsOf (fun V => Below w.heap.size w V ∧ Tb w.heap.size s V ∧ Tb (w.heap.size + 1) t V ∧ Tb (w.heap.size + 1 + 1) ⟨qX, qY, qI⟩ V ∧ Pb (w.heap.size + 1 + 1 + 1) z2 V) ⟨by go_grown, (((Tb.new' w s 24 _ rfl).alloc _).alloc _).alloc _, ((Tb.new' _ t 24 _ (by simp)).alloc _).alloc _, (Tb.new' _ ⟨qX, qY, qI⟩ 24 _ (by simp)).alloc _, Pb.new' _ z2 27 _ (by simp)⟩ ?_
  rintro V ⟨BV, hA, hB, hC, hO⟩
  have H0 : Hid (_ ∧ _ ∧ _ ∧ _ ∧ _) := ⟨BV, hA, hB, hC, hO⟩
  clear BV hA hB hC hO
  refine (C1 _).mono ?_
  rintro e w1 ⟨rfl, B1⟩
  obtain ⟨BW, hA, hB, hC, hO⟩ := H0.out
  have BW' := belowStep BW BW.size B1
  have A' := hA.below B1
  have D' := hB.below B1
  have Q' := hC.below B1
  have O' := hO.below B1
  have H1 : Hid (_ ∧ _ ∧ _ ∧ _ ∧ _) := ⟨BW', A', D', Q', O'⟩
  clear BW hA hB hC hO H0 BW' A' D' Q' O' B1
  have ⟨_, ba, bb, bc, bf⟩ := H1.out.2.2.1
  go_wp2_with fail
  refine (C2 _).mono ?_
  clear ba bb bc bf
  rintro e w2 ⟨rfl, B2⟩
  obtain ⟨BW, hA, hB, hC, hO⟩ := H1.out
  have BW' := belowStep BW BW.size B2
  have A' := hA.below B2
  have D' := hB.below B2
  have Q' := hC.below B2
  have O' := hO.below B2
  have H2 : Hid (_ ∧ _ ∧ _ ∧ _ ∧ _) := ⟨BW', A', D', Q', O'⟩
  clear BW hA hB hC hO H1 BW' A' D' Q' O' B2
  have ⟨_, ca, cb, cc, cf⟩ := H2.out.2.2.2.1
  go_wp2_with fail
  refine (C3 _).mono ?_
  clear ca cb cc cf
  rintro e w3 ⟨rfl, B3⟩
  obtain ⟨BW, hA, hB, hC, hO⟩ := H2.out
  have BW' := belowStep BW BW.size B3
  have A' := hA.below B3
  have D' := hB.below B3
  have Q' := hC.below B3
  have O' := hO.below B3
  have H3 : Hid (_ ∧ _ ∧ _ ∧ _ ∧ _) := ⟨BW', A', D', Q', O'⟩
  clear BW hA hB hC hO H2 BW' A' D' Q' O' B3
  have ⟨_, ca, cb, cc, cf⟩ := H3.out.2.2.2.1
  obtain ⟨z, a, b, f⟩ := H3.out.2.2.2.2
  go_wp2_with fail
  obtain ⟨BW, _⟩ := H3.out
  refine bodyPost_ret (v := erP) (by simp [results, Tryd.results10, go_sem, z2, *]) rfl ⟨rfl, ?_⟩
  exact below_sP (y := z2) BW (by omega)

set_option maxRecDepth 20000 in
set_option maxHeartbeats 4000000 in
theorem rLine4 (s t q : Pt) (us : UT s) (ut : UT t) (uq : UT q) (hs : onN s = true) (ht : onN t = true) (hq : onN q = true) (hi : q.I = true) (w : World) :
    Calls Tryd.prog 10 #[vT s, vT t, vT q] w fun e w' => e = .returned (erP) ∧ Below w.heap.size w w' := by
  have C1 := ron_any s us
  rw [hs] at C1
  have C2 := ron_any t ut
  rw [ht] at C2
  have C3 := ron_any q uq
  rw [hq] at C3
  clear us ut uq hs ht hq
  obtain ⟨qX, qY, qI⟩ := q
  simp only [vT] at C3 hi ⊢
  subst hi
  go_enter Tryd.func10, Tryd.ntmps10
  go_wp2_with fail
  refine callsOf (fun V => Below w.heap.size w V ∧ Tb w.heap.size s V ∧ Tb (w.heap.size + 1) t V ∧ Tb (w.heap.size + 1 + 1) ⟨qX, qY, true⟩ V ∧ Pb (w.heap.size + 1 + 1 + 1) z2 V) ⟨by go_grown, (((Tb.new' w s 24 _ rfl).alloc _).alloc _).alloc _, ((Tb.new' _ t 24 _ (by simp)).alloc _).alloc _, (Tb.new' _ ⟨qX, qY, true⟩ 24 _ (by simp)).alloc _, Pb.new' _ z2 27 _ (by simp)⟩ ?_
  rintro V ⟨BV, hA, hB, hC, hO⟩
  have H0 : Hid (_ ∧ _ ∧ _ ∧ _ ∧ _) := ⟨BV, hA, hB, hC, hO⟩
  clear BV hA hB hC hO
  refine (C1 _).mono ?_
  rintro e w1 ⟨rfl, B1⟩
  obtain ⟨BW, hA, hB, hC, hO⟩ := H0.out
  have BW' := belowStep BW BW.size B1
  have A' := hA.below B1
  have D' := hB.below B1
  have Q' := hC.below B1
  have O' := hO.below B1
  have H1 : Hid (_ ∧ _ ∧ _ ∧ _ ∧ _) := ⟨BW', A', D', Q', O'⟩
  clear BW hA hB hC hO H0 BW' A' D' Q' O' B1
  have ⟨_, ba, bb, bc, bf⟩ := H1.out.2.2.1
  go_wp2_with fail
  refine (C2 _).mono ?_
  clear ba bb bc bf
  rintro e w2 ⟨rfl, B2⟩
  obtain ⟨BW, hA, hB, hC, hO⟩ := H1.out
  have BW' := belowStep BW BW.size B2
  have A' := hA.below B2
  have D' := hB.below B2
  have Q' := hC.below B2
  have O' := hO.below B2
  have H2 : Hid (_ ∧ _ ∧ _ ∧ _ ∧ _) := ⟨BW', A', D', Q', O'⟩
  clear BW hA hB hC hO H1 BW' A' D' Q' O' B2
  have ⟨_, ca, cb, cc, cf⟩ := H2.out.2.2.2.1
  go_wp2_with fail
  refine (C3 _).mono ?_
  clear ca cb cc cf
  rintro e w3 ⟨rfl, B3⟩
  obtain ⟨BW, hA, hB, hC, hO⟩ := H2.out
  have BW' := belowStep BW BW.size B3
  have A' := hA.below B3
  have D' := hB.below B3
  have Q' := hC.below B3
  have O' := hO.below B3
  have H3 : Hid (_ ∧ _ ∧ _ ∧ _ ∧ _) := ⟨BW', A', D', Q', O'⟩
  clear BW hA hB hC hO H2 BW' A' D' Q' O' B3
  have ⟨_, ca, cb, cc, cf⟩ := H3.out.2.2.2.1
  obtain ⟨z, a, b, f⟩ := H3.out.2.2.2.2
  go_wp2_with fail
  obtain ⟨BW, _⟩ := H3.out
  refine bodyPost_ret (v := erP) (by simp [results, Tryd.results10, go_sem, z2, *]) rfl ⟨rfl, ?_⟩
  exact below_sP (y := z2) BW (by omega)

set_option maxRecDepth 20000 in
set_option maxHeartbeats 4000000 in
theorem rLine5 (s t q : Pt) (us : UT s) (ut : UT t) (uq : UT q) (hs : onN s = true) (ht : onN t = true) (hq : onN q = true) (hi : q.I = false) (w : World) :
    Calls Tryd.prog 10 #[vT s, vT t, vT q] w fun e w' => e = .returned (okP (lnA s t q)) ∧ Below w.heap.size w w' := by
  have C1 := ron_any s us
  rw [hs] at C1
  have C2 := ron_any t ut
  rw [ht] at C2
  have C3 := ron_any q uq
  rw [hq] at C3
  have CL := rline_any s t q (wl_on hs) (wl_on ht) uq
  obtain ⟨x, hx⟩ : ∃ x, lnA s t q = x := ⟨_, rfl⟩
  rw [hx] at CL ⊢
  clear hx
  clear us ut uq hs ht hq
  obtain ⟨qX, qY, qI⟩ := q
  simp only [vT] at C3 hi CL ⊢
  subst hi
  go_enter Tryd.func10, Tryd.ntmps10
  go_wp2_with fail
  refine callsOf (fun V => Below w.heap.size w V ∧ Tb w.heap.size s V ∧ Tb (w.heap.size + 1) t V ∧ Tb (w.heap.size + 1 + 1) ⟨qX, qY, false⟩ V ∧ Pb (w.heap.size + 1 + 1 + 1) z2 V) ⟨by go_grown, (((Tb.new' w s 24 _ rfl).alloc _).alloc _).alloc _, ((Tb.new' _ t 24 _ (by simp)).alloc _).alloc _, (Tb.new' _ ⟨qX, qY, false⟩ 24 _ (by simp)).alloc _, Pb.new' _ z2 27 _ (by simp)⟩ ?_
  rintro V ⟨BV, hA, hB, hC, hO⟩
  have H0 : Hid (_ ∧ _ ∧ _ ∧ _ ∧ _) := ⟨BV, hA, hB, hC, hO⟩
  clear BV hA hB hC hO
  refine (C1 _).mono ?_
  rintro e w1 ⟨rfl, B1⟩
  obtain ⟨BW, hA, hB, hC, hO⟩ := H0.out
  have BW' := belowStep BW BW.size B1
  have A' := hA.below B1
  have D' := hB.below B1
  have Q' := hC.below B1
  have O' := hO.below B1
  have H1 : Hid (_ ∧ _ ∧ _ ∧ _ ∧ _) := ⟨BW', A', D', Q', O'⟩
  clear BW hA hB hC hO H0 BW' A' D' Q' O' B1
  have ⟨_, ba, bb, bc, bf⟩ := H1.out.2.2.1
  go_wp2_with fail
  refine (C2 _).mono ?_
  clear ba bb bc bf
  rintro e w2 ⟨rfl, B2⟩
  obtain ⟨BW, hA, hB, hC, hO⟩ := H1.out
  have BW' := belowStep BW BW.size B2
  have A' := hA.below B2
  have D' := hB.below B2
  have Q' := hC.below B2
  have O' := hO.below B2
  have H2 : Hid (_ ∧ _ ∧ _ ∧ _ ∧ _) := ⟨BW', A', D', Q', O'⟩
  clear BW hA hB hC hO H1 BW' A' D' Q' O' B2
  have ⟨_, ca, cb, cc, cf⟩ := H2.out.2.2.2.1
  go_wp2_with fail
  refine (C3 _).mono ?_
  clear ca cb cc cf
  rintro e w3 ⟨rfl, B3⟩
  obtain ⟨BW, hA, hB, hC, hO⟩ := H2.out
  have BW' := belowStep BW BW.size B3
  have A' := hA.below B3
  have D' := hB.below B3
  have Q' := hC.below B3
  have O' := hO.below B3
  have H3 : Hid (_ ∧ _ ∧ _ ∧ _ ∧ _) := ⟨BW', A', D', Q', O'⟩
  clear BW hA hB hC hO H2 BW' A' D' Q' O' B3
  have ⟨_, ca, cb, cc, cf⟩ := H3.out.2.2.2.1
  have ⟨_, aa, ab, ac, af⟩ := H3.out.2.1
  have ⟨_, ba, bb, bc, bf⟩ := H3.out.2.2.1
  go_wp2_with fail
  refine (CL _).mono ?_
  clear aa ab ac af ba bb bc bf ca cb cc cf
  rintro e w9 ⟨rfl, B9⟩
  obtain ⟨BW, hA, hB, hC, hO⟩ := H3.out
  have BW' := belowStep BW BW.size B9
  have A' := hA.below B9
  have D' := hB.below B9
  have Q' := hC.below B9
  have O' := hO.below B9
  have H9 : Hid (_ ∧ _ ∧ _ ∧ _ ∧ _) := ⟨BW', A', D', Q', O'⟩
  clear BW hA hB hC hO H3 BW' A' D' Q' O' B9
  obtain ⟨z, a, b, f⟩ := H9.out.2.2.2.2
  go_wp2_with fail
  obtain ⟨BW, _⟩ := H9.out
  refine bodyPost_ret (v := okP x) (by simp [results, Tryd.results10, go_sem, *]) rfl ⟨rfl, ?_⟩
  exact below_sP (y := x) BW (by omega)

theorem rLine_any (s t q : Pt) (us : UT s) (ut : UT t) (uq : UT q) (w : World) :
    Calls Tryd.prog 10 #[vT s, vT t, vT q] w fun e w' => e = .returned (lnV s t q) ∧ Below w.heap.size w w' := by
  unfold lnV lnO
  cases hs : onN s
  · rw [if_neg (by simp)]; exact rLine1 s t q us ut uq hs w
  cases ht : onN t
  · rw [if_neg (by simp)]; exact rLine2 s t q us ut uq hs ht w
  cases hq : onN q
  · rw [if_neg (by simp)]; exact rLine3 s t q us ut uq hs ht hq w
  by_cases hi : q = iN
  · rw [if_neg (by rw [decide_eq_true hi]; simp)]; exact rLine4 s t q us ut uq hs ht hq (by rw [hi]; rfl) w
  · rw [if_pos (by rw [decide_eq_false hi]; simp)]; exact rLine5 s t q us ut uq hs ht hq (wl_i (wl_on hq) hi) w
end Go.Proofs.YteknhghmliihhaaDoor
