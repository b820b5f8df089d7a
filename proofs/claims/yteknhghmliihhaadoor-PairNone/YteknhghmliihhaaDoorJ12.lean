/- What the reference's Pair, Same do. No condition. -/
import Derived.Test.YteknhghmliihhaaDoorJ11
namespace Go.Proofs.YteknhghmliihhaaDoor
open Go.RowKit Go.Shelf Go.Sort

set_option maxRecDepth 20000 in
set_option maxHeartbeats 4000000 in
theorem rpaired1 (p q : Pt) (h1 : p.I = true) (w : World) :
    Calls Tryd.prog 25 #[vT p, vT q] w fun e w' => e = .returned (vP o2) ∧ Below w.heap.size w w' := by
  obtain ⟨pX, pY, pI⟩ := p
  simp only [vT] at h1 ⊢
  subst h1
  go_enter Tryd.func25, Tryd.ntmps25
  go_wp2_with fail
  refine callsOf (fun V => Below w.heap.size w V ∧ Pb (w.heap.size + 1 + 1) z2 V) ⟨by go_grown, Pb.new' _ z2 27 _ (by simp)⟩ ?_
  rintro V ⟨BV, hR⟩
  refine (rone_any _).mono ?_
  rintro e w1 ⟨rfl, B1⟩
  have BW := belowStep BV BV.size B1
  obtain ⟨_, r0, r1, rf⟩ := hR.below B1
  clear BV B1 hR V
  go_wp2_with fail
  refine bodyPost_ret (v := vP o2) (by simp [results, Tryd.results25, go_sem, o2, *]) rfl ⟨rfl, ?_⟩
  exact below_sP BW (by omega) o2

set_option maxRecDepth 20000 in
set_option maxHeartbeats 4000000 in
theorem rpaired2 (p q : Pt) (h1 : p.I = false) (h2 : q.I = true) (w : World) :
    Calls Tryd.prog 25 #[vT p, vT q] w fun e w' => e = .returned (vP o2) ∧ Below w.heap.size w w' := by
  obtain ⟨pX, pY, pI⟩ := p
  obtain ⟨qX, qY, qI⟩ := q
  simp only [vT] at h1 h2 ⊢
  subst h1 h2
  go_enter Tryd.func25, Tryd.ntmps25
  go_wp2_with fail
  refine callsOf (fun V => Below w.heap.size w V ∧ Pb (w.heap.size + 1 + 1) z2 V) ⟨by go_grown, Pb.new' _ z2 27 _ (by simp)⟩ ?_
  rintro V ⟨BV, hR⟩
  refine (rone_any _).mono ?_
  rintro e w1 ⟨rfl, B1⟩
  have BW := belowStep BV BV.size B1
  obtain ⟨_, r0, r1, rf⟩ := hR.below B1
  clear BV B1 hR V
  go_wp2_with fail
  refine bodyPost_ret (v := vP o2) (by simp [results, Tryd.results25, go_sem, o2, *]) rfl ⟨rfl, ?_⟩
  exact below_sP BW (by omega) o2

theorem rpaired_any (p q : Pt) (hp : onN p = true) (hq : onN q = true) (w : World) :
    Calls Tryd.prog 25 #[vT p, vT q] w fun e w' => e = .returned (vP (prN p q)) ∧ Below w.heap.size w w' := by
  unfold prN
  by_cases h1 : p = iN
  · rw [if_pos (.inl h1)]; exact rpaired1 p q (by rw [h1]; rfl) w
  by_cases h2 : q = iN
  · rw [if_pos (.inr h2)]; exact rpaired2 p q (wl_i (wl_on hp) h1) (by rw [h2]; rfl) w
  rw [if_neg (by rintro (h | h); exact h1 h; exact h2 h)]
  exact rpaired_go p q hp (wl_u (wl_on hq)) (wl_i (wl_on hp) h1) (wl_i (wl_on hq) h2) w

set_option maxRecDepth 20000 in
set_option maxHeartbeats 4000000 in
theorem rPair_bad (p q : Pt) (up : UT p) (uq : UT q) (h : (grN p && grN q) = false) (w : World) :
    Calls Tryd.prog 12 #[vT p, vT q] w fun e w' => e = .returned erP ∧ Below w.heap.size w w' := by
  have C1 := ringroup_any p up
  have C2 := ringroup_any q uq
  obtain ⟨a, ha⟩ : ∃ a, grN p = a := ⟨_, rfl⟩
  obtain ⟨b, hb⟩ : ∃ a, grN q = a := ⟨_, rfl⟩
  rw [ha] at C1 h
  rw [hb] at C2 h
  clear ha hb up uq
  go_enter Tryd.func12, Tryd.ntmps12
  go_wp2_with fail
  refine callsOf (fun V => Below w.heap.size w V ∧ Tb (w.heap.size + 1) q V ∧ Pb (w.heap.size + 1 + 1) z2 V) ⟨by go_grown, (Tb.new' _ q 24 _ (by simp)).alloc _, Pb.new' _ z2 27 _ (by simp)⟩ ?_
  rintro V ⟨BV, hQ, hR⟩
  refine (C1 _).mono ?_
  rintro e w1 ⟨rfl, B1⟩
  have BW := belowStep BV BV.size B1
  have ⟨_, qa, qb, qc, qf⟩ := hQ.below B1
  have R1' := hR.below B1
  clear BV B1 hR hQ V
  go_wp2_with fail
  refine (C2 _).mono ?_
  rintro e w2 ⟨rfl, B2⟩
  have BW2 := belowStep BW BW.size B2
  obtain ⟨_, r0, r1, rf⟩ := R1'.below B2
  clear BW B2 R1' qa qb qc qf C1 C2
  have fin : ∀ v : Value, v = erP → True := fun _ _ => trivial
  cases a with
  | false =>
    clear h fin
    go_wp2_with fail
    refine bodyPost_ret (v := erP) (by simp [results, Tryd.results12, go_sem, z2, *]) rfl ⟨rfl, ?_⟩
    exact below_sP BW2 (by omega) z2
  | true =>
    rw [Bool.true_and] at h
    subst h
    clear fin
    go_wp2_with fail
    refine bodyPost_ret (v := erP) (by simp [results, Tryd.results12, go_sem, z2, *]) rfl ⟨rfl, ?_⟩
    exact below_sP BW2 (by omega) z2

set_option maxRecDepth 20000 in
set_option maxHeartbeats 4000000 in
theorem rPair_ok (p q : Pt) (up : UT p) (uq : UT q) (h : (grN p && grN q) = true) (w : World) :
    Calls Tryd.prog 12 #[vT p, vT q] w fun e w' => e = .returned (okP (prN p q)) ∧ Below w.heap.size w w' := by
  have C1 := ringroup_any p up
  have C2 := ringroup_any q uq
  rw [Bool.and_eq_true] at h
  have C3 := rpaired_any p q (gr_on h.1) (gr_on h.2)
  rw [h.1] at C1
  rw [h.2] at C2
  obtain ⟨x, hx⟩ : ∃ x, prN p q = x := ⟨_, rfl⟩
  rw [hx] at C3 ⊢
  clear hx h up uq
  go_enter Tryd.func12, Tryd.ntmps12
  go_wp2_with fail
  refine callsOf (fun V => Below w.heap.size w V ∧ Tb w.heap.size p V ∧ Tb (w.heap.size + 1) q V ∧ Pb (w.heap.size + 1 + 1) z2 V) ⟨by go_grown, ((Tb.new' w p 24 _ rfl).alloc _).alloc _, (Tb.new' _ q 24 _ (by simp)).alloc _, Pb.new' _ z2 27 _ (by simp)⟩ ?_
  rintro V ⟨BV, hA, hQ, hR⟩
  refine (C1 _).mono ?_
  rintro e w1 ⟨rfl, B1⟩
  have BW := belowStep BV BV.size B1
  have A1 := hA.below B1
  have Q1 := hQ.below B1
  have ⟨_, qa, qb, qc, qf⟩ := Q1
  have R1' := hR.below B1
  clear BV B1 hR hQ hA V
  go_wp2_with fail
  refine (C2 _).mono ?_
  rintro e w2 ⟨rfl, B2⟩
  have BW2 := belowStep BW BW.size B2
  have R2' := R1'.below B2
  have A2 := A1.below B2
  have Q2 := Q1.below B2
  clear qa qb qc qf
  have ⟨_, qa, qb, qc, qf⟩ := Q2
  have ⟨_, aa, ab, ac, af⟩ := A2
  clear BW B2 R1' C1 C2 A1 Q1
  go_wp2_with fail
  refine (C3 _).mono ?_
  rintro e w3 ⟨rfl, B3⟩
  have BW3 := belowStep BW2 BW2.size B3
  obtain ⟨_, r0, r1, rf⟩ := R2'.below B3
  clear BW2 R2' A2 Q2 qa qb qc qf aa ab ac af B3
  go_wp2_with fail
  refine bodyPost_ret (v := okP x) (by simp [results, Tryd.results12, go_sem, *]) rfl ⟨rfl, ?_⟩
  exact below_sP BW3 (by omega) x

theorem rPair_any (p q : Pt) (up : UT p) (uq : UT q) (w : World) :
    Calls Tryd.prog 12 #[vT p, vT q] w fun e w' => e = .returned (prV p q) ∧ Below w.heap.size w w' := by
  unfold prV
  cases h : grN p && grN q
  · rw [if_neg (by simp)]; exact rPair_bad p q up uq h w
  · rw [if_pos rfl]; exact rPair_ok p q up uq h w
end Go.Proofs.YteknhghmliihhaaDoor
