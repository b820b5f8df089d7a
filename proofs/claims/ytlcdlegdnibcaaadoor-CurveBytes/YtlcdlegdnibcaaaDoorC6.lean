/- What the reference's Times, InGroup, Add, Neg do. No condition. -/
import Derived.Test.YtlcdlegdnibcaaaDoorC5
namespace Go.Proofs.YtlcdlegdnibcaaaDoor
open Go.RowKit Go.Shelf Go.Sort

set_option maxRecDepth 20000 in
set_option maxHeartbeats 4000000 in
theorem rneg_any (p : Pt) (hp : UT p) (w : World) :
    Calls Tryd.prog 13 #[vT p] w fun e w' => e = .returned (negV p) ∧ Below w.heap.size w w' := by
  have CO := ron_any p hp
  have CN : onN p = true → _ := fun h => minus_any p (wl_on h)
  unfold negV
  obtain ⟨g, hg⟩ : ∃ g, ngN p = g := ⟨_, rfl⟩
  rw [hg] at CN ⊢
  cases ho : onN p
  · rw [ho] at CO
    rw [if_neg (by simp)]
    go_enter Tryd.func13, Tryd.ntmps13
    go_wp2_with fail
    refine callsOf (fun V => Below w.heap.size w V ∧ Tb w.heap.size p V ∧ Tb (w.heap.size + 1) oP V) ⟨by go_grown, (Tb.new' w p 24 _ rfl).alloc _, Tb.new' _ oP 24 _ (by simp)⟩ ?_
    rintro V ⟨BV, hA, hO⟩
    refine (CO _).mono ?_
    rintro e w2 ⟨rfl, B2⟩
    obtain ⟨z, a, b, c, f⟩ := hO.below B2
    have BW := belowStep BV BV.size B2
    clear hO hA B2 BV
    go_wp2_with fail
    refine bodyPost_ret (v := errT) (by simp [oP, results, Tryd.results13, go_sem, *]) rfl ⟨rfl, ?_⟩
    exact below_put3 (y := oP) BW (by omega)
  · rw [ho] at CO
    rw [if_pos rfl]
    have CN := CN ho
    go_enter Tryd.func13, Tryd.ntmps13
    go_wp2_with fail
    refine callsOf (fun V => Below w.heap.size w V ∧ Tb w.heap.size p V ∧ Tb (w.heap.size + 1) oP V) ⟨by go_grown, (Tb.new' w p 24 _ rfl).alloc _, Tb.new' _ oP 24 _ (by simp)⟩ ?_
    rintro V ⟨BV, hA, hO⟩
    refine (CO _).mono ?_
    rintro e w2 ⟨rfl, B2⟩
    have A2 := hA.below B2
    have O2 := hO.below B2
    have BW := belowStep BV BV.size B2
    clear hO hA B2 BV
    have ⟨az, aa, ab, ac, af⟩ := A2
    go_wp2_with fail
    refine (CN _).mono ?_
    rintro e w3 ⟨rfl, B3⟩
    obtain ⟨z, a, b, c, f⟩ := O2.below B3
    have BW3 := belowStep BW BW.size B3
    clear O2 A2 az aa ab ac af BW B3
    go_wp2_with fail
    refine bodyPost_ret (v := okT g) (by simp [results, Tryd.results13, go_sem, *]) rfl ⟨rfl, ?_⟩
    exact below_put3 (y := g) BW3 (by omega)

set_option maxRecDepth 20000 in
set_option maxHeartbeats 4000000 in
theorem rtimes_any (n : Nat) (hn : U64 n) (p : Pt) (hp : UT p) (w : World) :
    Calls Tryd.prog 19 #[.int .u64 n, vT p] w fun e w' => e = .returned (timV n p) ∧ Below w.heap.size w w' := by
  have CO := ron_any p hp
  have CN : onN p = true → _ := fun h => many_any n hn p (wl_on h)
  unfold timV
  obtain ⟨g, hg⟩ : ∃ g, tmN p n = g := ⟨_, rfl⟩
  rw [hg] at CN ⊢
  cases ho : onN p
  · rw [ho] at CO
    rw [if_neg (by simp)]
    go_enter Tryd.func19, Tryd.ntmps19
    go_wp2_with fail
    refine callsOf (fun V => Below w.heap.size w V ∧ Tb w.heap.size p V ∧ Tb (w.heap.size + 1) oP V) ⟨by go_grown, (Tb.new' w p 24 _ rfl).alloc _, Tb.new' _ oP 24 _ (by simp)⟩ ?_
    rintro V ⟨BV, hA, hO⟩
    refine (CO _).mono ?_
    rintro e w2 ⟨rfl, B2⟩
    obtain ⟨z, a, b, c, f⟩ := hO.below B2
    have BW := belowStep BV BV.size B2
    clear hO hA B2 BV
    go_wp2_with fail
    refine bodyPost_ret (v := errT) (by simp [oP, results, Tryd.results19, go_sem, *]) rfl ⟨rfl, ?_⟩
    exact below_put3 (y := oP) BW (by omega)
  · rw [ho] at CO
    rw [if_pos rfl]
    have CN := CN ho
    go_enter Tryd.func19, Tryd.ntmps19
    go_wp2_with fail
    refine callsOf (fun V => Below w.heap.size w V ∧ Tb w.heap.size p V ∧ Tb (w.heap.size + 1) oP V) ⟨by go_grown, (Tb.new' w p 24 _ rfl).alloc _, Tb.new' _ oP 24 _ (by simp)⟩ ?_
    rintro V ⟨BV, hA, hO⟩
    refine (CO _).mono ?_
    rintro e w2 ⟨rfl, B2⟩
    have A2 := hA.below B2
    have O2 := hO.below B2
    have BW := belowStep BV BV.size B2
    clear hO hA B2 BV
    have ⟨az, aa, ab, ac, af⟩ := A2
    go_wp2_with fail
    refine (CN _).mono ?_
    rintro e w3 ⟨rfl, B3⟩
    obtain ⟨z, a, b, c, f⟩ := O2.below B3
    have BW3 := belowStep BW BW.size B3
    clear O2 A2 az aa ab ac af BW B3
    go_wp2_with fail
    refine bodyPost_ret (v := okT g) (by simp [results, Tryd.results19, go_sem, *]) rfl ⟨rfl, ?_⟩
    exact below_put3 (y := g) BW3 (by omega)

set_option maxRecDepth 20000 in
set_option maxHeartbeats 4000000 in
theorem radd_all (p q : Pt) (hp : UT p) (hq : UT q) (w : World) :
    Calls Tryd.prog 11 #[vT p, vT q] w fun e w' => e = .returned (addV p q) ∧ Below w.heap.size w w' := by
  have CO := ron_any p hp
  have CO2 := ron_any q hq
  have CS : onN p = true → onN q = true → _ := fun h1 h2 => plus_any p q (wl_on h1) (wl_on h2)
  unfold addV
  obtain ⟨g, hg⟩ : ∃ g, smN p q = g := ⟨_, rfl⟩
  rw [hg] at CS ⊢
  by_cases hb : (onN p && onN q) = true
  · rw [if_pos hb]
    have hb2 : onN p = true ∧ onN q = true := by simpa using hb
    have C5 := CS hb2.1 hb2.2
    rw [hb2.1] at CO
    rw [hb2.2] at CO2
    clear CS hb hb2
    go_enter Tryd.func11, Tryd.ntmps11
    go_wp2_with fail
    refine callsOf (fun V => Below w.heap.size w V ∧ Tb w.heap.size p V ∧ Tb (w.heap.size + 1) q V ∧ Tb (w.heap.size + 1 + 1) oP V) ⟨by go_grown, ((Tb.new' w p 24 _ rfl).alloc _).alloc _, (Tb.new' _ q 24 _ (by simp)).alloc _, Tb.new' _ oP 24 _ (by simp)⟩ ?_
    rintro V ⟨BV, hA, hQ, hO⟩
    refine (CO _).mono ?_
    rintro e w2 ⟨rfl, B2⟩
    have A2 := hA.below B2
    have Q2 := hQ.below B2
    have O2 := hO.below B2
    have BW := belowStep BV BV.size B2
    clear hO hA hQ B2 BV
    have ⟨az, aa, ab, ac, af⟩ := Q2
    go_wp2_with fail
    refine (CO2 _).mono ?_
    rintro e w3 ⟨rfl, B3⟩
    have A3 := A2.below B3
    have Q3 := Q2.below B3
    have O3 := O2.below B3
    have BW3 := belowStep BW BW.size B3
    clear az aa ab ac af A2 Q2 O2 BW B3
    have ⟨az, aa, ab, ac, af⟩ := A3
    have ⟨bz, ba, bb, bc, bf⟩ := Q3
    clear CO CO2
    go_wp2_with fail
    refine (C5 _).mono ?_
    rintro e w5 ⟨rfl, B5⟩
    obtain ⟨z, a, b, c, f⟩ := O3.below B5
    have BW5 := belowStep BW3 BW3.size B5
    clear az aa ab ac af bz ba bb bc bf A3 Q3 O3 BW3 B5
    go_wp2_with fail
    refine bodyPost_ret (v := okT g) (by simp [results, Tryd.results11, go_sem, *]) rfl ⟨rfl, ?_⟩
    exact below_put3 (y := g) BW5 (by omega)
  · rw [if_neg hb]
    obtain ⟨x, hx⟩ : ∃ x, onN p = x := ⟨_, rfl⟩
    obtain ⟨y, hy⟩ : ∃ y, onN q = y := ⟨_, rfl⟩
    rw [hx] at CO hb
    rw [hy] at CO2 hb
    clear CS hx hy
    go_enter Tryd.func11, Tryd.ntmps11
    go_wp2_with fail
    refine callsOf (fun V => Below w.heap.size w V ∧ Tb w.heap.size p V ∧ Tb (w.heap.size + 1) q V ∧ Tb (w.heap.size + 1 + 1) oP V) ⟨by go_grown, ((Tb.new' w p 24 _ rfl).alloc _).alloc _, (Tb.new' _ q 24 _ (by simp)).alloc _, Tb.new' _ oP 24 _ (by simp)⟩ ?_
    rintro V ⟨BV, hA, hQ, hO⟩
    refine (CO _).mono ?_
    rintro e w2 ⟨rfl, B2⟩
    have Q2 := hQ.below B2
    have O2 := hO.below B2
    have BW := belowStep BV BV.size B2
    clear hO hA hQ B2 BV
    have ⟨az, aa, ab, ac, af⟩ := Q2
    go_wp2_with fail
    refine (CO2 _).mono ?_
    rintro e w3 ⟨rfl, B3⟩
    obtain ⟨z, a, b, c, f⟩ := O2.below B3
    have BW3 := belowStep BW BW.size B3
    clear az aa ab ac af Q2 O2 BW B3
    cases x with
    | false =>
      go_wp2_with fail
      refine bodyPost_ret (v := errT) (by simp [oP, results, Tryd.results11, go_sem, *]) rfl ⟨rfl, ?_⟩
      exact below_put3 (y := oP) BW3 (by omega)
    | true =>
      cases y with
      | false =>
        go_wp2_with fail
        refine bodyPost_ret (v := errT) (by simp [oP, results, Tryd.results11, go_sem, *]) rfl ⟨rfl, ?_⟩
        exact below_put3 (y := oP) BW3 (by omega)
      | true => exact absurd rfl hb

theorem fieldI (p : Pt) (W : World) : (Instr.field 24 (vT p) 2).run Tryd.prog W = .ok (.bool p.I) W := by
  simp only [vT]
  simp [Instr.field, asAgg, go_sem]

set_option maxRecDepth 20000 in
set_option maxHeartbeats 4000000 in
theorem ringroup_any (p : Pt) (hp : UT p) (w : World) :
    Calls Tryd.prog 17 #[vT p] w fun e w' => e = .returned (.bool (grN p)) ∧ Below w.heap.size w w' := by
  have uo : U64 536870717 := by unfold U64; omega
  have eG : grN p = (onN p && decide (tmN p 536870717 = iN)) := rfl
  rw [eG]
  have CO := ron_any p hp
  cases ho : onN p
  · rw [ho] at CO
    go_enter Tryd.func17, Tryd.ntmps17
    go_wp2_with fail
    refine callsOf (fun V => Below w.heap.size w V ∧ Tb w.heap.size p V) ⟨by go_grown, Tb.new' w p 24 _ rfl⟩ ?_
    rintro V ⟨BV, hA⟩
    refine (CO _).mono ?_
    rintro e w2 ⟨rfl, B2⟩
    have BW := belowStep BV BV.size B2
    clear hA B2 BV
    go_wp2_with fail
    go_ret
    exact ⟨by simp, BW⟩
  · rw [ho] at CO
    have wm := wl_tm p (wl_on ho) 536870717
    have CM := many_any 536870717 uo p (wl_on ho)
    have eI : decide (tmN p 536870717 = iN) = (tmN p 536870717).I := by
      by_cases e : tmN p 536870717 = iN
      · rw [decide_eq_true e, e]; rfl
      · rw [decide_eq_false e, wl_i wm e]
    rw [eI]
    obtain ⟨m, hm⟩ : ∃ m, tmN p 536870717 = m := ⟨_, rfl⟩
    rw [hm] at CM ⊢
    clear hm eI wm
    go_enter Tryd.func17, Tryd.ntmps17
    go_wp2_with fail
    refine callsOf (fun V => Below w.heap.size w V ∧ Tb w.heap.size p V) ⟨by go_grown, Tb.new' w p 24 _ rfl⟩ ?_
    rintro V ⟨BV, hA⟩
    refine (CO _).mono ?_
    rintro e w2 ⟨rfl, B2⟩
    have A2 := hA.below B2
    have BW := belowStep BV BV.size B2
    clear hA B2 BV
    have ⟨az, aa, ab, ac, af⟩ := A2
    go_wp2_with fail
    refine (CM _).mono ?_
    rintro e w3 ⟨rfl, B3⟩
    have BW3 := belowStep BW BW.size B3
    clear az aa ab ac af A2 BW B3
    have hF := fieldI m
    go_wp2_with fail
    go_ret
    exact ⟨by simp, BW3⟩
end Go.Proofs.YtlcdlegdnibcaaaDoor
