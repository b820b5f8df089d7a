/- What the program's Times, InGroup, Add, Neg do. No condition. -/
import Derived.Test.YteknhghmliihhaaDoorC2
namespace Go.Proofs.YteknhghmliihhaaDoor
open Go.RowKit Go.Shelf Go.Sort

abbrev errT : Value := .tuple #[vT oP, .int .i64 100]
abbrev okT (p : Pt) : Value := .tuple #[vT p, .int .i64 0]
def addV (p q : Pt) : Value := if (onN p && onN q) = true then okT (smN p q) else errT
def negV (p : Pt) : Value := if onN p = true then okT (ngN p) else errT
def timV (n : Nat) (p : Pt) : Value := if onN p = true then okT (tmN p n) else errT

theorem callsOf {P : Program} {f : Nat} {args : Array Value} {Q : Ending → World → Prop} {W : World} (S : World → Prop) (hS : S W) (h : ∀ W', S W' → Calls P f args W' Q) : Calls P f args W Q := h W hS

set_option maxRecDepth 20000 in
set_option maxHeartbeats 4000000 in
theorem times_bad (n : Nat) (p : Pt) (hp : UT p) (w : World) (hL : Li w) (ho : onN p = false) :
    Calls Tryd.prog 42 #[.int .u64 n, vT p] w fun e w' => e = .returned errT ∧ Below w.heap.size w w' := by
  have CO := on_any p hp
  rw [ho] at CO
  go_enter Tryd.func42, Tryd.ntmps42
  go_wp2_with fail
  refine wp_scope_straight ?_
  refine wpOf (fun V => Below w.heap.size w V ∧ Tb w.heap.size p V ∧ Tb (w.heap.size + 1) oP V) ⟨by go_grown, (Tb.new' w p 24 _ rfl).alloc _, Tb.new' _ oP 24 _ (by simp)⟩ ?_
  rintro V ⟨BV, hA, hO⟩
  have hLV := hL.below BV
  have ⟨az, aa, ab, ac, af⟩ := hA
  go_wp2_with fail
  refine (CO _ hLV).mono ?_
  rintro e w2 ⟨rfl, B2⟩
  obtain ⟨z, a, b, c, f⟩ := hO.below B2
  have BW := belowStep BV BV.size B2
  clear hO hA B2 BV az aa ab ac af
  go_wp2_with fail
  rw [Exit.noGoto_ret]
  refine bodyPost_ret (v := errT) (by simp [oP, results, Tryd.results42, go_sem, *]) rfl ⟨rfl, ?_⟩
  exact below_put3 (y := oP) BW (by omega)

theorem times_all (n : Nat) (hn : U64 n) (p : Pt) (hp : UT p) (w : World) (hL : Li w) :
    Calls Tryd.prog 42 #[.int .u64 n, vT p] w fun e w' => e = .returned (timV n p) ∧ Below w.heap.size w w' := by
  unfold timV
  cases ho : onN p
  · exact times_bad n p hp w hL ho
  · exact times_any n hn p hp w hL ho

set_option maxRecDepth 20000 in
set_option maxHeartbeats 4000000 in
theorem ingroup_any (p : Pt) (hp : UT p) (w : World) (hL : Li w) :
    Calls Tryd.prog 21 #[vT p] w fun e w' => e = .returned (.bool (grN p)) ∧ Below w.heap.size w w' := by
  have uo : U64 536870717 := by unfold U64; omega
  have eG : grN p = (onN p && decide (tmN p 536870717 = iN)) := rfl
  rw [eG]
  have AL : Below w.heap.size w (w.alloc (.cells #[.int .u64 (p.X : Int), .int .u64 (p.Y : Int), .bool p.I] 24)) := (Below.refl _ _).alloc (Nat.le_refl _) _
  have hLA := hL.below AL
  cases ho : onN p
  · have CT := times_bad 536870717 p hp _ hLA ho
    go_enter Tryd.func21, Tryd.ntmps21
    go_wp2_with fail
    refine CT.mono ?_
    rintro e w2 ⟨rfl, B2⟩
    have BW := belowStep AL (by simp) B2
    go_wp2_with fail
    go_ret
    exact ⟨by simp, BW.alloc BW.size _⟩
  · have CT := times_any 536870717 uo p hp _ hLA ho
    have hE := eqlI (tmN p 536870717)
    obtain ⟨m, hm⟩ : ∃ m, tmN p 536870717 = m := ⟨_, rfl⟩
    rw [hm] at CT hE ⊢
    obtain ⟨b, hb⟩ : ∃ b, decide (m = iN) = b := ⟨_, rfl⟩
    rw [hb] at hE ⊢
    clear hm hb eG
    obtain ⟨mX, mY, mI⟩ := m
    simp only [vT] at hE CT ⊢
    go_enter Tryd.func21, Tryd.ntmps21
    go_wp2_with fail
    refine CT.mono ?_
    rintro e w2 ⟨rfl, B2⟩
    have BW := belowStep AL (by simp) B2
    have hL2 := hLA.below B2
    have lq := (hL2).ne
    obtain ⟨lz, la, lb, lc, lo⟩ := hL2
    have HB : Hid _ := BW
    clear BW B2 AL hLA CT
    go_wp2_with fail
    go_ret
    exact ⟨by simp, (HB.out).alloc (HB.out).size _⟩

set_option maxRecDepth 20000 in
set_option maxHeartbeats 4000000 in
theorem neg_any (p : Pt) (hp : UT p) (w : World) (hL : Li w) :
    Calls Tryd.prog 15 #[vT p] w fun e w' => e = .returned (negV p) ∧ Below w.heap.size w w' := by
  have CO := on_any p hp
  have CN := negative_any p hp
  unfold negV
  obtain ⟨g, hg⟩ : ∃ g, ngN p = g := ⟨_, rfl⟩
  rw [hg] at CN ⊢
  cases ho : onN p
  · rw [ho] at CO
    rw [if_neg (by simp)]
    go_enter Tryd.func15, Tryd.ntmps15
    go_wp2_with fail
    refine callsOf (fun V => Below w.heap.size w V ∧ Tb w.heap.size p V ∧ Tb (w.heap.size + 1) oP V) ⟨by go_grown, (Tb.new' w p 24 _ rfl).alloc _, Tb.new' _ oP 24 _ (by simp)⟩ ?_
    rintro V ⟨BV, hA, hO⟩
    refine (CO _ (hL.below BV)).mono ?_
    rintro e w2 ⟨rfl, B2⟩
    obtain ⟨z, a, b, c, f⟩ := hO.below B2
    have BW := belowStep BV BV.size B2
    clear hO hA B2 BV
    go_wp2_with fail
    refine bodyPost_ret (v := errT) (by simp [oP, results, Tryd.results15, go_sem, *]) rfl ⟨rfl, ?_⟩
    exact below_put3 (y := oP) BW (by omega)
  · rw [ho] at CO
    rw [if_pos rfl]
    go_enter Tryd.func15, Tryd.ntmps15
    go_wp2_with fail
    refine callsOf (fun V => Below w.heap.size w V ∧ Tb w.heap.size p V ∧ Tb (w.heap.size + 1) oP V) ⟨by go_grown, (Tb.new' w p 24 _ rfl).alloc _, Tb.new' _ oP 24 _ (by simp)⟩ ?_
    rintro V ⟨BV, hA, hO⟩
    refine (CO _ (hL.below BV)).mono ?_
    rintro e w2 ⟨rfl, B2⟩
    have A2 := hA.below B2
    have O2 := hO.below B2
    have BW := belowStep BV BV.size B2
    clear hO hA B2 BV
    have ⟨az, aa, ab, ac, af⟩ := A2
    go_wp2_with fail
    refine (CN _).mono ?_
    rintro e w3 ⟨rfl, B3⟩
    obtain ⟨z, a, b, c, f⟩ := O2.below B3
    have BW3 := belowStep BW BW.size B3
    clear O2 A2 az aa ab ac af BW B3
    go_wp2_with fail
    refine bodyPost_ret (v := okT g) (by simp [results, Tryd.results15, go_sem, *]) rfl ⟨rfl, ?_⟩
    exact below_put3 (y := g) BW3 (by omega)

set_option maxRecDepth 20000 in
set_option maxHeartbeats 4000000 in
theorem add_all (p q : Pt) (hp : UT p) (hq : UT q) (w : World) (hL : Li w) :
    Calls Tryd.prog 58 #[vT p, vT q] w fun e w' => e = .returned (addV p q) ∧ Below w.heap.size w w' := by
  have CO := on_any p hp
  have CO2 := on_any q hq
  have CS : onN p = true → onN q = true → _ := fun h1 h2 => sum_any p q (wl_on h1) (wl_on h2)
  unfold addV
  obtain ⟨g, hg⟩ : ∃ g, smN p q = g := ⟨_, rfl⟩
  rw [hg] at CS ⊢
  cases ho : onN p
  · rw [ho] at CO
    rw [if_neg (by simp)]
    go_enter Tryd.func58, Tryd.ntmps58
    go_wp2_with fail
    refine callsOf (fun V => Below w.heap.size w V ∧ Tb w.heap.size p V ∧ Tb (w.heap.size + 1) q V ∧ Tb (w.heap.size + 1 + 1) oP V) ⟨by go_grown, ((Tb.new' w p 24 _ rfl).alloc _).alloc _, (Tb.new' _ q 24 _ (by simp)).alloc _, Tb.new' _ oP 24 _ (by simp)⟩ ?_
    rintro V ⟨BV, hA, hQ, hO⟩
    refine (CO _ (hL.below BV)).mono ?_
    rintro e w2 ⟨rfl, B2⟩
    obtain ⟨z, a, b, c, f⟩ := hO.below B2
    have BW := belowStep BV BV.size B2
    clear hO hA hQ B2 BV
    go_wp2_with fail
    refine bodyPost_ret (v := errT) (by simp [oP, results, Tryd.results58, go_sem, *]) rfl ⟨rfl, ?_⟩
    exact below_put3 (y := oP) BW (by omega)
  · rw [ho] at CO
    cases hq2 : onN q
    · rw [hq2] at CO2
      rw [if_neg (by simp)]
      go_enter Tryd.func58, Tryd.ntmps58
      go_wp2_with fail
      refine callsOf (fun V => Below w.heap.size w V ∧ Tb w.heap.size p V ∧ Tb (w.heap.size + 1) q V ∧ Tb (w.heap.size + 1 + 1) oP V) ⟨by go_grown, ((Tb.new' w p 24 _ rfl).alloc _).alloc _, (Tb.new' _ q 24 _ (by simp)).alloc _, Tb.new' _ oP 24 _ (by simp)⟩ ?_
      rintro V ⟨BV, hA, hQ, hO⟩
      have hLV := hL.below BV
      refine (CO _ hLV).mono ?_
      rintro e w2 ⟨rfl, B2⟩
      have A2 := hA.below B2
      have Q2 := hQ.below B2
      have O2 := hO.below B2
      have LW2 := hLV.below B2
      have BW := belowStep BV BV.size B2
      clear hO hA hQ B2 BV hLV hL
      have ⟨az, aa, ab, ac, af⟩ := Q2
      go_wp2_with fail
      refine (CO2 _ LW2).mono ?_
      rintro e w3 ⟨rfl, B3⟩
      have A3 := A2.below B3
      have Q3 := Q2.below B3
      have O3 := O2.below B3
      have LW3 := LW2.below B3
      have BW3 := belowStep BW BW.size B3
      clear az aa ab ac af A2 Q2 O2 LW2 BW B3
      obtain ⟨z, a, b, c, f⟩ := O3
      go_wp2_with fail
      refine bodyPost_ret (v := errT) (by simp [oP, results, Tryd.results58, go_sem, *]) rfl ⟨rfl, ?_⟩
      exact below_put3 (y := oP) BW3 (by omega)
    · rw [hq2] at CO2
      rw [if_pos (by simp)]
      have C5 := CS ho hq2
      clear CS
      go_enter Tryd.func58, Tryd.ntmps58
      go_wp2_with fail
      refine callsOf (fun V => Below w.heap.size w V ∧ Tb w.heap.size p V ∧ Tb (w.heap.size + 1) q V ∧ Tb (w.heap.size + 1 + 1) oP V) ⟨by go_grown, ((Tb.new' w p 24 _ rfl).alloc _).alloc _, (Tb.new' _ q 24 _ (by simp)).alloc _, Tb.new' _ oP 24 _ (by simp)⟩ ?_
      rintro V ⟨BV, hA, hQ, hO⟩
      have hLV := hL.below BV
      refine (CO _ hLV).mono ?_
      rintro e w2 ⟨rfl, B2⟩
      have A2 := hA.below B2
      have Q2 := hQ.below B2
      have O2 := hO.below B2
      have LW2 := hLV.below B2
      have BW := belowStep BV BV.size B2
      clear hO hA hQ B2 BV hLV hL
      have ⟨az, aa, ab, ac, af⟩ := Q2
      go_wp2_with fail
      refine (CO2 _ LW2).mono ?_
      rintro e w3 ⟨rfl, B3⟩
      have A3 := A2.below B3
      have Q3 := Q2.below B3
      have O3 := O2.below B3
      have LW3 := LW2.below B3
      have BW3 := belowStep BW BW.size B3
      clear az aa ab ac af A2 Q2 O2 LW2 BW B3
      have ⟨az, aa, ab, ac, af⟩ := A3
      have ⟨bz, ba, bb, bc, bf⟩ := Q3
      clear CO CO2
      go_wp2_with fail
      refine (C5 _ LW3).mono ?_
      rintro e w5 ⟨rfl, B5⟩
      obtain ⟨z, a, b, c, f⟩ := O3.below B5
      have BW5 := belowStep BW3 BW3.size B5
      clear az aa ab ac af bz ba bb bc bf A3 Q3 O3 LW3 BW3 B5
      go_wp2_with fail
      refine bodyPost_ret (v := okT g) (by simp [results, Tryd.results58, go_sem, *]) rfl ⟨rfl, ?_⟩
      exact below_put3 (y := g) BW5 (by omega)
end Go.Proofs.YteknhghmliihhaaDoor
