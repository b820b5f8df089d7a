/- What the law's shown does; the walks of CurveAdds, CurveTimes, CurveLaws, CurveFew. No condition. -/
import Derived.Test.YtlcdlegdnibcaaaDoorC6
import Derived.Test.YtlcdlegdnibcaaaDoorC7
namespace Go.Proofs.YtlcdlegdnibcaaaDoor
open Go.RowKit Go.Shelf Go.Sort

set_option maxHeartbeats 2000000 in
theorem gen_any (w : World) :
    Calls Tryd.prog 24 #[] w fun e w' => e = .returned (vT gN) ∧ Below w.heap.size w w' := by
  go_enter Tryd.func24, Tryd.ntmps24
  go_wp2_with fail
  refine bodyPost_ret (v := vT gN) (by simp [results, Tryd.results24, go_sem, gN, *]) rfl ⟨rfl, by go_grown⟩
theorem ut_gen : UT gN := ⟨by decide, by decide⟩
theorem ut_dbl : UT dN := ⟨by decide, by decide⟩
theorem add_gen (w : World) (hL : Li w) : Calls Tryd.prog 10 #[vT gN, vT gN] w fun e w' => e = .returned (okT dN) ∧ Below w.heap.size w w' := by
  have h := add_all gN gN ut_gen ut_gen w hL
  unfold addV at h
  rw [on_gen, Bool.and_self, if_pos rfl, dbl_gen] at h
  exact h
theorem two_gen (w : World) (hL : Li w) : Calls Tryd.prog 18 #[.int .u64 2, vT gN] w fun e w' => e = .returned (okT dN) ∧ Below w.heap.size w w' := by
  have h := times_all 2 (by unfold U64; omega) gN ut_gen w hL
  unfold timV at h
  rw [on_gen, if_pos rfl, tm_2, dbl_gen] at h
  exact h

theorem inClassL {f : Nat} {args : Array Value} {v : Value} {w : World} (h : ∀ W, Li W → Calls Tryd.prog f args W fun e w' => e = .returned v ∧ Below W.heap.size W w') (hL : Li w) :
    ∀ d os, Calls Tryd.prog f args (grow (redrawn w d) os) fun e w'' => e = .returned v ∧ ∃ p : Regrown, w'' = grow (redrawn w p.d) p.os := fun _ _ => Calls.regrown_of (h _ (hL.below (below_regrown _ _ _)))
theorem neqT (p q : Pt) (W : World) : (binOp .neq 24 (vT p) (vT q)).run Tryd.prog W = .ok (.bool (!decide (p = q))) W := by
  obtain ⟨pX, pY, pI⟩ := p
  obtain ⟨qX, qY, qI⟩ := q
  by_cases h1 : pX = qX
  · by_cases h2 : pY = qY
    · by_cases h3 : pI = qI
      · subst h1 h2 h3; simp [go_sem]
      · subst h1 h2; simp [go_sem, h3]
    · subst h1
      have h2' : ¬ (pY : Int) = qY := by omega
      simp [go_sem, h2, h2']
  · have h1' : ¬ (pX : Int) = qX := by omega
    simp [go_sem, h1, h1']
theorem Li.alloc {w : World} (h : Li w) (o : Obj) : Li (w.alloc o) := h.below ((Below.refl _ _).alloc (Nat.le_refl _) _)

set_option maxRecDepth 20000 in
set_option maxHeartbeats 4000000 in
theorem shown_any (w : World) (hL : Li w) :
    Calls Tryd.prog 9 #[] w fun e w' => e = .returned (.bool true) ∧ Below w.heap.size w w' := by
  have CG := gen_any
  have CA := add_gen
  have C2 := two_gen
  have CI := ingroup_any gN ut_gen
  rw [gr_gen] at CI
  have CO := on_any gN ut_gen
  rw [on_gen] at CO
  have CD := on_any dN ut_dbl
  rw [on_dbl] at CD
  have C1 := on_any ⟨1, 1, false⟩ ⟨by show (1 : Nat) < _; omega, by show (1 : Nat) < _; omega⟩
  rw [on_11] at C1
  have C1 : ∀ W, Li W → Calls Tryd.prog 14 #[.agg #[.int .u64 1, .int .u64 1, .bool false]] W fun e w' => e = .returned (.bool false) ∧ Below W.heap.size W w' := C1
  have E1 := eqlT dN dN
  rw [decide_eq_true rfl] at E1
  have E2 := neqT dN gN
  rw [show (!decide (dN = gN)) = true by decide] at E2
  obtain ⟨g, hg⟩ : ∃ g, gN = g := ⟨_, rfl⟩
  obtain ⟨d, hd⟩ : ∃ d, dN = d := ⟨_, rfl⟩
  rw [hg] at CG CA C2 CI CO E2
  rw [hd] at CA C2 CD E1 E2
  clear hg hd
  go_enter Tryd.func9, Tryd.ntmps9
  go_wp2_with fail
  refine (CG _).mono ?_
  rintro e w1 ⟨rfl, B1⟩
  have LW1 := (hL.below B1).alloc (.cells #[.int .u64 (g.X : Int), .int .u64 (g.Y : Int), .bool g.I] 24)
  have T1 := Tb.new' w1 g 24 _ rfl
  have BW1 := B1.alloc B1.size (.cells #[.int .u64 (g.X : Int), .int .u64 (g.Y : Int), .bool g.I] 24)
  clear B1
  go_wp2_with fail
  refine callsOf (fun W => Below w.heap.size w W ∧ Tb w1.heap.size g W ∧ Li W) ⟨BW1, T1, LW1⟩ ?_
  rintro w2 ⟨BW2, T2, LW2⟩
  clear BW1 T1 LW1
  obtain ⟨n1, hn1⟩ : ∃ n, w1.heap.size = n := ⟨_, rfl⟩
  rw [hn1] at T2 ⊢
  clear hn1 w1
  refine (CA _ LW2).mono ?_
  rintro e w3 ⟨rfl, B3⟩
  have T3 := T2.below B3
  have LW3 := LW2.below B3
  have BW3 := belowStep BW2 BW2.size B3
  clear B3 BW2 LW2 T2
  have ⟨gz, ga, gb, gc, gf⟩ := T3
  have Td := Tb.new' w3 d 24 _ rfl
  have T4 := T3.alloc (.cells #[.int .u64 (d.X : Int), .int .u64 (d.Y : Int), .bool d.I] 24)
  have LW4 := LW3.alloc (.cells #[.int .u64 (d.X : Int), .int .u64 (d.Y : Int), .bool d.I] 24)
  have BW4 := BW3.alloc BW3.size (.cells #[.int .u64 (d.X : Int), .int .u64 (d.Y : Int), .bool d.I] 24)
  have HX : Hid (_ ∧ _ ∧ _ ∧ _) := ⟨BW4, T4, Td, LW4⟩
  clear T3 LW3 BW3 Td T4 LW4 BW4
  go_wp2_with fail
  refine callsOf (fun W => Below w.heap.size w W ∧ Tb n1 g W ∧ Tb w3.heap.size d W ∧ Li W) HX.out ?_
  rintro w4 ⟨BW4, T4, D4, LW4⟩
  clear HX gz ga gb gc gf
  obtain ⟨n2, hn2⟩ : ∃ n, w3.heap.size = n := ⟨_, rfl⟩
  rw [hn2] at D4 ⊢
  clear hn2 w3
  refine (C2 _ LW4).mono ?_
  rintro e w5 ⟨rfl, B5⟩
  have T5 := T4.below B5
  have D5 := D4.below B5
  have LW5 := LW4.below B5
  have BW5 := belowStep BW4 BW4.size B5
  clear B5 BW4 LW4 T4 D4
  have Tt := Tb.new' w5 d 24 _ rfl
  have T6 := T5.alloc (.cells #[.int .u64 (d.X : Int), .int .u64 (d.Y : Int), .bool d.I] 24)
  have D6 := D5.alloc (.cells #[.int .u64 (d.X : Int), .int .u64 (d.Y : Int), .bool d.I] 24)
  have LW6 := LW5.alloc (.cells #[.int .u64 (d.X : Int), .int .u64 (d.Y : Int), .bool d.I] 24)
  have BW6 := BW5.alloc BW5.size (.cells #[.int .u64 (d.X : Int), .int .u64 (d.Y : Int), .bool d.I] 24)
  have HX : Hid (_ ∧ _ ∧ _ ∧ _ ∧ _) := ⟨BW6, T6, D6, Tt, LW6⟩
  have ⟨gz, ga, gb, gc, gf⟩ := T5
  clear T5 LW5 BW5 D5 Tt T6 D6 LW6 BW6
  go_wp2_with fail
  refine callsOf (fun W => Below w.heap.size w W ∧ Tb n1 g W ∧ Tb n2 d W ∧ Tb w5.heap.size d W ∧ Li W) HX.out ?_
  rintro V ⟨BV, T7, D7, S7, LV⟩
  clear HX gz ga gb gc gf
  obtain ⟨n3, hn3⟩ : ∃ n, w5.heap.size = n := ⟨_, rfl⟩
  rw [hn3] at S7 ⊢
  clear hn3 w5
  refine (CI _ LV).mono ?_
  rintro e w7 ⟨rfl, B8⟩
  have T8 := T7.below B8
  have D8 := D7.below B8
  have S8 := S7.below B8
  have LV8 := LV.below B8
  have BV8 := belowStep BV BV.size B8
  clear BV T7 D7 S7 LV B8
  have ⟨gz, ga, gb, gc, gf⟩ := T8
  go_wp2_with fail
  clear gz ga gb gc gf
  refine (CO _ LV8).mono ?_
  rintro e w8 ⟨rfl, B8⟩
  have T7 := T8.below B8
  have D7 := D8.below B8
  have S7 := S8.below B8
  have LV := LV8.below B8
  have BV := belowStep BV8 BV8.size B8
  clear BV8 T8 D8 S8 LV8 B8
  go_wp2_with fail
  refine (C1 _ LV).mono ?_
  rintro e w9 ⟨rfl, B8⟩
  have T8 := T7.below B8
  have D8 := D7.below B8
  have S8 := S7.below B8
  have LV8 := LV.below B8
  have BV8 := belowStep BV BV.size B8
  clear BV T7 D7 S7 LV B8
  have ⟨gz, ga, gb, gc, gf⟩ := T8
  have ⟨dz, da, db, dc, df⟩ := D8
  have ⟨sz, sa, sb, sc, sf⟩ := S8
  go_wp2_with fail
  clear gz ga gb gc gf dz da db dc df sz sa sb sc sf
  refine (CD _ LV8).mono ?_
  rintro e w10 ⟨rfl, B10⟩
  have BW10 := belowStep BV8 BV8.size B10
  go_wp2_with fail
  go_ret
  exact ⟨rfl, BW10⟩
end Go.Proofs.YtlcdlegdnibcaaaDoor
