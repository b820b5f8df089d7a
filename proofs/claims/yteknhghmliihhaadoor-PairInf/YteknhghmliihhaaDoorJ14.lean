/- The walks of PairLines, PairPairs, PairSame. No condition. -/
import Derived.Test.YteknhghmliihhaaDoorJ13
namespace Go.Proofs.YteknhghmliihhaaDoor
open Go.RowKit Go.Shelf Go.Sort

abbrev tuP (r : P2) (c : Int) : Value := .tuple #[vP r, .int .i64 c]
theorem ln_tup (s t q : Pt) : ∃ r c, lnV s t q = tuP r c := by
  unfold lnV; split
  · exact ⟨_, _, rfl⟩
  · exact ⟨_, _, rfl⟩
theorem pr_tup (p q : Pt) : ∃ r c, prV p q = tuP r c := by
  unfold prV; split
  · exact ⟨_, _, rfl⟩
  · exact ⟨_, _, rfl⟩
theorem sa_tup (a b c d : Pt) : ∃ (r : Bool) (x : Int), saV a b c d = .tuple #[.bool r, .int .i64 x] := by
  unfold saV; split
  · exact ⟨_, _, rfl⟩
  · exact ⟨_, _, rfl⟩

set_option maxRecDepth 20000 in
set_option maxHeartbeats 4000000 in
theorem plines_any (s t q : Pt) (us : UT s) (ut : UT t) (uq : UT q) (w : World) (hL : Lp w) :
    Calls Tryd.prog 3 #[vT s, vT t, vT q] w fun e w' => e = .returned (.bool true) ∧ Below w.heap.size w w' := by
  have C1 := pLine_any s t q us ut uq
  have C2 := rLine_any s t q us ut uq
  obtain ⟨r, c, hr⟩ := ln_tup s t q
  rw [hr] at C1 C2
  have E1 := eqlP r r
  rw [eqP_iff.2 rfl] at E1
  clear hr us ut uq
  go_enter Tryd.func3, Tryd.ntmps3
  go_wp2_with fail
  refine callsOf (fun V => Below w.heap.size w V ∧ Tb w.heap.size s V ∧ Tb (w.heap.size + 1) t V ∧ Tb (w.heap.size + 1 + 1) q V ∧ Lp V) ⟨by go_grown, ((Tb.new' w s 24 _ rfl).alloc _).alloc _, (Tb.new' _ t 24 _ (by simp)).alloc _, Tb.new' _ q 24 _ (by simp), ((hL.alloc _).alloc _).alloc _⟩ ?_
  rintro V ⟨BV, hA, hB, hC, LV⟩
  refine (shown11_any _ LV).mono ?_
  rintro e w1 ⟨rfl, B1⟩
  have A1 := hA.below B1
  have D1 := hB.below B1
  have Q1 := hC.below B1
  have LW1 := LV.below B1
  have BW1 := belowStep BV BV.size B1
  clear B1 BV hA hB hC LV V
  have ⟨az, aa, ab, ac, af⟩ := A1
  have ⟨bz, ba, bb, bc, bf⟩ := D1
  have ⟨cz, ca, cb, cc, cf⟩ := Q1
  go_wp2_with fail
  clear az aa ab ac af bz ba bb bc bf cz ca cb cc cf
  refine (C1 _ LW1).mono ?_
  rintro e w2 ⟨rfl, B2⟩
  have A2 := A1.below B2
  have D2 := D1.below B2
  have Q2 := Q1.below B2
  have BW2 := belowStep BW1 BW1.size B2
  clear B2 BW1 A1 D1 Q1 LW1
  have ⟨az, aa, ab, ac, af⟩ := A2
  have ⟨bz, ba, bb, bc, bf⟩ := D2
  have ⟨cz, ca, cb, cc, cf⟩ := Q2
  have Ra2 := Pb.new' w2 r 27 _ rfl
  have BW3 := BW2.alloc BW2.size (.cells #[.int .u64 (r.A : Int), .int .u64 (r.B : Int)] 27)
  have HX : Hid (_ ∧ _) := ⟨BW3, Ra2⟩
  clear A2 D2 Q2 BW2 BW3 Ra2
  go_wp2_with fail
  refine callsOf (fun W => Below w.heap.size w W ∧ Pb w2.heap.size r W) HX.out ?_
  rintro w3 ⟨BW3, Ra3⟩
  obtain ⟨n2, hn2⟩ : ∃ n, w2.heap.size = n := ⟨_, rfl⟩
  rw [hn2] at Ra3 ⊢
  clear HX az aa ab ac af bz ba bb bc bf cz ca cb cc cf hn2 w2
  refine (C2 _).mono ?_
  rintro e w4 ⟨rfl, B4⟩
  have Ra4 := Ra3.below B4
  have BW4 := belowStep BW3 BW3.size B4
  clear Ra3 BW3 B4
  have ⟨rz, ra, rb, rf⟩ := Ra4
  go_wp2_with fail
  go_ret
  exact ⟨rfl, BW4.alloc BW4.size _⟩

set_option maxRecDepth 20000 in
set_option maxHeartbeats 4000000 in
theorem ppairs_any (s t : Pt) (us : UT s) (ut : UT t) (w : World) (hL : Lp w) :
    Calls Tryd.prog 4 #[vT s, vT t] w fun e w' => e = .returned (.bool true) ∧ Below w.heap.size w w' := by
  have C1 := pPair_any s t us ut
  have C2 := rPair_any s t us ut
  obtain ⟨r, c, hr⟩ := pr_tup s t
  rw [hr] at C1 C2
  have E1 := eqlP r r
  rw [eqP_iff.2 rfl] at E1
  clear hr us ut
  go_enter Tryd.func4, Tryd.ntmps4
  go_wp2_with fail
  refine callsOf (fun V => Below w.heap.size w V ∧ Tb w.heap.size s V ∧ Tb (w.heap.size + 1) t V ∧ Lp V) ⟨by go_grown, (Tb.new' w s 24 _ rfl).alloc _, Tb.new' _ t 24 _ (by simp), (hL.alloc _).alloc _⟩ ?_
  rintro V ⟨BV, hA, hB, LV⟩
  refine (shown11_any _ LV).mono ?_
  rintro e w1 ⟨rfl, B1⟩
  have A1 := hA.below B1
  have D1 := hB.below B1
  have LW1 := LV.below B1
  have BW1 := belowStep BV BV.size B1
  clear B1 BV hA hB LV V
  have ⟨az, aa, ab, ac, af⟩ := A1
  have ⟨bz, ba, bb, bc, bf⟩ := D1
  go_wp2_with fail
  clear az aa ab ac af bz ba bb bc bf
  refine (C1 _ LW1).mono ?_
  rintro e w2 ⟨rfl, B2⟩
  have A2 := A1.below B2
  have D2 := D1.below B2
  have BW2 := belowStep BW1 BW1.size B2
  clear B2 BW1 A1 D1 LW1
  have ⟨az, aa, ab, ac, af⟩ := A2
  have ⟨bz, ba, bb, bc, bf⟩ := D2
  have Ra2 := Pb.new' w2 r 27 _ rfl
  have BW3 := BW2.alloc BW2.size (.cells #[.int .u64 (r.A : Int), .int .u64 (r.B : Int)] 27)
  have HX : Hid (_ ∧ _) := ⟨BW3, Ra2⟩
  clear A2 D2 BW2 BW3 Ra2
  go_wp2_with fail
  refine callsOf (fun W => Below w.heap.size w W ∧ Pb w2.heap.size r W) HX.out ?_
  rintro w3 ⟨BW3, Ra3⟩
  obtain ⟨n2, hn2⟩ : ∃ n, w2.heap.size = n := ⟨_, rfl⟩
  rw [hn2] at Ra3 ⊢
  clear HX az aa ab ac af bz ba bb bc bf hn2 w2
  refine (C2 _).mono ?_
  rintro e w4 ⟨rfl, B4⟩
  have Ra4 := Ra3.below B4
  have BW4 := belowStep BW3 BW3.size B4
  clear Ra3 BW3 B4
  have ⟨rz, ra, rb, rf⟩ := Ra4
  go_wp2_with fail
  go_ret
  exact ⟨rfl, BW4.alloc BW4.size _⟩

set_option maxRecDepth 20000 in
set_option maxHeartbeats 4000000 in
theorem psame_any (a b c d : Pt) (ua : UT a) (ub : UT b) (uc : UT c) (ud : UT d) (w : World) (hL : Lp w) :
    Calls Tryd.prog 5 #[vT a, vT b, vT c, vT d] w fun e w' => e = .returned (.bool true) ∧ Below w.heap.size w w' := by
  have C1 := pSame_any a b c d ua ub uc ud
  have C2 := rSame_any a b c d ua ub uc ud
  obtain ⟨r, x, hr⟩ := sa_tup a b c d
  rw [hr] at C1 C2
  clear hr ua ub uc ud
  go_enter Tryd.func5, Tryd.ntmps5
  go_wp2_with fail
  refine callsOf (fun V => Below w.heap.size w V ∧ Tb w.heap.size a V ∧ Tb (w.heap.size + 1) b V ∧ Tb (w.heap.size + 1 + 1) c V ∧ Tb (w.heap.size + 1 + 1 + 1) d V ∧ Lp V) ⟨by go_grown, (((Tb.new' w a 24 _ rfl).alloc _).alloc _).alloc _, ((Tb.new' _ b 24 _ (by simp)).alloc _).alloc _, (Tb.new' _ c 24 _ (by simp)).alloc _, Tb.new' _ d 24 _ (by simp), (((hL.alloc _).alloc _).alloc _).alloc _⟩ ?_
  rintro V ⟨BV, hA, hB, hC, hD, LV⟩
  refine (shown11_any _ LV).mono ?_
  rintro e w1 ⟨rfl, B1⟩
  have A1 := hA.below B1
  have D1 := hB.below B1
  have Q1 := hC.below B1
  have Z1' := hD.below B1
  have LW1 := LV.below B1
  have BW1 := belowStep BV BV.size B1
  clear B1 BV hA hB hC hD LV V
  have ⟨az, aa, ab, ac, af⟩ := A1
  have ⟨bz, ba, bb, bc, bf⟩ := D1
  have ⟨cz, ca, cb, cc, cf⟩ := Q1
  have ⟨dz, da, db, dc, df⟩ := Z1'
  go_wp2_with fail
  clear az aa ab ac af bz ba bb bc bf cz ca cb cc cf dz da db dc df
  refine (C1 _ LW1).mono ?_
  rintro e w2 ⟨rfl, B2⟩
  have BW2 := belowStep BW1 BW1.size B2
  have ⟨az, aa, ab, ac, af⟩ := A1.below B2
  have ⟨bz, ba, bb, bc, bf⟩ := D1.below B2
  have ⟨cz, ca, cb, cc, cf⟩ := Q1.below B2
  have ⟨dz, da, db, dc, df⟩ := Z1'.below B2
  clear B2 BW1 A1 D1 Q1 LW1 Z1' C1
  go_wp2_with fail
  refine (C2 _).mono ?_
  rintro e w4 ⟨rfl, B4⟩
  have BW4 := belowStep BW2 BW2.size B4
  clear BW2 B4 az aa ab ac af bz ba bb bc bf cz ca cb cc cf dz da db dc df C2
  go_wp2_with fail
  go_ret
  exact ⟨rfl, BW4⟩
end Go.Proofs.YteknhghmliihhaaDoor
