/- The walks of CurveTimes, CurveAdds. No condition. -/
import Derived.Test.YtlcdlegdnibcaaaDoorC8
namespace Go.Proofs.YtlcdlegdnibcaaaDoor
open Go.RowKit Go.Shelf Go.Sort

abbrev bxP (r : Pt) : Obj := .cells #[.int .u64 (r.X : Int), .int .u64 (r.Y : Int), .bool r.I] 24
abbrev tup (r : Pt) (c : Int) : Value := .tuple #[vT r, .int .i64 c]
theorem tim_tup (n : Nat) (p : Pt) : ∃ r c, timV n p = tup r c := by
  unfold timV; split
  · exact ⟨_, _, rfl⟩
  · exact ⟨_, _, rfl⟩
theorem add_tup (p q : Pt) : ∃ r c, addV p q = tup r c := by
  unfold addV; split
  · exact ⟨_, _, rfl⟩
  · exact ⟨_, _, rfl⟩
theorem neg_tup (p : Pt) : ∃ r c, negV p = tup r c := by
  unfold negV; split
  · exact ⟨_, _, rfl⟩
  · exact ⟨_, _, rfl⟩

set_option maxRecDepth 20000 in
set_option maxHeartbeats 4000000 in
theorem ctimes_any (n : Nat) (p : Pt) (hn : U64 n) (hp : UT p) (w : World) (hL : Li w) :
    Calls Tryd.prog 4 #[.int .u64 n, vT p] w fun e w' => e = .returned (.bool true) ∧ Below w.heap.size w w' := by
  have C1 := times_all n hn p hp
  have C2 := rtimes_any n hn p hp
  obtain ⟨r, c, hr⟩ := tim_tup n p
  rw [hr] at C1 C2
  have E1 := eqlT r r
  rw [decide_eq_true rfl] at E1
  clear hr
  go_enter Tryd.func4, Tryd.ntmps4
  go_wp2_with fail
  refine callsOf (fun V => Below w.heap.size w V ∧ Tb w.heap.size p V ∧ Li V) ⟨by go_grown, Tb.new' w p 24 _ rfl, hL.alloc _⟩ ?_
  rintro V ⟨BV, hA, LV⟩
  refine (shown_any _ LV).mono ?_
  rintro e w1 ⟨rfl, B1⟩
  have A1 := hA.below B1
  have LW1 := LV.below B1
  have BW1 := belowStep BV BV.size B1
  clear B1 BV hA LV V
  have ⟨az, aa, ab, ac, af⟩ := A1
  go_wp2_with fail
  clear az aa ab ac af
  refine (C1 _ LW1).mono ?_
  rintro e w2 ⟨rfl, B2⟩
  have A2 := A1.below B2
  have BW2 := belowStep BW1 BW1.size B2
  clear B2 BW1 A1 LW1
  have ⟨az, aa, ab, ac, af⟩ := A2
  have Ra2 := Tb.new' w2 r 24 _ rfl
  have BW3 := BW2.alloc BW2.size (.cells #[.int .u64 (r.X : Int), .int .u64 (r.Y : Int), .bool r.I] 24)
  have HX : Hid (_ ∧ _) := ⟨BW3, Ra2⟩
  clear A2 BW2 BW3 Ra2
  go_wp2_with fail
  refine callsOf (fun W => Below w.heap.size w W ∧ Tb w2.heap.size r W) HX.out ?_
  rintro w3 ⟨BW3, Ra3⟩
  obtain ⟨n2, hn2⟩ : ∃ n, w2.heap.size = n := ⟨_, rfl⟩
  rw [hn2] at Ra3 ⊢
  clear HX az aa ab ac af hn2 w2
  refine (C2 _).mono ?_
  rintro e w4 ⟨rfl, B4⟩
  have Ra4 := Ra3.below B4
  have BW4 := belowStep BW3 BW3.size B4
  clear Ra3 BW3 B4
  have ⟨rz, ra, rb, rc, rf⟩ := Ra4
  go_wp2_with fail
  go_ret
  exact ⟨rfl, BW4.alloc BW4.size _⟩

set_option maxRecDepth 20000 in
set_option maxHeartbeats 8000000 in
theorem cadds_any (p q : Pt) (hp : UT p) (hq : UT q) (w : World) (hL : Li w) :
    Calls Tryd.prog 3 #[vT p, vT q] w fun e w' => e = .returned (.bool true) ∧ Below w.heap.size w w' := by
  have C1 := add_all p q hp hq
  have C2 := radd_all p q hp hq
  have C3 := neg_any p hp
  have C4 := rneg_any p hp
  have C5 := on_any p hp
  have C6 := ron_any p hp
  have C7 := ingroup_any p hp
  have C8 := ringroup_any p hp
  obtain ⟨r, c, hr⟩ := add_tup p q
  rw [hr] at C1 C2
  obtain ⟨s, d, hs⟩ := neg_tup p
  rw [hs] at C3 C4
  obtain ⟨x, hx⟩ : ∃ x, onN p = x := ⟨_, rfl⟩
  rw [hx] at C5 C6
  obtain ⟨y, hy⟩ : ∃ x, grN p = x := ⟨_, rfl⟩
  rw [hy] at C7 C8
  have E1 := eqlT r r
  rw [decide_eq_true rfl] at E1
  have E2 := eqlT s s
  rw [decide_eq_true rfl] at E2
  clear hr hs hx hy
  go_enter Tryd.func3, Tryd.ntmps3
  go_wp2_with fail
  refine callsOf (fun V => Below w.heap.size w V ∧ Tb w.heap.size p V ∧ Tb (w.heap.size + 1) q V ∧ Li V) ⟨by go_grown, (Tb.new' w p 24 _ rfl).alloc _, Tb.new' _ q 24 _ (by simp), (hL.alloc _).alloc _⟩ ?_
  rintro V ⟨BV, hA, hQ, LV⟩
  refine (shown_any _ LV).mono ?_
  rintro e w1 ⟨rfl, B1⟩
  have A1 := hA.below B1
  have Q1 := hQ.below B1
  have LW1 := LV.below B1
  have BW1 := belowStep BV BV.size B1
  clear B1 BV hA hQ LV V
  have ⟨az, aa, ab, ac, af⟩ := A1
  have ⟨bz, ba, bb, bc, bf⟩ := Q1
  go_wp2_with fail
  clear az aa ab ac af bz ba bb bc bf
  refine (C1 _ LW1).mono ?_
  rintro e w2 ⟨rfl, B2⟩
  have A2 := A1.below B2
  have Q2 := Q1.below B2
  have LW2 := LW1.below B2
  have BW2 := belowStep BW1 BW1.size B2
  clear B2 BW1 A1 Q1 LW1
  have ⟨az, aa, ab, ac, af⟩ := A2
  have ⟨bz, ba, bb, bc, bf⟩ := Q2
  have HX : Hid (_ ∧ _ ∧ _ ∧ _ ∧ _) := ⟨BW2.alloc BW2.size (bxP r), A2.alloc (bxP r), Q2.alloc (bxP r), Tb.new' w2 r 24 _ rfl, LW2.alloc (bxP r)⟩
  clear A2 BW2 Q2 LW2
  go_wp2_with fail
  refine callsOf (fun W => Below w.heap.size w W ∧ Tb w.heap.size p W ∧ Tb (w.heap.size + 1) q W ∧ Tb w2.heap.size r W ∧ Li W) HX.out ?_
  rintro w3 ⟨BW3, A3, Q3, Ra3, LW3⟩
  obtain ⟨n2, hn2⟩ : ∃ n, w2.heap.size = n := ⟨_, rfl⟩
  rw [hn2] at Ra3 ⊢
  clear HX az aa ab ac af bz ba bb bc bf hn2 w2
  refine (C2 _).mono ?_
  rintro e w4 ⟨rfl, B4⟩
  have A4 := A3.below B4
  have Ra4 := Ra3.below B4
  have LW4 := LW3.below B4
  have BW4 := belowStep BW3 BW3.size B4
  clear Ra3 BW3 B4 A3 Q3 LW3
  have ⟨az, aa, ab, ac, af⟩ := A4
  have HX : Hid (_ ∧ _ ∧ _ ∧ _ ∧ _) := ⟨BW4.alloc BW4.size (bxP r), A4.alloc (bxP r), Ra4.alloc (bxP r), Tb.new' w4 r 24 _ rfl, LW4.alloc (bxP r)⟩
  clear A4 Ra4 BW4 LW4
  go_wp2_with fail
  refine callsOf (fun W => Below w.heap.size w W ∧ Tb w.heap.size p W ∧ Tb n2 r W ∧ Tb w4.heap.size r W ∧ Li W) HX.out ?_
  rintro w5 ⟨BW5, A5, Ra5, S5', LW5⟩
  obtain ⟨n3, hn3⟩ : ∃ n, w4.heap.size = n := ⟨_, rfl⟩
  rw [hn3] at S5' ⊢
  clear HX az aa ab ac af hn3 w4
  refine (C3 _ LW5).mono ?_
  rintro e w6 ⟨rfl, B6⟩
  have A6 := A5.below B6
  have Ra6 := Ra5.below B6
  have S6' := S5'.below B6
  have LW6 := LW5.below B6
  have BW6 := belowStep BW5 BW5.size B6
  clear A5 Ra5 S5' LW5 BW5 B6
  have ⟨az, aa, ab, ac, af⟩ := A6
  have HX : Hid (_ ∧ _ ∧ _ ∧ _ ∧ _ ∧ _) := ⟨BW6.alloc BW6.size (bxP s), A6.alloc (bxP s), Ra6.alloc (bxP s), S6'.alloc (bxP s), Tb.new' w6 s 24 _ rfl, LW6.alloc (bxP s)⟩
  clear A6 Ra6 S6' BW6 LW6
  go_wp2_with fail
  refine callsOf (fun W => Below w.heap.size w W ∧ Tb w.heap.size p W ∧ Tb n2 r W ∧ Tb n3 r W ∧ Tb w6.heap.size s W ∧ Li W) HX.out ?_
  rintro w7 ⟨BW7, A7, Ra7, S7', U7, LW7⟩
  obtain ⟨n4, hn4⟩ : ∃ n, w6.heap.size = n := ⟨_, rfl⟩
  rw [hn4] at U7 ⊢
  clear HX az aa ab ac af hn4 w6
  refine (C4 _).mono ?_
  rintro e w8 ⟨rfl, B8⟩
  have A8 := A7.below B8
  have Ra8 := Ra7.below B8
  have S8' := S7'.below B8
  have U8 := U7.below B8
  have LW8 := LW7.below B8
  have BW8 := belowStep BW7 BW7.size B8
  clear A7 Ra7 S7' U7 LW7 BW7 B8
  have ⟨az, aa, ab, ac, af⟩ := A8
  have HX : Hid (_ ∧ _ ∧ _ ∧ _ ∧ _ ∧ _ ∧ _) := ⟨BW8.alloc BW8.size (bxP s), A8.alloc (bxP s), Ra8.alloc (bxP s), S8'.alloc (bxP s), U8.alloc (bxP s), Tb.new' w8 s 24 _ rfl, LW8.alloc (bxP s)⟩
  clear A8 Ra8 S8' U8 BW8 LW8
  go_wp2_with fail
  refine wpOf (fun W => Below w.heap.size w W ∧ Tb w.heap.size p W ∧ Tb n2 r W ∧ Tb n3 r W ∧ Tb n4 s W ∧ Tb w8.heap.size s W ∧ Li W) HX.out ?_
  rintro V ⟨BV, hA, hR, hS, hU, hV, LV⟩
  obtain ⟨n5, hn5⟩ : ∃ n, w8.heap.size = n := ⟨_, rfl⟩
  rw [hn5] at hV ⊢
  clear HX az aa ab ac af hn5 w8
  have c5 := inClassL C5 LV
  have c6 := inClass (w := V) C6
  have c7 := inClassL C7 LV
  have c8 := inClass (w := V) C8
  have k0 := cell_regrown hA.a
  have k1 := cell_regrown hA.b
  have k2 := cell_regrown hA.c
  have k3 := cell_regrown hR.a
  have k4 := cell_regrown hR.b
  have k5 := cell_regrown hR.c
  have k6 := cell_regrown hS.a
  have k7 := cell_regrown hS.b
  have k8 := cell_regrown hS.c
  have l3 := cell_regrown hU.a
  have l4 := cell_regrown hU.b
  have l5 := cell_regrown hU.c
  have l6 := cell_regrown hV.a
  have l7 := cell_regrown hV.b
  have l8 := cell_regrown hV.c
  have HV : Hid (_ ∧ _) := ⟨BV, BV⟩
  clear hA hR hS hU hV LV BV C1 C2 C3 C4 C5 C6 C7 C8
  refine wp_region_quiet_below (by kernel_rfl) (by kernel_rfl) ?_
  iterate 3 (quiet_step (fail))
  quiet_step (exact c5 _ _)
  iterate 1 (quiet_step (fail))
  quiet_step (exact c6 _ _)
  iterate 4 (quiet_step (fail))
  quiet_step (exact c7 _ _)
  iterate 1 (quiet_step (fail))
  quiet_step (exact c8 _ _)
  iterate 23 (quiet_step (fail))
  refine wpQuiet_nil ?_
  intro v8 hv8
  have B8 : Below V.heap.size V v8 := by
    obtain ⟨p, rfl⟩ := hv8
    exact below_regrown _ _ _
  have BW := belowStep HV.out.1 HV.out.1.size B8
  clear hv8 k0 k1 k2 k3 k4 k5 k6 k7 k8 l3 l4 l5 l6 l7 l8 c5 c6 c7 c8
  go_wp2_with fail
  go_ret
  exact ⟨by simp, BW⟩
end Go.Proofs.YtlcdlegdnibcaaaDoor
