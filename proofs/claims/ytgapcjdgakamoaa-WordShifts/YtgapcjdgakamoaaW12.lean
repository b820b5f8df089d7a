/- What divide does at this translation. -/
import Derived.Test.YtgapcjdgakamoaaW3
import Derived.Test.YtgapcjdgakamoaaW4
import Derived.Test.YtgapcjdgakamoaaW6
import Derived.Test.YtgapcjdgakamoaaW10
import Derived.Test.YtgapcjdgakamoaaW12b
import Derived.Test.YtgapcjdgakamoaaW12c
import Derived.WalkMore
import Derived.Deep.RegionHeld3
import Derived.Test.YtgapcjdgakamoaaEq
namespace Go.Proofs.Ytgapcjdgakamoaa
open Go.RowKit Go.Shelf
attribute [local go_sem] Oper.semAt_some

theorem range_set (W : World) (a : Addr) (v : Value) (b o : Nat) (cs : List Value) (h : b ≠ a.block) : (W.setCell a v).rangeAt b o cs = W.rangeAt b o cs := by
  unfold World.rangeAt
  refine propext ⟨fun k j u hj => ?_, fun k j u hj => ?_⟩
  · rw [← k j u hj]; exact (World.cell?_setCell_far W a ⟨b, o + j, none⟩ v (fun e => h e.symm)).symm
  · exact (World.cell?_setCell_far W a ⟨b, o + j, none⟩ v (fun e => h e.symm)).trans (k j u hj)
theorem range_below {W W' : World} {B b o : Nat} {cs : List Value} (hb : Below B W W') (hlt : b < B) (h : W.rangeAt b o cs) : W'.rangeAt b o cs :=
  fun j v hj => (hb.cell (p := ⟨b, o + j, none⟩) hlt).trans (h j v hj)
theorem range_of {W : World} {b : Nat} {Q : Nat → Int} (h : ∀ i, i < 12 → W.cell? ⟨b, i, none⟩ = some (.int .u64 (Q i))) : W.rangeAt b 0 [.int .u64 (Q 0), .int .u64 (Q 1), .int .u64 (Q 2), .int .u64 (Q 3), .int .u64 (Q 4), .int .u64 (Q 5), .int .u64 (Q 6), .int .u64 (Q 7), .int .u64 (Q 8), .int .u64 (Q 9), .int .u64 (Q 10), .int .u64 (Q 11)] := by
  intro j v hj
  rw [Nat.zero_add]
  have hlt : j < 12 := by simpa using (List.getElem?_eq_some_iff.1 hj).1
  rw [h j hlt]
  match j, hlt, hj with
  | 0, _, hj => exact hj
  | 1, _, hj => exact hj
  | 2, _, hj => exact hj
  | 3, _, hj => exact hj
  | 4, _, hj => exact hj
  | 5, _, hj => exact hj
  | 6, _, hj => exact hj
  | 7, _, hj => exact hj
  | 8, _, hj => exact hj
  | 9, _, hj => exact hj
  | 10, _, hj => exact hj
  | 11, _, hj => exact hj

theorem ko_below {W W' : World} (h : Below W.heap.size W W') : KeepsOthers W W' :=
  ⟨h.size, fun k o hk _ => by rw [h.block k (Array.getElem?_eq_some_iff.1 hk).1]; exact hk⟩

set_option maxHeartbeats 4000000 in
set_option maxRecDepth 100000 in
theorem divide_nz (n0 n1 n2 n3 n4 n5 n6 n7 n8 n9 n10 n11 d0 d1 d2 d3 : Int) (hn : Wl n0 n1 n2 n3 n4 n5 n6 n7 n8 n9 n10 n11) (hn8 : vlong n0 n1 n2 n3 n4 n5 n6 n7 n8 n9 n10 n11 < 13407807929942597099574024998205846127479365820592393377723561443721764030073546976801874298166903427690031858186486050853753882811946569946433649006084096) (hd : Ws d0 d1 d2 d3) (hd0 : val d0 d1 d2 d3 ≠ 0) (w : World) :
    Calls Try.prog 57 #[.agg #[.int .u64 n0, .int .u64 n1, .int .u64 n2, .int .u64 n3, .int .u64 n4, .int .u64 n5, .int .u64 n6, .int .u64 n7, .int .u64 n8, .int .u64 n9, .int .u64 n10, .int .u64 n11], .agg #[.int .u64 d0, .int .u64 d1, .int .u64 d2, .int .u64 d3]] w fun e w' =>
      ∃ q0 q1 q2 q3 r0 r1 r2 r3 : Int, e = .returned (.tuple #[.agg #[.int .u64 q0, .int .u64 q1, .int .u64 q2, .int .u64 q3], .agg #[.int .u64 r0, .int .u64 r1, .int .u64 r2, .int .u64 r3]]) ∧ Ws q0 q1 q2 q3 ∧ Ws r0 r1 r2 r3 ∧ Hid (val q0 q1 q2 q3 = vlong n0 n1 n2 n3 n4 n5 n6 n7 n8 n9 n10 n11 / val d0 d1 d2 d3 % 115792089237316195423570985008687907853269984665640564039457584007913129639936 ∧ val r0 r1 r2 r3 = vlong n0 n1 n2 n3 n4 n5 n6 n7 n8 n9 n10 n11 % val d0 d1 d2 d3) ∧ Below w.heap.size w w' := by
  have hne : ∀ w : World, (Op.equalIn 10000 24 (.agg #[.int .u64 d0, .int .u64 d1, .int .u64 d2, .int .u64 d3]) (.agg #[.int .u64 0, .int .u64 0, .int .u64 0, .int .u64 0])).run Try.prog w = .ok false w := fun w => by
    rw [eq4, decide_eq_false]
    rintro ⟨rfl, rfl, rfl, rfl⟩
    exact hd0 (by decide)
  have ho : Pt 0 := ⟨by decide, by decide⟩
  refine (callsIn_wide (n := 9)).1 ?_
  refine callsIn_of_wp_marks Try.func57 rfl trivial ?_ rfl
  refine wpIn_wide.2 ?_
  simp only [Try.ntmps57, List.size_toArray, List.length_cons, List.length_nil, Nat.reduceAdd, Nat.reduceSub, Array.replicate_succ, Array.replicate_zero, List.push_toArray, List.append_toArray, List.nil_append, List.cons_append]
  go_wp2_with fail
  go_step3
  go_wp2_with fail
  refine (leading_any d0 d1 d2 d3 hd hd0 _).mono ?_
  rintro e w1 ⟨z, rfl, hz0, hz1, hZ, hb1⟩
  obtain ⟨hc1, hf1⟩ := oldKept hb1
  have hs1 : w.heap.size + 5 < w1.heap.size := by have := hb1.size; simp at this; omega
  have ht1 : w.heap.size + 1 < w1.heap.size := by omega
  have hu1 : w.heap.size < w1.heap.size := by omega
  go_wp2_with fail
  refine (lengthen_any d0 d1 d2 d3 _).mono ?_
  rintro e w2 ⟨rfl, hb2⟩
  obtain ⟨hc2, hf2⟩ := oldKept hb2
  have ht2 : w.heap.size + 1 < w2.heap.size := by have := hb2.size; omega
  have hu2 : w.heap.size < w2.heap.size := by omega
  go_wp2_with fail
  refine (raise_any d0 d1 d2 d3 0 0 0 0 0 0 0 0 z ⟨hd.1, hd.2.1, hd.2.2.1, hd.2.2.2, ho, ho, ho, ho, ho, ho, ho, ho⟩ hz0 hz1 _).mono ?_
  rintro e w3 ⟨e0, e1, e2, e3, e4, e5, e6, e7, e8, e9, e10, e11, rfl, hE, hEv, hb3⟩
  obtain ⟨hc3, hf3⟩ := oldKept hb3
  have ht3 : w.heap.size + 1 < w3.heap.size := by have := hb3.size; omega
  have hu3 : w.heap.size < w3.heap.size := by omega
  go_wp2_with fail
  refine (lowest_any e0 e1 e2 e3 e4 e5 e6 e7 e8 e9 e10 e11 _).mono ?_
  rintro e w4 ⟨rfl, hb4⟩
  obtain ⟨hc4, hf4⟩ := oldKept hb4
  have ht4 : w.heap.size + 1 < w4.heap.size := by have := hb4.size; omega
  have hu4 : w.heap.size < w4.heap.size := by omega
  have hv4 : w.heap.size < w4.heap.size + 1 := by omega
  go_wp2_with fail
  refine (raise_any n0 n1 n2 n3 n4 n5 n6 n7 n8 n9 n10 n11 z hn hz0 hz1 _).mono ?_
  rintro e w5 ⟨m0, m1, m2, m3, m4, m5, m6, m7, m8, m9, m10, m11, rfl, hM, hMv, hb5⟩
  go_wp2_with fail
  go_step3
  go_wp2_with fail
  refine (down_any m0 m1 m2 m3 m4 m5 m6 m7 m8 m9 m10 m11 _).mono ?_
  rintro e w6 ⟨rfl, rfl⟩
  go_wp2_with fail
  have c4 := belowStep (belowStep (belowStep hb1 hb1.size hb2) (Nat.le_trans hb1.size hb2.size) hb3) (Nat.le_trans (Nat.le_trans hb1.size hb2.size) hb3.size) hb4
  obtain ⟨ds, st, hB⟩ := st_start n0 n1 n2 n3 n4 n5 n6 n7 n8 n9 n10 n11 d0 d1 d2 d3 e0 e1 e2 e3 m0 m1 m2 m3 m4 m5 m6 m7 m8 m9 m10 m11 w w4 w5 _ rfl c4 _ rfl hb5 _ rfl
  clear hc1 hc2 hc3 hc4 hf1 hf2 hf3 hf4 hs1 ht1 hu1 ht2 hu2 ht3 hu3 ht4 hu4 hv4 hb1 hb2 hb3 hb4 hb5 c4 hne
  obtain ⟨fm, hfm⟩ : ∃ f : Nat → Int, f = (fun i => [m0, m1, m2, m3, m4, m5, m6, m7, m8, m9, m10, m11].getD i 0) := ⟨_, rfl⟩
  obtain ⟨fD, hfD⟩ : ∃ f : Nat → Int, f = (fun i => [e0, e1, e2, e3].getD i 0) := ⟨_, rfl⟩
  rw [← hfm, ← hfD] at st
  have hm : ∀ j, Pt (fm j) := by
    intro j
    rw [hfm]
    obtain ⟨j0, j1, j2, j3, j4, j5, j6, j7, j8, j9, j10, j11⟩ := hM
    match j with
    | 0 => exact j0
    | 1 => exact j1
    | 2 => exact j2
    | 3 => exact j3
    | 4 => exact j4
    | 5 => exact j5
    | 6 => exact j6
    | 7 => exact j7
    | 8 => exact j8
    | 9 => exact j9
    | 10 => exact j10
    | 11 => exact j11
    | j + 12 => exact ho
  have hwb : w.heap.size ≤ w.heap.size + 1 + 1 := by omega
  generalize ((w5.alloc _).alloc _).alloc _ = w6 at *
  generalize w5.heap.size + 1 + 1 = bX at *
  generalize w5.heap.size + 1 = bQ at *
  generalize w5.heap.size = bL at *
  generalize w4.heap.size = bD at *
  generalize w.heap.size + 1 + 1 + 1 + 1 + 1 = bR at *
  generalize w.heap.size + 1 + 1 + 1 + 1 = bN at *
  generalize w.heap.size + 1 + 1 + 1 = b5 at *
  generalize w.heap.size + 1 + 1 = b4 at *
  obtain ⟨DD, hDD⟩ : ∃ D : Int, D = val e0 e1 e2 e3 := ⟨_, rfl⟩
  obtain ⟨N1, N2, N3, N4⟩ := norm_facts n0 n1 n2 n3 n4 n5 n6 n7 n8 n9 n10 n11 d0 d1 d2 d3 e0 e1 e2 e3 e4 e5 e6 e7 e8 e9 e10 e11 m0 m1 m2 m3 m4 m5 m6 m7 m8 m9 m10 m11 z hn hn8 hz1 hZ.out hE hEv.out hM hMv.out
  have NN1 : Hid (_ = _) := N1
  have NN4 : Hid (_ = _) := N4
  have hDp : 0 < DD := by rw [hDD]; exact N3
  have hEw : Ws e0 e1 e2 e3 := ⟨hE.1, hE.2.1, hE.2.2.1, hE.2.2.2.1⟩
  have hE3 : 9223372036854775808 ≤ e3 := N2
  clear N1 N2 N3 N4
  have hw6 : bX < w6.heap.size := st.sz
  have own : ∀ (A C : World) (row : Option Nat) (R L Q : Nat → Int), St b4 b5 bN bR bD bL bQ bX fD fm R L Q A → A.grownBy C row → (∀ r, row = some r → w6.heap.size ≤ r ∧ ∃ o : Obj, A.heap[r]? = some o ∧ o.isCells = false) → St b4 b5 bN bR bD bL bQ bX fD fm R L Q C :=
    fun A C row R L Q h hg hr => h.keep ds ((Below.refl _ A).grown hg h.sz (fun k e => Nat.le_trans hw6 (hr k e).1))
  refine (wpIn_wide (n := 9)).1 ?_
  refine wpIn_rangeFunc_ownF rfl (by omega) (gf := 82) (lb := #[.pointer (some ⟨bX, 0, none⟩)]) rfl trivial (enters_of Try.func82 (by kernel_rfl) rfl)
    (down_stops Fence.wide _ trivial rfl (by omega) bX fm hm w6 hw6 st.x) (fun h k x => k (h x)) (fun W l o o' hl h1 h2 h3 hx j hj => ((belowK_b (n₀ := bX + 1) hw6 W l o o' hl h1 h2 h3).cell (p := ⟨bX, j, none⟩) (Nat.lt_succ_self _)).trans (hx j hj)) (Below.refl _ _) (fun _ => rfl)
    (fun pre W => (∃ R : Nat → Int, fws R ∧ fval R = (runN DD fm pre).1 ∧ St b4 b5 bN bR bD bL bQ bX fD fm R (runN DD fm pre).2.1 (runN DD fm pre).2.2 W) ∧ Below w.heap.size w W)
    (fun c pre W => (c = .exit 0 ∧ (runN DD fm pre).1 = 0 ∧ (∀ j, j < 12 → (runN DD fm pre).2.1 j = 0) ∧ ∃ R : Nat → Int, fws R ∧ fval R = (runN DD fm pre).1 ∧ St b4 b5 bN bR bD bL bQ bX fD fm R (runN DD fm pre).2.1 (runN DD fm pre).2.2 W) ∧ Below w.heap.size w W)
    (fun s A C row hs hg hr => ⟨by obtain ⟨R, r1, r2, r3⟩ := hs.1; exact ⟨R, r1, r2, own _ _ _ _ _ _ r3 hg hr⟩, hs.2.grown hg (Nat.le_trans (Nat.le_refl _) hs.2.size) (fun k e => Nat.le_trans hB.size (hr k e).1)⟩)
    (fun c s A C row hs hg hr => ⟨by obtain ⟨x1, x2, x3, R, r1, r2, r3⟩ := hs.1; exact ⟨x1, x2, x3, R, r1, r2, own _ _ _ _ _ _ r3 hg hr⟩, hs.2.grown hg (Nat.le_trans (Nat.le_refl _) hs.2.size) (fun k e => Nat.le_trans hB.size (hr k e).1)⟩)
    ⟨⟨fun _ => 0, ⟨ho, ho, ho, ho⟩, rfl, by rw [hfm] at st ⊢; exact st⟩, hB⟩
    (fun x => { tmps := #[.agg #[.int .u64 n0, .int .u64 n1, .int .u64 n2, .int .u64 n3, .int .u64 n4, .int .u64 n5, .int .u64 n6, .int .u64 n7, .int .u64 n8, .int .u64 n9, .int .u64 n10, .int .u64 n11], .agg #[.int .u64 d0, .int .u64 d1, .int .u64 d2, .int .u64 d3], .pointer (some ⟨w.heap.size, 0, none⟩), .pointer (some ⟨w.heap.size + 1, 0, none⟩), .pointer (some ⟨b4, 0, none⟩), .pointer (some ⟨b5, 0, none⟩), .pointer (some ⟨bN, 0, none⟩), .pointer (some ⟨bR, 0, none⟩), .int .u64 z, .pointer (some ⟨bD, 0, none⟩), .pointer (some ⟨bL, 0, none⟩), .pointer (some ⟨bQ, 0, none⟩), .int .i64 (x.1.1 : Int), .int .u64 x.1.2, undef, .agg #[.int .u64 d0, .int .u64 d1, .int .u64 d2, .int .u64 d3], .agg #[.int .u64 0, .int .u64 0, .int .u64 0, .int .u64 0], .bool false, undef, undef, .agg #[.int .u64 d0, .int .u64 d1, .int .u64 d2, .int .u64 d3], .int .u64 z, .agg #[.int .u64 d0, .int .u64 d1, .int .u64 d2, .int .u64 d3], .agg #[.int .u64 d0, .int .u64 d1, .int .u64 d2, .int .u64 d3, .int .u64 0, .int .u64 0, .int .u64 0, .int .u64 0, .int .u64 0, .int .u64 0, .int .u64 0, .int .u64 0], .int .u64 z, .agg #[.int .u64 e0, .int .u64 e1, .int .u64 e2, .int .u64 e3, .int .u64 e4, .int .u64 e5, .int .u64 e6, .int .u64 e7, .int .u64 e8, .int .u64 e9, .int .u64 e10, .int .u64 e11], .agg #[.int .u64 e0, .int .u64 e1, .int .u64 e2, .int .u64 e3], .agg #[.int .u64 n0, .int .u64 n1, .int .u64 n2, .int .u64 n3, .int .u64 n4, .int .u64 n5, .int .u64 n6, .int .u64 n7, .int .u64 n8, .int .u64 n9, .int .u64 n10, .int .u64 n11], .int .u64 z, .agg #[.int .u64 m0, .int .u64 m1, .int .u64 m2, .int .u64 m3, .int .u64 m4, .int .u64 m5, .int .u64 m6, .int .u64 m7, .int .u64 m8, .int .u64 m9, .int .u64 m10, .int .u64 m11], .agg #[.int .u64 m0, .int .u64 m1, .int .u64 m2, .int .u64 m3, .int .u64 m4, .int .u64 m5, .int .u64 m6, .int .u64 m7, .int .u64 m8, .int .u64 m9, .int .u64 m10, .int .u64 m11], .func (.func 82) #[] #[.pointer (some ⟨bX, 0, none⟩)], .int .i64 (x.1.1 : Int), .int .u64 x.1.2, undef, undef, undef, undef, undef, undef, undef, undef, undef, undef, undef, undef, undef, undef, undef, undef, undef, undef, undef, undef, undef, undef, undef, undef, undef, undef, undef, undef, undef, undef, undef, undef, undef, undef, undef, undef, undef, undef, undef, undef, undef, undef, undef, undef], defers := [] }) ?assign ?body ?done ?stop
  case assign =>
    intro l x W K hK
    dsimp only [pEnc]
    gi_wp2
    exact hK
  case body =>
    rintro l pre ⟨⟨p, v⟩, hp, hv⟩ W ⟨⟨R, hR, hRv, st⟩, hB⟩ _
    dsimp only at hp hv ⊢
    clear hM hMv hE hEv hZ hn hd hd0
    have hl : W.cell? ⟨bL, p, none⟩ = some (.int .u64 ((runN DD fm pre).2.1 p)) := st.l p hp
    have hr0 := st.r 0 (by decide)
    have hr1 := st.r 1 (by decide)
    have hr2 := st.r 2 (by decide)
    have hr3 := st.r 3 (by decide)
    have hd0 := st.d 0 (by decide)
    have hd1 := st.d 1 (by decide)
    have hd2 := st.d 2 (by decide)
    have hd3 := st.d 3 (by decide)
    have hfr := st.fr
    have hfl := st.fl
    have p1 : (p : Int) < 12 := by omega
    obtain ⟨x1, x2, x3, x4, x5, x6, x7⟩ := ds
    have ne1 : ¬ bR = bL := by omega
    have ne2 : ¬ bL = bR := by omega
    have ne3 : ¬ bD = bL := by omega
    have ne4 : ¬ bL = bD := by omega
    have ne5 : ¬ bR = bD := by omega
    have ne6 : ¬ bD = bR := by omega
    have ds : Ds b4 b5 bN bR bD bL bQ bX := ⟨x1, x2, x3, x4, x5, x6, x7⟩
    have st1 := (((((st.setL ds p hp 0).setR ds 0 (by decide) v).setR ds 1 (by decide) (R 0)).setR ds 2 (by decide) (R 1)).setR ds 3 (by decide) (R 2)).like (upd4 _ _ _ _ _) (fun _ _ => rfl) (fun _ _ => rfl)
    have ko1 : KeepsOthers W _ := ((((KeepsOthers.setCell W ⟨bL, p, none⟩ (.int .u64 0)).trans (KeepsOthers.setCell _ ⟨bR, 0, none⟩ (.int .u64 v))).trans (KeepsOthers.setCell _ ⟨bR, 1, none⟩ (.int .u64 (R 0)))).trans (KeepsOthers.setCell _ ⟨bR, 2, none⟩ (.int .u64 (R 1)))).trans (KeepsOthers.setCell _ ⟨bR, 3, none⟩ (.int .u64 (R 2)))
    have hB1 : Below w.heap.size w _ := ((((hB.setCell (p := ⟨bL, p, none⟩) (by dsimp only; omega) (.int .u64 0)).setCell (p := ⟨bR, 0, none⟩) (by dsimp only; omega) (.int .u64 v)).setCell (p := ⟨bR, 1, none⟩) (by dsimp only; omega) (.int .u64 (R 0))).setCell (p := ⟨bR, 2, none⟩) (by dsimp only; omega) (.int .u64 (R 1))).setCell (p := ⟨bR, 3, none⟩) (by dsimp only; omega) (.int .u64 (R 2))
    have hNw : Ws v (R 0) (R 1) (R 2) := ⟨hv, hR.1, hR.2.1, hR.2.2.1⟩
    have hRest := runN_rest DD hDp fm pre
    have hRv' : val (R 0) (R 1) (R 2) (R 3) = (runN DD fm pre).1 := hRv
    have hNeq : R 3 * 115792089237316195423570985008687907853269984665640564039457584007913129639936 + val v (R 0) (R 1) (R 2) = (runN DD fm pre).1 * 18446744073709551616 + v := by
      rw [← hRv']; unfold val; omega
    have hv0 := hv.1
    have hv1 := hv.2
    have hNlt : R 3 * 115792089237316195423570985008687907853269984665640564039457584007913129639936 + val v (R 0) (R 1) (R 2) < val e0 e1 e2 e3 * 18446744073709551616 := by
      rw [hNeq, ← hDD]; omega
    have HNeq : Hid (R 3 * 115792089237316195423570985008687907853269984665640564039457584007913129639936 + val v (R 0) (R 1) (R 2) = (runN DD fm pre).1 * 18446744073709551616 + v) := hNeq
    have HRv : Hid (fval R = (runN DD fm pre).1) := hRv
    have HRv' : Hid (val (R 0) (R 1) (R 2) (R 3) = (runN DD fm pre).1) := hRv'
    have HDD : Hid (DD = val e0 e1 e2 e3) := hDD
    clear hRv hRv' hNeq hDD
    by_cases hab : R 3 = 0
    · have hab' : (R 3 != 0) = false := by simp [hab]
      have HAB : Hid (R 3 = 0) := hab
      clear hab
      gi_wp2_with fail
      refine ⟨trivial, (CallsIn.inRound l (callsIn_wide.2 (less_any v (R 0) (R 1) (R 2) e0 e1 e2 e3 hNw hEw _))).mono ?_⟩
      rintro e w1 ⟨rfl, hb1⟩
      have st2 := st1.below ds hb1
      have ko2 := ko1.trans (ko_below hb1)
      have hb3 := belowStep hB1 hB1.size hb1
      clear hr0 hr1 hr2 hr3 hd0 hd1 hd2 hd3 hl hfr hfl
      by_cases hlt : val v (R 0) (R 1) (R 2) < val e0 e1 e2 e3
      · have hbl : blw (val v (R 0) (R 1) (R 2)) (val e0 e1 e2 e3) = true := by unfold blw; simp [hlt]
        have hN2 : val v (R 0) (R 1) (R 2) = (runN DD fm pre).1 * 18446744073709551616 + v := by have := HNeq.out; have := HAB.out; omega
        have hN1 : (runN DD fm pre).1 * 18446744073709551616 + v < DD := by have := HDD.out; omega
        have hN0 : 0 ≤ (runN DD fm pre).1 * 18446744073709551616 + v := by omega
        have HN2 : Hid (val v (R 0) (R 1) (R 2) = (runN DD fm pre).1 * 18446744073709551616 + v) := hN2
        clear hN2
        have cr0 := st2.r 0 (by decide)
        have cr1 := st2.r 1 (by decide)
        have cr2 := st2.r 2 (by decide)
        have cr3 := st2.r 3 (by decide)
        have cn0 := st2.zn 0 (by decide)
        have cn1 := st2.zn 1 (by decide)
        have cn2 := st2.zn 2 (by decide)
        have cn3 := st2.zn 3 (by decide)
        by_cases hzz : val v (R 0) (R 1) (R 2) = 0
        · have hq0 : ∀ w : World, (Op.equalIn 10000 24 (.agg #[.int .u64 v, .int .u64 (R 0), .int .u64 (R 1), .int .u64 (R 2)]) (.agg #[.int .u64 0, .int .u64 0, .int .u64 0, .int .u64 0])).run Try.prog w = .ok true w := fun w => by
            rw [eq4, decide_eq_true]
            exact val_inj _ _ _ _ 0 0 0 0 hNw ⟨ho, ho, ho, ho⟩ (by rw [hzz]; rfl)
          obtain ⟨L, hL⟩ : ∃ f : Nat → Int, f = upd (runN DD fm pre).2.1 p 0 := ⟨_, rfl⟩
          have st2' := st2
          rw [← hL] at st2'
          have cl0 := st2'.l 0 (by decide)
          have cl1 := st2'.l 1 (by decide)
          have cl2 := st2'.l 2 (by decide)
          have cl3 := st2'.l 3 (by decide)
          have cl4 := st2'.l 4 (by decide)
          have cl5 := st2'.l 5 (by decide)
          have cl6 := st2'.l 6 (by decide)
          have cl7 := st2'.l 7 (by decide)
          have cl8 := st2'.l 8 (by decide)
          have cl9 := st2'.l 9 (by decide)
          have cl10 := st2'.l 10 (by decide)
          have cl11 := st2'.l 11 (by decide)
          have hq1 := eq12 L
          have HZZ : Hid (val v (R 0) (R 1) (R 2) = 0) := hzz
          have HL : Hid (L = upd (runN DD fm pre).2.1 p 0) := hL
          clear hzz hL
          by_cases hz : allz L = true
          · gi_wp2
            have hN2 := HN2.out
            have hzz := HZZ.out
            rw [HL.out] at hz
            refine ⟨ko2, ⟨rfl, ?_, ?_, fun i => [v, R 0, R 1, R 2].getD i 0, hNw, ?_, ?_⟩, hb3⟩
            · rw [runN_snoc]
              show ((runN DD fm pre).1 * 18446744073709551616 + v) % DD = 0
              rw [Int.emod_eq_of_lt hN0 hN1, ← hN2, hzz]
            · intro j hj
              rw [runN_snoc]
              exact (allz_iff _).1 hz j hj
            · rw [runN_snoc]
              show val v (R 0) (R 1) (R 2) = ((runN DD fm pre).1 * 18446744073709551616 + v) % DD
              rw [Int.emod_eq_of_lt hN0 hN1, ← hN2]
            · rw [runN_snoc]
              refine st2.like (fun _ _ => rfl) (fun _ _ => rfl) (fun i _ => ?_)
              show _ = (if DD ≤ (runN DD fm pre).1 * 18446744073709551616 + v then upd (runN DD fm pre).2.2 p (((runN DD fm pre).1 * 18446744073709551616 + v) / DD) else (runN DD fm pre).2.2) i
              rw [if_neg (by omega)]
          · have hz' : allz L = false := by simpa using hz
            clear hz
            gi_wp2
            have hN2 := HN2.out
            refine ⟨ko2, fun _ => st2.x, ⟨fun i => [v, R 0, R 1, R 2].getD i 0, hNw, ?_, ?_⟩, hb3⟩
            · rw [runN_snoc]
              show val v (R 0) (R 1) (R 2) = ((runN DD fm pre).1 * 18446744073709551616 + v) % DD
              rw [Int.emod_eq_of_lt hN0 hN1, ← hN2]
            · rw [runN_snoc]
              refine st2.like (fun _ _ => rfl) (fun _ _ => rfl) (fun i _ => ?_)
              show _ = (if DD ≤ (runN DD fm pre).1 * 18446744073709551616 + v then upd (runN DD fm pre).2.2 p (((runN DD fm pre).1 * 18446744073709551616 + v) / DD) else (runN DD fm pre).2.2) i
              rw [if_neg (by omega)]
        · have hq0 : ∀ w : World, (Op.equalIn 10000 24 (.agg #[.int .u64 v, .int .u64 (R 0), .int .u64 (R 1), .int .u64 (R 2)]) (.agg #[.int .u64 0, .int .u64 0, .int .u64 0, .int .u64 0])).run Try.prog w = .ok false w := fun w => by
            rw [eq4, decide_eq_false]
            rintro ⟨h0, h1, h2, h3⟩
            exact hzz (by rw [h0, h1, h2, h3]; rfl)
          clear hzz
          gi_wp2
          have hN2 := HN2.out
          refine ⟨ko2, fun _ => st2.x, ⟨fun i => [v, R 0, R 1, R 2].getD i 0, hNw, ?_, ?_⟩, hb3⟩
          · rw [runN_snoc]
            show val v (R 0) (R 1) (R 2) = ((runN DD fm pre).1 * 18446744073709551616 + v) % DD
            rw [Int.emod_eq_of_lt hN0 hN1, ← hN2]
          · rw [runN_snoc]
            refine st2.like (fun _ _ => rfl) (fun _ _ => rfl) (fun i _ => ?_)
            show _ = (if DD ≤ (runN DD fm pre).1 * 18446744073709551616 + v then upd (runN DD fm pre).2.2 p (((runN DD fm pre).1 * 18446744073709551616 + v) / DD) else (runN DD fm pre).2.2) i
            rw [if_neg (by omega)]
      · have hbl : blw (val v (R 0) (R 1) (R 2)) (val e0 e1 e2 e3) = false := by unfold blw; simp [hlt]
        have cr0 := st2.r 0 (by decide)
        have cr1 := st2.r 1 (by decide)
        have cr2 := st2.r 2 (by decide)
        have cr3 := st2.r 3 (by decide)
        have cd0 := st2.d 0 (by decide)
        have cd1 := st2.d 1 (by decide)
        have cd2 := st2.d 2 (by decide)
        have cd3 := st2.d 3 (by decide)
        have hge : DD ≤ (runN DD fm pre).1 * 18446744073709551616 + v := by have := HNeq.out; have := HAB.out; have := HDD.out; omega
        gi_wp2_with fail
        refine ⟨trivial, (CallsIn.inRound l (callsIn_wide.2 (digit_any (R 3) v (R 0) (R 1) (R 2) e0 e1 e2 e3 hR.2.2.2 hNw hEw hE3 hNlt _))).mono ?_⟩
        rintro e w2 ⟨q, g0, g1, g2, g3, rfl, hg, hQv, hb2⟩
        have st3 := (st2.below ds hb2)
        have cq := st3.q p hp
        have cr0 := st3.r 0 (by decide)
        have cr1 := st3.r 1 (by decide)
        have cr2 := st3.r 2 (by decide)
        have cr3 := st3.r 3 (by decide)
        have fr := st3.fr
        have fq := st3.fq
        gi_wp2
        have st4 := (((((st3.setQ ds p hp q).setR ds 0 (by decide) g0).setR ds 1 (by decide) g1).setR ds 2 (by decide) g2).setR ds 3 (by decide) g3)
        have ko4 : KeepsOthers W _ := (((((ko2.trans (ko_below hb2)).trans (KeepsOthers.setCell w2 ⟨bQ, p, none⟩ (.int .u64 q))).trans (KeepsOthers.setCell _ ⟨bR, 0, none⟩ (.int .u64 g0))).trans (KeepsOthers.setCell _ ⟨bR, 1, none⟩ (.int .u64 g1))).trans (KeepsOthers.setCell _ ⟨bR, 2, none⟩ (.int .u64 g2))).trans (KeepsOthers.setCell _ ⟨bR, 3, none⟩ (.int .u64 g3))
        have hb4 : Below w.heap.size w _ := (((((belowStep hb3 (by have := hb3.size; exact this) hb2).setCell (p := ⟨bQ, p, none⟩) (by dsimp only; omega) (.int .u64 q)).setCell (p := ⟨bR, 0, none⟩) (by dsimp only; omega) (.int .u64 g0)).setCell (p := ⟨bR, 1, none⟩) (by dsimp only; omega) (.int .u64 g1)).setCell (p := ⟨bR, 2, none⟩) (by dsimp only; omega) (.int .u64 g2)).setCell (p := ⟨bR, 3, none⟩) (by dsimp only; omega) (.int .u64 g3)
        refine ⟨ko4, fun _ => st4.x, ⟨fun i => [g0, g1, g2, g3].getD i 0, hg, ?_, ?_⟩, hb4⟩
        · rw [runN_snoc]
          show val g0 g1 g2 g3 = ((runN DD fm pre).1 * 18446744073709551616 + v) % DD
          rw [hQv.out.2.2, HNeq.out, ← HDD.out]
        · rw [runN_snoc]
          have hq : q = ((runN DD fm pre).1 * 18446744073709551616 + v) / DD := by rw [hQv.out.2.1, HNeq.out, ← HDD.out]
          refine st4.like (upd4 _ _ _ _ _) (fun _ _ => rfl) (fun i _ => ?_)
          show _ = (if DD ≤ (runN DD fm pre).1 * 18446744073709551616 + v then upd (runN DD fm pre).2.2 p (((runN DD fm pre).1 * 18446744073709551616 + v) / DD) else (runN DD fm pre).2.2) i
          rw [if_pos hge, ← hq]
    · have hab' : (R 3 != 0) = true := by simp [hab]
      gi_wp2_with fail
      refine ⟨trivial, ?_⟩
      have hge : DD ≤ (runN DD fm pre).1 * 18446744073709551616 + v := by
        have := HNeq.out; have := HDD.out; have := (val_bd _ _ _ _ hEw).2; have := (val_bd _ _ _ _ hNw).1; have := hR.2.2.2.1; omega
      clear hab
      gi_wp2_with fail
      refine ⟨trivial, (CallsIn.inRound l (callsIn_wide.2 (digit_any (R 3) v (R 0) (R 1) (R 2) e0 e1 e2 e3 hR.2.2.2 hNw hEw hE3 hNlt _))).mono ?_⟩
      rintro e w2 ⟨q, g0, g1, g2, g3, rfl, hg, hQv, hb2⟩
      have st3 := (st1.below ds hb2)
      have cq := st3.q p hp
      have cr0 := st3.r 0 (by decide)
      have cr1 := st3.r 1 (by decide)
      have cr2 := st3.r 2 (by decide)
      have cr3 := st3.r 3 (by decide)
      have fr := st3.fr
      have fq := st3.fq
      gi_wp2
      have st4 := (((((st3.setQ ds p hp q).setR ds 0 (by decide) g0).setR ds 1 (by decide) g1).setR ds 2 (by decide) g2).setR ds 3 (by decide) g3)
      have ko4 : KeepsOthers W _ := (((((ko1.trans (ko_below hb2)).trans (KeepsOthers.setCell w2 ⟨bQ, p, none⟩ (.int .u64 q))).trans (KeepsOthers.setCell _ ⟨bR, 0, none⟩ (.int .u64 g0))).trans (KeepsOthers.setCell _ ⟨bR, 1, none⟩ (.int .u64 g1))).trans (KeepsOthers.setCell _ ⟨bR, 2, none⟩ (.int .u64 g2))).trans (KeepsOthers.setCell _ ⟨bR, 3, none⟩ (.int .u64 g3))
      have hb4 : Below w.heap.size w _ := (((((belowStep hB1 (by have := hB1.size; exact this) hb2).setCell (p := ⟨bQ, p, none⟩) (by dsimp only; omega) (.int .u64 q)).setCell (p := ⟨bR, 0, none⟩) (by dsimp only; omega) (.int .u64 g0)).setCell (p := ⟨bR, 1, none⟩) (by dsimp only; omega) (.int .u64 g1)).setCell (p := ⟨bR, 2, none⟩) (by dsimp only; omega) (.int .u64 g2)).setCell (p := ⟨bR, 3, none⟩) (by dsimp only; omega) (.int .u64 g3)
      refine ⟨ko4, fun _ => st4.x, ⟨fun i => [g0, g1, g2, g3].getD i 0, hg, ?_, ?_⟩, hb4⟩
      · rw [runN_snoc]
        show val g0 g1 g2 g3 = ((runN DD fm pre).1 * 18446744073709551616 + v) % DD
        rw [hQv.out.2.2, HNeq.out, ← HDD.out]
      · rw [runN_snoc]
        have hq : q = ((runN DD fm pre).1 * 18446744073709551616 + v) / DD := by rw [hQv.out.2.1, HNeq.out, ← HDD.out]
        refine st4.like (upd4 _ _ _ _ _) (fun _ _ => rfl) (fun i _ => ?_)
        show _ = (if DD ≤ (runN DD fm pre).1 * 18446744073709551616 + v then upd (runN DD fm pre).2.2 p (((runN DD fm pre).1 * 18446744073709551616 + v) / DD) else (runN DD fm pre).2.2) i
        rw [if_pos hge, ← hq]
  case done =>
    rintro DF ys W hDF rfl ⟨⟨R, hR, hRv, st⟩, hB⟩ hK
    obtain ⟨Q, hQ⟩ : ∃ f : Nat → Int, f = (runN DD fm (seqk fm hm 12)).2.2 := ⟨_, rfl⟩
    have st' := st
    rw [← hQ] at st'
    have cr0 := st'.r 0 (by decide)
    have cr1 := st'.r 1 (by decide)
    have cr2 := st'.r 2 (by decide)
    have cr3 := st'.r 3 (by decide)
    have c40 := st'.z4 0 (by decide)
    have c41 := st'.z4 1 (by decide)
    have c42 := st'.z4 2 (by decide)
    have c43 := st'.z4 3 (by decide)
    have c50 := st'.z5 0 (by decide)
    have c51 := st'.z5 1 (by decide)
    have c52 := st'.z5 2 (by decide)
    have c53 := st'.z5 3 (by decide)
    have f4 := st'.f4
    have f5 := st'.f5
    obtain ⟨x1, x2, x3, x4, x5, x6, x7⟩ := ds
    have hszX := st.sz
    have s1 : bQ < W.heap.size := by omega
    have s2 : bR < W.heap.size := by omega
    have s3 : b4 < W.heap.size := by omega
    have s4 : b5 < W.heap.size := by omega
    have u1 : ¬ b4 = b5 := by omega
    have u2 : ¬ b5 = b4 := by omega
    have u3 : ¬ b4 = bR := by omega
    have u4 : ¬ b4 = bQ := by omega
    have u5 : ¬ b5 = bR := by omega
    have u6 : ¬ b5 = bQ := by omega
    have u7 : ¬ bR = b4 := by omega
    have u8 : ¬ bQ = b4 := by omega
    have u9 : ¬ bR = b5 := by omega
    have u10 : ¬ bQ = b5 := by omega
    have HRv : Hid (fval R = (runN DD fm (seqk fm hm 12)).1) := hRv
    have HQ : Hid (Q = (runN DD fm (seqk fm hm 12)).2.2) := hQ
    have HDD : Hid (DD = val e0 e1 e2 e3) := hDD
    have HF : Hid (fm = _) := hfm
    clear hRv hQ hDD hfm hfD
    have hu36 := Try.underlying41
    have hinf : (Try.prog.info? 41).map (·.size) = some ([.int .u64 (Q 0), .int .u64 (Q 1), .int .u64 (Q 2), .int .u64 (Q 3), .int .u64 (Q 4), .int .u64 (Q 5), .int .u64 (Q 6), .int .u64 (Q 7), .int .u64 (Q 8), .int .u64 (Q 9), .int .u64 (Q 10), .int .u64 (Q 11)] : List Value).length := by kernel_rfl
    have rg : W.rangeAt bQ 0 [.int .u64 (Q 0), .int .u64 (Q 1), .int .u64 (Q 2), .int .u64 (Q 3), .int .u64 (Q 4), .int .u64 (Q 5), .int .u64 (Q 6), .int .u64 (Q 7), .int .u64 (Q 8), .int .u64 (Q 9), .int .u64 (Q 10), .int .u64 (Q 11)] := range_of st'.q
    go_wp2
    go_region_held3 (fun w' => w'.rangeAt bQ 0 [.int .u64 (Q 0), .int .u64 (Q 1), .int .u64 (Q 2), .int .u64 (Q 3), .int .u64 (Q 4), .int .u64 (Q 5), .int .u64 (Q 6), .int .u64 (Q 7), .int .u64 (Q 8), .int .u64 (Q 9), .int .u64 (Q 10), .int .u64 (Q 11)] ∧ w'.cell? ⟨bR, 0, none⟩ = some (.int .u64 (R 0)) ∧ w'.cell? ⟨bR, 1, none⟩ = some (.int .u64 (R 1)) ∧ w'.cell? ⟨bR, 2, none⟩ = some (.int .u64 (R 2)) ∧ w'.cell? ⟨bR, 3, none⟩ = some (.int .u64 (R 3))) (simp [go_sem, range_set, *])
      (first
        | (go_at_call 54; refine (lowest_any (Q 0) (Q 1) (Q 2) (Q 3) (Q 4) (Q 5) (Q 6) (Q 7) (Q 8) (Q 9) (Q 10) (Q 11) _).mono ?_; rintro e v1 ⟨rfl, hb1⟩; have cr0x := (hb1.cell (p := ⟨bR, 0, none⟩) (by dsimp only; simp; omega)).trans cr0; have cr1x := (hb1.cell (p := ⟨bR, 1, none⟩) (by dsimp only; simp; omega)).trans cr1; have cr2x := (hb1.cell (p := ⟨bR, 2, none⟩) (by dsimp only; simp; omega)).trans cr2; have cr3x := (hb1.cell (p := ⟨bR, 3, none⟩) (by dsimp only; simp; omega)).trans cr3; have c40x := (hb1.cell (p := ⟨b4, 0, none⟩) (by dsimp only; simp; omega)).trans c40; have c41x := (hb1.cell (p := ⟨b4, 1, none⟩) (by dsimp only; simp; omega)).trans c41; have c42x := (hb1.cell (p := ⟨b4, 2, none⟩) (by dsimp only; simp; omega)).trans c42; have c43x := (hb1.cell (p := ⟨b4, 3, none⟩) (by dsimp only; simp; omega)).trans c43; have c50x := (hb1.cell (p := ⟨b5, 0, none⟩) (by dsimp only; simp; omega)).trans c50; have c51x := (hb1.cell (p := ⟨b5, 1, none⟩) (by dsimp only; simp; omega)).trans c51; have c52x := (hb1.cell (p := ⟨b5, 2, none⟩) (by dsimp only; simp; omega)).trans c52; have c53x := (hb1.cell (p := ⟨b5, 3, none⟩) (by dsimp only; simp; omega)).trans c53; have f4x := fun o => (hb1.frozen (p := ⟨b4, o, none⟩) (by dsimp only; simp; omega)).trans (f4 o); have f5x := fun o => (hb1.frozen (p := ⟨b5, o, none⟩) (by dsimp only; simp; omega)).trans (f5 o); have rg1 := range_below hb1 (by simp; omega) rg; have t1 : bQ < v1.heap.size := (by have := hb1.size; simp at this; omega); have t2 : bR < v1.heap.size := (by omega); have t3 : b4 < v1.heap.size := (by omega); have t4 : b5 < v1.heap.size := (by omega))
        | (go_at_call 67; refine (lower_any (R 0) (R 1) (R 2) (R 3) z hR hz0 hz1 _).mono ?_; rintro e v2 ⟨y0, y1, y2, y3, rfl, hy, hyv, hb2⟩; have cr0y := (hb2.cell (p := ⟨bR, 0, none⟩) (by dsimp only; omega)).trans cr0x; have cr1y := (hb2.cell (p := ⟨bR, 1, none⟩) (by dsimp only; omega)).trans cr1x; have cr2y := (hb2.cell (p := ⟨bR, 2, none⟩) (by dsimp only; omega)).trans cr2x; have cr3y := (hb2.cell (p := ⟨bR, 3, none⟩) (by dsimp only; omega)).trans cr3x; have c40y := (hb2.cell (p := ⟨b4, 0, none⟩) (by dsimp only; omega)).trans c40x; have c41y := (hb2.cell (p := ⟨b4, 1, none⟩) (by dsimp only; omega)).trans c41x; have c42y := (hb2.cell (p := ⟨b4, 2, none⟩) (by dsimp only; omega)).trans c42x; have c43y := (hb2.cell (p := ⟨b4, 3, none⟩) (by dsimp only; omega)).trans c43x; have c50y := (hb2.cell (p := ⟨b5, 0, none⟩) (by dsimp only; omega)).trans c50x; have c51y := (hb2.cell (p := ⟨b5, 1, none⟩) (by dsimp only; omega)).trans c51x; have c52y := (hb2.cell (p := ⟨b5, 2, none⟩) (by dsimp only; omega)).trans c52x; have c53y := (hb2.cell (p := ⟨b5, 3, none⟩) (by dsimp only; omega)).trans c53x; have f4y := fun o => (hb2.frozen (p := ⟨b4, o, none⟩) (by dsimp only; omega)).trans (f4x o); have f5y := fun o => (hb2.frozen (p := ⟨b5, o, none⟩) (by dsimp only; omega)).trans (f5x o); have rg2 := range_below hb2 (by omega) rg1; have k1 : bQ < v2.heap.size := (by have := hb2.size; omega); have k2 : bR < v2.heap.size := (by omega); have k3 : b4 < v2.heap.size := (by omega); have k4 : b5 < v2.heap.size := (by omega)))
    go_wp2
    rw [Exit.noGoto_ret]
    have koF : KeepsOthers W _ := ((((((((((KeepsOthers.drew W).trans (ko_below hb1)).trans (ko_below hb2)).trans (KeepsOthers.setCell _ ⟨b4, 0, none⟩ (.int .u64 (Q 0)))).trans (KeepsOthers.setCell _ ⟨b4, 1, none⟩ (.int .u64 (Q 1)))).trans (KeepsOthers.setCell _ ⟨b4, 2, none⟩ (.int .u64 (Q 2)))).trans (KeepsOthers.setCell _ ⟨b4, 3, none⟩ (.int .u64 (Q 3)))).trans (KeepsOthers.setCell _ ⟨b5, 0, none⟩ (.int .u64 y0))).trans (KeepsOthers.setCell _ ⟨b5, 1, none⟩ (.int .u64 y1))).trans (KeepsOthers.setCell _ ⟨b5, 2, none⟩ (.int .u64 y2))).trans (KeepsOthers.setCell _ ⟨b5, 3, none⟩ (.int .u64 y3))
    have bwF : Below w.heap.size w _ := (((((((((belowStep (belowStep hB.drew hB.drew.size hb1) (Nat.le_trans hB.drew.size hb1.size) hb2)).setCell (p := ⟨b4, 0, none⟩) (by dsimp only; omega) (.int .u64 (Q 0))).setCell (p := ⟨b4, 1, none⟩) (by dsimp only; omega) (.int .u64 (Q 1))).setCell (p := ⟨b4, 2, none⟩) (by dsimp only; omega) (.int .u64 (Q 2))).setCell (p := ⟨b4, 3, none⟩) (by dsimp only; omega) (.int .u64 (Q 3))).setCell (p := ⟨b5, 0, none⟩) (by dsimp only; omega) (.int .u64 y0)).setCell (p := ⟨b5, 1, none⟩) (by dsimp only; omega) (.int .u64 y1)).setCell (p := ⟨b5, 2, none⟩) (by dsimp only; omega) (.int .u64 y2)).setCell (p := ⟨b5, 3, none⟩) (by dsimp only; omega) (.int .u64 y3)
    have hKF := koF.same DF _ hK rfl
    have hbP := belowK_b (n₀ := bX + 1) (w := w6) hw6 _ DF _ (.deferred none) hDF hKF rfl rfl
    refine ⟨by simp, .inl ⟨_, _, rfl, run_takeDeferred hKF, ?_⟩⟩
    have ob40 := (hbP.cell (p := ⟨b4, 0, none⟩) (by dsimp only; omega)).trans (show _ = some (.int .u64 (Q 0)) by simp [go_sem, *])
    have ob41 := (hbP.cell (p := ⟨b4, 1, none⟩) (by dsimp only; omega)).trans (show _ = some (.int .u64 (Q 1)) by simp [go_sem, *])
    have ob42 := (hbP.cell (p := ⟨b4, 2, none⟩) (by dsimp only; omega)).trans (show _ = some (.int .u64 (Q 2)) by simp [go_sem, *])
    have ob43 := (hbP.cell (p := ⟨b4, 3, none⟩) (by dsimp only; omega)).trans (show _ = some (.int .u64 (Q 3)) by simp [go_sem, *])
    have ob50 := (hbP.cell (p := ⟨b5, 0, none⟩) (by dsimp only; omega)).trans (show _ = some (.int .u64 y0) by simp [go_sem, *])
    have ob51 := (hbP.cell (p := ⟨b5, 1, none⟩) (by dsimp only; omega)).trans (show _ = some (.int .u64 y1) by simp [go_sem, *])
    have ob52 := (hbP.cell (p := ⟨b5, 2, none⟩) (by dsimp only; omega)).trans (show _ = some (.int .u64 y2) by simp [go_sem, *])
    have ob53 := (hbP.cell (p := ⟨b5, 3, none⟩) (by dsimp only; omega)).trans (show _ = some (.int .u64 y3) by simp [go_sem, *])
    refine ⟨.tuple #[.agg #[.int .u64 (Q 0), .int .u64 (Q 1), .int .u64 (Q 2), .int .u64 (Q 3)], .agg #[.int .u64 y0, .int .u64 y1, .int .u64 y2, .int .u64 y3]], by simp [results, Try.results57, go_sem, *], ?_⟩
    have hrest := runN_rest DD hDp fm (seqk fm hm 12)
    have hall := runN_all DD hDp fm hm 12 (Nat.le_refl 12) (.inl rfl)
    have hpts := (runN_fits DD hDp fm hm 12 (Nat.le_refl 12)).2.2
    rw [← HQ.out] at hall hpts
    rw [top_all, top_all] at hall
    have hvm : vlong (fm 0) (fm 1) (fm 2) (fm 3) (fm 4) (fm 5) (fm 6) (fm 7) (fm 8) (fm 9) (fm 10) (fm 11) = vlong m0 m1 m2 m3 m4 m5 m6 m7 m8 m9 m10 m11 := by rw [HF.out]; rfl
    have hdp : 0 < val d0 d1 d2 d3 := by have := (val_bd _ _ _ _ hd).1; omega
    have hU := pw_pos z.toNat
    have hrv : val (R 0) (R 1) (R 2) (R 3) = (runN DD fm (seqk fm hm 12)).1 := HRv.out
    generalize (runN DD fm (seqk fm hm 12)).1 = rv at hall hrest hrv
    rw [hvm, NN4.out, HDD.out, NN1.out] at hall
    obtain ⟨k1, k2⟩ := div_end _ _ _ _ _ hU hdp hall hrest.1 (by rw [← NN1.out, ← HDD.out]; exact hrest.2)
    refine ⟨Q 0, Q 1, Q 2, Q 3, y0, y1, y2, y3, rfl, ⟨hpts 0, hpts 1, hpts 2, hpts 3⟩, hy, ⟨?_, ?_⟩, bwF.trans (hbP.mono (by omega))⟩
    · rw [low_of_long (Q 0) (Q 1) (Q 2) (Q 3) (Q 4) (Q 5) (Q 6) (Q 7) (Q 8) (Q 9) (Q 10) (Q 11) ⟨hpts 0, hpts 1, hpts 2, hpts 3, hpts 4, hpts 5, hpts 6, hpts 7, hpts 8, hpts 9, hpts 10, hpts 11⟩, k1]
    · rw [hyv.out, hrv, k2]
  case stop =>
    rintro DF c pre W hDF ⟨kk, hkk, rfl⟩ ⟨⟨rfl, hz9, hall9, R, hR, hRv, st⟩, hB⟩ hK
    have Z9 : Hid (_ = _) := hz9
    have A9 : Hid (∀ j, j < 12 → _ = _) := hall9
    clear hz9 hall9
    refine wpIn_wide.2 ?_
    obtain ⟨Q, hQ⟩ : ∃ f : Nat → Int, f = (runN DD fm (seqk fm hm kk)).2.2 := ⟨_, rfl⟩
    have st' := st
    rw [← hQ] at st'
    have cr0 := st'.r 0 (by decide)
    have cr1 := st'.r 1 (by decide)
    have cr2 := st'.r 2 (by decide)
    have cr3 := st'.r 3 (by decide)
    have c40 := st'.z4 0 (by decide)
    have c41 := st'.z4 1 (by decide)
    have c42 := st'.z4 2 (by decide)
    have c43 := st'.z4 3 (by decide)
    have c50 := st'.z5 0 (by decide)
    have c51 := st'.z5 1 (by decide)
    have c52 := st'.z5 2 (by decide)
    have c53 := st'.z5 3 (by decide)
    have f4 := st'.f4
    have f5 := st'.f5
    obtain ⟨x1, x2, x3, x4, x5, x6, x7⟩ := ds
    have hszX := st.sz
    have s1 : bQ < W.heap.size := by omega
    have s2 : bR < W.heap.size := by omega
    have s3 : b4 < W.heap.size := by omega
    have s4 : b5 < W.heap.size := by omega
    have u1 : ¬ b4 = b5 := by omega
    have u2 : ¬ b5 = b4 := by omega
    have u3 : ¬ b4 = bR := by omega
    have u4 : ¬ b4 = bQ := by omega
    have u5 : ¬ b5 = bR := by omega
    have u6 : ¬ b5 = bQ := by omega
    have u7 : ¬ bR = b4 := by omega
    have u8 : ¬ bQ = b4 := by omega
    have u9 : ¬ bR = b5 := by omega
    have u10 : ¬ bQ = b5 := by omega
    have HRv : Hid (fval R = (runN DD fm (seqk fm hm kk)).1) := hRv
    have HQ : Hid (Q = (runN DD fm (seqk fm hm kk)).2.2) := hQ
    have HDD : Hid (DD = val e0 e1 e2 e3) := hDD
    have HF : Hid (fm = _) := hfm
    clear hRv hQ hDD hfm hfD
    have hu36 := Try.underlying41
    have hinf : (Try.prog.info? 41).map (·.size) = some ([.int .u64 (Q 0), .int .u64 (Q 1), .int .u64 (Q 2), .int .u64 (Q 3), .int .u64 (Q 4), .int .u64 (Q 5), .int .u64 (Q 6), .int .u64 (Q 7), .int .u64 (Q 8), .int .u64 (Q 9), .int .u64 (Q 10), .int .u64 (Q 11)] : List Value).length := by kernel_rfl
    have rg : W.rangeAt bQ 0 [.int .u64 (Q 0), .int .u64 (Q 1), .int .u64 (Q 2), .int .u64 (Q 3), .int .u64 (Q 4), .int .u64 (Q 5), .int .u64 (Q 6), .int .u64 (Q 7), .int .u64 (Q 8), .int .u64 (Q 9), .int .u64 (Q 10), .int .u64 (Q 11)] := range_of st'.q
    go_wp2
    go_region_held3 (fun w' => w'.rangeAt bQ 0 [.int .u64 (Q 0), .int .u64 (Q 1), .int .u64 (Q 2), .int .u64 (Q 3), .int .u64 (Q 4), .int .u64 (Q 5), .int .u64 (Q 6), .int .u64 (Q 7), .int .u64 (Q 8), .int .u64 (Q 9), .int .u64 (Q 10), .int .u64 (Q 11)] ∧ w'.cell? ⟨bR, 0, none⟩ = some (.int .u64 (R 0)) ∧ w'.cell? ⟨bR, 1, none⟩ = some (.int .u64 (R 1)) ∧ w'.cell? ⟨bR, 2, none⟩ = some (.int .u64 (R 2)) ∧ w'.cell? ⟨bR, 3, none⟩ = some (.int .u64 (R 3))) (simp [go_sem, range_set, *])
      (first
        | (go_at_call 54; refine (lowest_any (Q 0) (Q 1) (Q 2) (Q 3) (Q 4) (Q 5) (Q 6) (Q 7) (Q 8) (Q 9) (Q 10) (Q 11) _).mono ?_; rintro e v1 ⟨rfl, hb1⟩; have cr0x := (hb1.cell (p := ⟨bR, 0, none⟩) (by dsimp only; simp; omega)).trans cr0; have cr1x := (hb1.cell (p := ⟨bR, 1, none⟩) (by dsimp only; simp; omega)).trans cr1; have cr2x := (hb1.cell (p := ⟨bR, 2, none⟩) (by dsimp only; simp; omega)).trans cr2; have cr3x := (hb1.cell (p := ⟨bR, 3, none⟩) (by dsimp only; simp; omega)).trans cr3; have c40x := (hb1.cell (p := ⟨b4, 0, none⟩) (by dsimp only; simp; omega)).trans c40; have c41x := (hb1.cell (p := ⟨b4, 1, none⟩) (by dsimp only; simp; omega)).trans c41; have c42x := (hb1.cell (p := ⟨b4, 2, none⟩) (by dsimp only; simp; omega)).trans c42; have c43x := (hb1.cell (p := ⟨b4, 3, none⟩) (by dsimp only; simp; omega)).trans c43; have c50x := (hb1.cell (p := ⟨b5, 0, none⟩) (by dsimp only; simp; omega)).trans c50; have c51x := (hb1.cell (p := ⟨b5, 1, none⟩) (by dsimp only; simp; omega)).trans c51; have c52x := (hb1.cell (p := ⟨b5, 2, none⟩) (by dsimp only; simp; omega)).trans c52; have c53x := (hb1.cell (p := ⟨b5, 3, none⟩) (by dsimp only; simp; omega)).trans c53; have f4x := fun o => (hb1.frozen (p := ⟨b4, o, none⟩) (by dsimp only; simp; omega)).trans (f4 o); have f5x := fun o => (hb1.frozen (p := ⟨b5, o, none⟩) (by dsimp only; simp; omega)).trans (f5 o); have rg1 := range_below hb1 (by simp; omega) rg; have t1 : bQ < v1.heap.size := (by have := hb1.size; simp at this; omega); have t2 : bR < v1.heap.size := (by omega); have t3 : b4 < v1.heap.size := (by omega); have t4 : b5 < v1.heap.size := (by omega))
        | (go_at_call 67; refine (lower_any (R 0) (R 1) (R 2) (R 3) z hR hz0 hz1 _).mono ?_; rintro e v2 ⟨y0, y1, y2, y3, rfl, hy, hyv, hb2⟩; have cr0y := (hb2.cell (p := ⟨bR, 0, none⟩) (by dsimp only; omega)).trans cr0x; have cr1y := (hb2.cell (p := ⟨bR, 1, none⟩) (by dsimp only; omega)).trans cr1x; have cr2y := (hb2.cell (p := ⟨bR, 2, none⟩) (by dsimp only; omega)).trans cr2x; have cr3y := (hb2.cell (p := ⟨bR, 3, none⟩) (by dsimp only; omega)).trans cr3x; have c40y := (hb2.cell (p := ⟨b4, 0, none⟩) (by dsimp only; omega)).trans c40x; have c41y := (hb2.cell (p := ⟨b4, 1, none⟩) (by dsimp only; omega)).trans c41x; have c42y := (hb2.cell (p := ⟨b4, 2, none⟩) (by dsimp only; omega)).trans c42x; have c43y := (hb2.cell (p := ⟨b4, 3, none⟩) (by dsimp only; omega)).trans c43x; have c50y := (hb2.cell (p := ⟨b5, 0, none⟩) (by dsimp only; omega)).trans c50x; have c51y := (hb2.cell (p := ⟨b5, 1, none⟩) (by dsimp only; omega)).trans c51x; have c52y := (hb2.cell (p := ⟨b5, 2, none⟩) (by dsimp only; omega)).trans c52x; have c53y := (hb2.cell (p := ⟨b5, 3, none⟩) (by dsimp only; omega)).trans c53x; have f4y := fun o => (hb2.frozen (p := ⟨b4, o, none⟩) (by dsimp only; omega)).trans (f4x o); have f5y := fun o => (hb2.frozen (p := ⟨b5, o, none⟩) (by dsimp only; omega)).trans (f5x o); have rg2 := range_below hb2 (by omega) rg1; have k1 : bQ < v2.heap.size := (by have := hb2.size; omega); have k2 : bR < v2.heap.size := (by omega); have k3 : b4 < v2.heap.size := (by omega); have k4 : b5 < v2.heap.size := (by omega)))
    go_wp2
    rw [Exit.noGoto_ret]
    have koF : KeepsOthers W _ := ((((((((((KeepsOthers.drew W).trans (ko_below hb1)).trans (ko_below hb2)).trans (KeepsOthers.setCell _ ⟨b4, 0, none⟩ (.int .u64 (Q 0)))).trans (KeepsOthers.setCell _ ⟨b4, 1, none⟩ (.int .u64 (Q 1)))).trans (KeepsOthers.setCell _ ⟨b4, 2, none⟩ (.int .u64 (Q 2)))).trans (KeepsOthers.setCell _ ⟨b4, 3, none⟩ (.int .u64 (Q 3)))).trans (KeepsOthers.setCell _ ⟨b5, 0, none⟩ (.int .u64 y0))).trans (KeepsOthers.setCell _ ⟨b5, 1, none⟩ (.int .u64 y1))).trans (KeepsOthers.setCell _ ⟨b5, 2, none⟩ (.int .u64 y2))).trans (KeepsOthers.setCell _ ⟨b5, 3, none⟩ (.int .u64 y3))
    have bwF : Below w.heap.size w _ := (((((((((belowStep (belowStep hB.drew hB.drew.size hb1) (Nat.le_trans hB.drew.size hb1.size) hb2)).setCell (p := ⟨b4, 0, none⟩) (by dsimp only; omega) (.int .u64 (Q 0))).setCell (p := ⟨b4, 1, none⟩) (by dsimp only; omega) (.int .u64 (Q 1))).setCell (p := ⟨b4, 2, none⟩) (by dsimp only; omega) (.int .u64 (Q 2))).setCell (p := ⟨b4, 3, none⟩) (by dsimp only; omega) (.int .u64 (Q 3))).setCell (p := ⟨b5, 0, none⟩) (by dsimp only; omega) (.int .u64 y0)).setCell (p := ⟨b5, 1, none⟩) (by dsimp only; omega) (.int .u64 y1)).setCell (p := ⟨b5, 2, none⟩) (by dsimp only; omega) (.int .u64 y2)).setCell (p := ⟨b5, 3, none⟩) (by dsimp only; omega) (.int .u64 y3)
    have hKF := koF.same DF _ hK rfl
    have hbP := belowK_b (n₀ := bX + 1) (w := w6) hw6 _ DF _ (.deferred none) hDF hKF rfl rfl
    refine ⟨by simp, .inl ⟨_, _, rfl, run_takeDeferred hKF, ?_⟩⟩
    have ob40 := (hbP.cell (p := ⟨b4, 0, none⟩) (by dsimp only; omega)).trans (show _ = some (.int .u64 (Q 0)) by simp [go_sem, *])
    have ob41 := (hbP.cell (p := ⟨b4, 1, none⟩) (by dsimp only; omega)).trans (show _ = some (.int .u64 (Q 1)) by simp [go_sem, *])
    have ob42 := (hbP.cell (p := ⟨b4, 2, none⟩) (by dsimp only; omega)).trans (show _ = some (.int .u64 (Q 2)) by simp [go_sem, *])
    have ob43 := (hbP.cell (p := ⟨b4, 3, none⟩) (by dsimp only; omega)).trans (show _ = some (.int .u64 (Q 3)) by simp [go_sem, *])
    have ob50 := (hbP.cell (p := ⟨b5, 0, none⟩) (by dsimp only; omega)).trans (show _ = some (.int .u64 y0) by simp [go_sem, *])
    have ob51 := (hbP.cell (p := ⟨b5, 1, none⟩) (by dsimp only; omega)).trans (show _ = some (.int .u64 y1) by simp [go_sem, *])
    have ob52 := (hbP.cell (p := ⟨b5, 2, none⟩) (by dsimp only; omega)).trans (show _ = some (.int .u64 y2) by simp [go_sem, *])
    have ob53 := (hbP.cell (p := ⟨b5, 3, none⟩) (by dsimp only; omega)).trans (show _ = some (.int .u64 y3) by simp [go_sem, *])
    refine ⟨.tuple #[.agg #[.int .u64 (Q 0), .int .u64 (Q 1), .int .u64 (Q 2), .int .u64 (Q 3)], .agg #[.int .u64 y0, .int .u64 y1, .int .u64 y2, .int .u64 y3]], by simp [results, Try.results57, go_sem, *], ?_⟩
    have hrest := runN_rest DD hDp fm (seqk fm hm kk)
    have hall := runN_all DD hDp fm hm kk hkk (.inr ⟨Z9.out, A9.out⟩)
    have hpts := (runN_fits DD hDp fm hm kk hkk).2.2
    rw [← HQ.out] at hall hpts
    rw [top_all, top_all] at hall
    have hvm : vlong (fm 0) (fm 1) (fm 2) (fm 3) (fm 4) (fm 5) (fm 6) (fm 7) (fm 8) (fm 9) (fm 10) (fm 11) = vlong m0 m1 m2 m3 m4 m5 m6 m7 m8 m9 m10 m11 := by rw [HF.out]; rfl
    have hdp : 0 < val d0 d1 d2 d3 := by have := (val_bd _ _ _ _ hd).1; omega
    have hU := pw_pos z.toNat
    have hrv : val (R 0) (R 1) (R 2) (R 3) = (runN DD fm (seqk fm hm kk)).1 := HRv.out
    generalize (runN DD fm (seqk fm hm kk)).1 = rv at hall hrest hrv
    rw [hvm, NN4.out, HDD.out, NN1.out] at hall
    obtain ⟨k1, k2⟩ := div_end _ _ _ _ _ hU hdp hall hrest.1 (by rw [← NN1.out, ← HDD.out]; exact hrest.2)
    refine ⟨Q 0, Q 1, Q 2, Q 3, y0, y1, y2, y3, rfl, ⟨hpts 0, hpts 1, hpts 2, hpts 3⟩, hy, ⟨?_, ?_⟩, bwF.trans (hbP.mono (by omega))⟩
    · rw [low_of_long (Q 0) (Q 1) (Q 2) (Q 3) (Q 4) (Q 5) (Q 6) (Q 7) (Q 8) (Q 9) (Q 10) (Q 11) ⟨hpts 0, hpts 1, hpts 2, hpts 3, hpts 4, hpts 5, hpts 6, hpts 7, hpts 8, hpts 9, hpts 10, hpts 11⟩, k1]
    · rw [hyv.out, hrv, k2]
end Go.Proofs.Ytgapcjdgakamoaa
