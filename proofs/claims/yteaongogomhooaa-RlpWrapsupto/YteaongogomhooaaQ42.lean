/- RlpEncodes' walk: an item's bytes, or that it has none; which items are alike. -/
import Derived.Test.YteaongogomhooaaQ41
namespace Go.Proofs.Yteaongogomhooaa
open Go.RowKit Go.Shelf Go.Sort

set_option maxRecDepth 20000 in
set_option maxHeartbeats 2000000 in
theorem encodes_any (x y : Im) (htb : tb x + tb y < 3000000) (w : World) (hmx : inMem w.heap.size w x) (hmy : inMem w.heap.size w y) :
    Calls Try.prog 3 #[x.val, y.val] w fun e w' => e = .returned (.bool true) ∧ Below w.heap.size w w' := by
  have hcx := tb_cnt x
  have hcy := tb_cnt y
  have K0 := shown_any
  have K1 := fun n w hn hm hm2 => few_any x y (by omega) (by omega) n w hn hm hm2
  have K2 := fun n w hn hm => encode_any x (by omega) n w hn hm
  have K3 := fun n w hn hm => rencode_any x (by omega) n w hn hm
  have K4 := fun n w hn hm hm2 => same_any (cnt x) x y (Nat.le_refl _) (by omega) n w hn hm hm2
  have K5 := fun n w hn hm hm2 => rsame_any (cnt x) x y (Nat.le_refl _) (by omega) n w hn hm hm2
  obtain ⟨a, ha⟩ : ∃ a, encS x = a := ⟨_, rfl⟩
  obtain ⟨e, he⟩ : ∃ e, encE x = e := ⟨_, rfl⟩
  obtain ⟨sm, hsm⟩ : ∃ e, smI (er x) (er y) = e := ⟨_, rfl⟩
  rw [ha, he] at K2 K3
  rw [hsm] at K4 K5
  have HX : Hid (∀ W, Below w.heap.size w W → w.heap.size ≤ W.heap.size ∧ inMem w.heap.size W x ∧ inMem w.heap.size W y) := fun W hB => ⟨hB.size, inMem_below (Nat.le_refl _) hB _ hmx, inMem_below (Nat.le_refl _) hB _ hmy⟩
  have A0 := be_new w (.cells #[.bool x.l, .string x.t, x.sl] 24)
  have A1 := be_new (w.alloc (.cells #[.bool x.l, .string x.t, x.sl] 24)) (.cells #[.bool y.l, .string y.t, y.sl] 24)
  have hx0 : ItIn w.heap.size x ((w.alloc (.cells #[.bool x.l, .string x.t, x.sl] 24)).alloc (.cells #[.bool y.l, .string y.t, y.sl] 24)) := (A1.block _ (by simp)).trans (it_new w x)
  have hy0 : ItIn (w.heap.size + 1) y ((w.alloc (.cells #[.bool x.l, .string x.t, x.sl] 24)).alloc (.cells #[.bool y.l, .string y.t, y.sl] 24)) := by
    have := it_new (w.alloc (.cells #[.bool x.l, .string x.t, x.sl] 24)) y
    rw [World.size_alloc] at this
    exact this
  replace A0 := belowStep A0 A0.size A1
  clear hmx hmy ha he hsm hcx hcy htb A1
  obtain ⟨xl, xt, xa, xc, xx⟩ := x
  obtain ⟨yl, yt, ya, yc, yx⟩ := y
  dsimp only [Im.val, Im.l, Im.t, Im.sl, Im.a, Im.xs, Im.c] at K1 K2 K3 K4 K5 hx0 hy0 A0 ⊢
  have hsb : (a.toList == a.toList) = true := beq_self_eq_true _
  go_enter Try.func3, Try.ntmps3
  go_wp2_with fail
  refine (K0 _).mono ?_
  rintro e0 w1 ⟨rfl, B1⟩
  have hx1 : ItIn w.heap.size (.mk xl xt xa xc xx) w1 := (B1.block _ hx0.lt).trans hx0
  have hy1 : ItIn (w.heap.size + 1) (.mk yl yt ya yc yx) w1 := (B1.block _ hy0.lt).trans hy0
  have BW := belowStep A0 A0.size B1
  clear A0 B1 hx0 hy0 K0
  have q0 : w1.cell? ⟨w.heap.size, 0, none⟩ = some (.bool xl) := by rw [Lib.cell_of_heap hx1]; rfl
  have q1 : w1.cell? ⟨w.heap.size, 1, none⟩ = some (.string xt) := by rw [Lib.cell_of_heap hx1]; rfl
  have q2 : w1.cell? ⟨w.heap.size, 2, none⟩ = some (.slice xa xx.length xc) := by rw [Lib.cell_of_heap hx1]; rfl
  have p0 : w1.cell? ⟨w.heap.size + 1, 0, none⟩ = some (.bool yl) := by rw [Lib.cell_of_heap hy1]; rfl
  have p1 : w1.cell? ⟨w.heap.size + 1, 1, none⟩ = some (.string yt) := by rw [Lib.cell_of_heap hy1]; rfl
  have p2 : w1.cell? ⟨w.heap.size + 1, 2, none⟩ = some (.slice ya yx.length yc) := by rw [Lib.cell_of_heap hy1]; rfl
  go_wp2_with fail
  refine (K1 _ _ (HX.out _ BW).1 (HX.out _ BW).2.1 (HX.out _ BW).2.2).mono ?_
  rintro e0 w2 ⟨⟨fw, rfl⟩, B2⟩
  have hx2 : ItIn w.heap.size (.mk xl xt xa xc xx) w2 := (B2.block _ hx1.lt).trans hx1
  have hy2 : ItIn (w.heap.size + 1) (.mk yl yt ya yc yx) w2 := (B2.block _ hy1.lt).trans hy1
  replace BW := belowStep BW BW.size B2
  clear B2 q0 q1 q2 p0 p1 p2 K1 hx1 hy1
  cases fw with
  | false =>
    go_wp2
    go_ret
    exact ⟨rfl, BW⟩
  | true =>
    have q0 : w2.cell? ⟨w.heap.size, 0, none⟩ = some (.bool xl) := by rw [Lib.cell_of_heap hx2]; rfl
    have q1 : w2.cell? ⟨w.heap.size, 1, none⟩ = some (.string xt) := by rw [Lib.cell_of_heap hx2]; rfl
    have q2 : w2.cell? ⟨w.heap.size, 2, none⟩ = some (.slice xa xx.length xc) := by rw [Lib.cell_of_heap hx2]; rfl
    have p0 : w2.cell? ⟨w.heap.size + 1, 0, none⟩ = some (.bool yl) := by rw [Lib.cell_of_heap hy2]; rfl
    have p1 : w2.cell? ⟨w.heap.size + 1, 1, none⟩ = some (.string yt) := by rw [Lib.cell_of_heap hy2]; rfl
    have p2 : w2.cell? ⟨w.heap.size + 1, 2, none⟩ = some (.slice ya yx.length yc) := by rw [Lib.cell_of_heap hy2]; rfl
    go_wp2_with fail
    refine (K2 _ _ (HX.out _ BW).1 (HX.out _ BW).2.1).mono ?_
    rintro e0 w3 ⟨rfl, B3⟩
    have hx3 : ItIn w.heap.size (.mk xl xt xa xc xx) w3 := (B3.block _ hx2.lt).trans hx2
    have hy3 : ItIn (w.heap.size + 1) (.mk yl yt ya yc yx) w3 := (B3.block _ hy2.lt).trans hy2
    replace BW := belowStep BW BW.size B3
    clear B3 q0 q1 q2 p0 p1 p2 K2 hx2 hy2
    have q0 : w3.cell? ⟨w.heap.size, 0, none⟩ = some (.bool xl) := by rw [Lib.cell_of_heap hx3]; rfl
    have q1 : w3.cell? ⟨w.heap.size, 1, none⟩ = some (.string xt) := by rw [Lib.cell_of_heap hx3]; rfl
    have q2 : w3.cell? ⟨w.heap.size, 2, none⟩ = some (.slice xa xx.length xc) := by rw [Lib.cell_of_heap hx3]; rfl
    have p0 : w3.cell? ⟨w.heap.size + 1, 0, none⟩ = some (.bool yl) := by rw [Lib.cell_of_heap hy3]; rfl
    have p1 : w3.cell? ⟨w.heap.size + 1, 1, none⟩ = some (.string yt) := by rw [Lib.cell_of_heap hy3]; rfl
    have p2 : w3.cell? ⟨w.heap.size + 1, 2, none⟩ = some (.slice ya yx.length yc) := by rw [Lib.cell_of_heap hy3]; rfl
    go_wp2_with fail
    refine (K3 _ _ (HX.out _ BW).1 (HX.out _ BW).2.1).mono ?_
    rintro e0 w4 ⟨rfl, B4⟩
    have hx4 : ItIn w.heap.size (.mk xl xt xa xc xx) w4 := (B4.block _ hx3.lt).trans hx3
    have hy4 : ItIn (w.heap.size + 1) (.mk yl yt ya yc yx) w4 := (B4.block _ hy3.lt).trans hy3
    replace BW := belowStep BW BW.size B4
    clear B4 q0 q1 q2 p0 p1 p2 K3 hx3 hy3
    have q0 : w4.cell? ⟨w.heap.size, 0, none⟩ = some (.bool xl) := by rw [Lib.cell_of_heap hx4]; rfl
    have q1 : w4.cell? ⟨w.heap.size, 1, none⟩ = some (.string xt) := by rw [Lib.cell_of_heap hx4]; rfl
    have q2 : w4.cell? ⟨w.heap.size, 2, none⟩ = some (.slice xa xx.length xc) := by rw [Lib.cell_of_heap hx4]; rfl
    have p0 : w4.cell? ⟨w.heap.size + 1, 0, none⟩ = some (.bool yl) := by rw [Lib.cell_of_heap hy4]; rfl
    have p1 : w4.cell? ⟨w.heap.size + 1, 1, none⟩ = some (.string yt) := by rw [Lib.cell_of_heap hy4]; rfl
    have p2 : w4.cell? ⟨w.heap.size + 1, 2, none⟩ = some (.slice ya yx.length yc) := by rw [Lib.cell_of_heap hy4]; rfl
    have G : ∀ (q : Addr) (v : Value), q.block < w4.heap.size → w4.cell? q = some v → ∀ d os, (grow (redrawn w4 d) os).cell? q = some v := fun q v hq hv d os => ((below_regrown w4 d os).cell hq).trans hv
    have r0 := G _ _ hx4.lt q0
    have r1 := G _ _ hx4.lt q1
    have r2 := G _ _ hx4.lt q2
    have r3 := G _ _ hy4.lt p0
    have r4 := G _ _ hy4.lt p1
    have r5 := G _ _ hy4.lt p2
    have HI : Hid (∀ d os, w.heap.size ≤ (grow (redrawn w4 d) os).heap.size ∧ inMem w.heap.size (grow (redrawn w4 d) os) (.mk xl xt xa xc xx) ∧ inMem w.heap.size (grow (redrawn w4 d) os) (.mk yl yt ya yc yx)) := fun d os => HX.out _ (belowStep BW BW.size (below_regrown w4 d os))
    have cA : ∀ d os, Calls Try.prog 13 #[.agg #[.bool xl, .string xt, .slice xa xx.length xc], .agg #[.bool yl, .string yt, .slice ya yx.length yc]] (grow (redrawn w4 d) os) fun e w'' => e = .returned (.bool sm) ∧ ∃ p : Regrown, w'' = grow (redrawn w4 p.d) p.os := fun d os => Calls.regrown_of (K4 _ _ (HI.out d os).1 (HI.out d os).2.1 (HI.out d os).2.2)
    have cB : ∀ d os, Calls Try.prog 14 #[.agg #[.bool xl, .string xt, .slice xa xx.length xc], .agg #[.bool yl, .string yt, .slice ya yx.length yc]] (grow (redrawn w4 d) os) fun e w'' => e = .returned (.bool sm) ∧ ∃ p : Regrown, w'' = grow (redrawn w4 p.d) p.os := fun d os => Calls.regrown_of (K5 _ _ (HI.out d os).1 (HI.out d os).2.1 (HI.out d os).2.2)
    clear G hx4 hy4 q0 q1 q2 p0 p1 p2 K4 K5 HX HI
    go_wp2_with fail
    refine wp_region_quiet_below (by kernel_rfl) (by kernel_rfl) ?_
    iterate 14 (quiet_step (fail))
    quiet_step (exact cA _ _)
    iterate 2 (quiet_step (fail))
    quiet_step (exact cB _ _)
    repeat (quiet_step (fail))
    refine wpQuiet_nil ?_
    rintro w5 hw5
    have B5 : Below w4.heap.size w4 w5 := by
      obtain ⟨p, rfl⟩ := hw5
      exact below_regrown _ _ _
    clear hw5 cA cB r0 r1 r2 r3 r4 r5
    go_wp2
    go_ret
    exact ⟨rfl, belowStep BW BW.size B5⟩
end Go.Proofs.Yteaongogomhooaa
