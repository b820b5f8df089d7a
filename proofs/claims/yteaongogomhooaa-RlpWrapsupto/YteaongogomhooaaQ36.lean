/- How many items there are, counted by the laws: count and few answer something. -/
import Derived.Test.YteaongogomhooaaQ35
namespace Go.Proofs.Yteaongogomhooaa
open Go.RowKit Go.Shelf Go.Sort

set_option maxRecDepth 20000 in
set_option maxHeartbeats 2000000 in
theorem count_any : ∀ (M : Nat) (x : Im), cnt x ≤ M → cnt x < 100000000000000000 → ∀ (lf : Int) (n : Nat) (w : World), n ≤ w.heap.size → inMem n w x →
    Calls Try.prog 23 #[x.val, .int .i64 lf] w fun e w' => (∃ v : Int, e = .returned (.int .i64 v)) ∧ Below w.heap.size w w'
  | 0, x, h, _, _, _, _, _, _ => by rw [cnt_eq] at h; omega
  | M + 1, x, hM, hcnt, lf, n, w, hn, hm => by
    have IH := fun (j : Nat) (a : Im) (ha : x.xs[j]? = some a) (lf : Int) (w : World) hn hm => count_any M a (by have := cnts_at x.xs j a ha; rw [cnt_eq] at hM; omega) (by have := cnts_at x.xs j a ha; rw [cnt_eq] at hcnt; omega) lf n w hn hm
    rw [inMem_eq] at hm
    have hl := len_cnts x.xs
    rw [cnt_eq] at hcnt
    obtain ⟨l, t, a, c, xs⟩ := x
    replace hm : rowMem n w a 0 xs := hm
    replace hl : xs.length ≤ cnts xs := hl
    replace hcnt : cnts xs + 1 < 100000000000000000 := hcnt
    have IH' : ∀ (j : Nat) (p : Im), xs[j]? = some p → ∀ (lf : Int) (w : World), n ≤ w.heap.size → inMem n w p → Calls Try.prog 23 #[p.val, .int .i64 lf] w fun e w' => (∃ v : Int, e = .returned (.int .i64 v)) ∧ Below w.heap.size w w' := IH
    clear IH hM
    show Calls Try.prog 23 #[.agg #[.bool l, .string t, .slice a xs.length c], .int .i64 lf] w fun e w' => (∃ v : Int, e = .returned (.int .i64 v)) ∧ Below w.heap.size w w'
    obtain ⟨N, hN⟩ : ∃ N, xs.length = N := ⟨_, rfl⟩
    rw [hN] at hl ⊢
    have hbx : ItIn w.heap.size (.mk l t a c xs) (w.alloc (.cells #[.bool l, .string t, .slice a N c] 24)) := by rw [← hN]; exact World.alloc_heap_new w _
    obtain ⟨lf1, hlf⟩ : ∃ q, IntKind.i64.wrap (lf - 1) = q := ⟨_, rfl⟩
    go_enter Try.func23, Try.ntmps23
    go_wp2_with fail
    refine wpOf (fun W => Below w.heap.size w W ∧ ItIn w.heap.size (.mk l t a c xs) W) ⟨(Below.refl _ w).alloc (Nat.le_refl _) _, hbx⟩ ?_
    rintro w1 ⟨B1, hb1⟩
    clear hbx
    obtain ⟨z, hz⟩ : ∃ z, w.heap.size = z := ⟨_, rfl⟩
    rw [hz] at B1 hb1 hn ⊢
    go_loopg [1, 5] N (fun gk v i wr => ∃ (k : Nat) (u : Int), k + gk = N ∧ v = .int .i64 u ∧ i = .int .i64 k ∧ Below z w wr ∧ ItIn z (.mk l t a c xs) wr)
    case atStart => exact ⟨0, lf1, by omega, rfl, rfl, B1, hb1⟩
    case round =>
      obtain ⟨k, u, hk, rfl, rfl, BW, hbx⟩ := hrel
      have hzr := hbx.lt
      have d2 : wr.cell? ⟨z, 2, none⟩ = some (.slice a N c) := by rw [Lib.cell_of_heap hbx, ← hN]; rfl
      by_cases hlt : k < N
      · have l1 : (k : Int) < N := by omega
        by_cases hu : 0 ≤ u
        · obtain ⟨p, hp⟩ : ∃ y, xs[k]? = some y := ⟨xs[k]'(by omega), List.getElem?_eq_getElem (by omega)⟩
          obtain ⟨⟨b, o, hb, rfl, c0, c1, c2⟩, hp2⟩ := row_at xs 0 hm k p hp
          have hp3 := inMem_below (by rw [hz]; exact hn) (BW.mono hn) p hp2
          have hbz : b < z := by omega
          replace c0 := (BW.cell (p := ⟨b, _, none⟩) hbz).trans c0
          replace c1 := (BW.cell (p := ⟨b, _, none⟩) hbz).trans c1
          replace c2 := (BW.cell (p := ⟨b, _, none⟩) hbz).trans c2
          obtain ⟨r, hr⟩ : ∃ p, o + 3 * k = p := ⟨_, rfl⟩
          rw [show o + 3 * (0 + k) = r by omega] at c0 c1 c2
          have hr2 : o + k * 3 = r := by omega
          have KS := IH' k p hp u
          have wk : IntKind.i64.wrap ((k : Int) + 1) = ((k + 1 : Nat) : Int) := by rw [IntKind.wrap_i64]; omega
          clear hp2
          obtain ⟨pl, pt, pa, pc, px⟩ := p
          simp only [Im.l, Im.t, Im.sl, Im.a, Im.xs, Im.c] at c0 c1 c2
          have HX : Hid (_ ∧ _) := ⟨BW, hbx⟩
          clear BW hbx
          go_wp2_with fail
          refine (KS _ (by omega) hp3).mono ?_
          rintro e w3 ⟨⟨v, rfl⟩, B3⟩
          clear KS hp3 c0 c1 c2
          go_wp2
          go_roundg (gk - 1)
          case measure => omega
          case rel =>
            obtain ⟨BW, hbx⟩ := HX.out
            exact ⟨k + 1, v, by omega, rfl, by first | rfl | (congr 1; omega), belowStep BW (by omega) B3, (B3.block z hzr).trans hbx⟩
        · have hu2 : u < 0 := by omega
          go_wp2
          go_ret
          exact ⟨⟨_, rfl⟩, BW⟩
      · have l1 : ¬ (k : Int) < N := by omega
        go_wp2
        go_ret
        exact ⟨⟨_, rfl⟩, BW⟩
set_option maxRecDepth 20000 in
set_option maxHeartbeats 2000000 in
theorem few_any (x y : Im) (hx : cnt x < 100000000000000000) (hy : cnt y < 100000000000000000) (n : Nat) (w : World) (hn : n ≤ w.heap.size) (hmx : inMem n w x) (hmy : inMem n w y) :
    Calls Try.prog 10 #[x.val, y.val] w fun e w' => (∃ b : Bool, e = .returned (.bool b)) ∧ Below w.heap.size w w' := by
  have KX := count_any (cnt x) x (Nat.le_refl _) hx 10000 n
  have KY := count_any (cnt y) y (Nat.le_refl _) hy 10000 n
  have HM : Hid (_ ∧ _) := ⟨hmx, hmy⟩
  clear hmx hmy
  obtain ⟨xl, xt, xa, xc, xx⟩ := x
  obtain ⟨yl, yt, ya, yc, yx⟩ := y
  dsimp only [Im.val, Im.l, Im.t, Im.sl, Im.a, Im.xs, Im.c] at KX KY ⊢
  have A1 : Below w.heap.size w ((w.alloc (.cells #[.bool xl, .string xt, .slice xa xx.length xc] 24)).alloc (.cells #[.bool yl, .string yt, .slice ya yx.length yc] 24)) := ((Below.refl _ w).alloc (Nat.le_refl _) _).alloc (by simp) _
  have hby : ItIn (w.heap.size + 1) (.mk yl yt ya yc yx) ((w.alloc (.cells #[.bool xl, .string xt, .slice xa xx.length xc] 24)).alloc (.cells #[.bool yl, .string yt, .slice ya yx.length yc] 24)) := by
    have := World.alloc_heap_new (w.alloc (.cells #[.bool xl, .string xt, .slice xa xx.length xc] 24)) (.cells #[.bool yl, .string yt, .slice ya yx.length yc] 24)
    rw [World.size_alloc] at this
    exact this
  go_enter Try.func10, Try.ntmps10
  go_wp2_with fail
  refine (KX _ (Nat.le_trans hn A1.size) (inMem_below hn (A1.mono hn) _ HM.out.1)).mono ?_
  rintro e w1 ⟨⟨v, rfl⟩, B1⟩
  have hby1 : ItIn (w.heap.size + 1) (.mk yl yt ya yc yx) w1 := (B1.block _ hby.lt).trans hby
  replace B1 := belowStep A1 A1.size B1
  have q0 : w1.cell? ⟨w.heap.size + 1, 0, none⟩ = some (.bool yl) := by rw [Lib.cell_of_heap hby1]; rfl
  have q1 : w1.cell? ⟨w.heap.size + 1, 1, none⟩ = some (.string yt) := by rw [Lib.cell_of_heap hby1]; rfl
  have q2 : w1.cell? ⟨w.heap.size + 1, 2, none⟩ = some (.slice ya yx.length yc) := by rw [Lib.cell_of_heap hby1]; rfl
  clear KX hby A1 hby1
  by_cases hv : 0 ≤ v
  · go_wp2_with fail
    refine (KY _ (Nat.le_trans hn B1.size) (inMem_below hn (B1.mono hn) _ HM.out.2)).mono ?_
    rintro e w2 ⟨⟨u, rfl⟩, B2⟩
    clear KY
    go_wp2
    go_ret
    exact ⟨⟨_, rfl⟩, belowStep B1 B1.size B2⟩
  · have hv2 : v < 0 := by omega
    go_wp2
    go_ret
    exact ⟨.inl rfl, B1⟩
end Go.Proofs.Yteaongogomhooaa
