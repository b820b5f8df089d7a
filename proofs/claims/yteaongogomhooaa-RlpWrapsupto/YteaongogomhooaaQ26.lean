/- How deep an item is: the reference's Deep. -/
import Derived.Test.YteaongogomhooaaQ25
namespace Go.Proofs.Yteaongogomhooaa
open Go.RowKit Go.Shelf Go.Sort

/-- Deeper than so much? -/
def dpr : Nat → Im → Bool
  | 0, _ => true
  | m + 1, x => x.xs.any (dpr m)
theorem any_take (xs : List Im) (g : Im → Bool) (k : Nat) (y : Im) (h : xs[k]? = some y) : (xs.take (k + 1)).any g = ((xs.take k).any g || g y) := by
  rw [List.take_add_one, h, List.any_append]
  simp

set_option maxRecDepth 20000 in
set_option maxHeartbeats 2000000 in
theorem rdeep_any : ∀ (m : Nat) (x : Im), m < 100 → cnt x < 100000000000000000 → ∀ (n : Nat) (w : World), n ≤ w.heap.size → inMem n w x →
    Calls Try.prog 29 #[x.val, .int .i64 m] w fun e w' => e = .returned (.bool (dpr m x)) ∧ Below w.heap.size w w'
  | 0, x, _, _, n, w, hn, hm => by
    obtain ⟨l, t, a, c, xs⟩ := x
    show Calls Try.prog 29 #[.agg #[.bool l, .string t, .slice a xs.length c], .int .i64 0] w _
    go_enter Try.func29, Try.ntmps29
    go_wp2
    go_ret
    exact ⟨rfl, (Below.refl _ w).alloc (Nat.le_refl _) _⟩
  | m + 1, x, hm100, hcnt, n, w, hn, hm => by
    have IH := fun (j : Nat) (y : Im) (hy : x.xs[j]? = some y) (w : World) hn hm => rdeep_any m y (by omega) (by have := cnts_at x.xs j y hy; rw [cnt_eq] at hcnt; omega) n w hn hm
    rw [inMem_eq] at hm
    have hl := len_cnts x.xs
    rw [cnt_eq] at hcnt
    obtain ⟨l, t, a, c, xs⟩ := x
    replace hm : rowMem n w a 0 xs := hm
    replace hl : xs.length ≤ cnts xs := hl
    replace hcnt : cnts xs + 1 < 100000000000000000 := hcnt
    show Calls Try.prog 29 #[.agg #[.bool l, .string t, .slice a xs.length c], .int .i64 ((m + 1 : Nat) : Int)] w fun e w' => e = .returned (.bool (xs.any (dpr m))) ∧ _
    have IH' : ∀ (j : Nat) (y : Im), xs[j]? = some y → ∀ w : World, n ≤ w.heap.size → inMem n w y → Calls Try.prog 29 #[y.val, .int .i64 m] w fun e w' => e = .returned (.bool (dpr m y)) ∧ Below w.heap.size w w' := IH
    clear IH
    have l0 : ¬ ((m + 1 : Nat) : Int) < 1 := by omega
    have wm : ((m + 1 : Nat) : Int) - 1 = m := by omega
    obtain ⟨M, hM⟩ : ∃ M, m + 1 = M := ⟨_, rfl⟩
    rw [hM] at l0 wm ⊢
    clear hM
    go_enter Try.func29, Try.ntmps29
    go_wp2_with fail
    have hbx : ItIn w.heap.size (.mk l t a c xs) (w.alloc (.cells #[.bool l, .string t, .slice a xs.length c] 24)) := World.alloc_heap_new w _
    refine wpOf (fun W => Below w.heap.size w W ∧ ItIn w.heap.size (.mk l t a c xs) W) ⟨(Below.refl _ w).alloc (Nat.le_refl _) _, hbx⟩ ?_
    rintro w1 ⟨B1, hb1⟩
    clear hbx
    obtain ⟨z, hz⟩ : ∃ z, w.heap.size = z := ⟨_, rfl⟩
    have HZ : Hid (w.heap.size = z) := hz
    rw [hz] at B1 hb1 hn ⊢
    obtain ⟨N, hN⟩ : ∃ N, xs.length = N := ⟨_, rfl⟩
    rw [hN] at hl ⊢
    go_loopg [5] N (fun gk i wr => ∃ k : Nat, k + gk = N ∧ i = .int .i64 k ∧ (xs.take k).any (dpr m) = false ∧ Below z w wr ∧ ItIn z (.mk l t a c xs) wr)
    case atStart => exact ⟨0, by omega, rfl, rfl, B1, hb1⟩
    case round =>
      obtain ⟨k, hk, rfl, hany, BW, hbx⟩ := hrel
      have hzr := hbx.lt
      have d2 : wr.cell? ⟨z, 2, none⟩ = some (.slice a N c) := by rw [Lib.cell_of_heap hbx, ← hN]; rfl
      by_cases hlt : k < N
      · have l1 : (k : Int) < N := by omega
        obtain ⟨y, hy⟩ : ∃ y, xs[k]? = some y := ⟨xs[k]'(by omega), List.getElem?_eq_getElem (by omega)⟩
        obtain ⟨⟨b, o, hb, rfl, c0, c1, c2⟩, hy2⟩ := row_at xs 0 hm k y hy
        have hy3 := inMem_below (by rw [hz]; exact hn) (BW.mono hn) y hy2
        have hbz : b < z := by omega
        replace c0 := (BW.cell (p := ⟨b, _, none⟩) hbz).trans c0
        replace c1 := (BW.cell (p := ⟨b, _, none⟩) hbz).trans c1
        replace c2 := (BW.cell (p := ⟨b, _, none⟩) hbz).trans c2
        obtain ⟨p, hp⟩ : ∃ p, o + 3 * k = p := ⟨_, rfl⟩
        rw [show o + 3 * (0 + k) = p by omega] at c0 c1 c2
        have hp2 : o + k * 3 = p := by omega
        have KS := IH' k y hy
        have hst := any_take xs (dpr m) k y hy
        rw [hany, Bool.false_or] at hst
        obtain ⟨dy, hdy⟩ : ∃ q, dpr m y = q := ⟨_, rfl⟩
        rw [hdy] at KS hst
        have wk : IntKind.i64.wrap ((k : Int) + 1) = ((k + 1 : Nat) : Int) := by rw [IntKind.wrap_i64]; omega
        have HD : Hid _ := hdy
        clear hdy
        have hmem : Hid (y ∈ xs) := List.mem_of_getElem? hy
        obtain ⟨yl, yt, ya, yc, yx⟩ := y
        simp only [Im.l, Im.t, Im.sl, Im.a, Im.xs, Im.c] at c0 c1 c2
        have HX : Hid (_ ∧ _ ∧ _ ∧ _) := ⟨hst, BW, hbx, hany⟩
        clear hst hany
        go_wp2_with fail
        refine (KS _ (by omega) hy3).mono ?_
        rintro e w3 ⟨rfl, B3⟩
        clear KS hy3 hy2 c0 c1 c2
        cases dy with
        | true =>
          go_wp2
          go_ret
          refine ⟨?_, by rw [hz]; exact belowStep HX.out.2.1 (by omega) B3⟩
          rw [show xs.any (dpr m) = true from List.any_eq_true.2 ⟨_, hmem.out, HD.out⟩]
          rfl
        | false =>
          go_wp2
          go_roundg (gk - 1)
          case measure => omega
          case rel =>
            obtain ⟨hst, BW, hbx, _⟩ := HX.out
            exact ⟨k + 1, by omega, by first | rfl | (congr 1; omega), hst, belowStep BW (by omega) B3, (B3.block z hzr).trans hbx⟩
      · have hk2 : k = N := by omega
        have l1 : ¬ (k : Int) < N := by omega
        rw [hk2, ← hN, List.take_length] at hany
        have HX : Hid _ := hany
        clear hany
        go_wp2
        go_ret
        exact ⟨by rw [HX.out]; rfl, BW⟩
end Go.Proofs.Yteaongogomhooaa
