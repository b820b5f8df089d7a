/- Which items are alike: the program's Same. -/
import Derived.Test.YteaongogomhooaaQ38
namespace Go.Proofs.Yteaongogomhooaa
open Go.RowKit Go.Shelf Go.Sort

set_option maxRecDepth 20000 in
set_option maxHeartbeats 2000000 in
theorem equalFunc_of (xs ys : List Im) (hc : xs.length < 100000000000000000) (n : Nat) (a a' : Option Addr) (c c' : Nat)
    (IH : ∀ (j : Nat) (p q : Im), xs[j]? = some p → ∀ w : World, n ≤ w.heap.size → inMem n w p → inMem n w q → Calls Try.prog 13 #[p.val, q.val] w fun e w' => e = .returned (.bool (smI (er p) (er q))) ∧ Below w.heap.size w w')
    (w : World) (hn : n ≤ w.heap.size) (hmx : rowMem n w a 0 xs) (hmy : rowMem n w a' 0 ys) :
    Calls Try.prog 32 #[.slice a xs.length c, .slice a' ys.length c', .func (.func 13) #[] #[]] w fun e w' => e = .returned (.bool (smIs (ers xs) (ers ys))) ∧ Below w.heap.size w w' := by
  by_cases hlen : xs.length = ys.length
  · obtain ⟨N, hN⟩ : ∃ N, xs.length = N := ⟨_, rfl⟩
    have hN2 : ys.length = N := by omega
    rw [hN, hN2]
    rw [hN] at hc
    clear hlen
    go_enter Try.func32, Try.ntmps32
    go_wp2_with fail
    obtain ⟨z, hz⟩ : ∃ z, w.heap.size = z := ⟨_, rfl⟩
    rw [hz] at hn
    go_loopg [17] N (fun gk i wr => ∃ k : Nat, k + gk = N ∧ i = .int .i64 k ∧ smIs ((ers xs).take k) ((ers ys).take k) = true ∧ Below z w wr)
    case atStart => exact ⟨0, by omega, rfl, rfl, by rw [← hz]; exact Below.refl _ _⟩
    case round =>
      obtain ⟨k, hk, rfl, hsm, BW⟩ := hrel
      have hwz : z ≤ wr.heap.size := by have := BW.size; omega
      by_cases hlt : k < N
      · have l1 : (k : Int) < N := by omega
        obtain ⟨p, hp⟩ : ∃ y, xs[k]? = some y := ⟨xs[k]'(by omega), List.getElem?_eq_getElem (by omega)⟩
        obtain ⟨q, hq⟩ : ∃ y, ys[k]? = some y := ⟨ys[k]'(by omega), List.getElem?_eq_getElem (by omega)⟩
        obtain ⟨⟨b, o, hb, rfl, c0, c1, c2⟩, hp2⟩ := row_at xs 0 hmx k p hp
        obtain ⟨⟨b', o', hb', rfl, c0', c1', c2'⟩, hq2⟩ := row_at ys 0 hmy k q hq
        have hp3 := inMem_below (by rw [hz]; exact hn) (BW.mono hn) p hp2
        have hq3 := inMem_below (by rw [hz]; exact hn) (BW.mono hn) q hq2
        have hbz : b < z := by omega
        have hbz' : b' < z := by omega
        replace c0 := (BW.cell (p := ⟨b, _, none⟩) hbz).trans c0
        replace c1 := (BW.cell (p := ⟨b, _, none⟩) hbz).trans c1
        replace c2 := (BW.cell (p := ⟨b, _, none⟩) hbz).trans c2
        replace c0' := (BW.cell (p := ⟨b', _, none⟩) hbz').trans c0'
        replace c1' := (BW.cell (p := ⟨b', _, none⟩) hbz').trans c1'
        replace c2' := (BW.cell (p := ⟨b', _, none⟩) hbz').trans c2'
        obtain ⟨r, hr⟩ : ∃ p, o + 3 * k = p := ⟨_, rfl⟩
        obtain ⟨r', hr'⟩ : ∃ p, o' + 3 * k = p := ⟨_, rfl⟩
        rw [show o + 3 * (0 + k) = r by omega] at c0 c1 c2
        rw [show o' + 3 * (0 + k) = r' by omega] at c0' c1' c2'
        have hr2 : o + k * 3 = r := by omega
        have hr2' : o' + k * 3 = r' := by omega
        have KS := fun w hn hm hm2 => IH k p q hp w hn hm hm2
        have hst := sm_take (ers xs) (ers ys) k (er p) (er q) (ers_at xs k p hp) (ers_at ys k q hq)
        rw [hsm, Bool.true_and] at hst
        obtain ⟨dy, hdy⟩ : ∃ q', smI (er p) (er q) = q' := ⟨_, rfl⟩
        rw [hdy] at KS hst
        have wk : IntKind.i64.wrap ((k : Int) + 1) = ((k + 1 : Nat) : Int) := by rw [IntKind.wrap_i64]; omega
        clear hdy hp2 hq2
        have A1 := be_new wr (.cells #[.bool p.l, .string p.t, p.sl] 24)
        have A2 := be_new (wr.alloc (.cells #[.bool p.l, .string p.t, p.sl] 24)) (.cells #[.bool q.l, .string q.t, q.sl] 24)
        have A12 := belowStep A1 A1.size A2
        clear A1 A2
        obtain ⟨pl, pt, pa, pc, px⟩ := p
        obtain ⟨ql, qt, qa, qc, qx⟩ := q
        simp only [Im.l, Im.t, Im.sl, Im.a, Im.xs, Im.c] at c0 c1 c2 c0' c1' c2' A12
        have hbn : b ≠ wr.heap.size := by omega
        have hbn' : b' ≠ wr.heap.size := by omega
        have hbl : b < wr.heap.size := by omega
        have hbl' : b' < wr.heap.size := by omega
        have HX : Hid (_ ∧ _ ∧ _) := ⟨hst, BW, A12⟩
        clear hst hsm BW A12
        dsimp only [Im.val, Im.l, Im.t, Im.sl, Im.a, Im.xs, Im.c] at KS
        go_wp2_with fail
        refine (KS _ (Nat.le_trans (Nat.le_trans hn hwz) HX.out.2.2.size) (inMem_below (Nat.le_trans hn hwz) (HX.out.2.2.mono (Nat.le_trans hn hwz)) _ hp3) (inMem_below (Nat.le_trans hn hwz) (HX.out.2.2.mono (Nat.le_trans hn hwz)) _ hq3)).mono ?_
        rintro e w3 ⟨rfl, B3⟩
        have B4 := belowStep HX.out.2.2 HX.out.2.2.size B3
        clear B3 KS hp3 hq3 c0 c1 c2 c0' c1' c2'
        cases dy with
        | false =>
          go_wp2
          go_ret
          refine ⟨?_, by rw [hz]; exact belowStep HX.out.2.1 hwz B4⟩
          rw [sm_take_false _ _ _ HX.out.1]
          rfl
        | true =>
          go_wp2
          go_roundg (gk - 1)
          case measure => omega
          case rel =>
            obtain ⟨hst, BW, -⟩ := HX.out
            exact ⟨k + 1, by omega, by first | rfl | (congr 1; omega), hst, belowStep BW hwz B4⟩
      · have hk2 : k = N := by omega
        have l1 : ¬ (k : Int) < N := by omega
        rw [hk2, List.take_of_length_le (by rw [ers_len]; omega), List.take_of_length_le (by rw [ers_len]; omega)] at hsm
        have HX : Hid _ := hsm
        clear hsm
        go_wp2
        go_ret
        exact ⟨by rw [HX.out]; rfl, BW⟩
  · have hsm : smIs (ers xs) (ers ys) = false := by
      cases hs : smIs (ers xs) (ers ys) with
      | false => rfl
      | true => exact absurd (by rw [← ers_len xs, ← ers_len ys]; exact smIs_len _ _ hs) hlen
    rw [hsm]
    have l3 : ((xs.length : Int) == ys.length) = false := by rw [beq_eq_false_iff_ne]; omega
    have l4 : ((xs.length : Int) != ys.length) = true := by rw [bne, l3]; rfl
    have l5 : ¬ (xs.length : Int) = ys.length := by omega
    clear hsm hlen
    go_enter Try.func32, Try.ntmps32
    go_wp2
    go_ret
    exact ⟨rfl, Below.refl _ _⟩

set_option maxRecDepth 20000 in
set_option maxHeartbeats 2000000 in
theorem same_any : ∀ (M : Nat) (x y : Im), cnt x ≤ M → cnt x < 100000000000000000 → ∀ (n : Nat) (w : World), n ≤ w.heap.size → inMem n w x → inMem n w y →
    Calls Try.prog 13 #[x.val, y.val] w fun e w' => e = .returned (.bool (smI (er x) (er y))) ∧ Below w.heap.size w w'
  | 0, x, y, h, _, _, _, _, _, _ => by rw [cnt_eq] at h; omega
  | M + 1, x, y, hM, hcnt, n, w, hn, hmx, hmy => by
    have IH := fun (j : Nat) (a b : Im) (ha : x.xs[j]? = some a) (w : World) hn hm hm2 => same_any M a b (by have := cnts_at x.xs j a ha; rw [cnt_eq] at hM; omega) (by have := cnts_at x.xs j a ha; rw [cnt_eq] at hcnt; omega) n w hn hm hm2
    rw [inMem_eq] at hmx hmy
    have hl := len_cnts x.xs
    rw [cnt_eq] at hcnt
    obtain ⟨l, t, a, c, xs⟩ := x
    obtain ⟨l', t', a', c', ys⟩ := y
    replace hmx : rowMem n w a 0 xs := hmx
    replace hmy : rowMem n w a' 0 ys := hmy
    replace hl : xs.length ≤ cnts xs := hl
    replace hcnt : cnts xs + 1 < 100000000000000000 := hcnt
    have KE := fun w hn hmx hmy => equalFunc_of xs ys (by omega) n a a' c c' IH w hn hmx hmy
    clear IH hM
    show Calls Try.prog 13 #[.agg #[.bool l, .string t, .slice a xs.length c], .agg #[.bool l', .string t', .slice a' ys.length c']] w fun e w' => e = .returned (.bool ((decide (l = l') && decide (t = t')) && smIs (ers xs) (ers ys))) ∧ _
    have A1 : Below w.heap.size w ((w.alloc (.cells #[.bool l, .string t, .slice a xs.length c] 24)).alloc (.cells #[.bool l', .string t', .slice a' ys.length c'] 24)) := ((Below.refl _ w).alloc (Nat.le_refl _) _).alloc (by simp) _
    by_cases hll : l = l'
    · subst hll
      by_cases htt : t = t'
      · subst htt
        rw [show (decide (l = l) && decide (t = t) && smIs (ers xs) (ers ys)) = smIs (ers xs) (ers ys) by rw [decide_eq_true rfl, decide_eq_true rfl]; rfl]
        obtain ⟨v, hv⟩ : ∃ v, smIs (ers xs) (ers ys) = v := ⟨_, rfl⟩
        rw [hv] at KE ⊢
        clear hv
        have hsb : (t.toList == t.toList) = true := beq_self_eq_true _
        go_enter Try.func13, Try.ntmps13
        go_wp2_with fail
        refine (KE _ (Nat.le_trans hn A1.size) (rowMem_below hn (A1.mono hn) a 0 xs hmx) (rowMem_below hn (A1.mono hn) a' 0 ys hmy)).mono ?_
        rintro e w1 ⟨rfl, B1⟩
        replace B1 := belowStep A1 A1.size B1
        clear KE A1 hmx hmy
        go_wp2
        go_ret
        exact ⟨rfl, B1⟩
      · rw [decide_eq_false htt, Bool.and_false, Bool.false_and]
        have l3 : (t.toList == t'.toList) = false := by rw [beq_eq_false_iff_ne]; exact fun e => htt (toList_inj e)
        go_enter Try.func13, Try.ntmps13
        go_wp2
        go_ret
        exact ⟨rfl, A1⟩
    · rw [decide_eq_false hll, Bool.false_and, Bool.false_and]
      cases l <;> cases l' <;> first | exact absurd rfl hll | (
        go_enter Try.func13, Try.ntmps13
        go_wp2
        go_ret
        exact ⟨rfl, A1⟩)
end Go.Proofs.Yteaongogomhooaa
