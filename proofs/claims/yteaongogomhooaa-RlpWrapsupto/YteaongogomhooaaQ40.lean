/- The reference's bytes of an item: right, head, bytesOf, Encode. -/
import Derived.Test.YteaongogomhooaaQ39
namespace Go.Proofs.Yteaongogomhooaa
open Go.RowKit Go.Shelf Go.Sort

theorem rgIs_take : ∀ (xs : List It) (k : Nat) (x : It), xs[k]? = some x → rgIs (xs.take (k + 1)) = (rgIs (xs.take k) && rgI x)
  | a :: r, 0, x, h => by
    cases h
    show (rgI a && true) = (true && rgI a)
    rw [Bool.and_true, Bool.true_and]
  | a :: r, k + 1, x, h => by
    show (rgI a && rgIs (r.take (k + 1))) = ((rgI a && rgIs (r.take k)) && rgI x)
    rw [rgIs_take r k x h, Bool.and_assoc]
  | [], _, _, h => by cases h
theorem rgIs_false : ∀ (xs : List It) (k : Nat), rgIs (xs.take k) = false → rgIs xs = false
  | [], k, h => by
    have e : ([] : List It).take k = [] := List.take_nil
    rw [e] at h
    cases h
  | a :: r, 0, h => by cases h
  | a :: r, k + 1, h => by
    have h' : (rgI a && rgIs (r.take k)) = false := h
    show (rgI a && rgIs r) = false
    cases hs : rgI a with
    | false => rfl
    | true =>
      rw [hs, Bool.true_and] at h'
      rw [rgIs_false r k h']
      rfl
def rg0 (l : Bool) (t : ByteArray) (xs : List Im) : Bool := if l then decide (t.size = 0) else decide (xs.length = 0)
theorem rgI_mk (l : Bool) (t : ByteArray) (a : Option Addr) (c : Nat) (xs : List Im) : rgI (er (.mk l t a c xs)) = (rg0 l t xs && rgIs (ers xs)) := by
  show ((if l then decide (t.size = 0) else decide ((ers xs).length = 0)) && rgIs (ers xs)) = _
  rw [ers_len]
  rfl

set_option maxRecDepth 20000 in
set_option maxHeartbeats 2000000 in
theorem rright_any : ∀ (M : Nat) (x : Im), cnt x ≤ M → cnt x < 100000000000000000 → ∀ (n : Nat) (w : World), n ≤ w.heap.size → inMem n w x →
    Calls Try.prog 30 #[x.val] w fun e w' => e = .returned (.bool (rgI (er x))) ∧ Below w.heap.size w w'
  | 0, x, h, _, _, _, _, _ => by rw [cnt_eq] at h; omega
  | M + 1, x, hM, hcnt, n, w, hn, hm => by
    have IH := fun (j : Nat) (a : Im) (ha : x.xs[j]? = some a) (w : World) hn hm => rright_any M a (by have := cnts_at x.xs j a ha; rw [cnt_eq] at hM; omega) (by have := cnts_at x.xs j a ha; rw [cnt_eq] at hcnt; omega) n w hn hm
    rw [inMem_eq] at hm
    have hl := len_cnts x.xs
    rw [cnt_eq] at hcnt
    obtain ⟨l, t, a, c, xs⟩ := x
    replace hm : rowMem n w a 0 xs := hm
    replace hl : xs.length ≤ cnts xs := hl
    replace hcnt : cnts xs + 1 < 100000000000000000 := hcnt
    have IH' : ∀ (j : Nat) (p : Im), xs[j]? = some p → ∀ w : World, n ≤ w.heap.size → inMem n w p → Calls Try.prog 30 #[p.val] w fun e w' => e = .returned (.bool (rgI (er p))) ∧ Below w.heap.size w w' := IH
    clear IH hM
    rw [rgI_mk]
    show Calls Try.prog 30 #[.agg #[.bool l, .string t, .slice a xs.length c]] w _
    have A1 : Below w.heap.size w (w.alloc (.cells #[.bool l, .string t, .slice a xs.length c] 24)) := be_new w _
    have hbx : ItIn w.heap.size (.mk l t a c xs) (w.alloc (.cells #[.bool l, .string t, .slice a xs.length c] 24)) := it_new w (.mk l t a c xs)
    have hloop : rg0 l t xs = true → Calls Try.prog 30 #[.agg #[.bool l, .string t, .slice a xs.length c]] w fun e w' => e = .returned (.bool (rg0 l t xs && rgIs (ers xs))) ∧ Below w.heap.size w w' := by
      intro hr
      rw [hr, Bool.true_and]
      obtain ⟨N, hN⟩ : ∃ N, xs.length = N := ⟨_, rfl⟩
      unfold rg0 at hr
      rw [hN] at hl A1 hbx hr ⊢
      have HN : Hid (xs.length = N) := hN
      clear hN
      cases l with
      | true =>
        have h0 := empty_list t (of_decide_eq_true hr)
        clear hr
        go_enter Try.func30, Try.ntmps30
        go_wp2_with fail
        refine wpOf (fun W => Below w.heap.size w W ∧ ItIn w.heap.size (.mk true t a c xs) W) ⟨A1, hbx⟩ ?_
        rintro w1 ⟨B1, hb1⟩
        clear hbx A1
        obtain ⟨z, hz⟩ : ∃ z, w.heap.size = z := ⟨_, rfl⟩
        rw [hz] at B1 hb1 hn ⊢
        go_loopg [3] N (fun gk i wr => ∃ k : Nat, k + gk = N ∧ i = .int .i64 k ∧ rgIs ((ers xs).take k) = true ∧ Below z w wr ∧ ItIn z (.mk true t a c xs) wr)
        case atStart => exact ⟨0, by omega, rfl, rfl, B1, hb1⟩
        case round =>
          obtain ⟨k, hk, rfl, hsm, BW, hbx⟩ := hrel
          have hzr := hbx.lt
          have d2 : wr.cell? ⟨z, 2, none⟩ = some (.slice a N c) := by rw [Lib.cell_of_heap hbx, ← HN.out]; rfl
          have hNN := HN.out
          by_cases hlt : k < N
          · have l1 : (k : Int) < N := by omega
            obtain ⟨p, hp⟩ : ∃ y, xs[k]? = some y := ⟨xs[k]'(by omega), List.getElem?_eq_getElem (by omega)⟩
            obtain ⟨⟨b, o, hb, rfl, c0, c1, c2⟩, hp2⟩ := row_at xs 0 hm k p hp
            have hp3 := inMem_below (by rw [hz]; exact hn) (BW.mono hn) p hp2
            have hbz : b < z := by omega
            replace c0 := (BW.cell (p := ⟨b, _, none⟩) hbz).trans c0
            replace c1 := (BW.cell (p := ⟨b, _, none⟩) hbz).trans c1
            replace c2 := (BW.cell (p := ⟨b, _, none⟩) hbz).trans c2
            obtain ⟨r, hr⟩ : ∃ p, o + 3 * k = p := ⟨_, rfl⟩
            rw [show o + 3 * (0 + k) = r by omega] at c0 c1 c2
            have hr2 : o + k * 3 = r := by omega
            have KS := IH' k p hp
            have hst := rgIs_take (ers xs) k (er p) (ers_at xs k p hp)
            rw [hsm, Bool.true_and] at hst
            obtain ⟨dy, hdy⟩ : ∃ q', rgI (er p) = q' := ⟨_, rfl⟩
            rw [hdy] at KS hst
            have wk : IntKind.i64.wrap ((k : Int) + 1) = ((k + 1 : Nat) : Int) := by rw [IntKind.wrap_i64]; omega
            clear hdy hp2 hNN
            obtain ⟨pl, pt, pa, pc, px⟩ := p
            simp only [Im.l, Im.t, Im.sl, Im.a, Im.xs, Im.c] at c0 c1 c2
            have HX : Hid (_ ∧ _ ∧ _) := ⟨hst, BW, hbx⟩
            clear hst hsm BW hbx
            dsimp only [Im.val, Im.l, Im.t, Im.sl, Im.a, Im.xs, Im.c] at KS
            go_wp2_with fail
            refine (KS _ (by omega) hp3).mono ?_
            rintro e w3 ⟨rfl, B3⟩
            clear KS hp3 c0 c1 c2
            cases dy with
            | false =>
              go_wp2
              go_ret
              refine ⟨?_, by rw [hz]; exact belowStep HX.out.2.1 (by omega) B3⟩
              rw [rgIs_false _ _ HX.out.1]
              rfl
            | true =>
              go_wp2
              go_roundg (gk - 1)
              case measure => omega
              case rel =>
                obtain ⟨hst, BW, hbx⟩ := HX.out
                exact ⟨k + 1, by omega, by first | rfl | (congr 1; omega), hst, belowStep BW (by omega) B3, (B3.block z hzr).trans hbx⟩
          · have hk2 : k = N := by omega
            have l1 : ¬ (k : Int) < N := by omega
            rw [hk2, List.take_of_length_le (by rw [ers_len]; omega)] at hsm
            have HX : Hid _ := hsm
            clear hsm hNN
            go_wp2
            go_ret
            exact ⟨by rw [HX.out]; rfl, BW⟩
      | false =>
        have h0 : N = 0 := of_decide_eq_true hr
        subst h0
        clear hr
        go_enter Try.func30, Try.ntmps30
        obtain rfl : xs = [] := List.length_eq_zero_iff.1 HN.out
        go_wp2_with fail
        refine wpOf (fun W => Below w.heap.size w W ∧ ItIn w.heap.size (.mk false t a c []) W) ⟨A1, hbx⟩ ?_
        rintro w1 ⟨B1, hb1⟩
        clear hbx A1
        obtain ⟨z, hz⟩ : ∃ z, w.heap.size = z := ⟨_, rfl⟩
        rw [hz] at B1 hb1 hn ⊢
        go_loopg [3] 0 (fun gk i wr => i = .int .i64 0 ∧ Below z w wr ∧ ItIn z (.mk false t a c []) wr)
        case atStart => exact ⟨rfl, B1, hb1⟩
        case round =>
          obtain ⟨rfl, BW, hbx⟩ := hrel
          have d2 : wr.cell? ⟨z, 2, none⟩ = some (.slice a 0 c) := by rw [Lib.cell_of_heap hbx]; rfl
          go_wp2
          go_ret
          exact ⟨rfl, by rw [hz]; exact BW⟩
    cases hr : rg0 l t xs with
    | true => rw [hr] at hloop; exact hloop rfl
    | false =>
      clear hloop hbx
      rw [Bool.false_and]
      unfold rg0 at hr
      cases l with
      | true =>
        have h0 : ¬ t.size = 0 := of_decide_eq_false hr
        have h1 := ne_empty t (by omega)
        clear hr
        go_enter Try.func30, Try.ntmps30
        go_wp2
        go_ret
        exact ⟨rfl, A1⟩
      | false =>
        have h0 : ¬ xs.length = 0 := of_decide_eq_false hr
        have h1 : (0 : Int) < xs.length := by omega
        clear hr
        go_enter Try.func30, Try.ntmps30
        go_wp2
        go_ret
        exact ⟨rfl, A1⟩
end Go.Proofs.Yteaongogomhooaa
