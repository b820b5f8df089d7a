/- Lemmas: The reference's bytes of an item: right, head, bytesOf, Encode. The reference's bytes of an item: head, bytesOf, Encode. -/
import Derived.Test.YtbpcciifaekffaaGreatDoorM1
import Derived.Test.YtbpcciifaekffaaGreatDoorM15
import Derived.Test.YtbpcciifaekffaaGreatDoorM16
import Derived.Test.YtbpcciifaekffaaGreatDoorM17
import Derived.Test.YtbpcciifaekffaaGreatDoorM2
import Derived.Test.YtbpcciifaekffaaGreatDoorM3
import Derived.Test.YtbpcciifaekffaaGreatDoorM36
import Derived.Test.YtbpcciifaekffaaGreatDoorM4
import Derived.Test.YtbpcciifaekffaaGreatDoorM5
import Derived.Test.YtbpcciifaekffaaGreatDoorRows
namespace Go.Proofs.YtbpcciifaekffaaGreatDoor
open Go.RowKit Go.Shelf Go.Sort

theorem rgIs_take : ∀ (xs : List It) (k : Nat) (x : It), xs[k]? = some x → rgIs (xs.take (k + 1)) = (rgIs (xs.take k) && rgI x)
  | a :: r, 0, x, h => by
    cases h
    show (rgI a && true) = (true && rgI a)
    rw [Bool.and_true, Bool.true_and]
  | a :: r, k + 1, x, h => by
    show (rgI a && rgIs (r.take (k + 1))) = ((rgI a && rgIs (r.take k)) && rgI x)
    rw [rgIs_take r k x h, Bool.and_assoc]
  | [], _, _, h => by cases h
theorem rgIs_false : ∀ (xs : List It) (k : Nat), rgIs (xs.take k) = false → rgIs xs = false
  | [], k, h => by
    have e : ([] : List It).take k = [] := List.take_nil
    rw [e] at h
    cases h
  | a :: r, 0, h => by cases h
  | a :: r, k + 1, h => by
    have h' : (rgI a && rgIs (r.take k)) = false := h
    show (rgI a && rgIs r) = false
    cases hs : rgI a with
    | false => rfl
    | true =>
      rw [hs, Bool.true_and] at h'
      rw [rgIs_false r k h']
      rfl
def rg0 (l : Bool) (t : ByteArray) (xs : List Im) : Bool := if l then decide (t.size = 0) else decide (xs.length = 0)
theorem rgI_mk (l : Bool) (t : ByteArray) (a : Option Addr) (c : Nat) (xs : List Im) : rgI (er (.mk l t a c xs)) = (rg0 l t xs && rgIs (ers xs)) := by
  show ((if l then decide (t.size = 0) else decide ((ers xs).length = 0)) && rgIs (ers xs)) = _
  rw [ers_len]
  rfl

set_option maxRecDepth 20000 in
set_option maxHeartbeats 2000000 in
theorem rright_any : ∀ (M : Nat) (x : Im), cnt x ≤ M → cnt x < 100000000000000000 → ∀ (n : Nat) (w : World), n ≤ w.heap.size → inMem n w x →
    Calls Tryz.prog 73 #[x.val] w fun e w' => e = .returned (.bool (rgI (er x))) ∧ Below w.heap.size w w'
  | 0, x, h, _, _, _, _, _ => by rw [cnt_eq] at h; omega
  | M + 1, x, hM, hcnt, n, w, hn, hm => by
    have IH := fun (j : Nat) (a : Im) (ha : x.xs[j]? = some a) (w : World) hn hm => rright_any M a (by have := cnts_at x.xs j a ha; rw [cnt_eq] at hM; omega) (by have := cnts_at x.xs j a ha; rw [cnt_eq] at hcnt; omega) n w hn hm
    rw [inMem_eq] at hm
    have hl := len_cnts x.xs
    rw [cnt_eq] at hcnt
    obtain ⟨l, t, a, c, xs⟩ := x
    replace hm : rowMem n w a 0 xs := hm
    replace hl : xs.length ≤ cnts xs := hl
    replace hcnt : cnts xs + 1 < 100000000000000000 := hcnt
    have IH' : ∀ (j : Nat) (p : Im), xs[j]? = some p → ∀ w : World, n ≤ w.heap.size → inMem n w p → Calls Tryz.prog 73 #[p.val] w fun e w' => e = .returned (.bool (rgI (er p))) ∧ Below w.heap.size w w' := IH
    clear IH hM
    rw [rgI_mk]
    show Calls Tryz.prog 73 #[.agg #[.bool l, .string t, .slice a xs.length c]] w _
    have A1 : Below w.heap.size w (w.alloc (.cells #[.bool l, .string t, .slice a xs.length c] 47)) := be_new w _
    have hbx : ItIn w.heap.size (.mk l t a c xs) (w.alloc (.cells #[.bool l, .string t, .slice a xs.length c] 47)) := it_new w (.mk l t a c xs)
    have hloop : rg0 l t xs = true → Calls Tryz.prog 73 #[.agg #[.bool l, .string t, .slice a xs.length c]] w fun e w' => e = .returned (.bool (rg0 l t xs && rgIs (ers xs))) ∧ Below w.heap.size w w' := by
      intro hr
      rw [hr, Bool.true_and]
      obtain ⟨N, hN⟩ : ∃ N, xs.length = N := ⟨_, rfl⟩
      unfold rg0 at hr
      rw [hN] at hl A1 hbx hr ⊢
      have HN : Hid (xs.length = N) := hN
      clear hN
      cases l with
      | true =>
        have h0 := empty_list t (of_decide_eq_true hr)
        clear hr
        go_enter Tryz.func73, Tryz.ntmps73
        go_wp2_with fail
        refine wpOf (fun W => Below w.heap.size w W ∧ ItIn w.heap.size (.mk true t a c xs) W) ⟨A1, hbx⟩ ?_
        rintro w1 ⟨B1, hb1⟩
        clear hbx A1
        obtain ⟨z, hz⟩ : ∃ z, w.heap.size = z := ⟨_, rfl⟩
        rw [hz] at B1 hb1 hn ⊢
        go_loopg [3] N (fun gk i wr => ∃ k : Nat, k + gk = N ∧ i = .int .i64 k ∧ rgIs ((ers xs).take k) = true ∧ Below z w wr ∧ ItIn z (.mk true t a c xs) wr)
        case atStart => exact ⟨0, by omega, rfl, rfl, B1, hb1⟩
        case round =>
          obtain ⟨k, hk, rfl, hsm, BW, hbx⟩ := hrel
          have hzr := hbx.lt
          have d2 : wr.cell? ⟨z, 2, none⟩ = some (.slice a N c) := by rw [Lib.cell_of_heap hbx, ← HN.out]; rfl
          have hNN := HN.out
          by_cases hlt : k < N
          · have l1 : (k : Int) < N := by omega
            obtain ⟨p, hp⟩ : ∃ y, xs[k]? = some y := ⟨xs[k]'(by omega), List.getElem?_eq_getElem (by omega)⟩
            obtain ⟨⟨b, o, hb, rfl, c0, c1, c2⟩, hp2⟩ := row_at xs 0 hm k p hp
            have hp3 := inMem_below (by rw [hz]; exact hn) (BW.mono hn) p hp2
            have hbz : b < z := by omega
            replace c0 := (BW.cell (p := ⟨b, _, none⟩) hbz).trans c0
            replace c1 := (BW.cell (p := ⟨b, _, none⟩) hbz).trans c1
            replace c2 := (BW.cell (p := ⟨b, _, none⟩) hbz).trans c2
            obtain ⟨r, hr⟩ : ∃ p, o + 3 * k = p := ⟨_, rfl⟩
            rw [show o + 3 * (0 + k) = r by omega] at c0 c1 c2
            have hr2 : o + k * 3 = r := by omega
            have KS := IH' k p hp
            have hst := rgIs_take (ers xs) k (er p) (ers_at xs k p hp)
            rw [hsm, Bool.true_and] at hst
            obtain ⟨dy, hdy⟩ : ∃ q', rgI (er p) = q' := ⟨_, rfl⟩
            rw [hdy] at KS hst
            have wk : IntKind.i64.wrap ((k : Int) + 1) = ((k + 1 : Nat) : Int) := by rw [IntKind.wrap_i64]; omega
            clear hdy hp2 hNN
            obtain ⟨pl, pt, pa, pc, px⟩ := p
            simp only [Im.l, Im.t, Im.sl, Im.a, Im.xs, Im.c] at c0 c1 c2
            have HX : Hid (_ ∧ _ ∧ _) := ⟨hst, BW, hbx⟩
            clear hst hsm BW hbx
            dsimp only [Im.val, Im.l, Im.t, Im.sl, Im.a, Im.xs, Im.c] at KS
            go_wp2_with fail
            refine (KS _ (by omega) hp3).mono ?_
            rintro e w3 ⟨rfl, B3⟩
            clear KS hp3 c0 c1 c2
            cases dy with
            | false =>
              go_wp2
              go_ret
              refine ⟨?_, by rw [hz]; exact belowStep HX.out.2.1 (by omega) B3⟩
              rw [rgIs_false _ _ HX.out.1]
              rfl
            | true =>
              go_wp2
              go_roundg (gk - 1)
              case measure => omega
              case rel =>
                obtain ⟨hst, BW, hbx⟩ := HX.out
                exact ⟨k + 1, by omega, by first | rfl | (congr 1; omega), hst, belowStep BW (by omega) B3, (B3.block z hzr).trans hbx⟩
          · have hk2 : k = N := by omega
            have l1 : ¬ (k : Int) < N := by omega
            rw [hk2, List.take_of_length_le (by rw [ers_len]; omega)] at hsm
            have HX : Hid _ := hsm
            clear hsm hNN
            go_wp2
            go_ret
            exact ⟨by rw [HX.out]; rfl, BW⟩
      | false =>
        have h0 : N = 0 := of_decide_eq_true hr
        subst h0
        clear hr
        go_enter Tryz.func73, Tryz.ntmps73
        obtain rfl : xs = [] := List.length_eq_zero_iff.1 HN.out
        go_wp2_with fail
        refine wpOf (fun W => Below w.heap.size w W ∧ ItIn w.heap.size (.mk false t a c []) W) ⟨A1, hbx⟩ ?_
        rintro w1 ⟨B1, hb1⟩
        clear hbx A1
        obtain ⟨z, hz⟩ : ∃ z, w.heap.size = z := ⟨_, rfl⟩
        rw [hz] at B1 hb1 hn ⊢
        go_loopg [3] 0 (fun gk i wr => i = .int .i64 0 ∧ Below z w wr ∧ ItIn z (.mk false t a c []) wr)
        case atStart => exact ⟨rfl, B1, hb1⟩
        case round =>
          obtain ⟨rfl, BW, hbx⟩ := hrel
          have d2 : wr.cell? ⟨z, 2, none⟩ = some (.slice a 0 c) := by rw [Lib.cell_of_heap hbx]; rfl
          go_wp2
          go_ret
          exact ⟨rfl, by rw [hz]; exact BW⟩
    cases hr : rg0 l t xs with
    | true => rw [hr] at hloop; exact hloop rfl
    | false =>
      clear hloop hbx
      rw [Bool.false_and]
      unfold rg0 at hr
      cases l with
      | true =>
        have h0 : ¬ t.size = 0 := of_decide_eq_false hr
        have h1 := ne_empty t (by omega)
        clear hr
        go_enter Tryz.func73, Tryz.ntmps73
        go_wp2
        go_ret
        exact ⟨rfl, A1⟩
      | false =>
        have h0 : ¬ xs.length = 0 := of_decide_eq_false hr
        have h1 : (0 : Int) < xs.length := by omega
        clear hr
        go_enter Tryz.func73, Tryz.ntmps73
        go_wp2
        go_ret
        exact ⟨rfl, A1⟩
end Go.Proofs.YtbpcciifaekffaaGreatDoor
namespace Go.Proofs.YtbpcciifaekffaaGreatDoor
open Go.RowKit Go.Shelf Go.Sort

set_option maxRecDepth 20000 in
set_option maxHeartbeats 1000000 in
theorem rhead_any (base size : Nat) (hb : base ≤ 192) (hs : size < 1000000000000000000) (w : World) :
    Calls Tryz.prog 96 #[.int .i64 size, .int .u8 base] w fun e w' => e = .returned (.string (hdB base size)) ∧ Below w.heap.size w w' := by
  by_cases h : size < 56
  · have l : (size : Int) < 56 := by omega
    obtain ⟨d, hd⟩ : ∃ d, base + size = d := ⟨_, rfl⟩
    have hh : Hid (hdB base size = ⟨#[UInt8.ofNat d]⟩) := by unfold hdB; rw [if_pos h, hd]; exact rfl
    have w0 : IntKind.u8.wrap (size : Int) = size := by rw [IntKind.wrap_u8]; omega
    have w1 : IntKind.u8.wrap ((base : Int) + size) = d := by rw [IntKind.wrap_u8]; omega
    have w2 : (base : Int) + size = d := by omega
    have w3 : IntKind.u8.wrap (d : Int) = d := by rw [IntKind.wrap_u8]; omega
    have w4 : (d : Int) % 256 = d := by omega
    have w5 : (size : Int) % 256 = size := by omega
    have hcv := conv_one w d (by omega)
    clear hd
    go_enter Tryz.func96, Tryz.ntmps96
    go_wp2
    go_ret
    exact ⟨by rw [hh.out]; rfl, (Below.refl _ w).alloc (Nat.le_refl _) _⟩
  · have l : ¬ (size : Int) < 56 := by omega
    have hw : IntKind.u64.wrap (size : Int) = size := by rw [IntKind.wrap_u64]; omega
    have KN : Hid (∀ w : World, _) := fun w : World => rnumber_any size (by omega) w
    have hz : (numOf size).size = blen size := by8_size _ _
    have hm8 := blen_le size 8 (by omega)
    obtain ⟨d, hd⟩ : ∃ d, base + 55 + blen size = d := ⟨_, rfl⟩
    obtain ⟨s, hs'⟩ : ∃ s, numOf size = s := ⟨_, rfl⟩
    obtain ⟨one, hone, hos⟩ : ∃ x : ByteArray, ⟨#[UInt8.ofNat d]⟩ = x ∧ x.size = 1 := ⟨_, rfl, rfl⟩
    have hh : Hid (hdB base size = one ++ s) := by unfold hdB; rw [if_neg h, hd, hone, hs']; exact rfl
    rw [hs'] at KN hz
    have hz' : s.size ≤ 8 := by omega
    have hcv : ∀ w : World, _ := fun w => conv_one w d (by omega)
    rw [hone] at hcv
    have w0 : IntKind.u8.wrap (s.size : Int) = s.size := by rw [IntKind.wrap_u8]; omega
    have w5 : (s.size : Int) % 256 = s.size := by omega
    have w6 : IntKind.u8.wrap ((base : Int) + 55) = base + 55 := by rw [IntKind.wrap_u8]; omega
    have w7 : ((base : Int) + 55) % 256 = base + 55 := by omega
    have w2 : (base : Int) + 55 + s.size = d := by omega
    have w1 : IntKind.u8.wrap ((base : Int) + 55 + s.size) = d := by rw [IntKind.wrap_u8]; omega
    have w3 : IntKind.u8.wrap (d : Int) = d := by rw [IntKind.wrap_u8]; omega
    have w4 : (d : Int) % 256 = d := by omega
    have hsz : (one.size : Int) + s.size ≤ 9 := by omega
    clear hd hone hs' hz
    go_enter Tryz.func96, Tryz.ntmps96
    go_wp2_with fail
    refine (KN.out _).mono ?_
    rintro e w1 ⟨rfl, B1⟩
    have hcv1 := hcv w1
    clear hcv
    go_wp2
    go_ret
    exact ⟨by rw [hh.out]; rfl, B1.alloc B1.size _⟩
theorem encIs_take : ∀ (xs : List It) (k : Nat) (x : It), xs[k]? = some x → encIs (xs.take (k + 1)) = encIs (xs.take k) ++ encI x
  | a :: r, 0, x, h => by
    cases h
    show encI a ++ ⟨#[]⟩ = ⟨#[]⟩ ++ encI a
    rw [show encI a ++ ⟨#[]⟩ = encI a from ByteArray.append_empty, show (⟨#[]⟩ : ByteArray) ++ encI a = encI a from ByteArray.empty_append]
  | a :: r, k + 1, x, h => by
    show encI a ++ encIs (r.take (k + 1)) = (encI a ++ encIs (r.take k)) ++ encI x
    rw [encIs_take r k x h, ByteArray.append_assoc]
  | [], _, _, h => by cases h
theorem encIs_take_le : ∀ (xs : List It) (k : Nat), (encIs (xs.take k)).size ≤ (encIs xs).size
  | [], k => by
    have e : ([] : List It).take k = [] := List.take_nil
    rw [e]
    exact Nat.le_refl _
  | a :: r, 0 => Nat.zero_le _
  | a :: r, k + 1 => by
    show (encI a ++ encIs (r.take k)).size ≤ (encI a ++ encIs r).size
    rw [ByteArray.size_append, ByteArray.size_append]
    have := encIs_take_le r k
    omega

set_option maxRecDepth 20000 in
set_option maxHeartbeats 2000000 in
theorem rbytes_any : ∀ (M : Nat) (x : Im), cnt x ≤ M → rgI (er x) = true → tb x < 4000000 → ∀ (n : Nat) (w : World), n ≤ w.heap.size → inMem n w x →
    Calls Tryz.prog 74 #[x.val] w fun e w' => e = .returned (.string (encI (er x))) ∧ Below w.heap.size w w'
  | 0, x, h, _, _, _, _, _, _ => by rw [cnt_eq] at h; omega
  | M + 1, x, hM, hrg, htb, n, w, hn, hm => by
    have hsz := sz_er x hrg
    have hst := sz_tb x (by omega)
    have IH := fun (j : Nat) (a : Im) (ha : x.xs[j]? = some a) (hra : rgI (er a) = true) (w : World) hn hm => rbytes_any M a (by have := cnts_at x.xs j a ha; rw [cnt_eq] at hM; omega) hra (by have := tbs_at x.xs j a ha; rw [tb_eq] at htb; omega) n w hn hm
    rw [inMem_eq] at hm
    have hl := len_tbs x.xs
    rw [tb_eq] at htb
    obtain ⟨l, t, a, c, xs⟩ := x
    replace hm : rowMem n w a 0 xs := hm
    replace hl : xs.length ≤ tbs xs := hl
    replace htb : t.size + 9 + tbs xs < 4000000 := htb
    have IH' : ∀ (j : Nat) (p : Im), xs[j]? = some p → rgI (er p) = true → ∀ w : World, n ≤ w.heap.size → inMem n w p → Calls Tryz.prog 74 #[p.val] w fun e w' => e = .returned (.string (encI (er p))) ∧ Below w.heap.size w w' := IH
    clear IH hM
    have hse : (encI (er (.mk l t a c xs))).size < 4000000 := by
      have e : tb (.mk l t a c xs) = t.size + 9 + tbs xs := rfl
      omega
    clear hsz hst
    rw [rgI_mk, Bool.and_eq_true] at hrg
    have A1 : Below w.heap.size w (w.alloc (.cells #[.bool l, .string t, .slice a xs.length c] 47)) := be_new w _
    have hbx : ItIn w.heap.size (.mk l t a c xs) (w.alloc (.cells #[.bool l, .string t, .slice a xs.length c] 47)) := it_new w (.mk l t a c xs)
    cases l with
    | false =>
      show Calls Tryz.prog 74 #[.agg #[.bool false, .string t, .slice a xs.length c]] w fun e w' => e = .returned (.string (if bare t then t else hdB 128 t.size ++ t)) ∧ _
      clear hse
      cases hb : bare t with
      | true =>
        clear hbx
        unfold bare at hb
        rw [Bool.and_eq_true] at hb
        have h1 := of_decide_eq_true hb.1
        have h2 := of_decide_eq_true hb.2
        have l0 : (0 : Int) < t.size := by omega
        have l1 : (t.size : Int) = 1 := by omega
        have g0 := bt_get t 0 (by omega)
        obtain ⟨u, hu⟩ : ∃ u, bt t 0 = u := ⟨_, rfl⟩
        rw [hu] at g0 h2
        clear hb hu
        go_enter Tryz.func74, Tryz.ntmps74
        go_wp2
        go_ret
        exact ⟨rfl, A1⟩
      | false =>
        have KH := fun w => rhead_any 128 t.size (by decide) (by omega) w
        have hhs := hdB_size 128 t.size (by omega)
        obtain ⟨hd, hhd⟩ : ∃ q, hdB 128 t.size = q := ⟨_, rfl⟩
        rw [hhd] at KH hhs ⊢
        have hlen : (hd.size : Int) + t.size ≤ 5000000 := by omega
        have HH : Hid ((if false = true then t else hd ++ t) = hd ++ t) := rfl
        by_cases h1 : t.size = 1
        · have hb2 : ¬ bt t 0 < 128 := fun h => by unfold bare at hb; rw [decide_eq_true h1, decide_eq_true h] at hb; cases hb
          have l0 : (0 : Int) < t.size := by omega
          have l1 : (t.size : Int) = 1 := by omega
          have g0 := bt_get t 0 (by omega)
          obtain ⟨u, hu⟩ : ∃ u, bt t 0 = u := ⟨_, rfl⟩
          rw [hu] at g0 hb2
          clear hb hu
          rw [h1] at KH
          have hq : ¬ 9223372036854775807 < hd.size + 1 := by omega
          go_enter Tryz.func74, Tryz.ntmps74
          go_wp2_with fail
          refine wpOf (fun W => Below w.heap.size w W ∧ ItIn w.heap.size (.mk false t a c xs) W) ⟨A1, hbx⟩ ?_
          rintro w1 ⟨B1, hb1⟩
          clear hbx A1
          obtain ⟨z, hz⟩ : ∃ z, w.heap.size = z := ⟨_, rfl⟩
          rw [hz] at B1 hb1 hn ⊢
          have hzr := hb1.lt
          have G : ∀ (q : Addr) (v : Value), q.block < w1.heap.size → w1.cell? q = some v → ∀ d os, (grow (redrawn w1 d) os).cell? q = some v := fun q v hq hv d os => ((below_regrown w1 d os).cell hq).trans hv
          have q1 := G ⟨z, 1, none⟩ (.string t) hzr (by rw [Lib.cell_of_heap hb1]; rfl)
          have cH : ∀ d os, Calls Tryz.prog 96 #[.int .i64 1, .int .u8 128] (grow (redrawn w1 d) os) fun e w'' => e = .returned (.string hd) ∧ ∃ p : Regrown, w'' = grow (redrawn w1 p.d) p.os := fun d os => Calls.regrown_of (KH _)
          clear G KH
          refine wp_region_quiet_below (by kernel_rfl) (by kernel_rfl) ?_
          iterate 3 (quiet_step (fail))
          quiet_step (exact cH _ _)
          repeat (quiet_step (fail))
          refine wpQuiet_nil ?_
          rintro w3 hw3
          have B3 : Below w1.heap.size w1 w3 := by
            obtain ⟨p, rfl⟩ := hw3
            exact below_regrown _ _ _
          clear hw3 cH q1
          go_wp2
          go_ret
          exact ⟨rfl, belowStep B1 (by omega) B3⟩
        · have l1 : ¬ (t.size : Int) = 1 := by omega
          have l2 : ((t.size : Int) == 1) = false := by rw [beq_eq_false_iff_ne]; exact l1
          have hq : ¬ 9223372036854775807 < hd.size + t.size := by omega
          clear hb
          go_enter Tryz.func74, Tryz.ntmps74
          go_wp2_with fail
          refine wpOf (fun W => Below w.heap.size w W ∧ ItIn w.heap.size (.mk false t a c xs) W) ⟨A1, hbx⟩ ?_
          rintro w1 ⟨B1, hb1⟩
          clear hbx A1
          obtain ⟨z, hz⟩ : ∃ z, w.heap.size = z := ⟨_, rfl⟩
          rw [hz] at B1 hb1 hn ⊢
          have hzr := hb1.lt
          have G : ∀ (q : Addr) (v : Value), q.block < w1.heap.size → w1.cell? q = some v → ∀ d os, (grow (redrawn w1 d) os).cell? q = some v := fun q v hq hv d os => ((below_regrown w1 d os).cell hq).trans hv
          have q1 := G ⟨z, 1, none⟩ (.string t) hzr (by rw [Lib.cell_of_heap hb1]; rfl)
          have cH : ∀ d os, Calls Tryz.prog 96 #[.int .i64 t.size, .int .u8 128] (grow (redrawn w1 d) os) fun e w'' => e = .returned (.string hd) ∧ ∃ p : Regrown, w'' = grow (redrawn w1 p.d) p.os := fun d os => Calls.regrown_of (KH _)
          clear G KH
          refine wp_region_quiet_below (by kernel_rfl) (by kernel_rfl) ?_
          iterate 3 (quiet_step (fail))
          quiet_step (exact cH _ _)
          repeat (quiet_step (fail))
          refine wpQuiet_nil ?_
          rintro w3 hw3
          have B3 : Below w1.heap.size w1 w3 := by
            obtain ⟨p, rfl⟩ := hw3
            exact below_regrown _ _ _
          clear hw3 cH q1
          go_wp2
          go_ret
          exact ⟨rfl, belowStep B1 (by omega) B3⟩
    | true =>
      have ht0 : t.size = 0 := of_decide_eq_true hrg.1
      have KH := fun w => rhead_any 192 (encIs (ers xs)).size (by decide) (by
        have : (encI (er (.mk true t a c xs))).size = (hdB 192 (encIs (ers xs)).size ++ encIs (ers xs)).size := rfl
        rw [ByteArray.size_append] at this
        omega) w
      have hsz : (encIs (ers xs)).size < 4000000 := by
        have : (encI (er (.mk true t a c xs))).size = (hdB 192 (encIs (ers xs)).size ++ encIs (ers xs)).size := rfl
        rw [ByteArray.size_append] at this
        omega
      have hhs := hdB_size 192 (encIs (ers xs)).size (by omega)
      show Calls Tryz.prog 74 #[.agg #[.bool true, .string t, .slice a xs.length c]] w fun e w' => e = .returned (.string (hdB 192 (encIs (ers xs)).size ++ encIs (ers xs))) ∧ _
      obtain ⟨hd, hhd⟩ : ∃ q, hdB 192 (encIs (ers xs)).size = q := ⟨_, rfl⟩
      rw [hhd] at KH hhs ⊢
      clear hhd hse
      obtain ⟨N, hN⟩ : ∃ N, xs.length = N := ⟨_, rfl⟩
      rw [hN] at A1 hbx hl ⊢
      have hrs := hrg.2
      clear hrg
      have HN : Hid (xs.length = N) := hN
      clear hN
      go_enter Tryz.func74, Tryz.ntmps74
      go_wp2_with fail
      refine wpOf (fun W => Below w.heap.size w W ∧ ItIn w.heap.size (.mk true t a c xs) W) ⟨A1, hbx⟩ ?_
      rintro w1 ⟨B1, hb1⟩
      clear hbx A1
      obtain ⟨z, hz⟩ : ∃ z, w.heap.size = z := ⟨_, rfl⟩
      rw [hz] at B1 hb1 hn ⊢
      go_loopg [3, 4] N (fun gk v i wr => ∃ k : Nat, k + gk = N ∧ v = .string (encIs ((ers xs).take k)) ∧ i = .int .i64 k ∧ Below z w wr ∧ ItIn z (.mk true t a c xs) wr)
      case atStart => exact ⟨0, by omega, rfl, rfl, B1, hb1⟩
      case round =>
        obtain ⟨k, hk, rfl, rfl, BW, hbx⟩ := hrel
        have hzr := hbx.lt
        have d2 : wr.cell? ⟨z, 2, none⟩ = some (.slice a N c) := by rw [Lib.cell_of_heap hbx, ← HN.out]; rfl
        have hNN := HN.out
        by_cases hlt : k < N
        · have l1 : (k : Int) < N := by omega
          obtain ⟨p, hp⟩ : ∃ y, xs[k]? = some y := ⟨xs[k]'(by omega), List.getElem?_eq_getElem (by omega)⟩
          obtain ⟨⟨b, o, hb, rfl, c0, c1, c2⟩, hp2⟩ := row_at xs 0 hm k p hp
          have hp3 := inMem_below (by rw [hz]; exact hn) (BW.mono hn) p hp2
          have hbz : b < z := by omega
          replace c0 := (BW.cell (p := ⟨b, _, none⟩) hbz).trans c0
          replace c1 := (BW.cell (p := ⟨b, _, none⟩) hbz).trans c1
          replace c2 := (BW.cell (p := ⟨b, _, none⟩) hbz).trans c2
          obtain ⟨r, hr⟩ : ∃ p, o + 3 * k = p := ⟨_, rfl⟩
          rw [show o + 3 * (0 + k) = r by omega] at c0 c1 c2
          have hr2 : o + k * 3 = r := by omega
          have hpe := ers_at xs k p hp
          have KS := IH' k p hp (rgIs_mem _ _ hrs (List.mem_of_getElem? hpe))
          have hst := encIs_take (ers xs) k (er p) hpe
          have hle := encIs_take_le (ers xs) (k + 1)
          rw [hst, ByteArray.size_append] at hle
          obtain ⟨s1, hs1⟩ : ∃ q, encIs ((ers xs).take k) = q := ⟨_, rfl⟩
          obtain ⟨s2, hs2⟩ : ∃ q, encI (er p) = q := ⟨_, rfl⟩
          rw [hs1, hs2] at hst hle
          rw [hs2] at KS
          rw [hs1]
          have hq : ¬ 9223372036854775807 < s1.size + s2.size := by omega
          have hq2 : (s1.size : Int) + s2.size ≤ 5000000 := by omega
          have wk : IntKind.i64.wrap ((k : Int) + 1) = ((k + 1 : Nat) : Int) := by rw [IntKind.wrap_i64]; omega
          clear hp2 hNN hs1 hs2 hpe hle
          obtain ⟨pl, pt, pa, pc, px⟩ := p
          simp only [Im.l, Im.t, Im.sl, Im.a, Im.xs, Im.c] at c0 c1 c2
          have HX : Hid (_ ∧ _ ∧ _) := ⟨hst, BW, hbx⟩
          clear hst BW hbx
          dsimp only [Im.val, Im.l, Im.t, Im.sl, Im.a, Im.xs, Im.c] at KS
          go_wp2_with fail
          refine (KS _ (by omega) hp3).mono ?_
          rintro e w3 ⟨rfl, B3⟩
          clear KS hp3 c0 c1 c2
          go_wp2
          go_roundg (gk - 1)
          case measure => omega
          case rel =>
            obtain ⟨hst, BW, hbx⟩ := HX.out
            exact ⟨k + 1, by omega, by rw [hst], by first | rfl | (congr 1; omega), belowStep BW (by omega) B3, (B3.block z hzr).trans hbx⟩
        · have hk2 : k = N := by omega
          have l1 : ¬ (k : Int) < N := by omega
          rw [hk2, List.take_of_length_le (by rw [ers_len]; omega)]
          obtain ⟨s1, hs1⟩ : ∃ q, encIs (ers xs) = q := ⟨_, rfl⟩
          rw [hs1] at KH hsz ⊢
          have HS1 : Hid (encIs (ers xs) = s1) := hs1
          clear hs1
          rw [hk2] at l1
          have hq : ¬ 9223372036854775807 < hd.size + s1.size := by omega
          have hq2 : (hd.size : Int) + s1.size ≤ 5000000 := by omega
          clear hNN hbx
          go_wp2_with fail
          refine (KH _).mono ?_
          rintro e w3 ⟨rfl, B3⟩
          clear KH
          go_wp2
          go_ret
          refine ⟨?_, ?_⟩
          · rw [HS1.out]
            rfl
          · rw [hz]
            exact belowStep BW (by omega) B3

set_option maxRecDepth 20000 in
set_option maxHeartbeats 2000000 in
theorem rencode_any (x : Im) (htb : tb x < 4000000) (n : Nat) (w : World) (hn : n ≤ w.heap.size) (hm : inMem n w x) :
    Calls Tryz.prog 44 #[x.val] w fun e w' => e = .returned (.tuple #[.string (encS x), .int .i64 (encE x)]) ∧ Below w.heap.size w w' := by
  have hcx := tb_cnt x
  have KD := fun w hn hm => rdeep_any 12 x (by decide) (by omega) n w hn hm
  have KR := fun w hn hm => rright_any (cnt x) x (Nat.le_refl _) (by omega) n w hn hm
  have KB := fun hr w hn hm => rbytes_any (cnt x) x (Nat.le_refl _) hr htb n w hn hm
  rw [encE_er, encS_er]
  have HE : Hid (eE (er x) = if dprI 12 (er x) then 41 else if rgI (er x) then (if 65536 < (encI (er x)).size then 42 else 0) else 2) := rfl
  have HS : Hid (eS (er x) = if eE (er x) = 0 then encI (er x) else ⟨#[]⟩) := rfl
  rw [dpr_er] at KD
  obtain ⟨dp, hdp⟩ : ∃ q, dprI 12 (er x) = q := ⟨_, rfl⟩
  obtain ⟨rg, hrg⟩ : ∃ q, rgI (er x) = q := ⟨_, rfl⟩
  obtain ⟨s, hs⟩ : ∃ q, encI (er x) = q := ⟨_, rfl⟩
  obtain ⟨E, hE⟩ : ∃ q, eE (er x) = q := ⟨_, rfl⟩
  obtain ⟨S, hS⟩ : ∃ q, eS (er x) = q := ⟨_, rfl⟩
  rw [hdp] at KD HE
  rw [hrg] at KR KB HE
  rw [hs] at KB HE HS
  rw [hE] at HE HS ⊢
  rw [hS] at HS ⊢
  clear hdp hrg hs hE hS hcx htb
  have HM : Hid (∀ W, Below w.heap.size w W → n ≤ W.heap.size ∧ inMem n W x) := fun W hB => ⟨Nat.le_trans hn hB.size, inMem_below hn (hB.mono hn) _ hm⟩
  have hb0 := it_new w x
  have A0 := be_new w (.cells #[.bool x.l, .string x.t, x.sl] 47)
  clear hm
  obtain ⟨xl, xt, xa, xc, xx⟩ := x
  dsimp only [Im.val, Im.l, Im.t, Im.sl, Im.a, Im.xs, Im.c] at KD KR KB hb0 A0 ⊢
  go_enter Tryz.func44, Tryz.ntmps44
  go_wp2_with fail
  refine (KD _ (HM.out _ A0).1 (HM.out _ A0).2).mono ?_
  rintro e w1 ⟨rfl, B1⟩
  have hb1 : ItIn w.heap.size (.mk xl xt xa xc xx) w1 := (B1.block _ hb0.lt).trans hb0
  have BW := belowStep A0 A0.size B1
  clear KD A0 B1 hb0
  cases dp with
  | true =>
    have hE : E = 41 := HE.out
    have hS : S = ⟨#[]⟩ := by rw [HS.out, if_neg (by omega)]
    subst hE hS
    go_wp2
    refine bodyPost_ret (v := .tuple #[.string ⟨#[]⟩, .int .i64 41]) (by simp [results, Tryz.results44, go_sem]) rfl ⟨rfl, BW⟩
  | false =>
    have q0 : w1.cell? ⟨w.heap.size, 0, none⟩ = some (.bool xl) := by rw [Lib.cell_of_heap hb1]; rfl
    have q1 : w1.cell? ⟨w.heap.size, 1, none⟩ = some (.string xt) := by rw [Lib.cell_of_heap hb1]; rfl
    have q2 : w1.cell? ⟨w.heap.size, 2, none⟩ = some (.slice xa xx.length xc) := by rw [Lib.cell_of_heap hb1]; rfl
    go_wp2_with fail
    refine (KR _ (HM.out _ BW).1 (HM.out _ BW).2).mono ?_
    rintro e w2 ⟨rfl, B2⟩
    have hb2 : ItIn w.heap.size (.mk xl xt xa xc xx) w2 := (B2.block _ hb1.lt).trans hb1
    replace BW := belowStep BW BW.size B2
    clear KR B2 hb1 q0 q1 q2
    cases rg with
    | false =>
      have hE : E = 2 := HE.out
      have hS : S = ⟨#[]⟩ := by rw [HS.out, if_neg (by omega)]
      subst hE hS
      go_wp2
      refine bodyPost_ret (v := .tuple #[.string ⟨#[]⟩, .int .i64 2]) (by simp [results, Tryz.results44, go_sem]) rfl ⟨rfl, BW⟩
    | true =>
      have q0 : w2.cell? ⟨w.heap.size, 0, none⟩ = some (.bool xl) := by rw [Lib.cell_of_heap hb2]; rfl
      have q1 : w2.cell? ⟨w.heap.size, 1, none⟩ = some (.string xt) := by rw [Lib.cell_of_heap hb2]; rfl
      have q2 : w2.cell? ⟨w.heap.size, 2, none⟩ = some (.slice xa xx.length xc) := by rw [Lib.cell_of_heap hb2]; rfl
      go_wp2_with fail
      refine (KB trivial _ (HM.out _ BW).1 (HM.out _ BW).2).mono ?_
      rintro e w3 ⟨rfl, B3⟩
      replace BW := belowStep BW BW.size B3
      clear KB B3 hb2 q0 q1 q2
      by_cases hl : 65536 < s.size
      · have l1 : (65536 : Int) < s.size := by omega
        have hE : E = 42 := by rw [HE.out]; simp [hl]
        have hS : S = ⟨#[]⟩ := by rw [HS.out, if_neg (by omega)]
        subst hE hS
        go_wp2
        refine bodyPost_ret (v := .tuple #[.string ⟨#[]⟩, .int .i64 42]) (by simp [results, Tryz.results44, go_sem]) rfl ⟨rfl, BW⟩
      · have l1 : ¬ (65536 : Int) < s.size := by omega
        have hE : E = 0 := by rw [HE.out]; simp [hl]
        have hS : S = s := by rw [HS.out, if_pos hE]
        subst hE hS
        go_wp2
        refine bodyPost_ret (v := .tuple #[.string S, .int .i64 0]) (by simp [results, Tryz.results44, go_sem]) rfl ⟨rfl, BW⟩
end Go.Proofs.YtbpcciifaekffaaGreatDoor
