/- Which items are alike: the reference's Same. -/
import Derived.Test.YteaongogomhooaaQ30
namespace Go.Proofs.Yteaongogomhooaa
open Go.RowKit Go.Shelf Go.Sort

mutual
/-- Are two items alike? -/
def smI : It → It → Bool
  | .mk l t xs, .mk l' t' ys => (decide (l = l') && decide (t = t')) && smIs xs ys
def smIs : List It → List It → Bool
  | [], [] => true
  | x :: r, y :: q => smI x y && smIs r q
  | [], _ :: _ => false
  | _ :: _, [] => false
end
mutual
theorem smI_eq : ∀ a b, smI a b = true → a = b
  | .mk l t xs, .mk l' t' ys, h => by
    have h' : ((decide (l = l') && decide (t = t')) && smIs xs ys) = true := h
    rw [Bool.and_eq_true, Bool.and_eq_true] at h'
    rw [of_decide_eq_true h'.1.1, of_decide_eq_true h'.1.2, smIs_eq xs ys h'.2]
theorem smIs_eq : ∀ a b, smIs a b = true → a = b
  | [], [], _ => rfl
  | x :: r, y :: q, h => by
    have h' : (smI x y && smIs r q) = true := h
    rw [Bool.and_eq_true] at h'
    rw [smI_eq x y h'.1, smIs_eq r q h'.2]
  | [], _ :: _, h => by cases h
  | _ :: _, [], h => by cases h
end
mutual
theorem smI_refl : ∀ a, smI a a = true
  | .mk l t xs => by
    show ((decide (l = l) && decide (t = t)) && smIs xs xs) = true
    rw [decide_eq_true rfl, decide_eq_true rfl, smIs_refl xs]
    rfl
theorem smIs_refl : ∀ a, smIs a a = true
  | [] => rfl
  | x :: r => by
    show (smI x x && smIs r r) = true
    rw [smI_refl x, smIs_refl r]
    rfl
end
theorem smI_comm (a b : It) : smI a b = smI b a := by
  cases h : smI a b with
  | true => rw [smI_eq a b h, smI_refl]
  | false =>
    cases h2 : smI b a with
    | true => rw [smI_eq b a h2, smI_refl] at h; cases h
    | false => rfl
theorem smIs_len : ∀ a b, smIs a b = true → a.length = b.length := fun a b h => by rw [smIs_eq a b h]
/-- Alike so far. -/
theorem sm_take : ∀ (xs ys : List It) (k : Nat) (x y : It), xs[k]? = some x → ys[k]? = some y → smIs (xs.take (k + 1)) (ys.take (k + 1)) = (smIs (xs.take k) (ys.take k) && smI x y)
  | a :: r, b :: q, 0, x, y, h1, h2 => by
    cases h1
    cases h2
    show (smI a b && true) = (true && smI a b)
    rw [Bool.and_true, Bool.true_and]
  | a :: r, b :: q, k + 1, x, y, h1, h2 => by
    show (smI a b && smIs (r.take (k + 1)) (q.take (k + 1))) = ((smI a b && smIs (r.take k) (q.take k)) && smI x y)
    rw [sm_take r q k x y h1 h2, Bool.and_assoc]
  | [], _, _, _, _, h, _ => by cases h
  | _ :: _, [], _, _, _, _, h => by cases h
theorem sm_take_false : ∀ (xs ys : List It) (k : Nat), smIs (xs.take k) (ys.take k) = false → smIs xs ys = false
  | [], [], k, h => by
    have e : ([] : List It).take k = [] := List.take_nil
    rw [e] at h
    cases h
  | a :: r, b :: q, 0, h => by cases h
  | a :: r, b :: q, k + 1, h => by
    have h' : (smI a b && smIs (r.take k) (q.take k)) = false := h
    show (smI a b && smIs r q) = false
    cases hs : smI a b with
    | false => rfl
    | true =>
      rw [hs, Bool.true_and] at h'
      rw [sm_take_false r q k h']
      rfl
  | [], _ :: _, _, _ => rfl
  | _ :: _, [], _, _ => rfl
theorem ers_at (xs : List Im) (k : Nat) (y : Im) (h : xs[k]? = some y) : (ers xs)[k]? = some (er y) := by
  rw [ers_map, List.getElem?_map, h]
  rfl
theorem ers_len (xs : List Im) : (ers xs).length = xs.length := by rw [ers_map, List.length_map]

theorem toList_inj {s t : ByteArray} (h : s.toList = t.toList) : s = t := by
  rw [ByteArray.toList_eq, ByteArray.toList_eq] at h
  have h2 : s.data = t.data := Array.toList_inj.1 h
  cases s
  cases t
  cases h2
  rfl

set_option maxRecDepth 20000 in
set_option maxHeartbeats 2000000 in
theorem rsame_any : ∀ (M : Nat) (x y : Im), cnt x ≤ M → cnt x < 100000000000000000 → ∀ (n : Nat) (w : World), n ≤ w.heap.size → inMem n w x → inMem n w y →
    Calls Try.prog 14 #[x.val, y.val] w fun e w' => e = .returned (.bool (smI (er x) (er y))) ∧ Below w.heap.size w w'
  | 0, x, y, h, _, _, _, _, _, _ => by rw [cnt_eq] at h; omega
  | M + 1, x, y, hM, hcnt, n, w, hn, hmx, hmy => by
    have IH := fun (j : Nat) (a b : Im) (ha : x.xs[j]? = some a) (w : World) hn hm hm2 => rsame_any M a b (by have := cnts_at x.xs j a ha; rw [cnt_eq] at hM; omega) (by have := cnts_at x.xs j a ha; rw [cnt_eq] at hcnt; omega) n w hn hm hm2
    rw [inMem_eq] at hmx hmy
    have hl := len_cnts x.xs
    rw [cnt_eq] at hcnt
    obtain ⟨l, t, a, c, xs⟩ := x
    obtain ⟨l', t', a', c', ys⟩ := y
    replace hmx : rowMem n w a 0 xs := hmx
    replace hmy : rowMem n w a' 0 ys := hmy
    replace hl : xs.length ≤ cnts xs := hl
    replace hcnt : cnts xs + 1 < 100000000000000000 := hcnt
    have IH' : ∀ (j : Nat) (p q : Im), xs[j]? = some p → ∀ w : World, n ≤ w.heap.size → inMem n w p → inMem n w q → Calls Try.prog 14 #[p.val, q.val] w fun e w' => e = .returned (.bool (smI (er p) (er q))) ∧ Below w.heap.size w w' := IH
    clear IH hM
    show Calls Try.prog 14 #[.agg #[.bool l, .string t, .slice a xs.length c], .agg #[.bool l', .string t', .slice a' ys.length c']] w fun e w' => e = .returned (.bool ((decide (l = l') && decide (t = t')) && smIs (ers xs) (ers ys))) ∧ _
    have A1 : Below w.heap.size w ((w.alloc (.cells #[.bool l, .string t, .slice a xs.length c] 24)).alloc (.cells #[.bool l', .string t', .slice a' ys.length c'] 24)) := ((Below.refl _ w).alloc (Nat.le_refl _) _).alloc (by simp) _
    by_cases hll : l = l'
    · subst hll
      by_cases htt : t = t'
      · subst htt
        by_cases hlen : xs.length = ys.length
        · have hbx : ItIn w.heap.size (.mk l t a c xs) ((w.alloc (.cells #[.bool l, .string t, .slice a xs.length c] 24)).alloc (.cells #[.bool l, .string t, .slice a' ys.length c'] 24)) := (Below.heap_alloc _ _ _ (by simp)).trans (World.alloc_heap_new w _)
          have hby : ItIn (w.heap.size + 1) (.mk l t a' c' ys) ((w.alloc (.cells #[.bool l, .string t, .slice a xs.length c] 24)).alloc (.cells #[.bool l, .string t, .slice a' ys.length c'] 24)) := by
            have := World.alloc_heap_new (w.alloc (.cells #[.bool l, .string t, .slice a xs.length c] 24)) (.cells #[.bool l, .string t, .slice a' ys.length c'] 24)
            rw [World.size_alloc] at this
            exact this
          rw [show (decide (l = l) && decide (t = t) && smIs (ers xs) (ers ys)) = smIs (ers xs) (ers ys) by rw [decide_eq_true rfl, decide_eq_true rfl]; rfl]
          obtain ⟨N, hN⟩ : ∃ N, xs.length = N := ⟨_, rfl⟩
          have hN2 : ys.length = N := by omega
          rw [hN, hN2] at A1 hbx hby ⊢
          rw [hN] at hl
          clear hlen
          go_enter Try.func14, Try.ntmps14
          go_wp2_with fail
          refine wpOf (fun W => Below w.heap.size w W ∧ ItIn w.heap.size (.mk l t a c xs) W ∧ ItIn (w.heap.size + 1) (.mk l t a' c' ys) W) ⟨A1, hbx, hby⟩ ?_
          rintro w1 ⟨B1, hb1, hb2⟩
          clear hbx hby A1
          obtain ⟨z, hz⟩ : ∃ z, w.heap.size = z := ⟨_, rfl⟩
          have HZ : Hid (w.heap.size = z) := hz
          rw [hz] at B1 hb1 hb2 hn ⊢
          go_loopg [5] N (fun gk i wr => ∃ k : Nat, k + gk = N ∧ i = .int .i64 k ∧ smIs ((ers xs).take k) ((ers ys).take k) = true ∧ Below z w wr ∧ ItIn z (.mk l t a c xs) wr ∧ ItIn (z + 1) (.mk l t a' c' ys) wr)
          case atStart => exact ⟨0, by omega, rfl, rfl, B1, hb1, hb2⟩
          case round =>
            obtain ⟨k, hk, rfl, hsm, BW, hbx, hby⟩ := hrel
            have hzr := hbx.lt
            have hzr2 := hby.lt
            have d2 : wr.cell? ⟨z, 2, none⟩ = some (.slice a N c) := by rw [Lib.cell_of_heap hbx, ← hN]; rfl
            have d3 : wr.cell? ⟨z + 1, 2, none⟩ = some (.slice a' N c') := by rw [Lib.cell_of_heap hby, ← hN2]; rfl
            by_cases hlt : k < N
            · have l1 : (k : Int) < N := by omega
              obtain ⟨p, hp⟩ : ∃ y, xs[k]? = some y := ⟨xs[k]'(by omega), List.getElem?_eq_getElem (by omega)⟩
              obtain ⟨q, hq⟩ : ∃ y, ys[k]? = some y := ⟨ys[k]'(by omega), List.getElem?_eq_getElem (by omega)⟩
              obtain ⟨⟨b, o, hb, rfl, c0, c1, c2⟩, hp2⟩ := row_at xs 0 hmx k p hp
              obtain ⟨⟨b', o', hb', rfl, c0', c1', c2'⟩, hq2⟩ := row_at ys 0 hmy k q hq
              have hp3 := inMem_below (by rw [hz]; exact hn) (BW.mono hn) p hp2
              have hq3 := inMem_below (by rw [hz]; exact hn) (BW.mono hn) q hq2
              have hbz : b < z := by omega
              have hbz' : b' < z := by omega
              replace c0 := (BW.cell (p := ⟨b, _, none⟩) hbz).trans c0
              replace c1 := (BW.cell (p := ⟨b, _, none⟩) hbz).trans c1
              replace c2 := (BW.cell (p := ⟨b, _, none⟩) hbz).trans c2
              replace c0' := (BW.cell (p := ⟨b', _, none⟩) hbz').trans c0'
              replace c1' := (BW.cell (p := ⟨b', _, none⟩) hbz').trans c1'
              replace c2' := (BW.cell (p := ⟨b', _, none⟩) hbz').trans c2'
              obtain ⟨r, hr⟩ : ∃ p, o + 3 * k = p := ⟨_, rfl⟩
              obtain ⟨r', hr'⟩ : ∃ p, o' + 3 * k = p := ⟨_, rfl⟩
              rw [show o + 3 * (0 + k) = r by omega] at c0 c1 c2
              rw [show o' + 3 * (0 + k) = r' by omega] at c0' c1' c2'
              have hr2 : o + k * 3 = r := by omega
              have hr2' : o' + k * 3 = r' := by omega
              have KS := fun w hn hm hm2 => IH' k p q hp w hn hm hm2
              have hst := sm_take (ers xs) (ers ys) k (er p) (er q) (ers_at xs k p hp) (ers_at ys k q hq)
              rw [hsm, Bool.true_and] at hst
              obtain ⟨dy, hdy⟩ : ∃ q', smI (er p) (er q) = q' := ⟨_, rfl⟩
              rw [hdy] at KS hst
              have wk : IntKind.i64.wrap ((k : Int) + 1) = ((k + 1 : Nat) : Int) := by rw [IntKind.wrap_i64]; omega
              clear hdy hp2 hq2
              obtain ⟨pl, pt, pa, pc, px⟩ := p
              obtain ⟨ql, qt, qa, qc, qx⟩ := q
              simp only [Im.l, Im.t, Im.sl, Im.a, Im.xs, Im.c] at c0 c1 c2 c0' c1' c2'
              have HX : Hid (_ ∧ _ ∧ _ ∧ _) := ⟨hst, BW, hbx, hby⟩
              clear hst hsm BW hbx hby
              have cS : ∀ d os, Calls Try.prog 14 #[.agg #[.bool pl, .string pt, .slice pa px.length pc], .agg #[.bool ql, .string qt, .slice qa qx.length qc]] (grow (redrawn wr d) os) fun e w'' => e = .returned (.bool dy) ∧ ∃ p : Regrown, w'' = grow (redrawn wr p.d) p.os := fun d os => by
                have hb8 := below_regrown wr d os
                exact Calls.regrown_of (KS _ (Nat.le_trans (Nat.le_trans hn (by omega)) hb8.size) (inMem_below (Nat.le_trans hn (by omega)) (hb8.mono (Nat.le_trans hn (by omega))) _ hp3) (inMem_below (Nat.le_trans hn (by omega)) (hb8.mono (Nat.le_trans hn (by omega))) _ hq3))
              clear KS hp3 hq3
              have G : ∀ (q : Addr) (v : Value), q.block < wr.heap.size → wr.cell? q = some v → ∀ d os, (grow (redrawn wr d) os).cell? q = some v := fun q v hq hv d os => ((below_regrown wr d os).cell hq).trans hv
              have hbr : b < wr.heap.size := by omega
              have hbr' : b' < wr.heap.size := by omega
              have q2 := G _ _ hzr d2
              have q3 := G _ _ hzr2 d3
              have q4 := G _ _ hbr c0
              have q5 := G _ _ hbr c1
              have q6 := G _ _ hbr c2
              have q7 := G _ _ hbr' c0'
              have q8 := G _ _ hbr' c1'
              have q9 := G _ _ hbr' c2'
              clear G
              go_wp2_with fail
              refine wp_region_quiet_below (by kernel_rfl) (by kernel_rfl) ?_
              iterate 10 (quiet_step (fail))
              quiet_step (exact cS _ _)
              repeat (quiet_step (fail))
              refine wpQuiet_nil ?_
              rintro w3 hw3
              have B3 : Below wr.heap.size wr w3 := by
                obtain ⟨p, rfl⟩ := hw3
                exact below_regrown _ _ _
              clear hw3 cS c0 c1 c2 c0' c1' c2' q2 q3 q4 q5 q6 q7 q8 q9
              cases dy with
              | false =>
                go_wp2
                go_ret
                refine ⟨?_, by rw [hz]; exact belowStep HX.out.2.1 (by omega) B3⟩
                rw [sm_take_false _ _ _ HX.out.1]
                rfl
              | true =>
                go_wp2
                go_roundg (gk - 1)
                case measure => omega
                case rel =>
                  obtain ⟨hst, BW, hbx, hby⟩ := HX.out
                  exact ⟨k + 1, by omega, by first | rfl | (congr 1; omega), hst, belowStep BW (by omega) B3, (B3.block z hzr).trans hbx, (B3.block (z + 1) hzr2).trans hby⟩
            · have hk2 : k = N := by omega
              have l1 : ¬ (k : Int) < N := by omega
              rw [hk2, List.take_of_length_le (by rw [ers_len]; omega), List.take_of_length_le (by rw [ers_len]; omega)] at hsm
              have HX : Hid _ := hsm
              clear hsm
              go_wp2
              go_ret
              exact ⟨by rw [HX.out]; rfl, BW⟩
        · have hsm : smIs (ers xs) (ers ys) = false := by
            cases hs : smIs (ers xs) (ers ys) with
            | false => rfl
            | true => exact absurd (by rw [← ers_len xs, ← ers_len ys]; exact smIs_len _ _ hs) hlen
          rw [hsm, Bool.and_false]
          have l3 : ((xs.length : Int) == ys.length) = false := by rw [beq_eq_false_iff_ne]; omega
          have l4 : ((xs.length : Int) != ys.length) = true := by rw [bne, l3]; rfl
          have l5 : ¬ (xs.length : Int) = ys.length := by omega
          clear hsm hlen
          go_enter Try.func14, Try.ntmps14
          go_wp2
          go_ret
          exact ⟨rfl, A1⟩
      · rw [decide_eq_false htt, Bool.and_false, Bool.false_and]
        have l3 : (t.toList == t'.toList) = false := by rw [beq_eq_false_iff_ne]; exact fun e => htt (toList_inj e)
        go_enter Try.func14, Try.ntmps14
        go_wp2
        go_ret
        exact ⟨rfl, A1⟩
    · rw [decide_eq_false hll, Bool.false_and, Bool.false_and]
      cases l <;> cases l' <;> first | exact absurd rfl hll | (
        go_enter Try.func14, Try.ntmps14
        go_wp2
        go_ret
        exact ⟨rfl, A1⟩)
end Go.Proofs.Yteaongogomhooaa
