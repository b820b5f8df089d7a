/- Whether an item is right. -/
import Derived.Test.YteaongogomhooaaQ8
namespace Go.Proofs.Yteaongogomhooaa
open Go.RowKit Go.Shelf
attribute [local go_sem] Oper.semAt_some

/-- Is one right, by itself? -/
def rgt (x : Im) : Bool := if x.l then decide (x.t.size = 0) else decide (x.xs.length = 0)
theorem empty_list (s : ByteArray) (h : s.size = 0) : s.toList.isEmpty = true := by
  rw [← decide_eq_emptyBytes s]
  exact decide_eq_true (is_empty s h)
def okR (e : Nat × Im) : Prop := rgt e.2 = true
def right (x : Im) : Bool := (pro 1 x).all fun e => rgt e.2
theorem ItIn.own {b : Nat} {x : Im} {A C : World} {row : Option Nat} (h : ItIn b x A) (hg : A.grownBy C row) (hr : ∀ r, row = some r → ∃ o : Obj, A.heap[r]? = some o ∧ o.isCells = false) : ItIn b x C := by
  refine (hg.block b h.lt (fun e => ?_)).trans h
  obtain ⟨o, ho, hc⟩ := hr b e.symm
  rw [show A.heap[b]? = _ from h] at ho
  cases ho
  cases hc

set_option maxRecDepth 100000 in
set_option maxHeartbeats 2000000 in
theorem isRight_any (x : Im) (hc : cnt x < 100000000000000000) (n0 : Nat) (w : World) (hw : n0 ≤ w.heap.size) (hm : inMem n0 w x) :
    Calls Try.prog 25 #[x.val] w fun e w' => e = .returned (.bool (right x)) ∧ Below w.heap.size w w' := by
  have KW : Hid (∀ w : World, _) := fun w : World => within_any x w
  have KS := fun n bX w hb hn hm => within_stops n bX n0 x hc w hb hn hm
  obtain ⟨il, it, ia, ic, xs⟩ := x
  replace KW : Hid (∀ w : World, Calls Try.prog 27 #[.agg #[.bool il, .string it, .slice ia xs.length ic]] w fun e w' => e = .returned (.func (.func 40) #[] #[.pointer (some ⟨w.heap.size, 0, none⟩)]) ∧ w' = w.alloc (.cells #[.bool il, .string it, .slice ia xs.length ic] 24)) := KW
  show Calls Try.prog 25 #[.agg #[.bool il, .string it, .slice ia xs.length ic]] w _
  refine (callsIn_wide (n := 9)).1 ?_
  refine callsIn_of_wp_marks Try.func25 rfl trivial ?_ rfl
  refine wpIn_wide.2 ?_
  simp only [Try.ntmps25, List.size_toArray, List.length_cons, List.length_nil, Nat.reduceAdd, Nat.reduceSub, Array.replicate_succ, Array.replicate_zero, List.push_toArray, List.append_toArray, List.nil_append, List.cons_append]
  go_wp2_with fail
  refine wpOfC (fun W => Bx (w.heap.size + 1) 4 (.bool false) W ∧ Below w.heap.size w W) ?_ ?_
  · refine ⟨?_, ((Below.refl _ w).alloc (Nat.le_refl _) _).alloc (by simp) _⟩
    have := World.alloc_heap_new (w.alloc (.cells #[.bool il, .string it, .slice ia xs.length ic] 24)) (.cells #[.bool false] 4)
    rwa [World.size_alloc] at this
  rintro w1 ⟨hR, BW1⟩
  obtain ⟨z, hz⟩ : ∃ c, w.heap.size = c := ⟨_, rfl⟩
  have HZ : Hid (w.heap.size = z) := hz
  have hm1 := inMem_below hw (BW1.mono hw) _ hm
  rw [hz] at hR BW1 hw ⊢
  obtain ⟨bR, hbR⟩ : ∃ c, z + 1 = c := ⟨_, rfl⟩
  rw [hbR] at hR ⊢
  clear hz hm
  refine (KW.out _).mono ?_
  rintro e w2 ⟨rfl, hw2⟩
  have a2 : Below w1.heap.size w1 w2 := by rw [hw2]; exact (Below.refl _ w1).alloc (Nat.le_refl _) _
  have hcx : ItIn w1.heap.size (.mk il it ia ic xs) w2 := by rw [hw2]; exact World.alloc_heap_new w1 _
  have hRl := hR.lt
  have hR2 : Bx bR 4 (.bool false) w2 := (a2.block bR hR.lt).trans hR
  have BW2 := belowStep BW1 (by omega) a2
  have hm2 := inMem_below (by omega) (a2.mono (by omega)) _ hm1
  clear hw2 a2 hR BW1 hm1
  obtain ⟨bX, hbX⟩ : ∃ c, w1.heap.size = c := ⟨_, rfl⟩
  rw [hbX] at hcx hRl ⊢
  clear hbX
  go_wp2_with fail
  have hxz : bX < w2.heap.size := hcx.lt
  have hn2 : n0 ≤ w2.heap.size := by omega
  refine (wpIn_wide (n := 9)).1 ?_
  refine wpIn_rangeFunc_ownH rfl (by omega) (gf := 40) (lb := #[.pointer (some ⟨bX, 0, none⟩)]) rfl trivial (enters_of Try.func40 (by kernel_rfl) rfl)
    (KS _ bX w2 hcx hn2 hm2) (fun h k => ItK.trans h k) (fun W l o o' hl h1 h2 h3 => itK_put hn2 hl h1 h2 h3) (Below.refl _ _) (fun _ => rfl)
    (fun pre W => Bx bR 4 (.bool false) W ∧ Below z w W ∧ AllE okR pre)
    (fun c pre W => c = .ret ∧ Bx bR 4 (.bool false) W ∧ Below z w W ∧ ExE okR pre)
    (fun s A C row hs hg hr => ⟨hs.1.own hg (fun r e => (hr r e).2), hs.2.1.grown hg (by have := hs.1.lt; omega) (fun k e => Nat.le_trans (by omega) (hr k e).1), hs.2.2⟩)
    (fun c s A C row hs hg hr => ⟨hs.1, hs.2.1.own hg (fun r e => (hr r e).2), hs.2.2.1.grown hg (by have := hs.2.1.lt; omega) (fun k e => Nat.le_trans (by omega) (hr k e).1), hs.2.2.2⟩)
    ⟨hR2, BW2, fun e he => (by cases he)⟩
    (fun x a' W => ∃ Bi, bR < Bi ∧ ItIn Bi x.1.2 W ∧ a' = { tmps := #[.agg #[.bool il, .string it, .slice ia xs.length ic], .pointer (some ⟨z, 0, none⟩), .pointer (some ⟨bR, 0, none⟩), undef, .pointer (some ⟨Bi, 0, none⟩), .agg #[.bool il, .string it, .slice ia xs.length ic], .func (.func 40) #[] #[.pointer (some ⟨bX, 0, none⟩)], .int .i64 x.1.1, x.1.2.val, undef, undef, undef, undef, undef, undef, undef, undef, undef, undef, undef, undef, undef, undef, undef, undef, undef, undef], defers := [] })
    (fun x a' _ X Y row hs hg hr => by obtain ⟨Bi, h1, h2, h3⟩ := hs; exact ⟨Bi, h1, h2.own hg (fun r e => (hr r e).2), h3⟩)
    ?assign ?body ?done ?stop
  case assign =>
    rintro l pre x W K ⟨hRd, BWd, hall⟩ hK
    dsimp only [wEnc]
    obtain ⟨⟨d, il2, it2, ia2, ic2, xs2⟩, hx⟩ := x
    simp only [Im.val, Im.l, Im.t, Im.sl, Im.a, Im.xs, Im.c]
    have hRW := hRd.lt
    have A1 : Below W.heap.size W (W.alloc (.cells #[.bool il2, .string it2, .slice ia2 xs2.length ic2] 24)) := (Below.refl _ W).alloc (Nat.le_refl _) _
    have hN : ItIn W.heap.size (.mk il2 it2 ia2 ic2 xs2) (W.alloc (.cells #[.bool il2, .string it2, .slice ia2 xs2.length ic2] 24)) := World.alloc_heap_new W _
    gi_wp2
    exact hK _ _ ((ko_below A1).from _) (ItK.of_below (by omega) A1) ⟨(A1.block _ hRW).trans hRd, belowStep BWd (by omega) A1, hall⟩ ⟨W.heap.size, hRW, hN, rfl⟩
  case body =>
    rintro l pre x a' W hl ⟨r, hr⟩ ⟨hRd, BWd, hall⟩ ⟨Bi, hBi, hIt, rfl⟩ hlt
    obtain ⟨⟨d, il2, it2, ia2, ic2, xs2⟩, hx⟩ := x
    have i0 : W.cell? ⟨Bi, 0, none⟩ = some (.bool il2) := by rw [Lib.cell_of_heap hIt]; rfl
    have i1 : W.cell? ⟨Bi, 1, none⟩ = some (.string it2) := by rw [Lib.cell_of_heap hIt]; rfl
    have i2 : W.cell? ⟨Bi, 2, none⟩ = some (.slice ia2 xs2.length ic2) := by rw [Lib.cell_of_heap hIt]; rfl
    simp only [Im.val, Im.l, Im.t, Im.sl, Im.a, Im.xs, Im.c]
    have cR := hRd.cell
    have fR := hRd.fr
    have hRW := hRd.lt
    clear hIt
    cases il2 with
    | true =>
      by_cases h0 : it2.size = 0
      · have he : it2.toList.isEmpty = true := empty_list it2 h0
        gi_wp2
        refine (?_ : KeepsFrom _ W W ∧ ItK n0 W W ∧ Bx bR 4 (.bool false) W ∧ Below z w W ∧ AllE okR (pre ++ [_]))
        exact ⟨KeepsFrom.refl _ _, ItK.refl _ _, hRd, BWd, hall.snoc _ ((if_pos rfl).trans (decide_eq_true h0))⟩
      · have he := ne_empty it2 (by omega)
        gi_wp2
        any_goals (rename_i hb _; exact absurd hb (by simp [undef]))
        refine (?_ : KeepsFrom _ W (W.setCell ⟨bR, 0, none⟩ (.bool false)) ∧ Code.ret = .ret ∧ Bx bR 4 (.bool false) (W.setCell ⟨bR, 0, none⟩ (.bool false)) ∧ Below z w (W.setCell ⟨bR, 0, none⟩ (.bool false)) ∧ ExE okR (pre ++ [_]))
        exact ⟨ko_set _ _ _ _, rfl, hRd.put _, BWd.setCell (p := ⟨bR, 0, none⟩) (by show z ≤ bR; omega) _, ExE.snoc pre _ (fun h => h0 (of_decide_eq_true ((if_pos rfl).symm.trans h)))⟩
    | false =>
      by_cases h0 : xs2.length = 0
      · have he : ¬ (0 : Int) < xs2.length := by omega
        gi_wp2
        refine (?_ : KeepsFrom _ W W ∧ ItK n0 W W ∧ Bx bR 4 (.bool false) W ∧ Below z w W ∧ AllE okR (pre ++ [_]))
        exact ⟨KeepsFrom.refl _ _, ItK.refl _ _, hRd, BWd, hall.snoc _ ((if_neg (by decide : ¬ false = true)).trans (decide_eq_true h0))⟩
      · have he : (0 : Int) < xs2.length := by omega
        gi_wp2
        refine (?_ : KeepsFrom _ W (W.setCell ⟨bR, 0, none⟩ (.bool false)) ∧ Code.ret = .ret ∧ Bx bR 4 (.bool false) (W.setCell ⟨bR, 0, none⟩ (.bool false)) ∧ Below z w (W.setCell ⟨bR, 0, none⟩ (.bool false)) ∧ ExE okR (pre ++ [_]))
        exact ⟨ko_set _ _ _ _, rfl, hRd.put _, BWd.setCell (p := ⟨bR, 0, none⟩) (by show z ≤ bR; omega) _, ExE.snoc pre _ (fun h => h0 (of_decide_eq_true ((if_neg (by decide : ¬ false = true)).symm.trans h)))⟩
  case done =>
    rintro D ys W hD hys ⟨hRd, BWd, hall⟩ hK
    have cR := hRd.cell
    have fR := hRd.fr
    have HO : Hid (right (.mk il it ia ic xs) = true) := by
      show (pro 1 _).all _ = true
      rw [List.all_eq_true]
      exact fun e he => hall.all hys e he
    have hDR : D ≠ bR := fun e => by rw [e, show W.heap[bR]? = _ from hRd] at hK; cases hK
    have hR5 := hRd.put (.bool true)
    have hK5 : (W.setCell ⟨bR, 0, none⟩ (.bool true)).heap[D]? = some (.deferred (some [])) := (Below.heap_setCell _ _ _ _ hDR).trans hK
    have B5 : Below z w (W.setCell ⟨bR, 0, none⟩ (.bool true)) := BWd.setCell (p := ⟨bR, 0, none⟩) (by show z ≤ bR; omega) _
    have HX : Hid (_ ∧ _ ∧ _) := ⟨hR5, hK5, B5⟩
    clear hR5 hK5 B5 hRd BWd hK
    go_wp2_with fail
    obtain ⟨hR5, hK5, B5⟩ := HX.out
    have hbP := belowK_b (n₀ := z) (w := w2) (by omega) _ D _ (.deferred none) hD hK5 rfl rfl
    have c5 : ((W.setCell ⟨bR, 0, none⟩ (.bool true)).putObj D (.deferred none)).cell? ⟨bR, 0, none⟩ = some (.bool true) := Bx.cell ((World.putObj_heap_other (fun e => hDR e.symm)).trans hR5)
    refine ⟨by simp, .inl ⟨_, _, rfl, run_takeDeferred hK5, ?_⟩⟩
    refine ⟨.bool true, by simp [results, Try.results25, go_sem, c5], by rw [HO.out], ?_⟩
    rw [HZ.out]
    exact B5.trans hbP
  case stop =>
    rintro D c pre W hD ⟨q, hq, hys⟩ ⟨rfl, hRd, BWd, hex⟩ hK
    have cR := hRd.cell
    have HO : Hid (right (.mk il it ia ic xs) = false) := by
      show (pro 1 _).all _ = false
      obtain ⟨e, he, he2⟩ := hex.some
      unfold okR at he2
      rw [List.all_eq_false]
      exact ⟨e, he, he2⟩
    have hDR : D ≠ bR := fun e => by rw [e, show W.heap[bR]? = _ from hRd] at hK; cases hK
    gi_wp2
    have hbP := belowK_b (n₀ := z) (w := w2) (by omega) _ D _ (.deferred none) hD hK rfl rfl
    have c5 : (W.putObj D (.deferred none)).cell? ⟨bR, 0, none⟩ = some (.bool false) := Bx.cell ((World.putObj_heap_other (fun e => hDR e.symm)).trans hRd)
    refine ⟨by simp, .inl ⟨_, _, rfl, run_takeDeferred hK, ?_⟩⟩
    refine ⟨.bool false, by simp [results, Try.results25, go_sem, c5], by rw [HO.out], ?_⟩
    rw [HZ.out]
    exact BWd.trans hbP
end Go.Proofs.Yteaongogomhooaa
