/- Lemmas: A Builder whose bytes lie in a row of their own, told block by block: one byte more, and the text. Condition: of at most 10^9 bytes. -/
import Derived.Test.YtbmapdkcccdmfaaDoorM1
import Derived.Test.YtbmapdkcccdmfaaDoorM11
import Derived.Test.YtbmapdkcccdmfaaDoorM18
import Derived.Test.YtbmapdkcccdmfaaDoorM19
import Derived.Test.YtbmapdkcccdmfaaDoorM20
import Derived.Test.YtbmapdkcccdmfaaDoorM21
import Derived.Test.YtbmapdkcccdmfaaDoorM22
import Derived.Test.YtbmapdkcccdmfaaDoorM23
import Derived.Test.YtbmapdkcccdmfaaDoorM3
import Derived.Test.YtbmapdkcccdmfaaDoorRows
import Derived.Laws.IdiomCopy
namespace Go.Proofs.YtbmapdkcccdmfaaDoor
open Go.RowKit Go.Sort

structure Row (g cap : Nat) (xs : List Value) (W : World) : Prop where
 nc : xs.length ≤ cap
 cm : cap ≤ maxLen
 h : ∃ cur : Array Value, W.heap[g]? = some (.cells cur 5 (0, 0)) ∧ cur.size = cap ∧ ∀ (j : Nat) (v : Value), xs[j]? = some v → cur[j]? = some v
structure Rb (b g cap : Nat) (xs : List Value) (W : World) : Prop where
 hb : W.heap[b]? = some (.cells #[.pointer (some ⟨b, 0, none⟩), .slice (some ⟨g, 0, none⟩) xs.length cap] 83 (0, 0))
 r : Row g cap xs W
 ne : b ≠ g

theorem Row.lt {g cap : Nat} {xs : List Value} {W : World} (rb : Row g cap xs W) : g < W.heap.size := by
 obtain ⟨cur, h, _⟩ := rb.h
 exact (Array.getElem?_eq_some_iff.1 h).1
theorem Row.keep {g cap : Nat} {xs : List Value} {W W' : World} (rb : Row g cap xs W) (h : W'.heap[g]? = W.heap[g]?) : Row g cap xs W' := by
 obtain ⟨cur, h1, h2, h3⟩ := rb.h
 exact ⟨rb.nc, rb.cm, cur, h.trans h1, h2, h3⟩
theorem Row.cell {g cap : Nat} {xs : List Value} {W : World} (rb : Row g cap xs W) (j : Nat) (v : Value) (h : xs[j]? = some v) : W.cell? ⟨g, j, none⟩ = some v := by
 obtain ⟨cur, h1, _, h3⟩ := rb.h
 rw [Lib.cell_of_heap h1]
 exact h3 j v h
theorem Rb.lt {b g cap : Nat} {xs : List Value} {W : World} (rb : Rb b g cap xs W) : b < W.heap.size := (Array.getElem?_eq_some_iff.1 rb.hb).1
theorem Rb.keep {b g cap : Nat} {xs : List Value} {W W' : World} (rb : Rb b g cap xs W) (h1 : W'.heap[b]? = W.heap[b]?) (h2 : W'.heap[g]? = W.heap[g]?) : Rb b g cap xs W' := ⟨h1.trans rb.hb, rb.r.keep h2, rb.ne⟩
theorem Rb.below {b g cap : Nat} {xs : List Value} {W W' : World} (rb : Rb b g cap xs W) (h : Below W.heap.size W W') : Rb b g cap xs W' := rb.keep (h.block b rb.lt) (h.block g rb.r.lt)
theorem Rb.own {b g cap : Nat} {xs : List Value} {A C : World} {row : Option Nat} (rb : Rb b g cap xs A) (hg : A.grownBy C row) (hr : ∀ r, row = some r → ∃ o : Obj, A.heap[r]? = some o ∧ o.isCells = false) : Rb b g cap xs C := by
 have ht : ∀ k c T fz, A.heap[k]? = some (.cells c T fz) → row ≠ some k := fun k c T fz hk e => by
  obtain ⟨o, ho, hc⟩ := hr k e
  rw [hk] at ho
  cases ho
  cases hc
 obtain ⟨cur, h1, _, _⟩ := rb.r.h
 exact rb.keep (hg.block b rb.lt (fun e => ht _ _ _ _ rb.hb e.symm)) (hg.block g rb.r.lt (fun e => ht _ _ _ _ h1 e.symm))

theorem run_append_one {W : World} {g cap : Nat} {xs : List Value} (rb : Row g cap xs W) (x : Value) (hx : x.oneCell' = true) (ad : Addr) (had : W.cell? (ad.add 0) = some x) (hsm : xs.length + 1 ≤ 1000000000) (ty : TypeId) :
  ∃ g' cap' W', (Builtin.append_ #[24, 24] ty #[.slice (some ⟨g, 0, none⟩) xs.length cap, .slice (some ad) 1 1]).run Tryd.prog W = .ok (.slice (some ⟨g', 0, none⟩) (xs.length + 1) cap') W' ∧
   Row g' cap' (xs ++ [x]) W' ∧ (g' = g ∨ g' = W.heap.size) ∧ W.grownBy W' (some g) := by
 obtain ⟨i, hi, hz, h1, hby⟩ := info_parts n_info_u8
 obtain ⟨cur, hc1, hc2, hc3⟩ := rb.h
 have hnews : ∀ j v, [x][j]? = some v → W.cell? (ad.add j) = some v := fun j v hj => by
  match j, hj with
  | 0, hj => cases hj; exact had
 by_cases hroom : xs.length + 1 ≤ cap
 ·refine ⟨g, cap, W.setCell ⟨g, xs.length, none⟩ x, ?_, ?_, .inl rfl, ?_⟩
  ·have hfc := run_firstCells_some (P := Tryd.prog) W i.size 1 ad 1 1 [x] (by rw [h1]; rfl) hnews
   rw [h1] at hfc
   have hs0 : (W.cell? ⟨g, xs.length, none⟩).isSome = true := by rw [Lib.cell_of_heap hc1, Array.getElem?_eq_getElem (by omega)]; rfl
   have hf0 : W.frozen? ⟨g, xs.length, none⟩ = false := Lib.frozen_of_heap hc1 _
   have hst := run_storeCells_cells (P := Tryd.prog) g xs.length [x] 0 W (fun j hj => by
    match j, hj with
    | 0, _ => exact hs0
    | j + 1, hj => simp at hj) (fun j hj => by
    match j, hj with
    | 0, _ => exact hf0
    | j + 1, hj => simp at hj) (by intro u hu; simp at hu; subst hu; exact hx)
   simp only [Nat.add_zero] at hst
   have hst2 : W.setCells g xs.length [x] = W.setCell ⟨g, xs.length, none⟩ x := rfl
   rw [hst2] at hst
   simp [Builtin.append_, run_underlying Tryd.underlying24, sizeOf, typeInfo, hi, Builtin.lenOf, hroom, hfc, Addr.add_lit, h1, hst]
  ·refine ⟨by simpa using hroom, rb.cm, cur.setIfInBounds xs.length x, by simp [World.setCell, Array.getElem?_modify, hc1], by simp [hc2], fun j v hj => ?_⟩
   by_cases e : j = xs.length
   ·subst e
    rw [List.getElem?_append_right (Nat.le_refl _), Nat.sub_self] at hj
    cases hj
    rw [Array.getElem?_setIfInBounds, if_pos rfl, if_pos (by omega)]
   ·have hjl : j < xs.length := by
     have := (List.getElem?_eq_some_iff.1 hj).1
     simp at this
     omega
    rw [List.getElem?_append_left hjl] at hj
    rw [Array.getElem?_setIfInBounds, if_neg (by omega)]
    exact hc3 j v hj
  ·exact ⟨rfl, rfl, rfl, by simp [World.setCell], fun k _ hk => Below.heap_setCell _ _ _ _ (fun e => hk (by simp [e]))⟩
 ·have holds : ∀ j v, xs[j]? = some v → W.cell? ((⟨g, 0, none⟩ : Addr).add j) = some v := fun j v hj => by
   rw [Addr.add_mid, Nat.zero_add]
   exact rb.cell j v hj
  have hr := run_append_grow (P := Tryd.prog) W 24 ty 5 i (.int .u8 0) Tryd.underlying24 hi hz ⟨g, 0, none⟩ xs.length cap xs (by rw [h1, Nat.mul_one]) holds ad 1 1 [x] (by rw [h1]; rfl) hnews (by omega) (by omega) (growslice_fits (by omega) (by rw [hby]; omega))
  have hge := grownCap_ge W (xs.length + 1) cap 5
  have hle : grownCap W (xs.length + 1) cap 5 ≤ maxLen := grownCap_le_maxLen W (xs.length + 1) cap 5 (by unfold maxLen; omega)
  refine ⟨_, _, _, hr, ⟨by simpa using hge, hle, _, World.alloc_heap_new W.drew _, ?_, fun j v hj => ?_⟩, .inr rfl, ⟨rfl, rfl, rfl, by simp, fun k hk _ => Below.heap_alloc W.drew _ k hk⟩⟩
  ·have hz1 : (Value.int IntKind.u8 0).cells.size = 1 := rfl
   simp only [Array.size_append, List.size_toArray, size_zeroCells, hz1, List.length_cons, List.length_nil]
   omega
  ·have hjl := (List.getElem?_eq_some_iff.1 hj).1
   rw [Array.getElem?_append_left (by simpa using hjl)]
   simpa using hj

theorem wpList_append_one {W : World} {ops : Array Oper} {rest : List Oper} {o : Oper} {a : Act} {Q : Exit → Act → World → Prop} (hgd : o.guard = none) (s y : Operand)
  (hop : o.op = .call { callee := .builtin .append, args := #[s, y], argTypes := #[24, 24] }) {g cap : Nat} {xs : List Value} (rb : Row g cap xs W) (hs : a.eval s = .slice (some ⟨g, 0, none⟩) xs.length cap)
  (x : Value) (hx : x.oneCell' = true) (ad : Addr) (had : W.cell? (ad.add 0) = some x) (hy : a.eval y = .slice (some ad) 1 1) (hsm : xs.length + 1 ≤ 1000000000)
  (h : ∀ g' cap' W', Row g' cap' (xs ++ [x]) W' → (g' = g ∨ g' = W.heap.size) → W.grownBy W' (some g) → wpList Tryd.prog ops Q rest (a.put o.dst (.slice (some ⟨g', 0, none⟩) (xs.length + 1) cap')) W') : wpList Tryd.prog ops Q (o :: rest) a W := by
 refine wpList_plain hgd fun _ hK => ?_
 obtain ⟨g', cap', W', hr, b1, b2, b3⟩ := run_append_one rb x hx ad had hsm o.type
 unfold Oper.wp execOp
 simp only [hop, resolve, invoke, builtin, Sem.run_bind, Sem.run_pure, Result.andThen_ok, List.map_toArray, List.map_cons, List.map_nil, hs, hy, hr]
 exact hK _ _ (h g' cap' W' b1 b2 b3)

set_option maxRecDepth 20000 in
set_option maxHeartbeats 2000000 in
theorem write_row (b g cap : Nat) (xs : List Value) (c : Int) (w : World) (rb : Rb b g cap xs w) (hsm : xs.length + 1 ≤ 1000000000) :
  Calls Tryd.prog 42 #[.pointer (some ⟨b, 0, none⟩), .int .u8 c] w fun e w' => e = .returned .nilIface ∧ ∃ g' cap', Rb b g' cap' (xs ++ [.int .u8 c]) w' ∧ (g' = g ∨ w.heap.size ≤ g') ∧ w.heap.size ≤ w'.heap.size ∧
   (∀ k, k < w.heap.size → k ≠ b → k ≠ g → w'.heap[k]? = w.heap[k]?) ∧ ∀ B, B ≤ b → B ≤ g → Below B w w' := by
 have hbk := rb.hb
 have c0 : w.cell? ⟨b, 0, none⟩ = some (.pointer (some ⟨b, 0, none⟩)) := by rw [Lib.cell_of_heap hbk]; rfl
 have c1 : w.cell? ⟨b, 1, none⟩ = some (.slice (some ⟨g, 0, none⟩) xs.length cap) := by rw [Lib.cell_of_heap hbk]; rfl
 have hlt : b < w.heap.size := rb.lt
 have HB : Hid (_ ∧ _) := ⟨hbk, rb⟩
 clear hbk rb
 go_enter Tryd.func42, Tryd.ntmps42
 go_wp2_with fail
 refine (copyCheck_used b w c0).mono ?_
 rintro e w1 ⟨rfl, rfl⟩
 have rb1 : Row g cap xs (w1.alloc (.cells #[.int .u8 c] 5)) := HB.out.2.r.keep (Lib.alloc_old w1 _ g HB.out.2.r.lt)
 go_wp2_with (at_builtin; refine wpList_append_one rfl _ _ rfl rb1 rfl (.int .u8 c) rfl ⟨w1.heap.size, 0, none⟩ (by simp [Addr.add]) rfl hsm ?_)
 intro g' cap' w2 rb2 hg' hgrow
 have hne := HB.out.2.ne
 have hgl := HB.out.2.r.lt
 have hb2 : w2.heap[b]? = some (.cells #[.pointer (some ⟨b, 0, none⟩), .slice (some ⟨g, 0, none⟩) xs.length cap] 83 (0, 0)) := by
  rw [hgrow.block b (by simp; omega) (fun e => hne (by cases e; rfl)), Lib.alloc_old w1 _ b hlt]
  exact HB.out.1
 have d0 : w2.cell? ⟨b, 0, none⟩ = some (.pointer (some ⟨b, 0, none⟩)) := by rw [Lib.cell_of_heap hb2]; rfl
 have d1 : w2.cell? ⟨b, 1, none⟩ = some (.slice (some ⟨g, 0, none⟩) xs.length cap) := by rw [Lib.cell_of_heap hb2]; rfl
 have f1 : w2.frozen? ⟨b, 1, none⟩ = false := Lib.frozen_of_heap hb2 1
 have HG : Hid (_ ∧ _ ∧ _) := ⟨rb2, hg', hgrow⟩
 clear rb2 hg' hgrow rb1
 go_wp2
 go_ret
 obtain ⟨rb2, hg', hgrow⟩ := HG.out
 have hg2 : g' = g ∨ g' = w1.heap.size + 1 := by
  rcases hg' with h | h
  ·exact .inl h
  ·exact .inr (by rw [h])
 have hbg : b ≠ g' := by rcases hg2 with h | h <;> omega
 refine ⟨rfl, g', cap', ⟨?_, rb2.keep (Below.heap_setCell _ _ _ _ hbg.symm), hbg⟩, by rcases hg2 with h | h <;> omega, ?_, fun k hk h1 h2 => ?_, fun B hB hB2 => ?_⟩
 ·simp [World.setCell, Array.getElem?_modify, hb2]
 ·have := hgrow.size
  simp [World.setCell] at this ⊢
  omega
 ·rw [Below.heap_setCell _ _ _ _ (fun e => h1 e), hgrow.block k (by simp; omega) (fun e => h2 (by cases e; rfl)), Lib.alloc_old w1 _ k hk]
 ·exact (((Below.refl B w1).alloc (by omega) _).grown hgrow (by simp; omega) (fun k hk => by cases hk; exact hB2)).setCell (p := ⟨b, 1, none⟩) hB _

theorem grow_row (b n : Nat) (w : World) (hbk : w.heap[b]? = some (.cells #[.pointer none, .slice none 0 0] 83 (0, 0))) (h0 : 0 < n) (hn : n ≤ 281474976710656) :
  Calls Tryd.prog 40 #[.pointer (some ⟨b, 0, none⟩), .int .i64 n] w fun e w' => e = .returned (.tuple #[]) ∧ Below b w w' ∧ ∃ g cap, n ≤ cap ∧ b < g ∧ Rb b g cap [] w' := by
 refine (Tryd.Builder_Grow_fresh_cap b b n w (Nat.le_refl _) hbk (Nat.le_of_lt (Array.getElem?_eq_some_iff.1 hbk).1) hn).mono ?_
 rintro e w' ⟨rfl, ⟨⟨_, v, hb, hown, hne⟩, B1⟩, p, cap, hc, hcap⟩
 rw [Lib.cell_of_heap hb] at hc
 obtain rfl : v = .slice p 0 cap := by simpa using hc
 rcases hown.2 with ⟨h1, _⟩ | ⟨g, cap', cur, h1, h2, h3, _, h5, h6, _⟩
 ·simp only [Value.slice.injEq] at h1
  omega
 ·simp only [Value.slice.injEq] at h1
  obtain ⟨rfl, _, rfl⟩ := h1
  have hbg : b ≠ g := fun e => hne (by rw [e]; rfl)
  exact ⟨rfl, B1, g, cap, hcap, by omega, hb, ⟨Nat.zero_le _, h5, cur, h3, by omega, fun j v hj => by cases hj⟩, hbg⟩

set_option maxRecDepth 20000 in
set_option maxHeartbeats 2000000 in
theorem string_row (b g cap : Nat) (l : List UInt8) (w : World) (rb : Rb b g cap (Lib.byteCells l) w) (hc0 : cap ≠ 0) :
  Calls Tryd.prog 43 #[.pointer (some ⟨b, 0, none⟩)] w fun e w' => e = .returned (.string ⟨l.toArray⟩) ∧ w.heap.size ≤ w'.heap.size ∧ (∀ k, k ≠ g → w'.heap[k]? = w.heap[k]?) ∧ ∀ B, B ≤ g → Below B w w' := by
 have hbk := rb.hb
 rw [Lib.byteCells_length] at hbk
 have hSD : (Builtin.unsafeSliceData_ #[24] 115 #[.slice (some ⟨g, 0, none⟩) l.length cap]).run Tryd.prog w.drew = .ok (.pointer (some ⟨g, 0, none⟩)) w.drew :=
  Lib.run_unsafeSliceData_row _ _ _ _ _ _ hc0
 have c1 : w.drew.cell? ⟨b, 1, none⟩ = some (.slice (some ⟨g, 0, none⟩) l.length cap) := by
  have h : w.drew.heap[b]? = some (.cells #[.pointer (some ⟨b, 0, none⟩), .slice (some ⟨g, 0, none⟩) l.length cap] 83 (0, 0)) := hbk
  rw [Lib.cell_of_heap h]; rfl
 have hnl : l.length ≤ cap := by have := rb.r.nc; rwa [Lib.byteCells_length] at this
 obtain ⟨cur, hg, hcs, hcur⟩ := rb.r.h
 have hcm := rb.r.cm
 by_cases h0 : l = []
 ·subst h0
  simp only [List.length_nil] at hSD c1
  clear hc0 hcur hcs hg hbk rb hnl hcm
  have hUS : (Builtin.unsafeString_ #[115, 3] 9 #[.pointer (some ⟨g, 0, none⟩), .int .i64 0]).run Tryd.prog w.drew = .ok (.string .empty) w.drew := Lib.run_unsafeString_none w.drew _ _ _ _
  go_enter Tryd.func43, Tryd.ntmps43
  go_wp2
  go_region
  all_goals (go_wp2; go_ret; exact ⟨rfl, Nat.le_refl _, fun _ _ => rfl, fun B _ => Below.drew (Below.refl B w)⟩)
 ·have hUS : (Builtin.unsafeString_ #[115, 3] 9 #[.pointer (some ⟨g, 0, none⟩), .int .i64 l.length]).run Tryd.prog w.drew = .ok (.string ⟨l.toArray⟩) (w.drew.freeze ⟨g, 0, none⟩ l.length) := by
   refine Lib.run_unsafeString_row w.drew 115 3 9 5 Tryd.underlying115 (by kernel_rfl) g cur.size (by have hg' : w.drew.heap[g]? = some (.cells cur 5 (0, 0)) := hg; simp [World.shape?, hg']) l h0 (by omega) (by unfold maxLen at hcm; omega) ?_
   intro j x hx
   have h : w.drew.heap[g]? = some (.cells cur 5 (0, 0)) := hg
   rw [Addr.add_mid, Nat.zero_add, Lib.cell_of_heap h]
   exact hcur j _ (by simp [Lib.byteCells, hx])
  have hfz : ∀ k, k ≠ g → (w.drew.freeze ⟨g, 0, none⟩ l.length).heap[k]? = w.heap[k]? := fun k hk => by
   unfold World.freeze
   split
   ·rfl
   ·simp only [Array.getElem?_modify]
    rw [if_neg (fun e => hk e.symm)]
    rfl
  have hfs : w.heap.size ≤ (w.drew.freeze ⟨g, 0, none⟩ l.length).heap.size := by
   unfold World.freeze
   split
   ·exact Nat.le_refl _
   ·simp
  have HF : Hid (_ ∧ _) := ⟨hfz, hfs⟩
  clear hfz hfs hcur hcs hg hbk rb
  go_enter Tryd.func43, Tryd.ntmps43
  go_wp2
  go_region
  all_goals (go_wp2; go_ret; exact ⟨rfl, HF.out.2, HF.out.1, fun B hB => Lib.below_freeze (Below.drew (Below.refl B w)) (p := ⟨g, 0, none⟩) hB _⟩)
end Go.Proofs.YtbmapdkcccdmfaaDoor
