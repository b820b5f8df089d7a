/- Lemmas: The entries of pairs: entriesOf. -/
import Derived.Test.YtbmapdkcccdmfaaGreatDoorM1
import Derived.Test.YtbmapdkcccdmfaaGreatDoorM10
import Derived.Test.YtbmapdkcccdmfaaGreatDoorM11
import Derived.Test.YtbmapdkcccdmfaaGreatDoorM12
import Derived.Test.YtbmapdkcccdmfaaGreatDoorM13
import Derived.Test.YtbmapdkcccdmfaaGreatDoorM14
import Derived.Test.YtbmapdkcccdmfaaGreatDoorM15
import Derived.Test.YtbmapdkcccdmfaaGreatDoorM18
import Derived.Test.YtbmapdkcccdmfaaGreatDoorM19
import Derived.Test.YtbmapdkcccdmfaaGreatDoorM2
import Derived.Test.YtbmapdkcccdmfaaGreatDoorM20
import Derived.Test.YtbmapdkcccdmfaaGreatDoorM21
import Derived.Test.YtbmapdkcccdmfaaGreatDoorM22
import Derived.Test.YtbmapdkcccdmfaaGreatDoorM23
import Derived.Test.YtbmapdkcccdmfaaGreatDoorM24
import Derived.Test.YtbmapdkcccdmfaaGreatDoorM25
import Derived.Test.YtbmapdkcccdmfaaGreatDoorM26
import Derived.Test.YtbmapdkcccdmfaaGreatDoorM3
import Derived.Test.YtbmapdkcccdmfaaGreatDoorM32
import Derived.Test.YtbmapdkcccdmfaaGreatDoorM33
import Derived.Test.YtbmapdkcccdmfaaGreatDoorM34
import Derived.Test.YtbmapdkcccdmfaaGreatDoorM35
import Derived.Test.YtbmapdkcccdmfaaGreatDoorM6
import Derived.Test.YtbmapdkcccdmfaaGreatDoorM7
import Derived.Test.YtbmapdkcccdmfaaGreatDoorM8
import Derived.Test.YtbmapdkcccdmfaaGreatDoorM9
import Derived.Test.YtbmapdkcccdmfaaGreatDoorRows
namespace Go.Proofs.YtbmapdkcccdmfaaGreatDoor
open Go.RowKit Go.Shelf Go.Sort

def ents (es : List Pr) : List Pr := es.map fun e => (ofOf e.1, e.2)
theorem ents_len (es : List Pr) : (ents es).length = es.length := by unfold ents; rw [List.length_map]
theorem info_entry : (Tryz.prog.info? 148).map (fun i => (i.zero, i.size, i.bytes)) = some (some (.agg #[.string ⟨#[]⟩, .string ⟨#[]⟩]), 2, 32) := by kernel_rfl
def HeldE (cl : List Value) (es : List Pr) : Prop := ∀ (j : Nat) (e : Pr), es[j]? = some e → cl[2 * j]? = some (.string e.1) ∧ cl[2 * j + 1]? = some (.string e.2)
theorem HeldE.snoc {cl : List Value} {es : List Pr} (h : HeldE cl es) (e : Pr) (hl : 2 * es.length + 1 < cl.length) : HeldE ((cl.set (2 * es.length) (.string e.1)).set (2 * es.length + 1) (.string e.2)) (es ++ [e]) := by
 intro j x hx
 by_cases hj : j < es.length
 ·rw [List.getElem?_append_left hj] at hx
  obtain ⟨h1, h2⟩ := h j x hx
  rw [List.getElem?_set_ne (by omega), List.getElem?_set_ne (by omega), List.getElem?_set_ne (by omega), List.getElem?_set_ne (by omega)]
  exact ⟨h1, h2⟩
 ·have hjl := (List.getElem?_eq_some_iff.1 hx).1
  rw [List.length_append] at hjl
  have hj2 : j = es.length := by simp at hjl; omega
  subst hj2
  simp at hx
  subst hx
  refine ⟨?_, ?_⟩
  ·rw [List.getElem?_set_ne (by omega), List.getElem?_set_self (by omega)]
  ·rw [List.getElem?_set_self (by rw [List.length_set]; omega)]

set_option maxRecDepth 20000 in
set_option maxHeartbeats 2000000 in
theorem entriesOf_any (es : List Pr) (h0 : 0 < es.length) (hl : es.length ≤ 200) (hk : ∀ (j : Nat) (e : Pr), es[j]? = some e → e.1.size ≤ 64) (a : Option Addr) (c n : Nat) (w : World) (hn : n ≤ w.heap.size) (hp : slP n w a es) :
  Calls Tryz.prog 59 #[.slice a es.length c] w fun r w' => Below w.heap.size w w' ∧ r = .returned (.slice (some ⟨w.heap.size, 0, none⟩) es.length es.length) ∧ w.heap.size < w'.heap.size ∧ prs w' w.heap.size 0 (ents es) := by
 obtain ⟨i0, hi0, hz0, hz1, hz2⟩ := info_parts info_entry
 obtain ⟨N, hN⟩ : ∃ N, es.length = N := ⟨_, rfl⟩
 have HN : Hid (es.length = N) := hN
 rw [hN] at h0 hl ⊢
 clear hN
 go_enter Tryz.func59, Tryz.ntmps59
 go_wp2_with (at_make; refine wpList_make_full _ rfl _ _ 114 rfl w.heap.size 148 i0 _ 2 Tryz.underlying114 hi0 hz0 hz1 .i64 .i64 _ _ N rfl rfl rfl rfl (by rw [hz2]; omega) (by unfold maxLen; omega) (Nat.le_refl _) ?_; intro w1 hown hgr)
 obtain ⟨z, hz⟩ : ∃ z, w.heap.size = z := ⟨_, rfl⟩
 have B1 : Below z w w1 := hz ▸ (Below.refl _ w).grown hgr (Nat.le_refl _) (fun _ e => by cases e)
 have HZ : Hid (w.heap.size = z) := hz
 have hzw : z < w1.heap.size := by
  rcases hown.2 with ⟨h, _⟩ | ⟨g, _, _, h, _, h2, _⟩
  ·cases h
  ·cases h
   rw [← hz]
   exact (Array.getElem?_eq_some_iff.1 h2).1
 rw [hz] at hown hn ⊢
 clear hz
 go_loopg [11] N (fun gk i wr => ∃ (k : Nat) (cl : List Value), k + gk = N ∧ i = .int .i64 k ∧ wr.ownsRow z 148 2 (.slice (some ⟨z, 0, none⟩) N N) N cl ∧ HeldE cl (ents (es.take k)) ∧ Below z w wr)
 case atStart => exact ⟨0, _, by omega, rfl, hown, (fun j y h => by cases h), B1⟩
 case round =>
  obtain ⟨k, cl, hkk, rfl, hownr, hheld, BW⟩ := hrel
  have hzr : z < wr.heap.size := (hownr.lt z rfl).2
  by_cases hlt : k < N
  ·have l1 : (k : Int) < N := by omega
   obtain ⟨f, hf⟩ : ∃ f, es[k]? = some f := ⟨es[k]'(by have := HN.out; omega), List.getElem?_eq_getElem (by have := HN.out; omega)⟩
   obtain ⟨b, o, rfl, hb, c0, c1⟩ := slP_at hp k f hf
   have hbz : b < z := by omega
   replace c0 := (BW.cell (p := ⟨b, _, none⟩) hbz).trans c0
   replace c1 := (BW.cell (p := ⟨b, _, none⟩) hbz).trans c1
   obtain ⟨r, hr⟩ : ∃ p, o + 2 * k = p := ⟨_, rfl⟩
   rw [hr] at c0 c1
   have hr2 : o + k * 2 = r := by omega
   have wk : IntKind.i64.wrap ((k : Int) + 1) = ((k + 1 : Nat) : Int) := by rw [IntKind.wrap_i64]; omega
   have hk64 := hk k f hf
   have KO := fun w => of_any f.1 (by omega) w
   have hstep : HeldE ((cl.set (2 * k) (.string (ofOf f.1))).set (2 * k + 1) (.string f.2)) (ents (es.take (k + 1))) := by
    have hl2 : (ents (es.take k)).length = k := by rw [ents_len, List.length_take]; have := HN.out; omega
    have hcl := hownr.1
    have := hheld.snoc (ofOf f.1, f.2) (by rw [hl2, hcl]; omega)
    rw [hl2] at this
    rw [List.take_add_one, hf]
    show HeldE _ (List.map _ (es.take k ++ [f]))
    rw [List.map_append]
    exact this
   have A1 : Below wr.heap.size wr (wr.alloc (.cells #[.string f.1, .string f.2] 55)) := (Below.refl _ wr).alloc (Nat.le_refl _) _
   have hP1 : PrIn wr.heap.size f (wr.alloc (.cells #[.string f.1, .string f.2] 55)) := World.alloc_heap_new wr _
   have hown1 := owns_below hownr A1
   obtain ⟨p, hpp⟩ : ∃ q, ofOf f.1 = q := ⟨_, rfl⟩
   rw [hpp] at KO hstep
   have HX : Hid (_ ∧ _ ∧ _ ∧ _ ∧ _) := ⟨A1, hP1, hown1, hstep, BW⟩
   clear hpp hf hk64 A1 hP1 hown1 hstep hheld hownr BW
   obtain ⟨fk, fv⟩ := f
   dsimp only at c0 c1 KO
   go_wp2_with fail
   obtain ⟨A1, hP1, hown1, hstep, BW⟩ := HX.out
   refine wpOf (fun W => Below wr.heap.size wr W ∧ PrIn wr.heap.size (fk, fv) W ∧ W.ownsRow z 148 2 (.slice (some ⟨z, 0, none⟩) N N) N cl) ⟨A1, hP1, hown1⟩ ?_
   rintro w4 ⟨B4, hP4, hown4⟩
   clear A1 hP1 hown1 HX c0 c1
   have hPl : wr.heap.size < w4.heap.size := (Array.getElem?_eq_some_iff.1 hP4).1
   have q0 : ∀ d os, (grow (redrawn w4 d) os).cell? ⟨wr.heap.size, 0, none⟩ = some (.string fk) := fun d os => ((below_regrown w4 d os).cell (p := ⟨wr.heap.size, 0, none⟩) hPl).trans (by rw [Lib.cell_of_heap hP4]; rfl)
   have q1 : ∀ d os, (grow (redrawn w4 d) os).cell? ⟨wr.heap.size, 1, none⟩ = some (.string fv) := fun d os => ((below_regrown w4 d os).cell (p := ⟨wr.heap.size, 1, none⟩) hPl).trans (by rw [Lib.cell_of_heap hP4]; rfl)
   have cO : ∀ d os, Calls Tryz.prog 22 #[.string fk] (grow (redrawn w4 d) os) fun e w'' => e = .returned (.string p) ∧ ∃ p : Regrown, w'' = grow (redrawn w4 p.d) p.os := fun d os => Calls.regrown_of (KO _)
   refine region_tail 8 (by kernel_rfl) (by kernel_rfl) ?_
   simp only [List.take_succ_cons, List.take_zero, List.drop_succ_cons, List.drop_zero]
   iterate 4 (quiet_step (fail))
   quiet_step (exact cO _ _)
   iterate 3 (quiet_step (fail))
   refine wpQuiet_nil ?_
   intro w8 hw8
   have B8 : Below w4.heap.size w4 w8 := by
    obtain ⟨p, rfl⟩ := hw8
    exact below_regrown _ _ _
   have hown8 := owns_below hown4 B8
   have BW8 := BW.trans ((belowStep B4 B4.size B8).mono (by omega))
   clear hw8 q0 q1 cO KO B8 B4 hown4 hP4 BW
   obtain ⟨v0, hv0⟩ : ∃ v, w8.cell? ⟨z, k * 2, none⟩ = some v := by
    rw [hown8.cellAt (k * 2) (by omega)]
    exact ⟨_, List.getElem?_eq_getElem (by rw [hown8.1]; omega)⟩
   obtain ⟨v1, hv1⟩ : ∃ v, w8.cell? ⟨z, k * 2 + 1, none⟩ = some v := by
    rw [hown8.cellAt (k * 2 + 1) (by omega)]
    exact ⟨_, List.getElem?_eq_getElem (by rw [hown8.1]; omega)⟩
   have g0 := hown8.frozenAt (k * 2)
   have g1 := hown8.frozenAt (k * 2 + 1)
   have hown9 := ((hown8.stored (k * 2) (.string p)).1.stored (k * 2 + 1) (.string fv)).1
   rw [show k * 2 = 2 * k by omega] at hown9
   have HY : Hid (_ ∧ _ ∧ _) := ⟨hown9, hstep, BW8⟩
   clear hown8 hown9 hstep BW8
   go_wp2
   go_roundg (gk - 1)
   case measure => omega
   case rel =>
    obtain ⟨hown9, hstep, BW8⟩ := HY.out
    refine ⟨k + 1, _, by omega, by first | rfl | (congr 1; omega), ?_, hstep, below_set (below_set BW8 z _ (Nat.le_refl _) _) z _ (Nat.le_refl _) _⟩
    rw [show k * 2 = 2 * k by omega]
    exact hown9
  ·have l1 : ¬ (k : Int) < N := by omega
   have hk2 : k = N := by omega
   have HX : Hid (_ ∧ _ ∧ _) := ⟨hownr, hheld, BW⟩
   clear hownr hheld BW
   go_wp2
   go_ret
   obtain ⟨hownr, hheld, BW⟩ := HX.out
   refine ⟨by rw [HZ.out]; exact BW, by rw [HZ.out]; rfl, by rw [HZ.out]; exact hzr, fun j e he => ?_⟩
   rw [hk2, ← HN.out, List.take_length] at hheld
   have hj := (List.getElem?_eq_some_iff.1 he).1
   rw [ents_len, HN.out] at hj
   obtain ⟨p1, p2⟩ := hheld j e he
   rw [HZ.out]
   refine ⟨?_, ?_⟩
   ·rw [Nat.zero_add, hownr.cellAt _ (by omega)]; exact p1
   ·rw [Nat.zero_add, hownr.cellAt _ (by omega)]; exact p2
end Go.Proofs.YtbmapdkcccdmfaaGreatDoor
