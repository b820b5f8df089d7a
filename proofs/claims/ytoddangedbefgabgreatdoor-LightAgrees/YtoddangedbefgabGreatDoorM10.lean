/- Lemmas: What the law's shown does; the walks of CurveAdds, CurveTimes, CurveLaws, CurveFew. No condition. What the package pair's over, slope, negative, sum do; its variables. No condition. What the package pair's line does. No condition. What the package pair's Line does. No condition. What the package pair's behind does. No condition. What the package pair's gathered does. No condition. -/
import Derived.Test.YtoddangedbefgabGreatDoorM1
import Derived.Test.YtoddangedbefgabGreatDoorM2
import Derived.Test.YtoddangedbefgabGreatDoorM3
import Derived.Test.YtoddangedbefgabGreatDoorM5
import Derived.Test.YtoddangedbefgabGreatDoorM6
import Derived.Test.YtoddangedbefgabGreatDoorM7
import Derived.Test.YtoddangedbefgabGreatDoorM8
import Derived.Test.YtoddangedbefgabGreatDoorM9
import Derived.Test.YtoddangedbefgabGreatDoorRows
import Derived.BigQuiet
namespace Go.Proofs.YtoddangedbefgabGreatDoor
open Go.RowKit Go.Shelf Go.Sort


theorem inClassL {f : Nat} {args : Array Value} {v : Value} {w : World} (h : ∀ W, Li W → Calls Tryz.prog f args W fun e w' => e = .returned v ∧ Below W.heap.size W w') (hL : Li w) :
  ∀ d os, Calls Tryz.prog f args (grow (redrawn w d) os) fun e w'' => e = .returned v ∧ ∃ p : Regrown, w'' = grow (redrawn w p.d) p.os := fun _ _ => Calls.regrown_of (h _ (hL.below (below_regrown _ _ _)))
theorem neqT (p q : Pt) (W : World) : (binOp .neq 72 (vT p) (vT q)).run Tryz.prog W = .ok (.bool (!decide (p = q))) W := by
 obtain ⟨pX, pY, pI⟩ := p
 obtain ⟨qX, qY, qI⟩ := q
 by_cases h1 : pX = qX
 ·by_cases h2 : pY = qY
  ·by_cases h3 : pI = qI
   ·subst h1 h2 h3; simp [go_sem]
   ·subst h1 h2; simp [go_sem, h3]
  ·subst h1
   have h2' : ¬ (pY : Int) = qY := by omega
   simp [go_sem, h2, h2']
 ·have h1' : ¬ (pX : Int) = qX := by omega
  simp [go_sem, h1, h1']
theorem Li.alloc {w : World} (h : Li w) (o : Obj) : Li (w.alloc o) := h.below ((Below.refl _ _).alloc (Nat.le_refl _) _)

end Go.Proofs.YtoddangedbefgabGreatDoor
namespace Go.Proofs.YtoddangedbefgabGreatDoor
open Go.RowKit Go.Shelf Go.Sort

structure Lp (w : World) : Prop where
 l : Li w
 za : 5 < w.heap.size
 a0 : w.cell? ⟨5, 0, none⟩ = some (.int .u64 0)
 a1 : w.cell? ⟨5, 1, none⟩ = some (.int .u64 0)
 a2 : w.cell? ⟨5, 2, none⟩ = some (.bool true)
 oa : ∃ cs t, w.heap[5]? = some (.cells cs t (0, 0))
 zb : 6 < w.heap.size
 b0 : w.cell? ⟨6, 0, none⟩ = some (.int .u64 1)
 b1 : w.cell? ⟨6, 1, none⟩ = some (.int .u64 0)
 ob : ∃ cs t, w.heap[6]? = some (.cells cs t (0, 0))
theorem Lp.ne {w : World} (h : Lp w) : 0 < w.heap.size ∧ 0 ≤ w.heap.size ∧ w.heap.size ≠ 0 ∧ 0 ≠ w.heap.size ∧ 1 < w.heap.size ∧ 1 ≤ w.heap.size ∧ w.heap.size ≠ 1 ∧ 1 ≠ w.heap.size ∧ 2 < w.heap.size ∧ 2 ≤ w.heap.size ∧ w.heap.size ≠ 2 ∧ 2 ≠ w.heap.size ∧ 3 < w.heap.size ∧ 3 ≤ w.heap.size ∧ w.heap.size ≠ 3 ∧ 3 ≠ w.heap.size ∧ 3 < w.heap.size + 1 ∧ 3 < w.heap.size + 1 + 1 ∧ 3 < w.heap.size + 1 + 1 + 1 ∧ 3 < w.heap.size + 1 + 1 + 1 + 1 ∧ 3 < w.heap.size + 1 + 1 + 1 + 1 + 1 ∧ 4 < w.heap.size ∧ 4 ≤ w.heap.size ∧ w.heap.size ≠ 4 ∧ 4 ≠ w.heap.size ∧ 4 < w.heap.size + 1 ∧ 4 < w.heap.size + 1 + 1 ∧ 4 < w.heap.size + 1 + 1 + 1 ∧ 4 < w.heap.size + 1 + 1 + 1 + 1 ∧ 4 < w.heap.size + 1 + 1 + 1 + 1 + 1 ∧ 5 < w.heap.size ∧ 5 ≤ w.heap.size ∧ w.heap.size ≠ 5 ∧ 5 ≠ w.heap.size ∧ 5 < w.heap.size + 1 ∧ 5 < w.heap.size + 1 + 1 ∧ 5 < w.heap.size + 1 + 1 + 1 ∧ 5 < w.heap.size + 1 + 1 + 1 + 1 ∧ 5 < w.heap.size + 1 + 1 + 1 + 1 + 1 ∧ 6 < w.heap.size ∧ 6 ≤ w.heap.size ∧ w.heap.size ≠ 6 ∧ 6 ≠ w.heap.size ∧ 6 < w.heap.size + 1 ∧ 6 < w.heap.size + 1 + 1 ∧ 6 < w.heap.size + 1 + 1 + 1 ∧ 6 < w.heap.size + 1 + 1 + 1 + 1 ∧ 6 < w.heap.size + 1 + 1 + 1 + 1 + 1 := by
 have h1 := h.l.z
 have h2 := h.za
 have h3 := h.zb
 omega
theorem Lp.same {w W : World} (h : Lp w) (e : W.heap[4]? = w.heap[4]?) (e1 : W.heap[5]? = w.heap[5]?) (e2 : W.heap[6]? = w.heap[6]?) : Lp W := by
 obtain ⟨l, za, a0, a1, a2, ⟨cs, t, o⟩, zb, b0, b1, ⟨cs', t', o'⟩⟩ := h
 have k1 := e1.trans o
 have k2 := e2.trans o'
 exact ⟨l.same e, (Array.getElem?_eq_some_iff.1 k1).1, (Lib.cell_of_heap k1 0).trans ((Lib.cell_of_heap o 0).symm.trans a0), (Lib.cell_of_heap k1 1).trans ((Lib.cell_of_heap o 1).symm.trans a1), (Lib.cell_of_heap k1 2).trans ((Lib.cell_of_heap o 2).symm.trans a2), ⟨cs, t, k1⟩,
  (Array.getElem?_eq_some_iff.1 k2).1, (Lib.cell_of_heap k2 0).trans ((Lib.cell_of_heap o' 0).symm.trans b0), (Lib.cell_of_heap k2 1).trans ((Lib.cell_of_heap o' 1).symm.trans b1), ⟨cs', t', k2⟩⟩
theorem Lp.below {w W : World} (h : Lp w) (hb : Below w.heap.size w W) : Lp W := h.same (hb.block 4 h.l.z) (hb.block 5 h.za) (hb.block 6 h.zb)
theorem Lp.alloc {w : World} (h : Lp w) (o : Obj) : Lp (w.alloc o) := h.below ((Below.refl _ _).alloc (Nat.le_refl _) _)
theorem Lp.own {A C : World} {row : Option Nat} (h : Lp A) (hg : A.grownBy C row) (hr : ∀ r, row = some r → ∃ o : Obj, A.heap[r]? = some o ∧ o.isCells = false) : Lp C := by
 refine h.same (hg.block 4 h.l.z (fun e => ?_)) (hg.block 5 h.za (fun e => ?_)) (hg.block 6 h.zb (fun e => ?_))
 ·obtain ⟨o, ho, hc⟩ := hr 4 e.symm
  obtain ⟨cs, t, k⟩ := h.l.o
  rw [k] at ho
  cases ho
  cases hc
 ·obtain ⟨o, ho, hc⟩ := hr 5 e.symm
  obtain ⟨cs, t, k⟩ := h.oa
  rw [k] at ho
  cases ho
  cases hc
 ·obtain ⟨o, ho, hc⟩ := hr 6 e.symm
  obtain ⟨cs, t, k⟩ := h.ob
  rw [k] at ho
  cases ho
  cases hc
theorem Lp.other {W : World} (h : Lp W) {k : Nat} (hk : 4 < k) (hk1 : 5 < k) (hk2 : 6 < k) (o : Nat) (u : Value) : Lp (W.setCell ⟨k, o, none⟩ u) := h.same (Below.heap_setCell _ _ _ _ (Nat.ne_of_lt hk)) (Below.heap_setCell _ _ _ _ (Nat.ne_of_lt hk1)) (Below.heap_setCell _ _ _ _ (Nat.ne_of_lt hk2))
theorem inClassP {f : Nat} {args : Array Value} {v : Value} {w : World} (h : ∀ W, Lp W → Calls Tryz.prog f args W fun e w' => e = .returned v ∧ Below W.heap.size W w') (hL : Lp w) :
  ∀ d os, Calls Tryz.prog f args (grow (redrawn w d) os) fun e w'' => e = .returned v ∧ ∃ p : Regrown, w'' = grow (redrawn w p.d) p.os := fun _ _ => Calls.regrown_of (h _ (hL.below (below_regrown _ _ _)))

set_option maxHeartbeats 2000000 in
theorem pover_any (a b : Nat) (ha : U64 a) (hb : U64 b) (w : World) :
  Calls Tryz.prog 202 #[.int .u64 a, .int .u64 b] w fun e w' => e = .returned (.int .u64 (ovN a b : Nat)) ∧ Below w.heap.size w w' := by
 have hi := pm_u _ (iv_lt b)
 have C1 := inv_any b hb
 unfold ovN
 obtain ⟨i, he⟩ : ∃ i, ivN b = i := ⟨_, rfl⟩
 rw [he] at hi C1 ⊢
 clear he
 go_enter Tryz.func202, Tryz.ntmps202
 go_wp2_with fail
 refine (C1 _).mono ?_
 rintro e w1 ⟨rfl, B1⟩
 go_wp2_with fail
 refine (mul_any a i ha hi _).mono ?_
 rintro e w2 ⟨rfl, B2⟩
 go_wp2_with fail
 go_ret
 exact ⟨rfl, belowStep B1 B1.size B2⟩

set_option maxRecDepth 20000 in
set_option maxHeartbeats 4000000 in
theorem pslope_any (p q : Pt) (hp : UT p) (hq : UT q) (w : World) :
  Calls Tryz.prog 199 #[vT p, vT q] w fun e w' => e = .returned (.int .u64 (slN p q : Nat)) ∧ Below w.heap.size w w' := by
 have three : U64 3 := by unfold U64; omega
 have one : U64 1 := by unfold U64; omega
 by_cases hE : p = q
 ·have hEq := eqlT p q
  rw [decide_eq_true hE] at hEq
  have eM : slN p q = ovN (adN (muN 3 (muN p.X p.X)) 1) (adN p.Y p.Y) := by unfold slN; rw [if_pos hE]
  rw [eM]
  have C1 := mul_any p.X p.X hp.1 hp.1
  have C2 := mul_any 3 (muN p.X p.X) three (pm_u _ (mu_lt _ _))
  have C3 := add_any (muN 3 (muN p.X p.X)) 1 (pm_u _ (mu_lt _ _)) one
  have C4 := add_any p.Y p.Y hp.2 hp.2
  have C5 := pover_any (adN (muN 3 (muN p.X p.X)) 1) (adN p.Y p.Y) (pm_u _ (ad_lt _ _)) (pm_u _ (ad_lt _ _))
  obtain ⟨r, hr⟩ : ∃ r, ovN (adN (muN 3 (muN p.X p.X)) 1) (adN p.Y p.Y) = r := ⟨_, rfl⟩
  rw [hr] at C5 ⊢
  obtain ⟨a1, h1⟩ : ∃ r, muN p.X p.X = r := ⟨_, rfl⟩
  rw [h1] at C1 C2 C3 C5
  obtain ⟨a2, h2⟩ : ∃ r, muN 3 a1 = r := ⟨_, rfl⟩
  rw [h2] at C2 C3 C5
  obtain ⟨a3, h3⟩ : ∃ r, adN a2 1 = r := ⟨_, rfl⟩
  rw [h3] at C3 C5
  obtain ⟨a4, h4⟩ : ∃ r, adN p.Y p.Y = r := ⟨_, rfl⟩
  rw [h4] at C4 C5
  clear h1 h2 h3 h4 hr eM hE
  obtain ⟨pX, pY, pI⟩ := p
  obtain ⟨qX, qY, qI⟩ := q
  simp only [vT] at hEq C1 C4 ⊢
  go_enter Tryz.func199, Tryz.ntmps199
  go_wp2_with fail
  refine wpOf (fun V => Below w.heap.size w V ∧ Tb w.heap.size ⟨pX, pY, pI⟩ V ∧ Tb (w.heap.size + 1) ⟨qX, qY, qI⟩ V) ⟨by go_grown, (Tb.new' w ⟨pX, pY, pI⟩ 72 _ rfl).alloc _, Tb.new' _ ⟨qX, qY, qI⟩ 72 _ (by simp)⟩ ?_
  rintro V ⟨BV, hA, hB⟩
  have c1 := inClass (w := V) C1
  have c2 := inClass (w := V) C2
  have c3 := inClass (w := V) C3
  have c4 := inClass (w := V) C4
  have c5 := inClass (w := V) C5
  have k0 := cell_regrown hA.a
  have k1 := cell_regrown hA.b
  have HV : Hid (_ ∧ _) := ⟨BV, BV⟩
  clear hA hB C1 C2 C3 C4 C5 BV hEq
  refine wp_region_quiet_below (by kernel_rfl) (by kernel_rfl) ?_
  iterate 4 (quiet_step (fail))
  quiet_step (exact c1 _ _)
  quiet_step (exact c2 _ _)
  quiet_step (exact c3 _ _)
  iterate 4 (quiet_step (fail))
  quiet_step (exact c4 _ _)
  quiet_step (exact c5 _ _)
  iterate 1 (quiet_step (fail))
  refine wpQuiet_nil ?_
  intro w8 hw8
  have B8 : Below V.heap.size V w8 := by
   obtain ⟨p, rfl⟩ := hw8
   exact below_regrown _ _ _
  have BW := belowStep HV.out.1 HV.out.1.size B8
  clear hw8 k0 k1 c1 c2 c3 c4 c5
  go_wp2_with fail
  go_ret
  exact ⟨rfl, BW⟩
 ·have hEq := eqlT p q
  rw [decide_eq_false hE] at hEq
  have eM : slN p q = ovN (sbN q.Y p.Y) (sbN q.X p.X) := by unfold slN; rw [if_neg hE]
  rw [eM]
  have C1 := sub_any q.Y p.Y hq.2 hp.2
  have C2 := sub_any q.X p.X hq.1 hp.1
  have C3 := pover_any (sbN q.Y p.Y) (sbN q.X p.X) (pm_u _ (sb_lt _ _)) (pm_u _ (sb_lt _ _))
  obtain ⟨r, hr⟩ : ∃ r, ovN (sbN q.Y p.Y) (sbN q.X p.X) = r := ⟨_, rfl⟩
  rw [hr] at C3 ⊢
  obtain ⟨a1, h1⟩ : ∃ r, sbN q.Y p.Y = r := ⟨_, rfl⟩
  rw [h1] at C1 C3
  obtain ⟨a2, h2⟩ : ∃ r, sbN q.X p.X = r := ⟨_, rfl⟩
  rw [h2] at C2 C3
  clear h1 h2 hr eM hE
  obtain ⟨pX, pY, pI⟩ := p
  obtain ⟨qX, qY, qI⟩ := q
  simp only [vT] at hEq C1 C2 ⊢
  go_enter Tryz.func199, Tryz.ntmps199
  go_wp2_with fail
  refine wpOf (fun V => Below w.heap.size w V ∧ Tb w.heap.size ⟨pX, pY, pI⟩ V ∧ Tb (w.heap.size + 1) ⟨qX, qY, qI⟩ V) ⟨by go_grown, (Tb.new' w ⟨pX, pY, pI⟩ 72 _ rfl).alloc _, Tb.new' _ ⟨qX, qY, qI⟩ 72 _ (by simp)⟩ ?_
  rintro V ⟨BV, hA, hB⟩
  have c1 := inClass (w := V) C1
  have c2 := inClass (w := V) C2
  have c3 := inClass (w := V) C3
  have k0 := cell_regrown hA.a
  have k1 := cell_regrown hA.b
  have k2 := cell_regrown hB.a
  have k3 := cell_regrown hB.b
  have HV : Hid (_ ∧ _) := ⟨BV, BV⟩
  clear hA hB C1 C2 C3 BV hEq
  refine wp_region_quiet_below (by kernel_rfl) (by kernel_rfl) ?_
  iterate 4 (quiet_step (fail))
  quiet_step (exact c1 _ _)
  iterate 4 (quiet_step (fail))
  quiet_step (exact c2 _ _)
  quiet_step (exact c3 _ _)
  iterate 1 (quiet_step (fail))
  refine wpQuiet_nil ?_
  intro w8 hw8
  have B8 : Below V.heap.size V w8 := by
   obtain ⟨p, rfl⟩ := hw8
   exact below_regrown _ _ _
  have BW := belowStep HV.out.1 HV.out.1.size B8
  clear hw8 k0 k1 k2 k3 c1 c2 c3
  go_wp2_with fail
  go_ret
  exact ⟨rfl, BW⟩

set_option maxRecDepth 20000 in
set_option maxHeartbeats 4000000 in
theorem pneg_any (p : Pt) (hp : onN p = true) (w : World) (hL : Lp w) :
  Calls Tryz.prog 198 #[vT p] w fun e w' => e = .returned (vT (ngN p)) ∧ Below w.heap.size w w' := by
 have C1 := neg_any p (wl_u (wl_on hp))
 unfold negV at C1
 rw [if_pos hp] at C1
 obtain ⟨g, hg⟩ : ∃ g, ngN p = g := ⟨_, rfl⟩
 rw [hg] at C1 ⊢
 clear hg hp
 go_enter Tryz.func198, Tryz.ntmps198
 go_wp2_with fail
 refine callsOf (fun V => Below w.heap.size w V ∧ Tb (w.heap.size + 1) oP V ∧ Lp V) ⟨by go_grown, Tb.new' _ oP 72 _ (by simp), (hL.alloc _).alloc _⟩ ?_
 rintro V ⟨BV, hO, LV⟩
 refine (C1 _ LV.l).mono ?_
 rintro e w2 ⟨rfl, B2⟩
 have O2 := hO.below B2
 have BW := belowStep BV BV.size B2
 obtain ⟨z, a, b, c, f⟩ := O2
 clear hO B2 BV LV C1 V
 go_wp2_with fail
 refine bodyPost_ret (v := vT g) (by simp [results, Tryz.results198, go_sem, *]) rfl ⟨rfl, ?_⟩
 exact (below_put3 (y := g) BW (by omega)).alloc (by simp [World.setCell]; have := BW.size; omega) _

set_option maxRecDepth 20000 in
set_option maxHeartbeats 4000000 in
theorem psum_any (p q : Pt) (hp : onN p = true) (hq : onN q = true) (w : World) (hL : Lp w) :
  Calls Tryz.prog 192 #[vT p, vT q] w fun e w' => e = .returned (vT (smN p q)) ∧ Below w.heap.size w w' := by
 have C1 := add_all p q (wl_u (wl_on hp)) (wl_u (wl_on hq))
 unfold addV at C1
 rw [hp, hq, Bool.and_self, if_pos rfl] at C1
 obtain ⟨g, hg⟩ : ∃ g, smN p q = g := ⟨_, rfl⟩
 rw [hg] at C1 ⊢
 clear hg hp hq
 go_enter Tryz.func192, Tryz.ntmps192
 go_wp2_with fail
 refine callsOf (fun V => Below w.heap.size w V ∧ Tb (w.heap.size + 1 + 1) oP V ∧ Lp V) ⟨by go_grown, Tb.new' _ oP 72 _ (by simp), ((hL.alloc _).alloc _).alloc _⟩ ?_
 rintro V ⟨BV, hO, LV⟩
 refine (C1 _ LV.l).mono ?_
 rintro e w2 ⟨rfl, B2⟩
 have O2 := hO.below B2
 have BW := belowStep BV BV.size B2
 obtain ⟨z, a, b, c, f⟩ := O2
 clear hO B2 BV LV C1 V
 go_wp2_with fail
 refine bodyPost_ret (v := vT g) (by simp [results, Tryz.results192, go_sem, *]) rfl ⟨rfl, ?_⟩
 exact (below_put3 (y := g) BW (by omega)).alloc (by simp [World.setCell]; have := BW.size; omega) _
end Go.Proofs.YtoddangedbefgabGreatDoor
namespace Go.Proofs.YtoddangedbefgabGreatDoor
open Go.RowKit Go.Shelf Go.Sort

set_option maxRecDepth 20000 in
set_option maxHeartbeats 4000000 in
theorem pline1 (s t q : Pt) (hs : s = iN) (w : World) (hL : Lp w) :
  Calls Tryz.prog 191 #[vT s, vT t, vT q] w fun e w' => e = .returned (vP (lnA s t q)) ∧ Below w.heap.size w w' := by
 have eM : lnA s t q = o2 := by unfold lnA; rw [if_pos (.inl hs)]
 rw [eM]
 have hE := eqlI s
 rw [decide_eq_true hs] at hE
 clear eM hs
 obtain ⟨sX, sY, sI⟩ := s
 obtain ⟨tX, tY, tI⟩ := t
 obtain ⟨qX, qY, qI⟩ := q
 simp only [vT] at hE ⊢
 go_enter Tryz.func191, Tryz.ntmps191
 go_wp2_with fail
 refine wpOf (fun V => Below w.heap.size w V ∧ Tb w.heap.size ⟨sX, sY, sI⟩ V ∧ Tb (w.heap.size + 1) ⟨tX, tY, tI⟩ V ∧ Tb (w.heap.size + 1 + 1) ⟨qX, qY, qI⟩ V ∧ Pb (w.heap.size + 1 + 1 + 1) z2 V ∧ Lp V) ⟨by go_grown, (((Tb.new' w ⟨sX, sY, sI⟩ 72 _ rfl).alloc _).alloc _).alloc _, ((Tb.new' _ ⟨tX, tY, tI⟩ 72 _ (by simp)).alloc _).alloc _, (Tb.new' _ ⟨qX, qY, qI⟩ 72 _ (by simp)).alloc _, Pb.new' _ z2 111 _ (by simp), (((hL.alloc _).alloc _).alloc _).alloc _⟩ ?_
 rintro V ⟨BV, hA, hB, hC, hO, hLV⟩
 have k0 := cell_regrown hA.a
 have k1 := cell_regrown hA.b
 have k2 := cell_regrown hA.c
 have k3 := cell_regrown hB.a
 have k4 := cell_regrown hB.b
 have k5 := cell_regrown hB.c
 have k6 := cell_regrown hLV.a0
 have k7 := cell_regrown hLV.a1
 have k8 := cell_regrown hLV.a2
 have HV : Hid (_ ∧ _ ∧ _ ∧ _ ∧ _ ∧ _) := ⟨BV, hA, hB, hC, hO, hLV⟩
 clear hA hB hC hO BV hL hLV
 refine wp_region_quiet_below (by kernel_rfl) (by kernel_rfl) ?_
 iterate 4 (quiet_step (fail))
 iterate 10 (go_big_quiet_step (fail))
 refine wpQuiet_nil ?_
 intro w8 hw8
 have B8 : Below V.heap.size V w8 := by
  obtain ⟨p, rfl⟩ := hw8
  exact below_regrown _ _ _
 obtain ⟨BV, hA, hB, hC, hO, hLV⟩ := HV.out
 have BW := belowStep BV BV.size B8
 obtain ⟨z, a, b, f⟩ := hO.below B8
 have L8' := hLV.below B8
 have lq := L8'.ne
 have b0 := L8'.b0
 have b1 := L8'.b1
 have zb := L8'.zb
 clear hw8 k0 k1 k2 k3 k4 k5 k6 k7 k8 hA hB hC hO hLV BV L8' HV
 go_wp2_with fail
 refine bodyPost_ret (v := vP o2) (by simp [results, Tryz.results191, go_sem, o2, *]) rfl ⟨rfl, ?_⟩
 exact (BW.setCell (p := ⟨w.heap.size + 1 + 1 + 1, 0, none⟩) (by show _ ≤ w.heap.size + 1 + 1 + 1; omega) _).setCell (p := ⟨w.heap.size + 1 + 1 + 1, 1, none⟩) (by show _ ≤ w.heap.size + 1 + 1 + 1; omega) _

set_option maxRecDepth 20000 in
set_option maxHeartbeats 4000000 in
theorem pline2 (s t q : Pt) (hs : ¬ s = iN) (ht : t = iN) (w : World) (hL : Lp w) :
  Calls Tryz.prog 191 #[vT s, vT t, vT q] w fun e w' => e = .returned (vP (lnA s t q)) ∧ Below w.heap.size w w' := by
 have eM : lnA s t q = o2 := by unfold lnA; rw [if_pos (.inr (.inl ht))]
 rw [eM]
 have hE := eqlI s
 rw [decide_eq_false hs] at hE
 have hF := eqlI t
 rw [decide_eq_true ht] at hF
 clear eM hs ht
 obtain ⟨sX, sY, sI⟩ := s
 obtain ⟨tX, tY, tI⟩ := t
 obtain ⟨qX, qY, qI⟩ := q
 simp only [vT] at hE hF ⊢
 go_enter Tryz.func191, Tryz.ntmps191
 go_wp2_with fail
 refine wpOf (fun V => Below w.heap.size w V ∧ Tb w.heap.size ⟨sX, sY, sI⟩ V ∧ Tb (w.heap.size + 1) ⟨tX, tY, tI⟩ V ∧ Tb (w.heap.size + 1 + 1) ⟨qX, qY, qI⟩ V ∧ Pb (w.heap.size + 1 + 1 + 1) z2 V ∧ Lp V) ⟨by go_grown, (((Tb.new' w ⟨sX, sY, sI⟩ 72 _ rfl).alloc _).alloc _).alloc _, ((Tb.new' _ ⟨tX, tY, tI⟩ 72 _ (by simp)).alloc _).alloc _, (Tb.new' _ ⟨qX, qY, qI⟩ 72 _ (by simp)).alloc _, Pb.new' _ z2 111 _ (by simp), (((hL.alloc _).alloc _).alloc _).alloc _⟩ ?_
 rintro V ⟨BV, hA, hB, hC, hO, hLV⟩
 have k0 := cell_regrown hA.a
 have k1 := cell_regrown hA.b
 have k2 := cell_regrown hA.c
 have k3 := cell_regrown hB.a
 have k4 := cell_regrown hB.b
 have k5 := cell_regrown hB.c
 have k6 := cell_regrown hLV.a0
 have k7 := cell_regrown hLV.a1
 have k8 := cell_regrown hLV.a2
 have HV : Hid (_ ∧ _ ∧ _ ∧ _ ∧ _ ∧ _) := ⟨BV, hA, hB, hC, hO, hLV⟩
 clear hA hB hC hO BV hL hLV
 refine wp_region_quiet_below (by kernel_rfl) (by kernel_rfl) ?_
 iterate 9 (quiet_step (fail))
 iterate 5 (go_big_quiet_step (fail))
 refine wpQuiet_nil ?_
 intro w8 hw8
 have B8 : Below V.heap.size V w8 := by
  obtain ⟨p, rfl⟩ := hw8
  exact below_regrown _ _ _
 obtain ⟨BV, hA, hB, hC, hO, hLV⟩ := HV.out
 have BW := belowStep BV BV.size B8
 obtain ⟨z, a, b, f⟩ := hO.below B8
 have L8' := hLV.below B8
 have lq := L8'.ne
 have b0 := L8'.b0
 have b1 := L8'.b1
 have zb := L8'.zb
 clear hw8 k0 k1 k2 k3 k4 k5 k6 k7 k8 hA hB hC hO hLV BV L8' HV
 go_wp2_with fail
 refine bodyPost_ret (v := vP o2) (by simp [results, Tryz.results191, go_sem, o2, *]) rfl ⟨rfl, ?_⟩
 exact (BW.setCell (p := ⟨w.heap.size + 1 + 1 + 1, 0, none⟩) (by show _ ≤ w.heap.size + 1 + 1 + 1; omega) _).setCell (p := ⟨w.heap.size + 1 + 1 + 1, 1, none⟩) (by show _ ≤ w.heap.size + 1 + 1 + 1; omega) _

set_option maxRecDepth 20000 in
set_option maxHeartbeats 4000000 in
theorem pline3 (s t q : Pt) (hs : ¬ s = iN) (ht : ¬ t = iN) (hn : t = ngN s) (us : onN s = true) (w : World) (hL : Lp w) :
  Calls Tryz.prog 191 #[vT s, vT t, vT q] w fun e w' => e = .returned (vP (lnA s t q)) ∧ Below w.heap.size w w' := by
 have eM : lnA s t q = o2 := by unfold lnA; rw [if_pos (.inr (.inr hn))]
 rw [eM]
 have hE := eqlI s
 rw [decide_eq_false hs] at hE
 have hF := eqlI t
 rw [decide_eq_false ht] at hF
 have hG := eqlT t (ngN s)
 rw [decide_eq_true hn] at hG
 have C0 := pneg_any s us
 obtain ⟨g, hg⟩ : ∃ g, ngN s = g := ⟨_, rfl⟩
 rw [hg] at C0 hG
 clear eM hs ht hn hg us
 obtain ⟨sX, sY, sI⟩ := s
 obtain ⟨tX, tY, tI⟩ := t
 obtain ⟨qX, qY, qI⟩ := q
 simp only [vT] at hE hF hG C0 ⊢
 go_enter Tryz.func191, Tryz.ntmps191
 go_wp2_with fail
 refine wpOf (fun V => Below w.heap.size w V ∧ Tb w.heap.size ⟨sX, sY, sI⟩ V ∧ Tb (w.heap.size + 1) ⟨tX, tY, tI⟩ V ∧ Tb (w.heap.size + 1 + 1) ⟨qX, qY, qI⟩ V ∧ Pb (w.heap.size + 1 + 1 + 1) z2 V ∧ Lp V) ⟨by go_grown, (((Tb.new' w ⟨sX, sY, sI⟩ 72 _ rfl).alloc _).alloc _).alloc _, ((Tb.new' _ ⟨tX, tY, tI⟩ 72 _ (by simp)).alloc _).alloc _, (Tb.new' _ ⟨qX, qY, qI⟩ 72 _ (by simp)).alloc _, Pb.new' _ z2 111 _ (by simp), (((hL.alloc _).alloc _).alloc _).alloc _⟩ ?_
 rintro V ⟨BV, hA, hB, hC, hO, hLV⟩
 have k0 := cell_regrown hA.a
 have k1 := cell_regrown hA.b
 have k2 := cell_regrown hA.c
 have k3 := cell_regrown hB.a
 have k4 := cell_regrown hB.b
 have k5 := cell_regrown hB.c
 have k6 := cell_regrown hLV.a0
 have k7 := cell_regrown hLV.a1
 have k8 := cell_regrown hLV.a2
 have c1 := inClassP C0 hLV
 clear C0
 have HV : Hid (_ ∧ _ ∧ _ ∧ _ ∧ _ ∧ _) := ⟨BV, hA, hB, hC, hO, hLV⟩
 clear hA hB hC hO BV hL hLV
 refine wp_region_quiet_below (by kernel_rfl) (by kernel_rfl) ?_
 iterate 11 (quiet_step (fail))
 quiet_step (exact c1 _ _)
 iterate 2 (quiet_step (fail))
 refine wpQuiet_nil ?_
 intro w8 hw8
 have B8 : Below V.heap.size V w8 := by
  obtain ⟨p, rfl⟩ := hw8
  exact below_regrown _ _ _
 obtain ⟨BV, hA, hB, hC, hO, hLV⟩ := HV.out
 have BW := belowStep BV BV.size B8
 obtain ⟨z, a, b, f⟩ := hO.below B8
 have L8' := hLV.below B8
 have lq := L8'.ne
 have b0 := L8'.b0
 have b1 := L8'.b1
 have zb := L8'.zb
 clear c1 hw8 k0 k1 k2 k3 k4 k5 k6 k7 k8 hA hB hC hO hLV BV L8' HV
 go_wp2_with fail
 refine bodyPost_ret (v := vP o2) (by simp [results, Tryz.results191, go_sem, o2, *]) rfl ⟨rfl, ?_⟩
 exact (BW.setCell (p := ⟨w.heap.size + 1 + 1 + 1, 0, none⟩) (by show _ ≤ w.heap.size + 1 + 1 + 1; omega) _).setCell (p := ⟨w.heap.size + 1 + 1 + 1, 1, none⟩) (by show _ ≤ w.heap.size + 1 + 1 + 1; omega) _

set_option maxRecDepth 20000 in
set_option maxHeartbeats 4000000 in
theorem pline4 (s t q : Pt) (hs : ¬ s = iN) (ht : ¬ t = iN) (hn : ¬ t = ngN s) (us : onN s = true) (ut : UT t) (uq : UT q) (w : World) (hL : Lp w) :
  Calls Tryz.prog 191 #[vT s, vT t, vT q] w fun e w' => e = .returned (vP (lnA s t q)) ∧ Below w.heap.size w w' := by
 have eM : lnA s t q = ⟨sbN (muN (slN s t) (adN s.X q.X)) s.Y, q.Y⟩ := by unfold lnA; rw [if_neg (by rintro (h | h | h); exact hs h; exact ht h; exact hn h)]
 rw [eM]
 have vs := wl_u (wl_on us)
 have C1 := pslope_any s t vs ut
 have C2 := add_any s.X q.X vs.1 uq.1
 have C3 := mul_any (slN s t) (adN s.X q.X) (pm_u _ (sl_lt _ _)) (pm_u _ (ad_lt _ _))
 have C4 := sub_any (muN (slN s t) (adN s.X q.X)) s.Y (pm_u _ (mu_lt _ _)) vs.2
 obtain ⟨x, hx⟩ : ∃ x, sbN (muN (slN s t) (adN s.X q.X)) s.Y = x := ⟨_, rfl⟩
 rw [hx] at C4 ⊢
 obtain ⟨x1, h1⟩ : ∃ x, slN s t = x := ⟨_, rfl⟩
 rw [h1] at C1 C3 C4
 obtain ⟨x2, h2⟩ : ∃ x, adN s.X q.X = x := ⟨_, rfl⟩
 rw [h2] at C2 C3 C4
 obtain ⟨x3, h3⟩ : ∃ x, muN x1 x2 = x := ⟨_, rfl⟩
 rw [h3] at C3 C4
 have hE := eqlI s
 rw [decide_eq_false hs] at hE
 have hF := eqlI t
 rw [decide_eq_false ht] at hF
 have hG := eqlT t (ngN s)
 rw [decide_eq_false hn] at hG
 have C0 := pneg_any s us
 obtain ⟨g, hg⟩ : ∃ g, ngN s = g := ⟨_, rfl⟩
 rw [hg] at C0 hG
 clear eM hs ht hn hg us vs ut uq hx h1 h2 h3
 obtain ⟨sX, sY, sI⟩ := s
 obtain ⟨tX, tY, tI⟩ := t
 obtain ⟨qX, qY, qI⟩ := q
 simp only [vT] at hE hF hG C0 C1 C2 C4 ⊢
 go_enter Tryz.func191, Tryz.ntmps191
 go_wp2_with fail
 refine wpOf (fun V => Below w.heap.size w V ∧ Tb w.heap.size ⟨sX, sY, sI⟩ V ∧ Tb (w.heap.size + 1) ⟨tX, tY, tI⟩ V ∧ Tb (w.heap.size + 1 + 1) ⟨qX, qY, qI⟩ V ∧ Pb (w.heap.size + 1 + 1 + 1) z2 V ∧ Lp V) ⟨by go_grown, (((Tb.new' w ⟨sX, sY, sI⟩ 72 _ rfl).alloc _).alloc _).alloc _, ((Tb.new' _ ⟨tX, tY, tI⟩ 72 _ (by simp)).alloc _).alloc _, (Tb.new' _ ⟨qX, qY, qI⟩ 72 _ (by simp)).alloc _, Pb.new' _ z2 111 _ (by simp), (((hL.alloc _).alloc _).alloc _).alloc _⟩ ?_
 rintro V ⟨BV, hA, hB, hC, hO, hLV⟩
 have k0 := cell_regrown hA.a
 have k1 := cell_regrown hA.b
 have k2 := cell_regrown hA.c
 have k3 := cell_regrown hB.a
 have k4 := cell_regrown hB.b
 have k5 := cell_regrown hB.c
 have k6 := cell_regrown hLV.a0
 have k7 := cell_regrown hLV.a1
 have k8 := cell_regrown hLV.a2
 have c1 := inClassP C0 hLV
 clear C0
 have HV : Hid (_ ∧ _ ∧ _ ∧ _ ∧ _ ∧ _) := ⟨BV, hA, hB, hC, hO, hLV⟩
 clear hA hB hC hO BV hL hLV
 refine wp_region_quiet_below (by kernel_rfl) (by kernel_rfl) ?_
 iterate 11 (quiet_step (fail))
 quiet_step (exact c1 _ _)
 iterate 2 (quiet_step (fail))
 refine wpQuiet_nil ?_
 intro w8 hw8
 have B8 : Below V.heap.size V w8 := by
  obtain ⟨p, rfl⟩ := hw8
  exact below_regrown _ _ _
 obtain ⟨BV, hA, hB, hC, hO, hLV⟩ := HV.out
 have BW := belowStep BV BV.size B8
 have A8 := hA.below B8
 have D8 := hB.below B8
 have Q8 := hC.below B8
 have O8 := hO.below B8
 clear hw8 k0 k1 k2 k3 k4 k5 k6 k7 k8 hA hB hC hO hLV BV HV c1 B8 V hE hF hG
 have j0 := cell_regrown A8.a
 have j1 := cell_regrown A8.b
 have j2 := cell_regrown A8.c
 have j3 := cell_regrown D8.a
 have j4 := cell_regrown D8.b
 have j5 := cell_regrown D8.c
 have j6 := cell_regrown Q8.a
 have j7 := cell_regrown Q8.b
 have d1 := inClass (w := w8) C1
 have d2 := inClass (w := w8) C2
 have d3 := inClass (w := w8) C3
 have d4 := inClass (w := w8) C4
 have HV : Hid (_ ∧ _) := ⟨BW, O8⟩
 clear A8 D8 Q8 O8 BW C1 C2 C3 C4
 go_wp2_with fail
 refine region_tail 15 (by kernel_rfl) (by kernel_rfl) ?_
 simp only [List.take_succ_cons, List.take_zero, List.drop_succ_cons, List.drop_zero]
 iterate 2 (quiet_step (fail))
 quiet_step (exact d1 _ _)
 iterate 4 (quiet_step (fail))
 quiet_step (exact d2 _ _)
 quiet_step (exact d3 _ _)
 iterate 2 (quiet_step (fail))
 quiet_step (exact d4 _ _)
 iterate 3 (quiet_step (fail))
 refine wpQuiet_nil ?_
 intro u8 hu8
 have B8 : Below w8.heap.size w8 u8 := by
  obtain ⟨p, rfl⟩ := hu8
  exact below_regrown _ _ _
 obtain ⟨BW, O8⟩ := HV.out
 obtain ⟨z, a, b, f⟩ := O8.below B8
 have BW9 := belowStep BW BW.size B8
 clear hu8 j0 j1 j2 j3 j4 j5 j6 j7 d1 d2 d3 d4 HV O8 BW B8
 go_wp2_with fail
 refine bodyPost_ret (v := vP ⟨x, qY⟩) (by simp [results, Tryz.results191, go_sem, *]) rfl ⟨rfl, ?_⟩
 exact (BW9.setCell (p := ⟨w.heap.size + 1 + 1 + 1, 0, none⟩) (by show _ ≤ w.heap.size + 1 + 1 + 1; omega) _).setCell (p := ⟨w.heap.size + 1 + 1 + 1, 1, none⟩) (by show _ ≤ w.heap.size + 1 + 1 + 1; omega) _

theorem pline_any (s t q : Pt) (us : onN s = true) (ut : UT t) (uq : UT q) (w : World) (hL : Lp w) :
  Calls Tryz.prog 191 #[vT s, vT t, vT q] w fun e w' => e = .returned (vP (lnA s t q)) ∧ Below w.heap.size w w' := by
 by_cases hs : s = iN
 ·exact pline1 s t q hs w hL
 by_cases ht : t = iN
 ·exact pline2 s t q hs ht w hL
 by_cases hn : t = ngN s
 ·exact pline3 s t q hs ht hn us w hL
 exact pline4 s t q hs ht hn us ut uq w hL
end Go.Proofs.YtoddangedbefgabGreatDoor
namespace Go.Proofs.YtoddangedbefgabGreatDoor
open Go.RowKit Go.Shelf Go.Sort

abbrev okP (x : P2) : Value := .tuple #[vP x, .int .i64 0]
abbrev erP : Value := .tuple #[vP z2, .int .i64 100]

end Go.Proofs.YtoddangedbefgabGreatDoor
namespace Go.Proofs.YtoddangedbefgabGreatDoor
open Go.RowKit Go.Shelf Go.Sort

set_option maxRecDepth 20000 in
set_option maxHeartbeats 2000000 in
theorem len64_order (w : World) : Calls Tryz.prog 196 #[.int .u64 ((536870717 : Nat) : Int)] w fun e w' => e = .returned (.int .i64 29) ∧ Below w.heap.size w w' := by
 rw [show ((536870717 : Nat) : Int) = 536870717 from rfl]
 go_enter Tryz.func196, Tryz.ntmps196
 go_wp2_with fail
 go_ret
 exact ⟨by kernel_rfl, Below.refl _ _⟩

set_option maxHeartbeats 1000000 in
theorem behind_any (n : Nat) (w : World) :
  Calls Tryz.prog 190 #[.int .u64 n] w fun e w' => e = .returned (.func (.func 197) #[] #[.pointer (some ⟨w.heap.size, 0, none⟩)]) ∧ w' = w.alloc (.cells #[.int .u64 n] 22) := by
 go_enter Tryz.func190, Tryz.ntmps190
 go_wp2
 go_ret
 exact ⟨rfl, rfl⟩
attribute [local go_sem] Oper.semAt_some
set_option maxRecDepth 100000 in
set_option maxHeartbeats 2000000 in
theorem behind1_in (n l bX : Nat) (t : Nat) (ht : U64 t) (CL : ∀ W : World, Calls Tryz.prog 196 #[.int .u64 (t : Int)] W fun e w' => e = .returned (.int .i64 29) ∧ Below W.heap.size W w') (J Jx : List Bool → World → Prop) (B : Nat) (hJ : AbidesFrom B J)
  (hY : ∀ m pre x W, J pre W → pre.length < 64 → YieldAt Fence.wide m Tryz.prog l (dEnc x) W fun e W' =>
   (e = .returned (.bool true) ∧ J (pre ++ [x]) W' ∧ NumK bX t W W') ∨ (e = .returned (.bool false) ∧ Jx (pre ++ [x]) W'))
  (W : World) (hc : NumIn bX t W) (h0 : J [] W) :
  CallsIn Fence.wide n Tryz.prog 197 #[.func (.yield l) #[] #[], .pointer (some ⟨bX, 0, none⟩)] W fun e W' => (∃ v, e = .returned v) ∧
   (J (bitsTo t 28 28) W' ∨ (∃ q, q ≤ 28 ∧ Jx (bitsTo t 28 q) W')) := by
 have hc0 : W.cell? ⟨bX, 0, none⟩ = some (.int .u64 (t : Int)) := hc.cell 0
 refine callsIn_of_wp Tryz.func197 rfl trivial ?_ rfl
 simp only [Tryz.ntmps197, List.size_toArray, List.length_cons, List.length_nil, Nat.reduceAdd, Nat.reduceSub, Array.replicate_succ, Array.replicate_zero, List.push_toArray, List.append_toArray, List.nil_append, List.cons_append]
 gi_wp2_with fail
 refine ⟨trivial, fun h => (by cases h), (callsIn_wide.2 (CL W)).mono ?_⟩
 rintro e W1 ⟨rfl, B1⟩
 have J1 := hJ _ _ _ none h0 (grown_of B1) (fun r h => by cases h)
 have C1 := hc.below B1
 clear hc0 h0 hc B1
 gi_wp2_with fail
 gi_loopw [3] (fun i wr => ∃ q : Nat, q ≤ 28 ∧ i = .int .i64 (27 - (q : Int)) ∧ J (bitsTo t 28 q) wr ∧ NumIn bX t wr)
  (fun i _ => ((intOf i) + 1).toNat)
 case atStart => exact ⟨0, by omega, by simp, J1, C1⟩
 case round =>
  clear J1 C1
  obtain ⟨q, hq, rfl, hJs, hkt⟩ := hrel
  have hc1 : wr.cell? ⟨bX, 0, none⟩ = some (.int .u64 (t : Int)) := hkt.cell 0
  by_cases hlq : q < 28
  ·obtain ⟨p, hp⟩ : ∃ p, 27 - q = p := ⟨_, rfl⟩
   have hpi : 27 - (q : Int) = (p : Int) := by omega
   obtain ⟨y, hy⟩ : ∃ y, t / 2 ^ p = y := ⟨_, rfl⟩
   have hyU : U64 y := by rw [← hy]; exact Nat.lt_of_le_of_lt (Nat.div_le_self _ _) ht
   have hd : (t : Int) / 2 ^ p = y := by rw [← hy]; simp [Int.natCast_ediv, Int.natCast_pow]
   have ha1 := and_one y hyU
   have hbt : bitAt t 28 q = (y % 2 == 1) := by unfold bitAt; rw [show 28 - 1 - q = 27 - q by omega, hp, hy]
   obtain ⟨b, hb⟩ : ∃ b, bitAt t 28 q = b := ⟨_, rfl⟩
   have hbe : ((y : Int) % 2 == 1) = b := by
    rw [← hb, hbt, show (y : Int) % 2 = ((y % 2 : Nat) : Int) by omega]
    rcases Nat.mod_two_eq_zero_or_one y with h | h <;> rw [h] <;> rfl
   rw [show ((y % 2 : Nat) : Int) = (y : Int) % 2 by omega] at ha1
   obtain ⟨fn, tmps, assign, body, hyy, hR⟩ := hY (n - 1) _ b wr hJs (by rw [bits_len]; omega)
   unfold dEnc at hyy
   have HH : Hid (_ ∧ _) := ⟨hkt, hb⟩
   have wp1 : IntKind.i64.wrap ((p : Int) - 1) = (p : Int) - 1 := by rw [IntKind.wrap_i64]; omega
   rw [hpi]
   clear hkt hb hJs hbt hy
   gi_wp2
   refine ⟨fun h => (by cases h), hR.mono ?_⟩
   rintro e W3 (⟨rfl, hJ3, hk3⟩ | ⟨rfl, hJx3⟩)
   ·gi_wp2
    go_roundw
    case rel => exact ⟨q + 1, by omega, by congr 1; omega, by rw [bits_succ, HH.out.2]; exact hJ3, hk3 HH.out.1⟩
    case measure => simp [intOf]
   ·gi_wp2
    exact bodyPost_ret (v := .tuple #[]) (by simp [results, Tryz.results197, go_sem]) rfl ⟨⟨_, rfl⟩, .inr ⟨q + 1, by omega, by rw [bits_succ, HH.out.2]; exact hJx3⟩⟩
  ·obtain rfl : q = 28 := by omega
   rw [show (27 : Int) - (28 : Nat) = -1 by omega]
   gi_wp2
   go_end0
   exact ⟨⟨_, rfl⟩, .inl hJs⟩

theorem behind_stops (n bX : Nat) (t : Nat) (ht : U64 t) (CL : ∀ W : World, Calls Tryz.prog 196 #[.int .u64 (t : Int)] W fun e w' => e = .returned (.int .i64 29) ∧ Below W.heap.size W w') (w : World) (hc : NumIn bX t w) :
  SeqStopsK Fence.wide n Tryz.prog 197 #[.pointer (some ⟨bX, 0, none⟩)] dEnc (NumK bX t) (fun ys => ys = bitsTo t 28 28) (fun ys => ∃ q, q ≤ 28 ∧ ys = bitsTo t 28 q) 64 w := fun l J Jx W hW hJ _ hY h0 => by
 refine (behind1_in n l bX t ht CL J Jx W.heap.size hJ (fun m pre x W1 hj hl => yieldAny m (hY pre x W1 hj hl)) W (hc.below hW) h0).mono ?_
 rintro e W' ⟨he, hj | ⟨q, hq, hj⟩⟩
 ·exact ⟨he, .inl ⟨_, rfl, hj⟩⟩
 ·exact ⟨he, .inr ⟨_, ⟨q, hq, rfl⟩, hj⟩⟩


end Go.Proofs.YtoddangedbefgabGreatDoor
namespace Go.Proofs.YtoddangedbefgabGreatDoor
open Go.RowKit Go.Shelf Go.Sort
attribute [local go_sem] Oper.semAt_some

theorem wpInOf {FN : Fence} {n : Nat} {P : Program} {c : Code} {Q : Exit → Act → World → Prop} {a : Act} {W : World} (S : World → Prop) (hS : S W) (h : ∀ W', S W' → c.wpIn FN n P Q a W') : c.wpIn FN n P Q a W := h W hS
theorem kinds_apart {b c : Nat} {cs cs' : Array Value} {W : World} (h : Bq b 111 cs W) (g : Bq c 72 cs' W) : b ≠ c := by
 rintro rfl
 have h' : W.heap[b]? = _ := h
 have g' : W.heap[b]? = _ := g
 rw [h'] at g'
 cases g'
structure GaJ (V : World) (p : Pt) (S : Nat → Bool) (x5 x6 x8 x9 : Value) (W : World) : Prop where
 e : Below V.heap.size V W
 f0 : S 0 = true → x8 = vP o2
 f1 : S 1 = true → x9 = vT p
 f2 : S 2 = true → ∃ b, x5 = .pointer (some ⟨b, 0, none⟩) ∧ V.heap.size ≤ b ∧ ∃ y, Bq b 111 (cP y) W ∧ (S 4 = true → y = o2)
 f3 : S 3 = true → ∃ b, x6 = .pointer (some ⟨b, 0, none⟩) ∧ V.heap.size ≤ b ∧ ∃ y, PtB b y W ∧ (S 5 = true → y = p)
 g4 : S 4 = true → S 2 = true
 g5 : S 5 = true → S 3 = true
theorem GaJ.grow {V : World} {p : Pt} {S : Nat → Bool} {x5 x6 x8 x9 : Value} {W W' : World} (h : GaJ V p S x5 x6 x8 x9 W) (hb : Below W.heap.size W W') : GaJ V p S x5 x6 x8 x9 W' :=
 ⟨belowStep h.e h.e.size hb, h.f0, h.f1, fun s => (let ⟨b, e, hz, y, t, u⟩ := h.f2 s; ⟨b, e, hz, y, t.below hb, u⟩), fun s => (let ⟨b, e, hz, y, t, u⟩ := h.f3 s; ⟨b, e, hz, y, Bq.below t hb, u⟩), h.g4, h.g5⟩

theorem Lp.o3 {W : World} {k : Nat} (h : Lp W) (hk : 4 < k) (hk1 : 5 < k) (hk2 : 6 < k) (y : Pt) : Lp (Go.Proofs.YtoddangedbefgabGreatDoor.put3 k y W) := ((h.other hk hk1 hk2 _ _).other hk hk1 hk2 _ _).other hk hk1 hk2 _ _
theorem Lp.o2 {W : World} {k : Nat} (h : Lp W) (hk : 4 < k) (hk1 : 5 < k) (hk2 : 6 < k) (y : P2) : Lp (sP k y W) := (h.other hk hk1 hk2 _ _).other hk hk1 hk2 _ _
theorem Bq.oP {b k : Nat} {T : TypeId} {cs : Array Value} {W : World} (h : Bq b T cs W) (hk : b ≠ k) (y : P2) : Bq b T cs (sP k y W) := (h.other hk _ _).other hk _ _
theorem Bq.oT {b k : Nat} {T : TypeId} {cs : Array Value} {W : World} (h : Bq b T cs W) (hk : b ≠ k) (y : Pt) : Bq b T cs (Go.Proofs.YtoddangedbefgabGreatDoor.put3 k y W) := ((h.other hk _ _).other hk _ _).other hk _ _
theorem ko_sP (W : World) (k : Nat) (y : P2) (B : Nat) : KeepsFrom B W (sP k y W) := (ko_set _ _ _ _).trans (ko_set _ _ _ _)
theorem below_sP {k g : Nat} {w W : World} (h : Below k w W) (hg : k ≤ g) (y : P2) : Below k w (sP g y W) := (h.setCell (p := ⟨g, 0, none⟩) hg _).setCell (p := ⟨g, 1, none⟩) hg _
theorem size_sP (k : Nat) (y : P2) (W : World) : (sP k y W).heap.size = W.heap.size := by simp [World.setCell]

set_option maxRecDepth 20000 in
set_option maxHeartbeats 4000000 in
theorem gathered_any (p q : Pt) (hp : onN p = true) (hq : UT q) (w : World) (hL : Lp w) :
  Calls Tryz.prog 178 #[vT p, vT q] w fun e w' => e = .returned (vP (gaN p q)) ∧ Below w.heap.size w w' := by
 refine (callsIn_wide (n := 9)).1 ?_
 refine callsIn_of_wp_marks Tryz.func178 rfl trivial ?_ rfl
 refine wpIn_wide.2 ?_
 simp only [Tryz.ntmps178, List.size_toArray, List.length_cons, List.length_nil, Nat.reduceAdd, Nat.reduceSub, Array.replicate_succ, Array.replicate_zero, List.push_toArray, List.append_toArray, List.nil_append, List.cons_append]
 go_wp2_with fail
 refine wp_scope_straight ?_
 go_wp2_with fail
 obtain ⟨z, hz⟩ : ∃ c, w.heap.size = c := ⟨_, rfl⟩
 have HZ : Hid (w.heap.size = z) := hz
 have HL : Hid (4 < z ∧ 5 < z ∧ 6 < z) := ⟨hz ▸ hL.l.z, hz ▸ hL.za, hz ▸ hL.zb⟩
 refine wpOf (fun W => Below z w W ∧ W.heap.size = z + 3 ∧ PtB z p W ∧ PtB (z + 1) q W ∧ Bq (z + 1 + 1) 111 (cP z2) W ∧ Lp W) ?_ ?_
 ·have t2 := alloc_two w (.cells #[.int .u64 (p.X : Int), .int .u64 (p.Y : Int), .bool p.I] 72) (.cells #[.int .u64 (q.X : Int), .int .u64 (q.Y : Int), .bool q.I] 72)
  have t3 := alloc_two (w.alloc (.cells #[.int .u64 (p.X : Int), .int .u64 (p.Y : Int), .bool p.I] 72)) (.cells #[.int .u64 (q.X : Int), .int .u64 (q.Y : Int), .bool q.I] 72) (.cells (cP z2) 111)
  rw [hz] at t2
  rw [World.size_alloc, hz] at t3
  refine ⟨?_, by simp [hz], ?_, t3.1, t3.2, ((hL.alloc _).alloc _).alloc _⟩
  ·rw [← hz]
   exact (((Below.refl _ w).alloc (Nat.le_refl _) _).alloc (by simp) _).alloc (by simp; omega) _
  ·exact Bq.below t2.1 ((Below.refl _ _).alloc (Nat.le_refl _) _)
 rintro V ⟨BV, hs1, hA, hQ, hR, hLV⟩
 rw [hz]
 clear hz
 have p0 : V.cell? ⟨z, 0, none⟩ = some (.int .u64 (p.X : Int)) := hA.cell 0
 have p1 : V.cell? ⟨z, 1, none⟩ = some (.int .u64 (p.Y : Int)) := hA.cell 1
 have p2 : V.cell? ⟨z, 2, none⟩ = some (.bool p.I) := hA.cell 2
 have b0 := hLV.b0
 have b1 := hLV.b1
 have zb := hLV.zb
 have zl : z < V.heap.size := by omega
 refine region_inv (fun S aa W => ∃ x5 x6 x8 x9 : Value, aa = { tmps := #[vT p, vT q, .pointer (some ⟨z, 0, none⟩), .pointer (some ⟨z + 1, 0, none⟩), .pointer (some ⟨z + 1 + 1, 0, none⟩), x5, x6, undef, x8, x9, undef, undef, undef, undef, undef, undef, undef, undef, undef, undef, undef, undef, undef, undef, undef, undef, undef, undef, undef, undef, undef, undef, undef, undef, undef], defers := [] } ∧ GaJ V p S x5 x6 x8 x9 W) (by kernel_rfl) (by kernel_rfl) ?_ ?_ ?_
 ·exact ⟨undef, undef, undef, undef, rfl, ⟨(Below.refl _ V).drew, nofun, nofun, nofun, nofun, nofun, nofun⟩⟩
 ·intro i o S aa W hi hun hJ hall K hK
  obtain ⟨x5, x6, x8, x9, rfl, h⟩ := hJ
  have hlt : i < 6 := (List.getElem?_eq_some_iff.1 hi).1
  have hcase : i = 0 ∨ i = 1 ∨ i = 2 ∨ i = 3 ∨ i = 4 ∨ i = 5 := by omega
  rcases hcase with rfl | rfl | rfl | rfl | rfl | rfl
  all_goals (have ho := (Option.some.inj hi).symm; subst ho; clear hi hlt)
  ·have c0 := (h.e.cell (p := ⟨6, 0, none⟩) zb).trans b0
   have c1 := (h.e.cell (p := ⟨6, 1, none⟩) zb).trans b1
   go_simp
   exact hK _ _ ⟨x5, x6, _, x9, rfl, ⟨h.e, fun _ => rfl, h.f1, h.f2, h.f3, h.g4, h.g5⟩⟩
  ·have c0 := (h.e.cell (p := ⟨z, 0, none⟩) zl).trans p0
   have c1 := (h.e.cell (p := ⟨z, 1, none⟩) zl).trans p1
   have c2 := (h.e.cell (p := ⟨z, 2, none⟩) zl).trans p2
   go_simp
   exact hK _ _ ⟨x5, x6, x8, _, rfl, ⟨h.e, h.f0, fun _ => rfl, h.f2, h.f3, h.g4, h.g5⟩⟩
  ·have h1 := h.grow ((Below.refl _ W).alloc (Nat.le_refl _) (.cells (cP z2) 111))
   go_simp
   exact hK _ _ ⟨_, x6, x8, x9, rfl, ⟨h1.e, h1.f0, h1.f1, fun _ => ⟨W.heap.size, rfl, h.e.size, z2, World.alloc_heap_new W _, fun s => (by rw [h.g4 s] at hun; cases hun)⟩, h1.f3, fun _ => rfl, h1.g5⟩⟩
  ·have h1 := h.grow ((Below.refl _ W).alloc (Nat.le_refl _) (.cells #[.int .u64 (oP.X : Int), .int .u64 (oP.Y : Int), .bool oP.I] 72))
   go_simp
   exact hK _ _ ⟨x5, _, x8, x9, rfl, ⟨h1.e, h1.f0, h1.f1, h1.f2, fun _ => ⟨W.heap.size, rfl, h.e.size, oP, World.alloc_heap_new W _, fun s => (by rw [h.g5 s] at hun; cases hun)⟩, h1.g4, fun _ => rfl⟩⟩
  ·have s2 : S 2 = true := hall ⟨2, .data⟩ (by simp) rfl
   have s0 : S 0 = true := hall ⟨0, .data⟩ (by simp) rfl
   obtain rfl := h.f0 s0
   obtain ⟨b, rfl, hbz, y, hY, _⟩ := h.f2 s2
   have c0 : W.cell? ⟨b, 0, none⟩ = some (.int .u64 (y.A : Int)) := hY.cell 0
   have c1 : W.cell? ⟨b, 1, none⟩ = some (.int .u64 (y.B : Int)) := hY.cell 1
   have cf : ∀ o, W.frozen? ⟨b, o, none⟩ = false := fun o => hY.fr o
   go_simp
   exact hK _ _ ⟨_, x6, _, x9, rfl, ⟨(h.e.setCell (p := ⟨b, 0, none⟩) hbz _).setCell (p := ⟨b, 1, none⟩) hbz _, h.f0, h.f1, fun _ => ⟨b, rfl, hbz, o2, hY.put2 _ _, fun _ => rfl⟩, fun s => (let ⟨c, e, hz, y, t, u⟩ := h.f3 s; ⟨c, e, hz, y, (Bq.other t (kinds_apart hY t).symm _ _).other (kinds_apart hY t).symm _ _, u⟩), fun _ => s2, h.g5⟩⟩
  ·have s3 : S 3 = true := hall ⟨3, .data⟩ (by simp) rfl
   have s1 : S 1 = true := hall ⟨1, .data⟩ (by simp) rfl
   obtain rfl := h.f1 s1
   obtain ⟨b, rfl, hbz, y, hY, _⟩ := h.f3 s3
   have c0 : W.cell? ⟨b, 0, none⟩ = some (.int .u64 (y.X : Int)) := hY.cell 0
   have c1 : W.cell? ⟨b, 1, none⟩ = some (.int .u64 (y.Y : Int)) := hY.cell 1
   have c2 : W.cell? ⟨b, 2, none⟩ = some (.bool y.I) := hY.cell 2
   have cf : ∀ o, W.frozen? ⟨b, o, none⟩ = false := fun o => hY.fr o
   go_simp
   exact hK _ _ ⟨x5, _, x8, _, rfl, ⟨below_put3 h.e hbz p, h.f0, h.f1, fun s => (let ⟨c, e, hz, y, t, u⟩ := h.f2 s; ⟨c, e, hz, y, ((Bq.other t (kinds_apart t hY) _ _).other (kinds_apart t hY) _ _).other (kinds_apart t hY) _ _, u⟩), fun _ => ⟨b, rfl, hbz, p, PtB.put hY p, fun _ => rfl⟩, h.g4, fun _ => s3⟩⟩
 rintro S aa W hall ⟨x5, x6, x8, x9, rfl, h⟩
 obtain rfl := h.f0 (hall 0 (by decide))
 obtain rfl := h.f1 (hall 1 (by decide))
 obtain ⟨u, rfl, hu, y, hY, ey⟩ := h.f2 (hall 2 (by decide))
 rw [ey (hall 4 (by decide))] at hY
 obtain ⟨v, rfl, hv, y', hV, ey'⟩ := h.f3 (hall 3 (by decide))
 rw [ey' (hall 5 (by decide))] at hV
 have huv := kinds_apart hY hV
 have BW := belowStep BV (by omega) h.e
 have A1 := Bq.below hA h.e
 have Q1 := Bq.below hQ h.e
 have R1' := Bq.below hR h.e
 have L1' := hLV.below h.e
 have huW := hY.lt
 have hvW := hV.lt
 rw [hs1] at hu hv
 clear h hall hA hQ hR hLV BV p0 p1 p2 b0 b1 zb zl hs1 V S ey ey'
 go_wp2_with fail
 refine wp_label ?_
 go_wp2_with fail
 refine (behind_any 536870717 W).mono ?_
 rintro e w2 ⟨rfl, hw2⟩
 obtain ⟨k, hk⟩ : ∃ k, W.heap.size = k := ⟨_, rfl⟩
 have B2 : Below W.heap.size W w2 := by rw [hw2]; exact (Below.refl _ W).alloc (Nat.le_refl _) _
 have hcx : NumIn W.heap.size 536870717 w2 := by rw [hw2]; exact World.alloc_heap_new W _
 have A2 := Bq.below A1 B2
 have Q2 := Bq.below Q1 B2
 have R2' := Bq.below R1' B2
 have L2' := L1'.below B2
 have Y2 := hY.below B2
 have V2 := Bq.below hV B2
 have BW2 := belowStep BW (by omega) B2
 rw [hk] at hcx huW hvW ⊢
 clear hw2 B2 A1 Q1 R1' L1' hY hV BW hk W
 go_wp2_with fail
 have hxz : k < w2.heap.size := hcx.lt
 have h29 : U64 536870717 := by decide
 obtain ⟨nO, hnO⟩ : ∃ n : Nat, 536870717 = n := ⟨_, rfl⟩
 have CL := len64_order
 have eGa : gaN p q = (stG p q (bitsTo nO 28 28)).1 := by rw [← hnO]; rfl
 rw [hnO] at hcx h29 CL
 clear hnO
 refine (wpIn_wide (n := 9)).1 ?_
 refine wpIn_rangeFunc_ownH rfl (by omega) (gf := 197) (lb := #[.pointer (some ⟨k, 0, none⟩)]) rfl trivial (enters_of Tryz.func197 (by kernel_rfl) rfl)
  (behind_stops _ k nO h29 CL w2 hcx) (fun h k => NumK.trans h k) (fun W l o o' hl h1 h2 h3 hx => (World.putObj_heap_other (by omega)).trans hx) (Below.refl _ _) (fun _ => rfl)
  (fun pre W => PtB z p W ∧ PtB (z + 1) q W ∧ Bq (z + 1 + 1) 111 (cP z2) W ∧ Bq u 111 (cP (stG p q pre).1) W ∧ PtB v (stG p q pre).2 W ∧ Lp W ∧ Below z w W ∧ k < W.heap.size)
  (fun c pre W => False)
  (fun s A C row hs hg hr => ⟨hs.1.own hg (fun r e => (hr r e).2), hs.2.1.own hg (fun r e => (hr r e).2), hs.2.2.1.own hg (fun r e => (hr r e).2), hs.2.2.2.1.own hg (fun r e => (hr r e).2), hs.2.2.2.2.1.own hg (fun r e => (hr r e).2), hs.2.2.2.2.2.1.own hg (fun r e => (hr r e).2), hs.2.2.2.2.2.2.1.grown hg (by omega) (fun k e => Nat.le_trans (by omega) (hr k e).1), Nat.lt_of_lt_of_le hs.2.2.2.2.2.2.2 hg.size⟩)
  (fun c s A C row hs hg hr => hs)
  ⟨A2, Q2, R2', Y2, V2, L2', BW2, hxz⟩
  (fun x a' _ => a' = { tmps := #[vT p, vT q, .pointer (some ⟨z, 0, none⟩), .pointer (some ⟨z + 1, 0, none⟩), .pointer (some ⟨z + 1 + 1, 0, none⟩), .pointer (some ⟨u, 0, none⟩), .pointer (some ⟨v, 0, none⟩), .bool x, vP o2, vT p, .func (.func 197) #[] #[.pointer (some ⟨k, 0, none⟩)], .bool x, undef, undef, undef, undef, undef, undef, undef, undef, undef, undef, undef, undef, undef, undef, undef, undef, undef, undef, undef, undef, undef, undef, undef], defers := [] })
  (fun x a' _ X Y row hs hg hr => hs)
  ?assign ?body ?done ?stop
 case assign =>
  rintro l pre x W K hI hK
  dsimp only [dEnc]
  gi_wp2
  exact hK _ _ (KeepsFrom.refl _ _) (fun h => h) hI rfl
 case body =>
  clear A2 Q2 R2' Y2 V2 L2' BW2 CL hcx eGa hL
  rintro l pre x a' W hl ⟨r, hr⟩ ⟨hA, hQ, hR, hY, hV, hLi, hB, hxW⟩ rfl hlt
  obtain ⟨onS, uS⟩ := stG_ok (q := q) hp pre
  have hsn := stG_snoc p q pre x
  obtain ⟨⟨f, t⟩, hft⟩ : ∃ s, stG p q pre = s := ⟨_, rfl⟩
  rw [hft] at hY hV hsn onS uS
  simp only at hY hV onS uS
  have ot := on_sm onS onS
  have C1 := mul2_any f f uS uS
  have C2 := pline_any t t q onS (wl_u (wl_on onS)) hq
  have C3 := mul2_any (m2 f f) (lnA t t q) (m2_u _ _) (lnA_u t t q hq)
  have C4 := psum_any t t onS onS
  have C5 := pline_any (smN t t) p q ot (wl_u (wl_on hp)) hq
  have C6 := mul2_any (m2 (m2 f f) (lnA t t q)) (lnA (smN t t) p q) (m2_u _ _) (lnA_u _ _ q hq)
  have C7 := psum_any (smN t t) p ot hp
  unfold gst at hsn
  simp only at hsn
  clear onS uS ot hft
  obtain ⟨f1, e1⟩ : ∃ y, m2 f f = y := ⟨_, rfl⟩
  rw [e1] at C1 C3 C6 hsn
  obtain ⟨f2, e2⟩ : ∃ y, lnA t t q = y := ⟨_, rfl⟩
  rw [e2] at C2 C3 C6 hsn
  obtain ⟨f3, e3⟩ : ∃ y, m2 f1 f2 = y := ⟨_, rfl⟩
  rw [e3] at C3 C6 hsn
  obtain ⟨t2, e4⟩ : ∃ y, smN t t = y := ⟨_, rfl⟩
  rw [e4] at C4 C5 C6 C7 hsn
  obtain ⟨f4, e5⟩ : ∃ y, lnA t2 p q = y := ⟨_, rfl⟩
  rw [e5] at C5 C6 hsn
  obtain ⟨f5, e6⟩ : ∃ y, m2 f3 f4 = y := ⟨_, rfl⟩
  rw [e6] at C6 hsn
  obtain ⟨t3, e7⟩ : ∃ y, smN t2 p = y := ⟨_, rfl⟩
  rw [e7] at C7 hsn
  clear e1 e2 e3 e4 e5 e6 e7
  have c1 := inClass (w := W) C1
  have c2 := inClassP C2 hLi
  have c3 := inClass (w := W) C3
  have k0 := cell_regrown (show W.cell? ⟨u, 0, none⟩ = some (.int .u64 (f.A : Int)) from hY.cell 0)
  have k1 := cell_regrown (show W.cell? ⟨u, 1, none⟩ = some (.int .u64 (f.B : Int)) from hY.cell 1)
  have k2 := cell_regrown (show W.cell? ⟨v, 0, none⟩ = some (.int .u64 (t.X : Int)) from hV.cell 0)
  have k3 := cell_regrown (show W.cell? ⟨v, 1, none⟩ = some (.int .u64 (t.Y : Int)) from hV.cell 1)
  have k4 := cell_regrown (show W.cell? ⟨v, 2, none⟩ = some (.bool t.I) from hV.cell 2)
  have k5 := cell_regrown (show W.cell? ⟨z + 1, 0, none⟩ = some (.int .u64 (q.X : Int)) from hQ.cell 0)
  have k6 := cell_regrown (show W.cell? ⟨z + 1, 1, none⟩ = some (.int .u64 (q.Y : Int)) from hQ.cell 1)
  have k7 := cell_regrown (show W.cell? ⟨z + 1, 2, none⟩ = some (.bool q.I) from hQ.cell 2)
  have HH : Hid (_ ∧ _ ∧ _ ∧ _ ∧ _ ∧ _ ∧ _ ∧ _) := ⟨hA, hQ, hR, hY, hV, hLi, hB, hxW⟩
  have HC : Hid (_ ∧ _ ∧ _ ∧ _) := ⟨C4, C5, C6, C7⟩
  clear hA hQ hR hY hV hLi hB hxW C1 C2 C3 C4 C5 C6 C7
  gi_wp2_with fail
  refine region_tail_in l _ 8 (by kernel_rfl) (by kernel_rfl) (by rintro ⟨_, _, h⟩; exact h) (by kernel_rfl) ?_
  simp only [List.take_succ_cons, List.take_zero, List.drop_succ_cons, List.drop_zero]
  iterate 2 (quiet_step (fail))
  quiet_step (exact c1 _ _)
  iterate 3 (quiet_step (fail))
  quiet_step (exact c2 _ _)
  quiet_step (exact c3 _ _)
  refine wpQuiet_nil ?_
  intro W4 hw8
  have B4 : Below W.heap.size W W4 := by
   obtain ⟨p, rfl⟩ := hw8
   exact below_regrown _ _ _
  clear hw8 k0 k1 k2 k3 k4 k5 k6 k7 c1 c2 c3
  obtain ⟨hA, hQ, hR, hY, hV, hLi, hB, hxW⟩ := HH.out
  obtain ⟨l0, l1, l2⟩ := HL.out
  have hvu : v ≠ u := fun e => huv e.symm
  have A4 := Bq.below hA B4
  have Q4 := Bq.below hQ B4
  have R4' := Bq.below hR B4
  have Y4 := Bq.below hY B4
  have V4 := Bq.below hV B4
  have L4' := hLi.below B4
  have BW4 := belowStep hB (by omega) B4
  have A5 := A4.oP (k := u) (by omega) f3
  have Q5 := Q4.oP (k := u) (by omega) f3
  have R5' := R4'.oP (k := u) (by omega) f3
  have V5 := V4.oP (k := u) hvu f3
  have Y5 := Y4.put2 (.int .u64 (f3.A : Int)) (.int .u64 (f3.B : Int))
  have L5' := L4'.o2 (k := u) (by omega) (by omega) (by omega) f3
  have BW5 := below_sP BW4 (g := u) (by omega) f3
  have k5 : KeepsFrom w2.heap.size W (sP u f3 W4) := ((ko_below B4).from _).trans (ko_sP _ _ _ _)
  have n5 : NumK k nO W (sP u f3 W4) := fun h => (h.below B4).oP (by omega) f3
  have z5 : k < (sP u f3 W4).heap.size := by rw [size_sP]; exact Nat.lt_of_lt_of_le hxW B4.size
  have H5 : Hid (_ ∧ _ ∧ _ ∧ _ ∧ _ ∧ _ ∧ _ ∧ _ ∧ _ ∧ _) := ⟨A5, Q5, R5', Y5, V5, L5', BW5, k5, n5, z5⟩
  have y0 : W4.cell? ⟨u, 0, none⟩ = some (.int .u64 (f.A : Int)) := Y4.cell 0
  have y1 : W4.cell? ⟨u, 1, none⟩ = some (.int .u64 (f.B : Int)) := Y4.cell 1
  have yf : ∀ o, W4.frozen? ⟨u, o, none⟩ = false := fun o => Y4.fr o
  have v0 : W4.cell? ⟨v, 0, none⟩ = some (.int .u64 (t.X : Int)) := V4.cell 0
  have v1 : W4.cell? ⟨v, 1, none⟩ = some (.int .u64 (t.Y : Int)) := V4.cell 1
  have v2 : W4.cell? ⟨v, 2, none⟩ = some (.bool t.I) := V4.cell 2
  clear hA hQ hR hY hV hLi hB hxW A4 Q4 R4' Y4 V4 L4' BW4 A5 Q5 R5' V5 Y5 L5' BW5 k5 n5 z5 B4 HH l0 l1 l2
  go_wp2_with fail
  gi_wp2_with fail
  refine ⟨trivial, (CallsIn.inRound l (callsIn_wide.2 (HC.out.1 _ H5.out.2.2.2.2.2.1))).mono ?_⟩
  rintro e W6 ⟨rfl, B6⟩
  obtain ⟨A5, Q5, R5', Y5, V5, L5', BW5, k5, n5, z5⟩ := H5.out
  obtain ⟨l0, l1, l2⟩ := HL.out
  have A6 := Bq.below A5 B6
  have Q6 := Bq.below Q5 B6
  have R6' := Bq.below R5' B6
  have Y6 := Bq.below Y5 B6
  have V6 := Bq.below V5 B6
  have L6' := L5'.below B6
  have BW6 := belowStep BW5 (by omega) B6
  have v0' : W6.cell? ⟨v, 0, none⟩ = some (.int .u64 (t.X : Int)) := V6.cell 0
  have v1' : W6.cell? ⟨v, 1, none⟩ = some (.int .u64 (t.Y : Int)) := V6.cell 1
  have v2' : W6.cell? ⟨v, 2, none⟩ = some (.bool t.I) := V6.cell 2
  have vf : ∀ o, W6.frozen? ⟨v, o, none⟩ = false := fun o => V6.fr o
  have A7 := Bq.oT A6 (k := v) (by omega) t2
  have Q7 := Bq.oT Q6 (k := v) (by omega) t2
  have R7' := R6'.oT (k := v) (by omega) t2
  have Y7 := Y6.oT (k := v) huv t2
  have V7 := PtB.put V6 t2
  have L7' := L6'.o3 (k := v) (by omega) (by omega) (by omega) t2
  have BW7 := below_put3 BW6 (g := v) (by omega) t2
  have k7 : KeepsFrom w2.heap.size W (put3 v t2 W6) := (k5.trans ((ko_below B6).from _)).trans (ko_put3 _ _ _ _)
  have n7 : NumK k nO W (put3 v t2 W6) := fun h => Bq.oT ((n5 h).below B6) (by omega) t2
  have z7 : k < (put3 v t2 W6).heap.size := by rw [size_put3]; exact Nat.lt_of_lt_of_le z5 B6.size
  have H7 : Hid (_ ∧ _ ∧ _ ∧ _ ∧ _ ∧ _ ∧ _ ∧ _ ∧ _ ∧ _) := ⟨A7, Q7, R7', Y7, V7, L7', BW7, k7, n7, z7⟩
  clear A5 Q5 R5' Y5 V5 L5' BW5 k5 n5 z5 A6 Q6 R6' Y6 V6 L6' BW6 A7 Q7 R7' Y7 V7 L7' BW7 k7 n7 z7 B6 H5 y0 y1 yf v0 v1 v2 l0 l1 l2
  cases x with
  | false =>
   gi_wp2
   obtain ⟨A7, Q7, R7', Y7, V7, L7', BW7, k7, n7, z7⟩ := H7.out
   refine (?_ : KeepsFrom _ W _ ∧ NumK _ _ W _ ∧ _ ∧ _ ∧ _ ∧ _ ∧ _ ∧ _ ∧ _ ∧ _)
   rw [hsn]
   exact ⟨k7, n7, A7, Q7, R7', Y7, V7, L7', BW7, z7⟩
  | true =>
   gi_wp2_with fail
   refine wpInOf (fun U => PtB z p U ∧ PtB (z + 1) q U ∧ Bq (z + 1 + 1) 111 (cP z2) U ∧ Bq u 111 (cP f3) U ∧ PtB v t2 U ∧ Lp U ∧ Below z w U ∧ KeepsFrom w2.heap.size W U ∧ NumK k nO W U ∧ k < U.heap.size) H7.out ?_
   rintro U ⟨A7, Q7, R7', Y7, V7, L7', BW7, k7, n7, z7⟩
   clear H7 v0' v1' v2' vf
   have HD : Hid (_ ∧ _ ∧ _) := HC.out.2
   have c1 := inClassP HD.out.1 L7'
   have c2 := inClass (w := U) HD.out.2.1
   have k0 := cell_regrown (show U.cell? ⟨u, 0, none⟩ = some (.int .u64 (f3.A : Int)) from Y7.cell 0)
   have k1 := cell_regrown (show U.cell? ⟨u, 1, none⟩ = some (.int .u64 (f3.B : Int)) from Y7.cell 1)
   have k2 := cell_regrown (show U.cell? ⟨v, 0, none⟩ = some (.int .u64 (t2.X : Int)) from V7.cell 0)
   have k3 := cell_regrown (show U.cell? ⟨v, 1, none⟩ = some (.int .u64 (t2.Y : Int)) from V7.cell 1)
   have k4 := cell_regrown (show U.cell? ⟨v, 2, none⟩ = some (.bool t2.I) from V7.cell 2)
   have k5 := cell_regrown (show U.cell? ⟨z + 1, 0, none⟩ = some (.int .u64 (q.X : Int)) from Q7.cell 0)
   have k6 := cell_regrown (show U.cell? ⟨z + 1, 1, none⟩ = some (.int .u64 (q.Y : Int)) from Q7.cell 1)
   have k7' := cell_regrown (show U.cell? ⟨z + 1, 2, none⟩ = some (.bool q.I) from Q7.cell 2)
   have k8 := cell_regrown (show U.cell? ⟨z, 0, none⟩ = some (.int .u64 (p.X : Int)) from A7.cell 0)
   have k9 := cell_regrown (show U.cell? ⟨z, 1, none⟩ = some (.int .u64 (p.Y : Int)) from A7.cell 1)
   have k10 := cell_regrown (show U.cell? ⟨z, 2, none⟩ = some (.bool p.I) from A7.cell 2)
   have HH : Hid (_ ∧ _ ∧ _ ∧ _ ∧ _ ∧ _ ∧ _ ∧ _ ∧ _ ∧ _) := ⟨A7, Q7, R7', Y7, V7, L7', BW7, k7, n7, z7⟩
   clear A7 Q7 R7' Y7 V7 L7' BW7 k7 n7 z7
   refine region_tail_in l _ 6 (by kernel_rfl) (by kernel_rfl) (by rintro ⟨_, _, h⟩; exact h) (by kernel_rfl) ?_
   simp only [List.take_succ_cons, List.take_zero, List.drop_succ_cons, List.drop_zero]
   iterate 4 (quiet_step (fail))
   quiet_step (exact c1 _ _)
   quiet_step (exact c2 _ _)
   refine wpQuiet_nil ?_
   intro W4 hw8
   have B4 : Below U.heap.size U W4 := by
    obtain ⟨p, rfl⟩ := hw8
    exact below_regrown _ _ _
   clear hw8 k0 k1 k2 k3 k4 k5 k6 k7' k8 k9 k10 c1 c2
   obtain ⟨hA, hQ, hR, hY, hV, hLi, hB, k7, n7, z7⟩ := HH.out
   obtain ⟨l0, l1, l2⟩ := HL.out
   have A4 := Bq.below hA B4
   have Q4 := Bq.below hQ B4
   have R4' := Bq.below hR B4
   have Y4 := Bq.below hY B4
   have V4 := Bq.below hV B4
   have L4' := hLi.below B4
   have BW4 := belowStep hB (by omega) B4
   have A5 := A4.oP (k := u) (by omega) f5
   have Q5 := Q4.oP (k := u) (by omega) f5
   have R5' := R4'.oP (k := u) (by omega) f5
   have V5 := V4.oP (k := u) hvu f5
   have Y5 := Y4.put2 (.int .u64 (f5.A : Int)) (.int .u64 (f5.B : Int))
   have L5' := L4'.o2 (k := u) (by omega) (by omega) (by omega) f5
   have BW5 := below_sP BW4 (g := u) (by omega) f5
   have k5 : KeepsFrom w2.heap.size W (sP u f5 W4) := (k7.trans ((ko_below B4).from _)).trans (ko_sP _ _ _ _)
   have n5 : NumK k nO W (sP u f5 W4) := fun h => ((n7 h).below B4).oP (by omega) f5
   have z5 : k < (sP u f5 W4).heap.size := by rw [size_sP]; exact Nat.lt_of_lt_of_le z7 B4.size
   have H5 : Hid (_ ∧ _ ∧ _ ∧ _ ∧ _ ∧ _ ∧ _ ∧ _ ∧ _ ∧ _) := ⟨A5, Q5, R5', Y5, V5, L5', BW5, k5, n5, z5⟩
   have y0 : W4.cell? ⟨u, 0, none⟩ = some (.int .u64 (f3.A : Int)) := Y4.cell 0
   have y1 : W4.cell? ⟨u, 1, none⟩ = some (.int .u64 (f3.B : Int)) := Y4.cell 1
   have yf : ∀ o, W4.frozen? ⟨u, o, none⟩ = false := fun o => Y4.fr o
   have v0 : W4.cell? ⟨v, 0, none⟩ = some (.int .u64 (t2.X : Int)) := V4.cell 0
   have v1 : W4.cell? ⟨v, 1, none⟩ = some (.int .u64 (t2.Y : Int)) := V4.cell 1
   have v2 : W4.cell? ⟨v, 2, none⟩ = some (.bool t2.I) := V4.cell 2
   have p0 : W4.cell? ⟨z, 0, none⟩ = some (.int .u64 (p.X : Int)) := A4.cell 0
   have p1 : W4.cell? ⟨z, 1, none⟩ = some (.int .u64 (p.Y : Int)) := A4.cell 1
   have p2 : W4.cell? ⟨z, 2, none⟩ = some (.bool p.I) := A4.cell 2
   have hzu : z ≠ u := by omega
   have huz : u ≠ z := by omega
   clear hA hQ hR hY hV hLi hB A4 Q4 R4' Y4 V4 L4' BW4 A5 Q5 R5' V5 Y5 L5' BW5 k5 n5 z5 B4 HH l0 l1 l2 k7 n7 z7
   go_wp2_with fail
   gi_wp2_with fail
   refine ⟨trivial, (CallsIn.inRound l (callsIn_wide.2 (HD.out.2.2 _ H5.out.2.2.2.2.2.1))).mono ?_⟩
   rintro e W6 ⟨rfl, B6⟩
   obtain ⟨A5, Q5, R5', Y5, V5, L5', BW5, k5, n5, z5⟩ := H5.out
   obtain ⟨l0, l1, l2⟩ := HL.out
   have A6 := Bq.below A5 B6
   have Q6 := Bq.below Q5 B6
   have R6' := Bq.below R5' B6
   have Y6 := Bq.below Y5 B6
   have V6 := Bq.below V5 B6
   have L6' := L5'.below B6
   have BW6 := belowStep BW5 (by omega) B6
   have v0' : W6.cell? ⟨v, 0, none⟩ = some (.int .u64 (t2.X : Int)) := V6.cell 0
   have v1' : W6.cell? ⟨v, 1, none⟩ = some (.int .u64 (t2.Y : Int)) := V6.cell 1
   have v2' : W6.cell? ⟨v, 2, none⟩ = some (.bool t2.I) := V6.cell 2
   have vf : ∀ o, W6.frozen? ⟨v, o, none⟩ = false := fun o => V6.fr o
   have A7 := Bq.oT A6 (k := v) (by omega) t3
   have Q7 := Bq.oT Q6 (k := v) (by omega) t3
   have R7' := R6'.oT (k := v) (by omega) t3
   have Y7 := Y6.oT (k := v) huv t3
   have V7 := PtB.put V6 t3
   have L7' := L6'.o3 (k := v) (by omega) (by omega) (by omega) t3
   have BW7 := below_put3 BW6 (g := v) (by omega) t3
   have k7 : KeepsFrom w2.heap.size W (put3 v t3 W6) := (k5.trans ((ko_below B6).from _)).trans (ko_put3 _ _ _ _)
   have n7 : NumK k nO W (put3 v t3 W6) := fun h => Bq.oT ((n5 h).below B6) (by omega) t3
   have z7 : k < (put3 v t3 W6).heap.size := by rw [size_put3]; exact Nat.lt_of_lt_of_le z5 B6.size
   have H7 : Hid (_ ∧ _ ∧ _ ∧ _ ∧ _ ∧ _ ∧ _ ∧ _ ∧ _ ∧ _) := ⟨A7, Q7, R7', Y7, V7, L7', BW7, k7, n7, z7⟩
   clear A5 Q5 R5' Y5 V5 L5' BW5 k5 n5 z5 A6 Q6 R6' Y6 V6 L6' BW6 A7 Q7 R7' Y7 V7 L7' BW7 k7 n7 z7 B6 H5 y0 y1 yf v0 v1 v2 p0 p1 p2 l0 l1 l2
   gi_wp2
   obtain ⟨A7, Q7, R7', Y7, V7, L7', BW7, k7, n7, z7⟩ := H7.out
   refine (?_ : KeepsFrom _ W _ ∧ NumK _ _ W _ ∧ _ ∧ _ ∧ _ ∧ _ ∧ _ ∧ _ ∧ _ ∧ _)
   rw [hsn]
   exact ⟨k7, n7, A7, Q7, R7', Y7, V7, L7', BW7, z7⟩
 case done =>
  rintro D ys W hD rfl ⟨hA, hQ, hR, hY, hV, hLi, hB, hxW⟩ hK
  rw [← eGa] at hY
  obtain ⟨x, hx⟩ : ∃ x, gaN p q = x := ⟨_, rfl⟩
  rw [hx] at hY
  have c0 : W.cell? ⟨u, 0, none⟩ = some (.int .u64 (x.A : Int)) := hY.cell 0
  have c1 : W.cell? ⟨u, 1, none⟩ = some (.int .u64 (x.B : Int)) := hY.cell 1
  have r0 : W.cell? ⟨z + 1 + 1, 0, none⟩ = some (.int .u64 0) := hR.cell 0
  have r1 : W.cell? ⟨z + 1 + 1, 1, none⟩ = some (.int .u64 0) := hR.cell 1
  have rf : ∀ o, W.frozen? ⟨z + 1 + 1, o, none⟩ = false := fun o => hR.fr o
  have hDz : D ≠ z + 1 + 1 := by omega
  have hK' : (sP (z + 1 + 1) x W).heap[D]? = some (.deferred (some [])) := by
   show ((W.setCell _ _).setCell _ _).heap[D]? = _
   rw [Below.heap_setCell _ _ _ _ hDz, Below.heap_setCell _ _ _ _ hDz]
   exact hK
  have hBx : Below z w (sP (z + 1 + 1) x W) := below_sP hB (by omega) x
  have R9' : Bq (z + 1 + 1) 111 (cP x) ((sP (z + 1 + 1) x W).putObj D (.deferred none)) := (World.putObj_heap_other (by omega)).trans (hR.put2 (.int .u64 (x.A : Int)) (.int .u64 (x.B : Int)))
  have H8 : Hid (_ ∧ _ ∧ _) := ⟨hK', hBx, R9'⟩
  clear hK' hBx R9' eGa A2 Q2 R2' Y2 V2 L2' BW2
  go_wp2
  obtain ⟨hK', hBx, R9'⟩ := H8.out
  have s0 := R9'.cell 0
  have s1 := R9'.cell 1
  have hbP := belowK_b (n₀ := z) (w := w2) (by omega) (sP (z + 1 + 1) x W) D _ (.deferred none) hD hK' rfl rfl
  rw [Exit.noGoto_ret]
  refine ⟨by simp, .inl ⟨_, _, rfl, run_takeDeferred hK', ?_⟩⟩
  refine ⟨vP x, by simp [results, Tryz.results178, go_sem, *], by rw [hx], ?_⟩
  rw [HZ.out]
  exact hBx.trans hbP
 case stop =>
  rintro D c pre W hD hq' hF hK
  exact hF.elim
end Go.Proofs.YtoddangedbefgabGreatDoor
