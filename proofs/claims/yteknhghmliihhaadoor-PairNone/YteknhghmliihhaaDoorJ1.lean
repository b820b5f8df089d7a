/- What the package pair's over, slope, negative, sum do; its variables. No condition. -/
import Derived.Test.YteknhghmliihhaaDoorC8
import Derived.Test.YteknhghmliihhaaDoorG9
import Derived.Test.YteknhghmliihhaaDoorJ0
namespace Go.Proofs.YteknhghmliihhaaDoor
open Go.RowKit Go.Shelf Go.Sort

/-- The package's variables: Inf and one; and curve's. -/
structure Lp (w : World) : Prop where
  l : Li w
  za : 0 < w.heap.size
  a0 : w.cell? ⟨0, 0, none⟩ = some (.int .u64 0)
  a1 : w.cell? ⟨0, 1, none⟩ = some (.int .u64 0)
  a2 : w.cell? ⟨0, 2, none⟩ = some (.bool true)
  oa : ∃ cs t, w.heap[0]? = some (.cells cs t (0, 0))
  zb : 1 < w.heap.size
  b0 : w.cell? ⟨1, 0, none⟩ = some (.int .u64 1)
  b1 : w.cell? ⟨1, 1, none⟩ = some (.int .u64 0)
  ob : ∃ cs t, w.heap[1]? = some (.cells cs t (0, 0))
theorem Lp.ne {w : World} (h : Lp w) : 0 < w.heap.size ∧ 0 ≤ w.heap.size ∧ w.heap.size ≠ 0 ∧ 0 ≠ w.heap.size ∧ 1 < w.heap.size ∧ 1 ≤ w.heap.size ∧ w.heap.size ≠ 1 ∧ 1 ≠ w.heap.size ∧ 2 < w.heap.size ∧ 2 ≤ w.heap.size ∧ w.heap.size ≠ 2 ∧ 2 ≠ w.heap.size := h.l.ne
theorem Lp.same {w W : World} (h : Lp w) (e : W.heap[2]? = w.heap[2]?) (e1 : W.heap[0]? = w.heap[0]?) (e2 : W.heap[1]? = w.heap[1]?) : Lp W := by
  obtain ⟨l, za, a0, a1, a2, ⟨cs, t, o⟩, zb, b0, b1, ⟨cs', t', o'⟩⟩ := h
  have k1 := e1.trans o
  have k2 := e2.trans o'
  exact ⟨l.same e, (Array.getElem?_eq_some_iff.1 k1).1, (Lib.cell_of_heap k1 0).trans ((Lib.cell_of_heap o 0).symm.trans a0), (Lib.cell_of_heap k1 1).trans ((Lib.cell_of_heap o 1).symm.trans a1), (Lib.cell_of_heap k1 2).trans ((Lib.cell_of_heap o 2).symm.trans a2), ⟨cs, t, k1⟩,
    (Array.getElem?_eq_some_iff.1 k2).1, (Lib.cell_of_heap k2 0).trans ((Lib.cell_of_heap o' 0).symm.trans b0), (Lib.cell_of_heap k2 1).trans ((Lib.cell_of_heap o' 1).symm.trans b1), ⟨cs', t', k2⟩⟩
theorem Lp.below {w W : World} (h : Lp w) (hb : Below w.heap.size w W) : Lp W := h.same (hb.block 2 h.l.z) (hb.block 0 h.za) (hb.block 1 h.zb)
theorem Lp.alloc {w : World} (h : Lp w) (o : Obj) : Lp (w.alloc o) := h.below ((Below.refl _ _).alloc (Nat.le_refl _) _)
theorem Lp.own {A C : World} {row : Option Nat} (h : Lp A) (hg : A.grownBy C row) (hr : ∀ r, row = some r → ∃ o : Obj, A.heap[r]? = some o ∧ o.isCells = false) : Lp C := by
  refine h.same (hg.block 2 h.l.z (fun e => ?_)) (hg.block 0 h.za (fun e => ?_)) (hg.block 1 h.zb (fun e => ?_))
  · obtain ⟨o, ho, hc⟩ := hr 2 e.symm
    obtain ⟨cs, t, k⟩ := h.l.o
    rw [k] at ho
    cases ho
    cases hc
  · obtain ⟨o, ho, hc⟩ := hr 0 e.symm
    obtain ⟨cs, t, k⟩ := h.oa
    rw [k] at ho
    cases ho
    cases hc
  · obtain ⟨o, ho, hc⟩ := hr 1 e.symm
    obtain ⟨cs, t, k⟩ := h.ob
    rw [k] at ho
    cases ho
    cases hc
theorem Lp.other {W : World} (h : Lp W) {k : Nat} (hk : 2 < k) (hk1 : 0 < k) (hk2 : 1 < k) (o : Nat) (u : Value) : Lp (W.setCell ⟨k, o, none⟩ u) := h.same (Below.heap_setCell _ _ _ _ (Nat.ne_of_lt hk)) (Below.heap_setCell _ _ _ _ (Nat.ne_of_lt hk1)) (Below.heap_setCell _ _ _ _ (Nat.ne_of_lt hk2))
theorem inClassP {f : Nat} {args : Array Value} {v : Value} {w : World} (h : ∀ W, Lp W → Calls Tryd.prog f args W fun e w' => e = .returned v ∧ Below W.heap.size W w') (hL : Lp w) :
    ∀ d os, Calls Tryd.prog f args (grow (redrawn w d) os) fun e w'' => e = .returned v ∧ ∃ p : Regrown, w'' = grow (redrawn w p.d) p.os := fun _ _ => Calls.regrown_of (h _ (hL.below (below_regrown _ _ _)))

set_option maxHeartbeats 2000000 in
theorem pover_any (a b : Nat) (ha : U64 a) (hb : U64 b) (w : World) :
    Calls Tryd.prog 51 #[.int .u64 a, .int .u64 b] w fun e w' => e = .returned (.int .u64 (ovN a b : Nat)) ∧ Below w.heap.size w w' := by
  have hi := pm_u _ (iv_lt b)
  have C1 := inv_any b hb
  unfold ovN
  obtain ⟨i, he⟩ : ∃ i, ivN b = i := ⟨_, rfl⟩
  rw [he] at hi C1 ⊢
  clear he
  go_enter Tryd.func51, Tryd.ntmps51
  go_wp2_with fail
  refine (C1 _).mono ?_
  rintro e w1 ⟨rfl, B1⟩
  go_wp2_with fail
  refine (mul_any a i ha hi _).mono ?_
  rintro e w2 ⟨rfl, B2⟩
  go_wp2_with fail
  go_ret
  exact ⟨rfl, belowStep B1 B1.size B2⟩

set_option maxRecDepth 20000 in
set_option maxHeartbeats 4000000 in
theorem pslope_any (p q : Pt) (hp : UT p) (hq : UT q) (w : World) :
    Calls Tryd.prog 33 #[vT p, vT q] w fun e w' => e = .returned (.int .u64 (slN p q : Nat)) ∧ Below w.heap.size w w' := by
  have three : U64 3 := by unfold U64; omega
  have one : U64 1 := by unfold U64; omega
  by_cases hE : p = q
  · have hEq := eqlT p q
    rw [decide_eq_true hE] at hEq
    have eM : slN p q = ovN (adN (muN 3 (muN p.X p.X)) 1) (adN p.Y p.Y) := by unfold slN; rw [if_pos hE]
    rw [eM]
    have C1 := mul_any p.X p.X hp.1 hp.1
    have C2 := mul_any 3 (muN p.X p.X) three (pm_u _ (mu_lt _ _))
    have C3 := add_any (muN 3 (muN p.X p.X)) 1 (pm_u _ (mu_lt _ _)) one
    have C4 := add_any p.Y p.Y hp.2 hp.2
    have C5 := pover_any (adN (muN 3 (muN p.X p.X)) 1) (adN p.Y p.Y) (pm_u _ (ad_lt _ _)) (pm_u _ (ad_lt _ _))
    obtain ⟨r, hr⟩ : ∃ r, ovN (adN (muN 3 (muN p.X p.X)) 1) (adN p.Y p.Y) = r := ⟨_, rfl⟩
    rw [hr] at C5 ⊢
    obtain ⟨a1, h1⟩ : ∃ r, muN p.X p.X = r := ⟨_, rfl⟩
    rw [h1] at C1 C2 C3 C5
    obtain ⟨a2, h2⟩ : ∃ r, muN 3 a1 = r := ⟨_, rfl⟩
    rw [h2] at C2 C3 C5
    obtain ⟨a3, h3⟩ : ∃ r, adN a2 1 = r := ⟨_, rfl⟩
    rw [h3] at C3 C5
    obtain ⟨a4, h4⟩ : ∃ r, adN p.Y p.Y = r := ⟨_, rfl⟩
    rw [h4] at C4 C5
    clear h1 h2 h3 h4 hr eM hE
    obtain ⟨pX, pY, pI⟩ := p
    obtain ⟨qX, qY, qI⟩ := q
    simp only [vT] at hEq C1 C4 ⊢
    go_enter Tryd.func33, Tryd.ntmps33
    go_wp2_with fail
    refine wpOf (fun V => Below w.heap.size w V ∧ Tb w.heap.size ⟨pX, pY, pI⟩ V ∧ Tb (w.heap.size + 1) ⟨qX, qY, qI⟩ V) ⟨by go_grown, (Tb.new' w ⟨pX, pY, pI⟩ 24 _ rfl).alloc _, Tb.new' _ ⟨qX, qY, qI⟩ 24 _ (by simp)⟩ ?_
    rintro V ⟨BV, hA, hB⟩
    have c1 := inClass (w := V) C1
    have c2 := inClass (w := V) C2
    have c3 := inClass (w := V) C3
    have c4 := inClass (w := V) C4
    have c5 := inClass (w := V) C5
    have k0 := cell_regrown hA.a
    have k1 := cell_regrown hA.b
    have HV : Hid (_ ∧ _) := ⟨BV, BV⟩
    clear hA hB C1 C2 C3 C4 C5 BV hEq
    refine wp_region_quiet_below (by kernel_rfl) (by kernel_rfl) ?_
    iterate 4 (quiet_step (fail))
    quiet_step (exact c1 _ _)
    quiet_step (exact c2 _ _)
    quiet_step (exact c3 _ _)
    iterate 4 (quiet_step (fail))
    quiet_step (exact c4 _ _)
    quiet_step (exact c5 _ _)
    iterate 1 (quiet_step (fail))
    refine wpQuiet_nil ?_
    intro w8 hw8
    have B8 : Below V.heap.size V w8 := by
      obtain ⟨p, rfl⟩ := hw8
      exact below_regrown _ _ _
    have BW := belowStep HV.out.1 HV.out.1.size B8
    clear hw8 k0 k1 c1 c2 c3 c4 c5
    go_wp2_with fail
    go_ret
    exact ⟨rfl, BW⟩
  · have hEq := eqlT p q
    rw [decide_eq_false hE] at hEq
    have eM : slN p q = ovN (sbN q.Y p.Y) (sbN q.X p.X) := by unfold slN; rw [if_neg hE]
    rw [eM]
    have C1 := sub_any q.Y p.Y hq.2 hp.2
    have C2 := sub_any q.X p.X hq.1 hp.1
    have C3 := pover_any (sbN q.Y p.Y) (sbN q.X p.X) (pm_u _ (sb_lt _ _)) (pm_u _ (sb_lt _ _))
    obtain ⟨r, hr⟩ : ∃ r, ovN (sbN q.Y p.Y) (sbN q.X p.X) = r := ⟨_, rfl⟩
    rw [hr] at C3 ⊢
    obtain ⟨a1, h1⟩ : ∃ r, sbN q.Y p.Y = r := ⟨_, rfl⟩
    rw [h1] at C1 C3
    obtain ⟨a2, h2⟩ : ∃ r, sbN q.X p.X = r := ⟨_, rfl⟩
    rw [h2] at C2 C3
    clear h1 h2 hr eM hE
    obtain ⟨pX, pY, pI⟩ := p
    obtain ⟨qX, qY, qI⟩ := q
    simp only [vT] at hEq C1 C2 ⊢
    go_enter Tryd.func33, Tryd.ntmps33
    go_wp2_with fail
    refine wpOf (fun V => Below w.heap.size w V ∧ Tb w.heap.size ⟨pX, pY, pI⟩ V ∧ Tb (w.heap.size + 1) ⟨qX, qY, qI⟩ V) ⟨by go_grown, (Tb.new' w ⟨pX, pY, pI⟩ 24 _ rfl).alloc _, Tb.new' _ ⟨qX, qY, qI⟩ 24 _ (by simp)⟩ ?_
    rintro V ⟨BV, hA, hB⟩
    have c1 := inClass (w := V) C1
    have c2 := inClass (w := V) C2
    have c3 := inClass (w := V) C3
    have k0 := cell_regrown hA.a
    have k1 := cell_regrown hA.b
    have k2 := cell_regrown hB.a
    have k3 := cell_regrown hB.b
    have HV : Hid (_ ∧ _) := ⟨BV, BV⟩
    clear hA hB C1 C2 C3 BV hEq
    refine wp_region_quiet_below (by kernel_rfl) (by kernel_rfl) ?_
    iterate 4 (quiet_step (fail))
    quiet_step (exact c1 _ _)
    iterate 4 (quiet_step (fail))
    quiet_step (exact c2 _ _)
    quiet_step (exact c3 _ _)
    iterate 1 (quiet_step (fail))
    refine wpQuiet_nil ?_
    intro w8 hw8
    have B8 : Below V.heap.size V w8 := by
      obtain ⟨p, rfl⟩ := hw8
      exact below_regrown _ _ _
    have BW := belowStep HV.out.1 HV.out.1.size B8
    clear hw8 k0 k1 k2 k3 c1 c2 c3
    go_wp2_with fail
    go_ret
    exact ⟨rfl, BW⟩

set_option maxRecDepth 20000 in
set_option maxHeartbeats 4000000 in
theorem pneg_any (p : Pt) (hp : onN p = true) (w : World) (hL : Lp w) :
    Calls Tryd.prog 31 #[vT p] w fun e w' => e = .returned (vT (ngN p)) ∧ Below w.heap.size w w' := by
  have C1 := neg_any p (wl_u (wl_on hp))
  unfold negV at C1
  rw [if_pos hp] at C1
  obtain ⟨g, hg⟩ : ∃ g, ngN p = g := ⟨_, rfl⟩
  rw [hg] at C1 ⊢
  clear hg hp
  go_enter Tryd.func31, Tryd.ntmps31
  go_wp2_with fail
  refine callsOf (fun V => Below w.heap.size w V ∧ Tb (w.heap.size + 1) oP V ∧ Lp V) ⟨by go_grown, Tb.new' _ oP 24 _ (by simp), (hL.alloc _).alloc _⟩ ?_
  rintro V ⟨BV, hO, LV⟩
  refine (C1 _ LV.l).mono ?_
  rintro e w2 ⟨rfl, B2⟩
  have O2 := hO.below B2
  have BW := belowStep BV BV.size B2
  obtain ⟨z, a, b, c, f⟩ := O2
  clear hO B2 BV LV C1 V
  go_wp2_with fail
  refine bodyPost_ret (v := vT g) (by simp [results, Tryd.results31, go_sem, *]) rfl ⟨rfl, ?_⟩
  exact (below_put3 (y := g) BW (by omega)).alloc (by simp [World.setCell]; have := BW.size; omega) _

set_option maxRecDepth 20000 in
set_option maxHeartbeats 4000000 in
theorem psum_any (p q : Pt) (hp : onN p = true) (hq : onN q = true) (w : World) (hL : Lp w) :
    Calls Tryd.prog 46 #[vT p, vT q] w fun e w' => e = .returned (vT (smN p q)) ∧ Below w.heap.size w w' := by
  have C1 := add_all p q (wl_u (wl_on hp)) (wl_u (wl_on hq))
  unfold addV at C1
  rw [hp, hq, Bool.and_self, if_pos rfl] at C1
  obtain ⟨g, hg⟩ : ∃ g, smN p q = g := ⟨_, rfl⟩
  rw [hg] at C1 ⊢
  clear hg hp hq
  go_enter Tryd.func46, Tryd.ntmps46
  go_wp2_with fail
  refine callsOf (fun V => Below w.heap.size w V ∧ Tb (w.heap.size + 1 + 1) oP V ∧ Lp V) ⟨by go_grown, Tb.new' _ oP 24 _ (by simp), ((hL.alloc _).alloc _).alloc _⟩ ?_
  rintro V ⟨BV, hO, LV⟩
  refine (C1 _ LV.l).mono ?_
  rintro e w2 ⟨rfl, B2⟩
  have O2 := hO.below B2
  have BW := belowStep BV BV.size B2
  obtain ⟨z, a, b, c, f⟩ := O2
  clear hO B2 BV LV C1 V
  go_wp2_with fail
  refine bodyPost_ret (v := vT g) (by simp [results, Tryd.results46, go_sem, *]) rfl ⟨rfl, ?_⟩
  exact (below_put3 (y := g) BW (by omega)).alloc (by simp [World.setCell]; have := BW.size; omega) _
end Go.Proofs.YteknhghmliihhaaDoor
