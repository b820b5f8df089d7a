/- Lemmas: What the program's square, negative, over do. No condition. -/
import Derived.Test.YtgefjmpnpebfoabDoorM1
import Derived.Test.YtgefjmpnpebfoabDoorM2
import Derived.Test.YtgefjmpnpebfoabDoorM3
import Derived.Test.YtgefjmpnpebfoabDoorM6
import Derived.Test.YtgefjmpnpebfoabDoorM7
import Derived.Test.YtgefjmpnpebfoabDoorM8
import Derived.Test.YtgefjmpnpebfoabDoorM9
import Derived.Test.YtgefjmpnpebfoabDoorRows
namespace Go.Proofs.YtgefjmpnpebfoabDoor
open Go.RowKit Go.Shelf Go.Sort

abbrev vT (p : Pt) : Value := .agg #[.int .u64 (p.X : Int), .int .u64 (p.Y : Int), .bool p.I]
abbrev UT (p : Pt) : Prop := U64 p.X ∧ U64 p.Y
theorem wl_u {p : Pt} (h : Wl p) : UT p := ⟨pm_u _ h.1, pm_u _ h.2.1⟩
/-- The package's variable: Inf. -/
structure Li (w : World) : Prop where
  z : 2 < w.heap.size
  a : w.cell? ⟨2, 0, none⟩ = some (.int .u64 0)
  b : w.cell? ⟨2, 1, none⟩ = some (.int .u64 0)
  c : w.cell? ⟨2, 2, none⟩ = some (.bool true)
  o : ∃ cs t, w.heap[2]? = some (.cells cs t (0, 0))
theorem Li.ne {w : World} (h : Li w) : 0 < w.heap.size ∧ 0 ≤ w.heap.size ∧ w.heap.size ≠ 0 ∧ 0 ≠ w.heap.size ∧ 1 < w.heap.size ∧ 1 ≤ w.heap.size ∧ w.heap.size ≠ 1 ∧ 1 ≠ w.heap.size ∧ 2 < w.heap.size ∧ 2 ≤ w.heap.size ∧ w.heap.size ≠ 2 ∧ 2 ≠ w.heap.size := by
  have := h.z
  omega
theorem Li.same {w W : World} (h : Li w) (e : W.heap[2]? = w.heap[2]?) : Li W := by
  obtain ⟨z, a, b, c, cs, t, o⟩ := h
  have o' := e.trans o
  exact ⟨(Array.getElem?_eq_some_iff.1 o').1, (Lib.cell_of_heap o' 0).trans ((Lib.cell_of_heap o 0).symm.trans a), (Lib.cell_of_heap o' 1).trans ((Lib.cell_of_heap o 1).symm.trans b), (Lib.cell_of_heap o' 2).trans ((Lib.cell_of_heap o 2).symm.trans c), cs, t, o'⟩
theorem Li.below {w W : World} (h : Li w) (hb : Below w.heap.size w W) : Li W := h.same (hb.block 2 h.z)
theorem Li.own {A C : World} {row : Option Nat} (h : Li A) (hg : A.grownBy C row) (hr : ∀ r, row = some r → ∃ o : Obj, A.heap[r]? = some o ∧ o.isCells = false) : Li C := by
  refine h.same (hg.block 2 h.z (fun e => ?_))
  obtain ⟨o, ho, hc⟩ := hr 2 e.symm
  obtain ⟨cs, t, k⟩ := h.o
  rw [k] at ho
  cases ho
  cases hc
theorem Li.other {W : World} (h : Li W) {k : Nat} (hk : 2 ≠ k) (o : Nat) (u : Value) : Li (W.setCell ⟨k, o, none⟩ u) := h.same (Below.heap_setCell _ _ _ _ hk)

set_option maxHeartbeats 2000000 in
theorem over_any (a b : Nat) (ha : U64 a) (hb : U64 b) (w : World) :
    Calls Tryd.prog 52 #[.int .u64 a, .int .u64 b] w fun e w' => e = .returned (.int .u64 (ovN a b : Nat)) ∧ Below w.heap.size w w' := by
  have hi := pm_u _ (iv_lt b)
  have C1 := inv_any b hb
  unfold ovN
  obtain ⟨i, he⟩ : ∃ i, ivN b = i := ⟨_, rfl⟩
  rw [he] at hi C1 ⊢
  clear he
  go_enter Tryd.func52, Tryd.ntmps52
  go_wp2_with fail
  refine (C1 _).mono ?_
  rintro e w1 ⟨rfl, B1⟩
  go_wp2_with fail
  refine (mul_any a i ha hi _).mono ?_
  rintro e w2 ⟨rfl, B2⟩
  go_wp2_with fail
  go_ret
  exact ⟨rfl, belowStep B1 B1.size B2⟩

set_option maxHeartbeats 2000000 in
theorem square_any (x : Nat) (hx : U64 x) (w : World) :
    Calls Tryd.prog 35 #[.int .u64 x] w fun e w' => e = .returned (.int .u64 (sqN x : Nat)) ∧ Below w.heap.size w w' := by
  have C1 := mul_any x x hx hx
  have C2 := mul_any (muN x x) x (pm_u _ (mu_lt _ _)) hx
  have C3 := add_any (muN (muN x x) x) x (pm_u _ (mu_lt _ _)) hx
  rw [show adN (muN (muN x x) x) x = sqN x from rfl] at C3
  obtain ⟨y, hy⟩ : ∃ y, sqN x = y := ⟨_, rfl⟩
  rw [hy] at C3 ⊢
  obtain ⟨a, ea⟩ : ∃ a, muN x x = a := ⟨_, rfl⟩
  rw [ea] at C1 C2 C3
  obtain ⟨b, eb⟩ : ∃ b, muN a x = b := ⟨_, rfl⟩
  rw [eb] at C2 C3
  clear hy ea eb
  go_enter Tryd.func35, Tryd.ntmps35
  go_wp2_with fail
  refine (C1 _).mono ?_
  rintro e w1 ⟨rfl, B1⟩
  go_wp2_with fail
  refine (C2 _).mono ?_
  rintro e w2 ⟨rfl, B2⟩
  go_wp2_with fail
  refine (C3 _).mono ?_
  rintro e w3 ⟨rfl, B3⟩
  go_wp2_with fail
  go_ret
  exact ⟨rfl, belowStep (belowStep B1 B1.size B2) (Nat.le_trans B1.size B2.size) B3⟩

/-- A point that lies in a block. -/
structure Tb (n : Nat) (x : Pt) (W : World) : Prop where
  z : n < W.heap.size
  a : W.cell? ⟨n, 0, none⟩ = some (.int .u64 (x.X : Int))
  b : W.cell? ⟨n, 1, none⟩ = some (.int .u64 (x.Y : Int))
  c : W.cell? ⟨n, 2, none⟩ = some (.bool x.I)
  f : ∀ o, W.frozen? ⟨n, o, none⟩ = false
abbrev put3 (n : Nat) (x : Pt) (W : World) : World := ((W.setCell ⟨n, 0, none⟩ (.int .u64 (x.X : Int))).setCell ⟨n, 1, none⟩ (.int .u64 (x.Y : Int))).setCell ⟨n, 2, none⟩ (.bool x.I)
theorem Tb.new' (W : World) (x : Pt) (t n : Nat) (h : W.heap.size = n) : Tb n x (W.alloc (.cells #[.int .u64 (x.X : Int), .int .u64 (x.Y : Int), .bool x.I] t)) := by subst h; exact ⟨by simp, by simp [go_sem], by simp [go_sem], by simp [go_sem], by simp [go_sem]⟩
theorem Tb.below {n : Nat} {x : Pt} {W W' : World} (h : Tb n x W) (hb : Below W.heap.size W W') : Tb n x W' :=
  ⟨Nat.lt_of_lt_of_le h.z hb.size, (hb.cell (p := ⟨n, 0, none⟩) h.z).trans h.a, (hb.cell (p := ⟨n, 1, none⟩) h.z).trans h.b, (hb.cell (p := ⟨n, 2, none⟩) h.z).trans h.c, fun o => by rw [← h.f o]; simp only [World.frozen?, hb.block _ h.z]⟩
theorem Tb.alloc {n : Nat} {x : Pt} {W : World} (h : Tb n x W) (o : Obj) : Tb n x (W.alloc o) := h.below ((Below.refl _ _).alloc (Nat.le_refl _) _)
theorem Tb.over {n : Nat} {x : Pt} {W : World} (h : Tb n x W) (y : Pt) : Tb n y (put3 n y W) := by
  obtain ⟨z, a, b, c, f⟩ := h
  exact ⟨by simp [go_sem, *], by simp [go_sem, *], by simp [go_sem, *], by simp [go_sem, *], by simp [go_sem, *]⟩
theorem Tb.other {n g : Nat} {x : Pt} {W : World} (h : Tb n x W) (y : Pt) (hg : g ≠ n) : Tb n x (put3 g y W) := by
  obtain ⟨z, a, b, c, f⟩ := h
  have hg' : n ≠ g := fun e => hg e.symm
  exact ⟨by simp [go_sem, *], by simp [go_sem, *], by simp [go_sem, *], by simp [go_sem, *], by simp [go_sem, *]⟩
theorem below_put3 {k g : Nat} {w W : World} (h : Below k w W) (hg : k ≤ g) (y : Pt) : Below k w (put3 g y W) := ((h.setCell (p := ⟨g, 0, none⟩) hg _).setCell (p := ⟨g, 1, none⟩) hg _).setCell (p := ⟨g, 2, none⟩) hg _

set_option maxRecDepth 20000 in
set_option maxHeartbeats 2000000 in
theorem negative_any (p : Pt) (hp : UT p) (w : World) :
    Calls Tryd.prog 36 #[vT p] w fun e w' => e = .returned (vT (ngN p)) ∧ Below w.heap.size w w' := by
  have C1 := sub_any 0 p.Y (by unfold U64; omega) hp.2
  unfold ngN
  obtain ⟨y, hy⟩ : ∃ y, sbN 0 p.Y = y := ⟨_, rfl⟩
  rw [hy] at C1 ⊢
  clear hy
  obtain ⟨pX, pY, pI⟩ := p
  simp only at C1 ⊢
  go_enter Tryd.func36, Tryd.ntmps36
  go_wp2_with fail
  refine wpOf (fun V => Below w.heap.size w V ∧ Tb w.heap.size ⟨pX, pY, pI⟩ V ∧ Tb (w.heap.size + 1) oP V) ⟨by go_grown, (Tb.new' w ⟨pX, pY, pI⟩ 33 _ rfl).alloc _, Tb.new' _ oP 33 _ (by simp)⟩ ?_
  rintro V ⟨BV, hA, hO⟩
  have HV : Hid (_ ∧ _) := ⟨BV, hO⟩
  have c1 := inClass (w := V) C1
  have k0 := cell_regrown hA.a
  have k1 := cell_regrown hA.b
  have k2 := cell_regrown hA.c
  have lz := hO.z
  clear BV hA hO C1
  refine region_tail 8 (by kernel_rfl) (by kernel_rfl) ?_
  simp only [List.take_succ_cons, List.take_zero, List.drop_succ_cons, List.drop_zero]
  iterate 4 (quiet_step (fail))
  quiet_step (exact c1 _ _)
  iterate 3 (quiet_step (fail))
  refine wpQuiet_nil ?_
  intro w8 hw8
  have B8 : Below V.heap.size V w8 := by
    obtain ⟨p, rfl⟩ := hw8
    exact below_regrown _ _ _
  obtain ⟨BV, hO⟩ := HV.out
  have O8 := hO.below B8
  have BW := belowStep BV (by have := BV.size; omega) B8
  obtain ⟨z, a, b, c, f⟩ := O8
  clear hw8 k0 k1 k2 c1 hO BV
  go_wp2_with fail
  refine bodyPost_ret (v := vT ⟨pX, y, pI⟩) (by simp [results, Tryd.results36, go_sem, *]) rfl ⟨rfl, ?_⟩
  exact below_put3 (y := ⟨pX, y, pI⟩) BW (by omega) 

theorem eqlT (p q : Pt) (W : World) : (binOp .eql 33 (vT p) (vT q)).run Tryd.prog W = .ok (.bool (decide (p = q))) W := by
  obtain ⟨pX, pY, pI⟩ := p
  obtain ⟨qX, qY, qI⟩ := q
  by_cases h1 : pX = qX
  · by_cases h2 : pY = qY
    · by_cases h3 : pI = qI
      · subst h1 h2 h3; simp [go_sem]
      · subst h1 h2; simp [go_sem, h3]
    · subst h1
      have h2' : ¬ (pY : Int) = qY := by omega
      simp [go_sem, h2, h2']
  · have h1' : ¬ (pX : Int) = qX := by omega
    simp [go_sem, h1, h1']
theorem eqlI (p : Pt) (W : World) : (binOp .eql 33 (vT p) (.agg #[.int .u64 0, .int .u64 0, .bool true])).run Tryd.prog W = .ok (.bool (decide (p = iN))) W := eqlT p iN W
set_option maxRecDepth 20000 in
set_option maxHeartbeats 4000000 in
theorem slope_any (p q : Pt) (hp : UT p) (hq : UT q) (w : World) :
    Calls Tryd.prog 39 #[vT p, vT q] w fun e w' => e = .returned (.int .u64 (slN p q : Nat)) ∧ Below w.heap.size w w' := by
  have three : U64 3 := by unfold U64; omega
  have one : U64 1 := by unfold U64; omega
  by_cases hE : p = q
  · have hEq := eqlT p q
    rw [decide_eq_true hE] at hEq
    have eM : slN p q = ovN (adN (muN 3 (muN p.X p.X)) 1) (adN p.Y p.Y) := by unfold slN; rw [if_pos hE]
    rw [eM]
    have C1 := mul_any p.X p.X hp.1 hp.1
    have C2 := mul_any 3 (muN p.X p.X) three (pm_u _ (mu_lt _ _))
    have C3 := add_any (muN 3 (muN p.X p.X)) 1 (pm_u _ (mu_lt _ _)) one
    have C4 := add_any p.Y p.Y hp.2 hp.2
    have C5 := over_any (adN (muN 3 (muN p.X p.X)) 1) (adN p.Y p.Y) (pm_u _ (ad_lt _ _)) (pm_u _ (ad_lt _ _))
    obtain ⟨r, hr⟩ : ∃ r, ovN (adN (muN 3 (muN p.X p.X)) 1) (adN p.Y p.Y) = r := ⟨_, rfl⟩
    rw [hr] at C5 ⊢
    obtain ⟨a1, h1⟩ : ∃ r, muN p.X p.X = r := ⟨_, rfl⟩
    rw [h1] at C1 C2 C3 C5
    obtain ⟨a2, h2⟩ : ∃ r, muN 3 a1 = r := ⟨_, rfl⟩
    rw [h2] at C2 C3 C5
    obtain ⟨a3, h3⟩ : ∃ r, adN a2 1 = r := ⟨_, rfl⟩
    rw [h3] at C3 C5
    obtain ⟨a4, h4⟩ : ∃ r, adN p.Y p.Y = r := ⟨_, rfl⟩
    rw [h4] at C4 C5
    clear h1 h2 h3 h4 hr eM hE
    obtain ⟨pX, pY, pI⟩ := p
    obtain ⟨qX, qY, qI⟩ := q
    simp only [vT] at hEq C1 C4 ⊢
    go_enter Tryd.func39, Tryd.ntmps39
    go_wp2_with fail
    refine wpOf (fun V => Below w.heap.size w V ∧ Tb w.heap.size ⟨pX, pY, pI⟩ V ∧ Tb (w.heap.size + 1) ⟨qX, qY, qI⟩ V) ⟨by go_grown, (Tb.new' w ⟨pX, pY, pI⟩ 33 _ rfl).alloc _, Tb.new' _ ⟨qX, qY, qI⟩ 33 _ (by simp)⟩ ?_
    rintro V ⟨BV, hA, hB⟩
    have c1 := inClass (w := V) C1
    have c2 := inClass (w := V) C2
    have c3 := inClass (w := V) C3
    have c4 := inClass (w := V) C4
    have c5 := inClass (w := V) C5
    have k0 := cell_regrown hA.a
    have k1 := cell_regrown hA.b
    have HV : Hid (_ ∧ _) := ⟨BV, BV⟩
    clear hA hB C1 C2 C3 C4 C5 BV hEq
    refine wp_region_quiet_below (by kernel_rfl) (by kernel_rfl) ?_
    iterate 4 (quiet_step (fail))
    quiet_step (exact c1 _ _)
    quiet_step (exact c2 _ _)
    quiet_step (exact c3 _ _)
    iterate 4 (quiet_step (fail))
    quiet_step (exact c4 _ _)
    quiet_step (exact c5 _ _)
    iterate 1 (quiet_step (fail))
    refine wpQuiet_nil ?_
    intro w8 hw8
    have B8 : Below V.heap.size V w8 := by
      obtain ⟨p, rfl⟩ := hw8
      exact below_regrown _ _ _
    have BW := belowStep HV.out.1 HV.out.1.size B8
    clear hw8 k0 k1 c1 c2 c3 c4 c5
    go_wp2_with fail
    go_ret
    exact ⟨rfl, BW⟩
  · have hEq := eqlT p q
    rw [decide_eq_false hE] at hEq
    have eM : slN p q = ovN (sbN q.Y p.Y) (sbN q.X p.X) := by unfold slN; rw [if_neg hE]
    rw [eM]
    have C1 := sub_any q.Y p.Y hq.2 hp.2
    have C2 := sub_any q.X p.X hq.1 hp.1
    have C3 := over_any (sbN q.Y p.Y) (sbN q.X p.X) (pm_u _ (sb_lt _ _)) (pm_u _ (sb_lt _ _))
    obtain ⟨r, hr⟩ : ∃ r, ovN (sbN q.Y p.Y) (sbN q.X p.X) = r := ⟨_, rfl⟩
    rw [hr] at C3 ⊢
    obtain ⟨a1, h1⟩ : ∃ r, sbN q.Y p.Y = r := ⟨_, rfl⟩
    rw [h1] at C1 C3
    obtain ⟨a2, h2⟩ : ∃ r, sbN q.X p.X = r := ⟨_, rfl⟩
    rw [h2] at C2 C3
    clear h1 h2 hr eM hE
    obtain ⟨pX, pY, pI⟩ := p
    obtain ⟨qX, qY, qI⟩ := q
    simp only [vT] at hEq C1 C2 ⊢
    go_enter Tryd.func39, Tryd.ntmps39
    go_wp2_with fail
    refine wpOf (fun V => Below w.heap.size w V ∧ Tb w.heap.size ⟨pX, pY, pI⟩ V ∧ Tb (w.heap.size + 1) ⟨qX, qY, qI⟩ V) ⟨by go_grown, (Tb.new' w ⟨pX, pY, pI⟩ 33 _ rfl).alloc _, Tb.new' _ ⟨qX, qY, qI⟩ 33 _ (by simp)⟩ ?_
    rintro V ⟨BV, hA, hB⟩
    have c1 := inClass (w := V) C1
    have c2 := inClass (w := V) C2
    have c3 := inClass (w := V) C3
    have k0 := cell_regrown hA.a
    have k1 := cell_regrown hA.b
    have k2 := cell_regrown hB.a
    have k3 := cell_regrown hB.b
    have HV : Hid (_ ∧ _) := ⟨BV, BV⟩
    clear hA hB C1 C2 C3 BV hEq
    refine wp_region_quiet_below (by kernel_rfl) (by kernel_rfl) ?_
    iterate 4 (quiet_step (fail))
    quiet_step (exact c1 _ _)
    iterate 4 (quiet_step (fail))
    quiet_step (exact c2 _ _)
    quiet_step (exact c3 _ _)
    iterate 1 (quiet_step (fail))
    refine wpQuiet_nil ?_
    intro w8 hw8
    have B8 : Below V.heap.size V w8 := by
      obtain ⟨p, rfl⟩ := hw8
      exact below_regrown _ _ _
    have BW := belowStep HV.out.1 HV.out.1.size B8
    clear hw8 k0 k1 k2 k3 c1 c2 c3
    go_wp2_with fail
    go_ret
    exact ⟨rfl, BW⟩

set_option maxRecDepth 20000 in
set_option maxHeartbeats 4000000 in
theorem sum_any (p q : Pt) (hp : Wl p) (hq : Wl q) (w : World) (hL : Li w) :
    Calls Tryd.prog 28 #[vT p, vT q] w fun e w' => e = .returned (vT (smN p q)) ∧ Below w.heap.size w w' := by
  have lq := (hL).ne
  have ⟨lz, la, lb, lc, lo⟩ := hL
  have hE1 := eqlI p
  by_cases e1 : p = iN
  · rw [decide_eq_true e1] at hE1
    rw [e1, sm_inf]
    rw [e1] at hE1
    obtain ⟨qX, qY, qI⟩ := q
    simp only [vT, iN] at hE1 ⊢
    go_enter Tryd.func28, Tryd.ntmps28
    go_wp2_with fail
    refine bodyPost_ret (v := vT ⟨qX, qY, qI⟩) (by simp [results, Tryd.results28, go_sem, *]) rfl ⟨rfl, by go_grown⟩
  rw [decide_eq_false e1] at hE1
  have hE2 := eqlI q
  by_cases e2 : q = iN
  · rw [decide_eq_true e2] at hE2
    rw [e2, inf_sm]
    rw [e2] at hE2
    obtain ⟨pX, pY, pI⟩ := p
    simp only [vT, iN] at hE1 hE2 ⊢
    go_enter Tryd.func28, Tryd.ntmps28
    go_wp2_with fail
    refine bodyPost_ret (v := vT ⟨pX, pY, pI⟩) (by simp [results, Tryd.results28, go_sem, *]) rfl ⟨rfl, by go_grown⟩
  rw [decide_eq_false e2] at hE2
  have hE3 := eqlT q (ngN p)
  have CN := negative_any p (wl_u hp)
  have eM : smN p q = if q = ngN p then iN else lnN (slN p q) p q := by unfold smN; rw [if_neg e1, if_neg e2]
  by_cases e3 : q = ngN p
  · rw [decide_eq_true e3] at hE3
    rw [eM, if_pos e3]
    obtain ⟨n, hn⟩ : ∃ n, ngN p = n := ⟨_, rfl⟩
    rw [hn] at CN hE3
    clear hn eM e3 e2 e1
    obtain ⟨nX, nY, nI⟩ := n
    obtain ⟨pX, pY, pI⟩ := p
    obtain ⟨qX, qY, qI⟩ := q
    simp only [vT] at hE1 hE2 hE3 CN ⊢
    go_enter Tryd.func28, Tryd.ntmps28
    go_wp2_with fail
    refine wpOf (fun V => Below w.heap.size w V ∧ Tb w.heap.size ⟨pX, pY, pI⟩ V ∧ Tb (w.heap.size + 1) ⟨qX, qY, qI⟩ V ∧ Tb (w.heap.size + 1 + 1) oP V) ⟨by go_grown, ((Tb.new' w ⟨pX, pY, pI⟩ 33 _ rfl).alloc _).alloc _, (Tb.new' _ ⟨qX, qY, qI⟩ 33 _ (by simp)).alloc _, Tb.new' _ oP 33 _ (by simp)⟩ ?_
    rintro V ⟨BV, hA, hB, hO⟩
    have c1 := inClass (w := V) CN
    have k0 := cell_regrown hA.a
    have k1 := cell_regrown hA.b
    have k2 := cell_regrown hA.c
    have k3 := cell_regrown hB.a
    have k4 := cell_regrown hB.b
    have k5 := cell_regrown hB.c
    have HV : Hid (_ ∧ _ ∧ _) := ⟨BV, hO, hL.below (BV.mono (Nat.le_refl _))⟩
    clear hA hB hO CN BV hE1 hE2 lq la lb lc lz
    refine wp_region_quiet_below (by kernel_rfl) (by kernel_rfl) ?_
    iterate 2 (quiet_step (fail))
    quiet_step (exact c1 _ _)
    iterate 2 (quiet_step (fail))
    refine wpQuiet_nil ?_
    intro w8 hw8
    have B8 : Below V.heap.size V w8 := by
      obtain ⟨p, rfl⟩ := hw8
      exact below_regrown _ _ _
    obtain ⟨BV, hO, hLV⟩ := HV.out
    have BW := belowStep BV BV.size B8
    obtain ⟨z, a, b, c, f⟩ := hO.below B8
    have lq := (hLV.below B8).ne
    obtain ⟨lz, la, lb, lc, lo⟩ := hLV.below B8
    clear hw8 k0 k1 k2 k3 k4 k5 c1 hO hLV BV
    go_wp2_with fail
    refine bodyPost_ret (v := vT iN) (by simp [results, Tryd.results28, go_sem, iN, *]) rfl ⟨rfl, ?_⟩
    exact below_put3 (y := iN) BW (by omega)
  rw [decide_eq_false e3] at hE3
  rw [eM, if_neg e3]
  have CS := slope_any p q (wl_u hp) (wl_u hq)
  have hl := sl_lt p q
  obtain ⟨l, hl'⟩ : ∃ l, slN p q = l := ⟨_, rfl⟩
  rw [hl'] at CS hl ⊢
  have ul := pm_u _ hl
  have C1 := mul_any l l ul ul
  have C2 := sub_any (muN l l) p.X (pm_u _ (mu_lt _ _)) (wl_u hp).1
  have C3 := sub_any (sbN (muN l l) p.X) q.X (pm_u _ (sb_lt _ _)) (wl_u hq).1
  have eX : lnX l p q = sbN (sbN (muN l l) p.X) q.X := rfl
  obtain ⟨x, hx⟩ : ∃ x, lnX l p q = x := ⟨_, rfl⟩
  have xl : x < PM := by rw [← hx]; exact sb_lt _ _
  have eL : lnN l p q = ⟨x, lnY l x p, false⟩ := by unfold lnN; rw [hx]
  rw [← eX, hx] at C3
  have C4 := sub_any p.X x (wl_u hp).1 (pm_u _ xl)
  have C5 := mul_any l (sbN p.X x) ul (pm_u _ (sb_lt _ _))
  have C6 := sub_any (muN l (sbN p.X x)) p.Y (pm_u _ (mu_lt _ _)) (wl_u hp).2
  have eY : lnY l x p = sbN (muN l (sbN p.X x)) p.Y := rfl
  obtain ⟨y, hy⟩ : ∃ y, lnY l x p = y := ⟨_, rfl⟩
  rw [hy] at eL eY
  rw [← eY] at C6
  rw [eL]
  obtain ⟨n, hn⟩ : ∃ n, ngN p = n := ⟨_, rfl⟩
  rw [hn] at CN hE3
  obtain ⟨a1, h1⟩ : ∃ r, muN l l = r := ⟨_, rfl⟩
  rw [h1] at C1 C2 C3
  obtain ⟨a2, h2⟩ : ∃ r, sbN a1 p.X = r := ⟨_, rfl⟩
  rw [h2] at C2 C3
  obtain ⟨a3, h3⟩ : ∃ r, sbN p.X x = r := ⟨_, rfl⟩
  rw [h3] at C4 C5 C6
  obtain ⟨a4, h4⟩ : ∃ r, muN l a3 = r := ⟨_, rfl⟩
  rw [h4] at C5 C6
  clear hn eM e3 e2 e1 h1 h2 h3 h4 hl' eX hx eL eY hy
  obtain ⟨nX, nY, nI⟩ := n
  obtain ⟨pX, pY, pI⟩ := p
  obtain ⟨qX, qY, qI⟩ := q
  simp only [vT] at hE1 hE2 hE3 CN CS C2 C3 C4 C6 ⊢
  go_enter Tryd.func28, Tryd.ntmps28
  go_wp2_with fail
  refine wpOf (fun V => Below w.heap.size w V ∧ Tb w.heap.size ⟨pX, pY, pI⟩ V ∧ Tb (w.heap.size + 1) ⟨qX, qY, qI⟩ V ∧ Tb (w.heap.size + 1 + 1) oP V) ⟨by go_grown, ((Tb.new' w ⟨pX, pY, pI⟩ 33 _ rfl).alloc _).alloc _, (Tb.new' _ ⟨qX, qY, qI⟩ 33 _ (by simp)).alloc _, Tb.new' _ oP 33 _ (by simp)⟩ ?_
  rintro V ⟨BV, hA, hB, hO⟩
  have c1 := inClass (w := V) CN
  have k0 := cell_regrown hA.a
  have k1 := cell_regrown hA.b
  have k2 := cell_regrown hA.c
  have k3 := cell_regrown hB.a
  have k4 := cell_regrown hB.b
  have k5 := cell_regrown hB.c
  have HV : Hid (_ ∧ _ ∧ _ ∧ _) := ⟨BV, hA, hB, hO⟩
  clear hA hB hO CN BV hE1 hE2 lq la lb lc lz hL
  refine wp_region_quiet_below (by kernel_rfl) (by kernel_rfl) ?_
  iterate 2 (quiet_step (fail))
  quiet_step (exact c1 _ _)
  iterate 2 (quiet_step (fail))
  refine wpQuiet_nil ?_
  intro w8 hw8
  have B8 : Below V.heap.size V w8 := by
    obtain ⟨p, rfl⟩ := hw8
    exact below_regrown _ _ _
  obtain ⟨BV, hA, hB, hO⟩ := HV.out
  have BW := belowStep BV BV.size B8
  have A8 := hA.below B8
  have D8 := hB.below B8
  have O8 := hO.below B8
  clear hw8 k0 k1 k2 k3 k4 k5 c1 B8 HV hE3 BV hA hB hO V
  have ⟨az, aa, ab, ac, af⟩ := A8
  have ⟨bz, ba, bb, bc, bf⟩ := D8
  have HV : Hid (_ ∧ _ ∧ _ ∧ _) := ⟨BW, A8, D8, O8⟩
  clear BW A8 D8 O8
  go_wp2_with fail
  refine (CS _).mono ?_
  rintro e w9 ⟨rfl, B9⟩
  obtain ⟨BW, A8, D8, O8⟩ := HV.out
  have BW9 := belowStep BW BW.size B9
  have A9 := A8.below B9
  have D9 := D8.below B9
  have O9 := O8.below B9
  clear HV BW A8 D8 O8 B9 az aa ab ac af bz ba bb bc bf
  have ⟨az, aa, ab, ac, af⟩ := A9
  have ⟨bz, ba, bb, bc, bf⟩ := D9
  have HV : Hid (_ ∧ _ ∧ _ ∧ _) := ⟨BW9, A9, D9, O9⟩
  have c1 := inClass (w := w9) C1
  have c2 := inClass (w := w9) C2
  have c3 := inClass (w := w9) C3
  have k0 := cell_regrown A9.a
  have k3 := cell_regrown D9.a
  clear BW9 A9 D9 O9
  go_wp2_with fail
  refine wp_region_quiet_below (by kernel_rfl) (by kernel_rfl) ?_
  iterate 2 (quiet_step (fail))
  quiet_step (exact c1 _ _)
  iterate 2 (quiet_step (fail))
  quiet_step (exact c2 _ _)
  iterate 2 (quiet_step (fail))
  quiet_step (exact c3 _ _)
  iterate 1 (quiet_step (fail))
  refine wpQuiet_nil ?_
  intro v8 hv8
  have B8 : Below w9.heap.size w9 v8 := by
    obtain ⟨p, rfl⟩ := hv8
    exact below_regrown _ _ _
  obtain ⟨BW, A9, D9, O9⟩ := HV.out
  have BW8 := belowStep BW BW.size B8
  have A8 := A9.below B8
  have O8 := O9.below B8
  clear HV BW A9 D9 O9 B8 az aa ab ac af bz ba bb bc bf c1 c2 c3 k0 k3 hv8
  have HV : Hid (_ ∧ _) := ⟨BW8, O8⟩
  have c4 := inClass (w := v8) C4
  have c5 := inClass (w := v8) C5
  have c6 := inClass (w := v8) C6
  have k0 := cell_regrown A8.a
  have k1 := cell_regrown A8.b
  clear BW8 A8 O8 C1 C2 C3 C4 C5 C6 CS
  go_wp2_with fail
  refine region_tail 11 (by kernel_rfl) (by kernel_rfl) ?_
  simp only [List.take_succ_cons, List.take_zero, List.drop_succ_cons, List.drop_zero]
  iterate 5 (quiet_step (fail))
  quiet_step (exact c4 _ _)
  quiet_step (exact c5 _ _)
  iterate 2 (quiet_step (fail))
  quiet_step (exact c6 _ _)
  iterate 1 (quiet_step (fail))
  refine wpQuiet_nil ?_
  intro u8 hu8
  have B8 : Below v8.heap.size v8 u8 := by
    obtain ⟨p, rfl⟩ := hu8
    exact below_regrown _ _ _
  obtain ⟨BW, O9⟩ := HV.out
  have BW8 := belowStep BW BW.size B8
  obtain ⟨z, a, b, c, f⟩ := O9.below B8
  clear hu8 k0 k1 c4 c5 c6 HV O9 BW B8
  go_wp2_with fail
  refine bodyPost_ret (v := vT ⟨x, y, false⟩) (by simp [results, Tryd.results28, go_sem, *]) rfl ⟨rfl, ?_⟩
  exact below_put3 (y := ⟨x, y, false⟩) BW8 (by omega)
end Go.Proofs.YtgefjmpnpebfoabDoor
