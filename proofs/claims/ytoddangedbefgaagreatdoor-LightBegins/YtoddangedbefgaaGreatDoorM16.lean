/- Lemmas: What the packages' variables of sign hold; a text's tries and point, pure. No condition. What slices.Contains of points, the package's handOn and total do. No condition. What the package's handOn hands on. No condition. -/
import Derived.Test.YtoddangedbefgaaGreatDoorM1
import Derived.Test.YtoddangedbefgaaGreatDoorM10
import Derived.Test.YtoddangedbefgaaGreatDoorM11
import Derived.Test.YtoddangedbefgaaGreatDoorM12
import Derived.Test.YtoddangedbefgaaGreatDoorM13
import Derived.Test.YtoddangedbefgaaGreatDoorM14
import Derived.Test.YtoddangedbefgaaGreatDoorM15
import Derived.Test.YtoddangedbefgaaGreatDoorM2
import Derived.Test.YtoddangedbefgaaGreatDoorM3
import Derived.Test.YtoddangedbefgaaGreatDoorM4
import Derived.Test.YtoddangedbefgaaGreatDoorM5
import Derived.Test.YtoddangedbefgaaGreatDoorM6
import Derived.Test.YtoddangedbefgaaGreatDoorM7
import Derived.Test.YtoddangedbefgaaGreatDoorM8
import Derived.Test.YtoddangedbefgaaGreatDoorM9
import Derived.Test.YtoddangedbefgaaGreatDoorRows
namespace Go.Proofs.YtoddangedbefgaaGreatDoor
open Go.RowKit Go.Shelf Go.Sort

/-- The packages' variables: the generator and Inf, those of pair and curve, the tables of sha. -/
structure Ls (w : World) : Prop where
  p : Lp w
  s : Laid w
  zg : 3 < w.heap.size
  g0 : w.cell? ⟨3, 0, none⟩ = some (.int .u64 1846166884)
  g1 : w.cell? ⟨3, 1, none⟩ = some (.int .u64 1411018613)
  g2 : w.cell? ⟨3, 2, none⟩ = some (.bool false)
  og : ∃ cs t, w.heap[3]? = some (.cells cs t (0, 0))
  zi : 1 < w.heap.size
  i0 : w.cell? ⟨1, 0, none⟩ = some (.int .u64 0)
  i1 : w.cell? ⟨1, 1, none⟩ = some (.int .u64 0)
  i2 : w.cell? ⟨1, 2, none⟩ = some (.bool true)
  oi : ∃ cs t, w.heap[1]? = some (.cells cs t (0, 0))
theorem Ls.ne {w : World} (h : Ls w) : 0 < w.heap.size ∧ 0 ≤ w.heap.size ∧ w.heap.size ≠ 0 ∧ 0 ≠ w.heap.size ∧ 1 < w.heap.size ∧ 1 ≤ w.heap.size ∧ w.heap.size ≠ 1 ∧ 1 ≠ w.heap.size ∧ 2 < w.heap.size ∧ 2 ≤ w.heap.size ∧ w.heap.size ≠ 2 ∧ 2 ≠ w.heap.size ∧ 3 < w.heap.size ∧ 3 ≤ w.heap.size ∧ w.heap.size ≠ 3 ∧ 3 ≠ w.heap.size ∧ 3 < w.heap.size + 1 ∧ 3 < w.heap.size + 1 + 1 ∧ 3 < w.heap.size + 1 + 1 + 1 ∧ 3 < w.heap.size + 1 + 1 + 1 + 1 ∧ 3 < w.heap.size + 1 + 1 + 1 + 1 + 1 ∧ 4 < w.heap.size ∧ 4 ≤ w.heap.size ∧ w.heap.size ≠ 4 ∧ 4 ≠ w.heap.size ∧ 4 < w.heap.size + 1 ∧ 4 < w.heap.size + 1 + 1 ∧ 4 < w.heap.size + 1 + 1 + 1 ∧ 4 < w.heap.size + 1 + 1 + 1 + 1 ∧ 4 < w.heap.size + 1 + 1 + 1 + 1 + 1 ∧ 5 < w.heap.size ∧ 5 ≤ w.heap.size ∧ w.heap.size ≠ 5 ∧ 5 ≠ w.heap.size ∧ 5 < w.heap.size + 1 ∧ 5 < w.heap.size + 1 + 1 ∧ 5 < w.heap.size + 1 + 1 + 1 ∧ 5 < w.heap.size + 1 + 1 + 1 + 1 ∧ 5 < w.heap.size + 1 + 1 + 1 + 1 + 1 ∧ 6 < w.heap.size ∧ 6 ≤ w.heap.size ∧ w.heap.size ≠ 6 ∧ 6 ≠ w.heap.size ∧ 6 < w.heap.size + 1 ∧ 6 < w.heap.size + 1 + 1 ∧ 6 < w.heap.size + 1 + 1 + 1 ∧ 6 < w.heap.size + 1 + 1 + 1 + 1 ∧ 6 < w.heap.size + 1 + 1 + 1 + 1 + 1 := by
  have h1 := h.p.l.z
  have h2 := h.p.za
  have h3 := h.p.zb
  have h4 := h.zg
  have h5 := h.zi
  have h6 := h.s.k.z
  have h7 := h.s.h.z
  omega
theorem Ls.mk' {w W : World} (h : Ls w) (hp : Lp W) (hs : Laid W) (e1 : W.heap[3]? = w.heap[3]?) (e2 : W.heap[1]? = w.heap[1]?) : Ls W := by
  obtain ⟨_, _, za, a0, a1, a2, ⟨cs, t, o⟩, zb, b0, b1, b2, ⟨cs', t', o'⟩⟩ := h
  have k1 := e1.trans o
  have k2 := e2.trans o'
  exact ⟨hp, hs, (Array.getElem?_eq_some_iff.1 k1).1, (Lib.cell_of_heap k1 0).trans ((Lib.cell_of_heap o 0).symm.trans a0), (Lib.cell_of_heap k1 1).trans ((Lib.cell_of_heap o 1).symm.trans a1), (Lib.cell_of_heap k1 2).trans ((Lib.cell_of_heap o 2).symm.trans a2), ⟨cs, t, k1⟩,
    (Array.getElem?_eq_some_iff.1 k2).1, (Lib.cell_of_heap k2 0).trans ((Lib.cell_of_heap o' 0).symm.trans b0), (Lib.cell_of_heap k2 1).trans ((Lib.cell_of_heap o' 1).symm.trans b1), (Lib.cell_of_heap k2 2).trans ((Lib.cell_of_heap o' 2).symm.trans b2), ⟨cs', t', k2⟩⟩
theorem Ls.below {w W : World} (h : Ls w) (hb : Below w.heap.size w W) : Ls W := h.mk' (h.p.below hb) (h.s.below hb) (hb.block 3 h.zg) (hb.block 1 h.zi)
theorem Ls.alloc {w : World} (h : Ls w) (o : Obj) : Ls (w.alloc o) := h.below ((Below.refl _ _).alloc (Nat.le_refl _) _)
theorem Ls.own {A C : World} {row : Option Nat} (h : Ls A) (hg : A.grownBy C row) (hr : ∀ r, row = some r → ∃ o : Obj, A.heap[r]? = some o ∧ o.isCells = false) : Ls C := by
  refine h.mk' (h.p.own hg hr) (h.s.own hg hr) (hg.block 3 h.zg (fun e => ?_)) (hg.block 1 h.zi (fun e => ?_))
  · obtain ⟨o, ho, hc⟩ := hr 3 e.symm
    obtain ⟨cs, t, k⟩ := h.og
    rw [k] at ho
    cases ho
    cases hc
  · obtain ⟨o, ho, hc⟩ := hr 1 e.symm
    obtain ⟨cs, t, k⟩ := h.oi
    rw [k] at ho
    cases ho
    cases hc
/-- From n on nothing of the packages lies. -/
theorem Ls.top {w : World} (h : Ls w) : 4 < w.heap.size ∧ 5 < w.heap.size ∧ 6 < w.heap.size ∧ 3 < w.heap.size ∧ 1 < w.heap.size ∧ 0 < w.heap.size ∧ 2 < w.heap.size := ⟨h.p.l.z, h.p.za, h.p.zb, h.zg, h.zi, h.s.h.z, h.s.k.z⟩
theorem inClassS {f : Nat} {args : Array Value} {v : Value} {w : World} (h : ∀ W, Ls W → Calls Tryz.prog f args W fun e w' => e = .returned v ∧ Below W.heap.size W w') (hL : Ls w) :
    ∀ d os, Calls Tryz.prog f args (grow (redrawn w d) os) fun e w'' => e = .returned v ∧ ∃ p : Regrown, w'' = grow (redrawn w p.d) p.os := fun _ _ => Calls.regrown_of (h _ (hL.below (below_regrown _ _ _)))
theorem Ls.other {W : World} (h : Ls W) {k : Nat} (hk : 4 < k ∧ 5 < k ∧ 6 < k ∧ 3 < k ∧ 1 < k ∧ 0 < k ∧ 2 < k) (o : Nat) (u : Value) : Ls (W.setCell ⟨k, o, none⟩ u) := by
  obtain ⟨k1, k2, k3, k4, k5, k6, k7⟩ := hk
  refine h.mk' (h.p.other k1 k2 k3 o u) ⟨?_, ?_⟩ (Below.heap_setCell _ _ _ _ (Nat.ne_of_lt k4)) (Below.heap_setCell _ _ _ _ (Nat.ne_of_lt k5))
  · have e := Below.heap_setCell W ⟨k, o, none⟩ u 2 (Nat.ne_of_lt k7)
    exact ⟨by have := h.s.k.z; simpa [World.setCell] using this, fun j hj => by rw [← h.s.k.c j hj]; simp only [World.cell?, e], fun q => by rw [← h.s.k.f q]; simp only [World.frozen?, e]⟩
  · have e := Below.heap_setCell W ⟨k, o, none⟩ u 0 (Nat.ne_of_lt k6)
    exact ⟨by have := h.s.h.z; simpa [World.setCell] using this, fun j hj => by rw [← h.s.h.c j hj]; simp only [World.cell?, e], fun q => by rw [← h.s.h.f q]; simp only [World.frozen?, e]⟩

/- Pure. -/
/-- The point that a number leads to. -/
def lfN (x : Nat) : Pt := if roB (sqN x) = true then tmN ⟨x, roN (sqN x), false⟩ 4 else iN
/-- What is tried: the first four bytes of a sum. -/
def trX (s : ByteArray) : Nat := fourN (btN s 0) (btN s 1) (btN s 2) (btN s 3) % PM
def oneB (n : Nat) : ByteArray := ⟨#[UInt8.ofNat n]⟩
def trN (t : ByteArray) (n : Nat) : Nat := trX (sumOf (joinOf [t, oneB n]))
def trsN (t : ByteArray) (q : Nat) : List Nat := (List.range q).map (trN t)
theorem trs_succ (t : ByteArray) (q : Nat) : trsN t (q + 1) = trsN t q ++ [trN t q] := by unfold trsN; rw [List.range_succ, List.map_append]; rfl
theorem trs_len (t : ByteArray) (q : Nat) : (trsN t q).length = q := by unfold trsN; rw [List.length_map, List.length_range]
theorem trN_lt (t : ByteArray) (n : Nat) : trN t n < PM := Nat.mod_lt _ (by decide)
/-- The first point but Inf. -/
def fsL : List Nat → Pt
  | [] => gN
  | x :: l => if lfN x = iN then fsL l else lfN x
def hsN (t : ByteArray) : Pt := fsL (trsN t 256)
theorem fs_app (l m : List Nat) (h : ∀ x ∈ l, lfN x = iN) : fsL (l ++ m) = fsL m := by
  induction l with
  | nil => rfl
  | cons x l ih => rw [List.cons_append, fsL, if_pos (h x (.head _)), ih fun y hy => h y (.tail _ hy)]
theorem fs_hit (l m : List Nat) (x : Nat) (h : ∀ x ∈ l, lfN x = iN) (hx : lfN x ≠ iN) : fsL (l ++ x :: m) = lfN x := by
  rw [fs_app l _ h, fsL, if_neg hx]
theorem lf_gr {x : Nat} (hx : x < PM) : grN (lfN x) = true := by
  unfold lfN
  split
  · next h => exact gr_four (on_ro hx h)
  · exact gr_inf
theorem fs_gr : ∀ l : List Nat, (∀ x ∈ l, x < PM) → grN (fsL l) = true ∧ fsL l ≠ iN
  | [], _ => ⟨gr_gen, by decide⟩
  | x :: l, h => by
    rw [fsL]
    split
    · exact fs_gr l fun y hy => h y (.tail _ hy)
    · next e => exact ⟨lf_gr (h x (.head _)), e⟩
theorem trs_lt {t : ByteArray} {q x : Nat} (h : x ∈ trsN t q) : x < PM := by
  unfold trsN at h
  obtain ⟨n, _, rfl⟩ := List.mem_map.1 h
  exact trN_lt t n
theorem hs_gr (t : ByteArray) : grN (hsN t) = true ∧ hsN t ≠ iN := fs_gr _ fun _ hx => trs_lt hx
theorem ut_of {p : Pt} (h : Wl p) : UT p := wl_u h
end Go.Proofs.YtoddangedbefgaaGreatDoor
namespace Go.Proofs.YtoddangedbefgaaGreatDoor
open Go.RowKit Go.Shelf Go.Sort
attribute [local go_sem] Oper.semAt_some

/-- A slice of none, or of Inf alone. -/
def barV (b : Bool) (g : Nat) : Value := if b then .slice (some ⟨g, 0, none⟩) 1 1 else .slice none 0 0
set_option maxRecDepth 20000 in
set_option maxHeartbeats 4000000 in
theorem index0_any (p : Pt) (w : World) :
    Calls Tryz.prog 180 #[.slice none 0 0, vT p] w fun e w' => e = .returned (.int .i64 (-1)) ∧ Below w.heap.size w w' := by
  go_enter Tryz.func180, Tryz.ntmps180
  go_wp2_with fail
  go_loopg [8] 0 (fun gk i wr => i = .int .i64 0 ∧ Below w.heap.size w wr)
  case atStart => exact ⟨rfl, by go_grown⟩
  case round =>
    obtain ⟨rfl, hB⟩ := hrel
    go_wp2
    go_ret
    exact ⟨rfl, hB⟩
set_option maxRecDepth 20000 in
set_option maxHeartbeats 4000000 in
theorem index1_any (p : Pt) (g : Nat) (w : World) (hg : Tb g iN w) :
    Calls Tryz.prog 180 #[.slice (some ⟨g, 0, none⟩) 1 1, vT p] w fun e w' => e = .returned (.int .i64 (if p = iN then 0 else -1)) ∧ Below w.heap.size w w' := by
  have hE : ∀ W, (binOp .eql 100 (vT p) (vT iN)).run Tryz.prog W = .ok (.bool (decide (p = iN))) W := eqlT p iN
  have hgz := hg.z
  obtain ⟨r, hr⟩ : ∃ r : Int, (if p = iN then 0 else -1) = r := ⟨_, rfl⟩
  have HR : Hid ((if p = iN then 0 else -1) = r) := hr
  rw [hr]
  clear hr
  go_enter Tryz.func180, Tryz.ntmps180
  go_wp2_with fail
  go_loopg [8] 1 (fun gk i wr => ∃ k : Nat, k + gk = 1 ∧ i = .int .i64 (k : Int) ∧ Tb g iN wr ∧ Tb w.heap.size p wr ∧ Below w.heap.size w wr ∧ Hid (k = 1 → p ≠ iN))
  case atStart => exact ⟨0, rfl, rfl, hg.alloc _, Tb.new' w p 100 _ rfl, by go_grown, fun h => (by cases h)⟩
  case round =>
    obtain ⟨k, hk, rfl, hgr, hpr, hB, hno⟩ := hrel
    by_cases h0 : k = 0
    · subst h0
      have ⟨tz, t0, t1, t2, tf⟩ := hgr
      have ⟨pz, p0, p1, p2, pf⟩ := hpr
      have HH : Hid (_ ∧ _ ∧ _) := ⟨hgr, hpr, hB⟩
      clear hgr hpr hB hno hg
      by_cases hpi : p = iN
      · have hr := HR.out
        rw [if_pos hpi] at hr
        subst hr
        rw [decide_eq_true hpi] at hE
        simp only [vT, iN] at hE t0 t1 t2
        clear hpi HR
        rw [show ((0 : Nat) : Int) = 0 from rfl] at *
        go_wp2_with fail
        have k0 := cell_regrown t0
        have k1 := cell_regrown t1
        have k2 := cell_regrown t2
        have k3 := cell_regrown p0
        have k4 := cell_regrown p1
        have k5 := cell_regrown p2
        refine wp_region_quiet_below (by kernel_rfl) (by kernel_rfl) ?_
        repeat (quiet_step (fail))
        refine wpQuiet_nil ?_
        intro w8 hw8
        have B8 : Below wr.heap.size wr w8 := by
          obtain ⟨p, rfl⟩ := hw8
          exact below_regrown _ _ _
        clear hw8 k0 k1 k2 k3 k4 k5 p0 p1 p2 t0 t1 t2
        go_wp2
        go_ret
        exact ⟨rfl, belowStep HH.out.2.2 HH.out.2.2.size B8⟩
      · have hr := HR.out
        rw [if_neg hpi] at hr
        subst hr
        rw [decide_eq_false hpi] at hE
        have HP : Hid _ := hpi
        clear hpi HR
        simp only [vT, iN] at hE t0 t1 t2
        rw [show ((0 : Nat) : Int) = 0 from rfl] at *
        go_wp2_with fail
        have k0 := cell_regrown t0
        have k1 := cell_regrown t1
        have k2 := cell_regrown t2
        have k3 := cell_regrown p0
        have k4 := cell_regrown p1
        have k5 := cell_regrown p2
        refine wp_region_quiet_below (by kernel_rfl) (by kernel_rfl) ?_
        repeat (quiet_step (fail))
        refine wpQuiet_nil ?_
        intro w8 hw8
        have B8 : Below wr.heap.size wr w8 := by
          obtain ⟨p, rfl⟩ := hw8
          exact below_regrown _ _ _
        clear hw8 k0 k1 k2 k3 k4 k5 p0 p1 p2 t0 t1 t2
        go_wp2
        go_roundg 0
        case measure => omega
        case rel => exact ⟨1, rfl, rfl, HH.out.1.below B8, HH.out.2.1.below B8, belowStep HH.out.2.2 HH.out.2.2.size B8, fun _ => HP.out⟩
    · obtain rfl : k = 1 := by omega
      have hr := HR.out
      rw [if_neg (hno.out rfl)] at hr
      subst hr
      go_wp2
      go_ret
      exact ⟨rfl, hB⟩

/-- Which points are barred. -/
def BarIn (b : Bool) (g : Nat) (W : World) : Prop := b = true → Tb g iN W
theorem BarIn.below {b : Bool} {g : Nat} {W W' : World} (h : BarIn b g W) (hb : Below W.heap.size W W') : BarIn b g W' := fun e => (h e).below hb
set_option maxRecDepth 20000 in
set_option maxHeartbeats 4000000 in
theorem contains_any (b : Bool) (g : Nat) (p : Pt) (w : World) (hg : BarIn b g w) :
    Calls Tryz.prog 152 #[barV b g, vT p] w fun e w' => e = .returned (.bool (b && decide (p = iN))) ∧ Below w.heap.size w w' := by
  have AL : Below w.heap.size w (w.alloc (.cells #[.int .u64 (p.X : Int), .int .u64 (p.Y : Int), .bool p.I] 100)) := (Below.refl _ _).alloc (Nat.le_refl _) _
  cases b with
  | false =>
    have C0 := index0_any p
    show Calls Tryz.prog 152 #[.slice none 0 0, vT p] w _
    go_enter Tryz.func152, Tryz.ntmps152
    go_wp2_with fail
    refine (C0 _).mono ?_
    rintro e w1 ⟨rfl, B1⟩
    have BW := belowStep AL AL.size B1
    clear AL B1
    go_wp2
    go_ret
    exact ⟨rfl, BW⟩
  | true =>
    have C1 := index1_any p g
    have hT := (hg rfl).below AL
    show Calls Tryz.prog 152 #[.slice (some ⟨g, 0, none⟩) 1 1, vT p] w _
    by_cases hpi : p = iN
    · rw [if_pos hpi] at C1
      rw [decide_eq_true hpi]
      clear hpi
      go_enter Tryz.func152, Tryz.ntmps152
      go_wp2_with fail
      refine (C1 _ hT).mono ?_
      rintro e w1 ⟨rfl, B1⟩
      have BW := belowStep AL AL.size B1
      clear AL B1 hT hg
      go_wp2
      go_ret
      exact ⟨rfl, BW⟩
    · rw [if_neg hpi] at C1
      rw [decide_eq_false hpi]
      clear hpi
      go_enter Tryz.func152, Tryz.ntmps152
      go_wp2_with fail
      refine (C1 _ hT).mono ?_
      rintro e w1 ⟨rfl, B1⟩
      have BW := belowStep AL AL.size B1
      clear AL B1 hT hg
      go_wp2
      go_ret
      exact ⟨rfl, BW⟩

theorem handOn_any (a1 a2 : Option Addr) (n1 n2 c1 c2 : Nat) (w : World) :
    Calls Tryz.prog 119 #[.slice a1 n1 c1, .slice a2 n2 c2] w fun e w' => e = .returned (.func (.func 150) #[] #[.pointer (some ⟨w.heap.size, 0, none⟩), .pointer (some ⟨w.heap.size + 1, 0, none⟩)]) ∧ w' = (w.alloc (.cells #[.slice a1 n1 c1] 27)).alloc (.cells #[.slice a2 n2 c2] 183) := by
  go_enter Tryz.func119, Tryz.ntmps119
  go_wp2
  go_ret
  exact ⟨rfl, rfl⟩
end Go.Proofs.YtoddangedbefgaaGreatDoor
namespace Go.Proofs.YtoddangedbefgaaGreatDoor
open Go.RowKit Go.Shelf Go.Sort
attribute [local go_sem] Oper.semAt_some

/-- A list of texts in memory. -/
def txS (l : List ByteArray) (a : Option Addr) (W : World) : Prop := l = [] ∨ ∃ B o, a = some ⟨B, o, none⟩ ∧ B < W.heap.size ∧ ∀ (j : Nat) x, l[j]? = some x → W.cell? ⟨B, o + j, none⟩ = some (.string x)
theorem txS.below {l : List ByteArray} {a : Option Addr} {W W' : World} (h : txS l a W) (hb : Below W.heap.size W W') : txS l a W' := by
  rcases h with h | ⟨B, o, e, hB, hc⟩
  · exact .inl h
  · exact .inr ⟨B, o, e, Nat.lt_of_lt_of_le hB hb.size, fun j x hx => (hb.cell (p := ⟨B, o + j, none⟩) hB).trans (hc j x hx)⟩
/-- What is handed on: a point of the group, or none. -/
abbrev El : Type := {x : Option Pt // ∀ p, x = some p → grN p = true}
def eEnc (x : El) : Array Value := match x.val with
  | some p => #[vT p, .int .i64 0]
  | none => #[vT oP, .int .i64 100]
theorem fr_gr {s : ByteArray} (h : frB s = true) : grN (nmN s) = true := by
  unfold frB at h
  simp only [Bool.and_eq_true] at h
  exact h.1.2
def elN (b : Bool) (s : ByteArray) : El := if h : frB s = true ∧ ¬ (b = true ∧ nmN s = iN) then ⟨some (nmN s), fun p e => by cases e; exact fr_gr h.1⟩ else ⟨none, fun p e => by cases e⟩
theorem el_some {b : Bool} {s : ByteArray} (h1 : frB s = true) (h2 : ¬ (b = true ∧ nmN s = iN)) : eEnc (elN b s) = #[vT (nmN s), .int .i64 0] := by
  unfold elN
  rw [dif_pos ⟨h1, h2⟩]
  rfl
theorem el_none {b : Bool} {s : ByteArray} (h : ¬ (frB s = true ∧ ¬ (b = true ∧ nmN s = iN))) : eEnc (elN b s) = #[vT oP, .int .i64 100] := by
  unfold elN
  rw [dif_neg h]
  rfl
def elsT (b : Bool) (l : List ByteArray) : List El := l.map (elN b)
/-- What the going through stands on. -/
structure HdIn (bP bB : Nat) (b : Bool) (g : Nat) (l : List ByteArray) (a : Option Addr) (c : Nat) (W : World) : Prop where
  p : Bq bP 27 #[.slice a l.length c] W
  q : Bq bB 183 #[barV b g] W
  t : txS l a W
  g : BarIn b g W
  s : Ls W
theorem HdIn.below {bP bB : Nat} {b : Bool} {g : Nat} {l : List ByteArray} {a : Option Addr} {c : Nat} {W W' : World} (h : HdIn bP bB b g l a c W) (hb : Below W.heap.size W W') : HdIn bP bB b g l a c W' := ⟨h.p.below hb, h.q.below hb, h.t.below hb, h.g.below hb, h.s.below hb⟩
def HdK (bP bB : Nat) (b : Bool) (g : Nat) (l : List ByteArray) (a : Option Addr) (c : Nat) (W W' : World) : Prop := HdIn bP bB b g l a c W → HdIn bP bB b g l a c W'
theorem HdK.trans {bP bB : Nat} {b : Bool} {g : Nat} {l : List ByteArray} {a : Option Addr} {c : Nat} {W W' V : World} (h : HdK bP bB b g l a c W W') (k : HdK bP bB b g l a c W' V) : HdK bP bB b g l a c W V := fun x => k (h x)

set_option maxRecDepth 100000 in
set_option maxHeartbeats 4000000 in
theorem handOn1_in (n ly bP bB : Nat) (b : Bool) (g : Nat) (l : List ByteArray) (hl : l.length ≤ 1000) (a : Option Addr) (c : Nat) (J Jx : List El → World → Prop) (B : Nat) (hJ : AbidesFrom B J)
    (hY : ∀ m pre x W, J pre W → pre.length < l.length → YieldAt Fence.wide m Tryz.prog ly (eEnc x) W fun e W' =>
      (e = .returned (.bool true) ∧ J (pre ++ [x]) W' ∧ HdK bP bB b g l a c W W') ∨ (e = .returned (.bool false) ∧ Jx (pre ++ [x]) W'))
    (W : World) (hc : HdIn bP bB b g l a c W) (h0 : J [] W) :
    CallsIn Fence.wide n Tryz.prog 150 #[.func (.yield ly) #[] #[], .pointer (some ⟨bP, 0, none⟩), .pointer (some ⟨bB, 0, none⟩)] W fun e W' => (∃ v, e = .returned v) ∧
      (J (elsT b l) W' ∨ (∃ q, q ≤ l.length ∧ Jx ((elsT b l).take q) W')) := by
  have hc0 : W.cell? ⟨bP, 0, none⟩ = some (.slice a l.length c) := hc.p.cell 0
  refine callsIn_of_wp Tryz.func150 rfl trivial ?_ rfl
  simp only [Tryz.ntmps150, List.size_toArray, List.length_cons, List.length_nil, Nat.reduceAdd, Nat.reduceSub, Array.replicate_succ, Array.replicate_zero, List.push_toArray, List.append_toArray, List.nil_append, List.cons_append]
  gi_wp2_with fail
  obtain ⟨N, hN⟩ : ∃ N, l.length = N := ⟨_, rfl⟩
  have HN : Hid (l.length = N) := hN
  rw [hN] at hl ⊢
  gi_loopw [10] (fun i wr => ∃ k : Nat, k ≤ N ∧ i = .int .i64 (k : Int) ∧ J ((elsT b l).take k) wr ∧ HdIn bP bB b g l a c wr)
    (fun i _ => (N - (intOf i).toNat))
  case atStart => exact ⟨0, by omega, rfl, by rw [List.take_zero]; exact h0, hc⟩
  case round =>
    obtain ⟨k, hk, rfl, hJs, hkt⟩ := hrel
    clear hc0 hc h0
    by_cases hlk : k < N
    · have l0 : (k : Int) < N := by omega
      obtain ⟨s, hs⟩ : ∃ s, l[k]? = some s := ⟨l[k]'(by omega), by simp [hN, hlk]⟩
      have hne : l ≠ [] := fun e => by rw [e] at hs; cases hs
      obtain ⟨B0, o, rfl, hB0, hcs⟩ := hkt.t.resolve_left hne
      have hcell := hcs k s hs
      have htk : (elsT b l).take (k + 1) = (elsT b l).take k ++ [elN b s] := by
        rw [List.take_add_one]
        congr 1
        unfold elsT
        rw [List.getElem?_map, hs]
        rfl
      have hlen : ((elsT b l).take k).length < l.length := by
        rw [List.length_take]
        unfold elsT
        rw [List.length_map]
        omega
      have CF := from_any s
      obtain ⟨p, e, hV, hee⟩ : ∃ (p : Pt) (e : Int), frV s = .tuple #[vT p, .int .i64 e] ∧ eEnc (elN b s) = if (b && decide (p = iN)) = true then #[vT oP, .int .i64 100] else #[vT p, .int .i64 e] := by
        cases hf : frB s
        · refine ⟨oP, 100, by unfold frV; rw [hf]; rfl, ?_⟩
          rw [el_none (fun h => by rw [hf] at h; cases h.1)]
          split <;> rfl
        · refine ⟨nmN s, 0, by unfold frV; rw [hf]; rfl, ?_⟩
          by_cases hb : b = true ∧ nmN s = iN
          · rw [el_none (fun h => h.2 hb), hb.1, decide_eq_true hb.2]
            rfl
          · rw [el_some hf hb, if_neg (by simpa using fun h1 h2 => hb ⟨h1, h2⟩)]
      rw [hV] at CF
      have hLi := hkt.s.p.l
      have HH : Hid (_ ∧ _ ∧ _ ∧ _ ∧ _) := ⟨hJs, hkt, htk, hlen, hee⟩
      clear hJs hkt htk hlen hee hV hs hcs hne
      have hk1 : IntKind.i64.wrap ((k : Int) + 1) = ((k + 1 : Nat) : Int) := by rw [IntKind.wrap_i64]; omega
      gi_wp2_with fail
      refine ⟨trivial, fun h => (by cases h), (callsIn_wide.2 (CF _ hLi)).mono ?_⟩
      rintro e' W1 ⟨rfl, B1⟩
      obtain ⟨hJs, hkt, htk, hlen, hee⟩ := HH.out
      have K1 := hkt.below B1
      have hm := B1.size
      have AL : Below W1.heap.size W1 (W1.alloc (.cells #[.int .u64 (p.X : Int), .int .u64 (p.Y : Int), .bool p.I] 100)) := (Below.refl _ _).alloc (Nat.le_refl _) _
      have BW2 := belowStep B1 B1.size AL
      have K2 := K1.below AL
      have T2 : Tb W1.heap.size p (W1.alloc (.cells #[.int .u64 (p.X : Int), .int .u64 (p.Y : Int), .bool p.I] 100)) := Tb.new' W1 p 100 _ rfl
      have q0 : W1.cell? ⟨bB, 0, none⟩ = some (barV b g) := K1.q.cell 0
      have q1 := K1.q.lt
      have q2 : bB ≠ W1.heap.size := by omega
      have H2 : Hid (_ ∧ _ ∧ _) := ⟨BW2, K2, T2⟩
      clear hJs hkt htk hlen hee K1 AL BW2 K2 T2 B1 hcell hB0
      gi_wp2_with fail
      obtain ⟨BW2, K2, T2⟩ := H2.out
      refine ⟨trivial, fun h => (by cases h), (callsIn_wide.2 (contains_any b g p _ K2.g)).mono ?_⟩
      rintro e' W3 ⟨rfl, B3⟩
      have BW3 := belowStep BW2 BW2.size B3
      have K3 := K2.below B3
      have T3 := T2.below B3
      obtain ⟨hJs, hkt, htk, hlen, hee⟩ := HH.out
      obtain ⟨d, hd⟩ : ∃ d, (b && decide (p = iN)) = d := ⟨_, rfl⟩
      rw [hd] at hee ⊢
      clear hd H2 BW2 K2 T2 B3 HH q0 q1 q2
      have ⟨tz, t0, t1, t2, tf⟩ := T3
      cases d with
      | false =>
        rw [if_neg (by simp)] at hee
        have J3 := hJ _ _ _ none hJs (grown_of BW3) (fun r h => by cases h)
        obtain ⟨fn, tmps, assign, body, hyy, hR⟩ := hY (n - 1) _ (elN b s) W3 J3 hlen
        rw [hee] at hyy
        obtain ⟨pX, pY, pI⟩ := p
        simp only [vT] at hyy t0 t1 t2
        have HX : Hid (_ ∧ _) := ⟨K3, htk⟩
        clear hkt J3 K3 hee htk hlen BW3 hJs T3
        gi_wp2
        refine ⟨fun h => (by cases h), hR.mono ?_⟩
        rintro e' W5 (⟨rfl, hJ5, hk5⟩ | ⟨rfl, hJx5⟩)
        · gi_wp2
          go_roundw
          case rel => exact ⟨k + 1, by omega, rfl, by rw [HX.out.2]; exact hJ5, hk5 HX.out.1⟩
          case measure => simp [intOf]; omega
        · gi_wp2
          exact bodyPost_ret (v := .tuple #[]) (by simp [results, Tryz.results150, go_sem]) rfl ⟨⟨_, rfl⟩, .inr ⟨k + 1, by omega, by rw [HX.out.2]; exact hJx5⟩⟩
      | true =>
        rw [if_pos rfl] at hee
        have BW4 : Below wr.heap.size wr (Go.Proofs.YtoddangedbefgaaGreatDoor.put3 W1.heap.size oP W3) := below_put3 BW3 hm oP
        have J4 := hJ _ _ _ none hJs (grown_of BW4) (fun r h => by cases h)
        have K4 : HdIn bP bB b g l (some ⟨B0, o, none⟩) c (Go.Proofs.YtoddangedbefgaaGreatDoor.put3 W1.heap.size oP W3) := hkt.below BW4
        obtain ⟨fn, tmps, assign, body, hyy, hR⟩ := hY (n - 1) _ (elN b s) _ J4 hlen
        rw [hee] at hyy
        obtain ⟨pX, pY, pI⟩ := p
        simp only [vT, oP, Go.Proofs.YtoddangedbefgaaGreatDoor.put3] at hyy t0 t1 t2
        rw [show ((0 : Nat) : Int) = 0 from rfl] at hyy
        have HX : Hid (_ ∧ _) := ⟨K4, htk⟩
        clear hkt J4 K4 K3 hee htk hlen BW3 BW4 hJs T3
        gi_wp2
        refine ⟨fun h => (by cases h), hR.mono ?_⟩
        rintro e' W5 (⟨rfl, hJ5, hk5⟩ | ⟨rfl, hJx5⟩)
        · gi_wp2
          go_roundw
          case rel => exact ⟨k + 1, by omega, rfl, by rw [HX.out.2]; exact hJ5, hk5 HX.out.1⟩
          case measure => simp [intOf]; omega
        · gi_wp2
          exact bodyPost_ret (v := .tuple #[]) (by simp [results, Tryz.results150, go_sem]) rfl ⟨⟨_, rfl⟩, .inr ⟨k + 1, by omega, by rw [HX.out.2]; exact hJx5⟩⟩
    · obtain rfl : k = N := by omega
      have l0 : ¬ (k : Int) < k := by omega
      have e2 : (elsT b l).take k = elsT b l := List.take_of_length_le (by unfold elsT; rw [List.length_map]; omega)
      rw [e2] at hJs
      gi_wp2
      go_end0
      exact ⟨⟨_, rfl⟩, .inl hJs⟩

theorem handOn_stops (n bP bB : Nat) (b : Bool) (g : Nat) (l : List ByteArray) (hl : l.length ≤ 1000) (a : Option Addr) (c : Nat) (w : World) (hc : HdIn bP bB b g l a c w) :
    SeqStopsK Fence.wide n Tryz.prog 150 #[.pointer (some ⟨bP, 0, none⟩), .pointer (some ⟨bB, 0, none⟩)] eEnc (HdK bP bB b g l a c) (fun ys => ys = elsT b l) (fun ys => ∃ q, q ≤ l.length ∧ ys = (elsT b l).take q) l.length w := fun ly J Jx W hW hJ _ hY h0 => by
  refine (handOn1_in n ly bP bB b g l hl a c J Jx W.heap.size hJ (fun m pre x W1 hj hl => yieldAny m (hY pre x W1 hj hl)) W (hc.below hW) h0).mono ?_
  rintro e W' ⟨he, hj | ⟨q, hq, hj⟩⟩
  · exact ⟨he, .inl ⟨_, rfl, hj⟩⟩
  · exact ⟨he, .inr ⟨_, ⟨q, hq, rfl⟩, hj⟩⟩
end Go.Proofs.YtoddangedbefgaaGreatDoor
