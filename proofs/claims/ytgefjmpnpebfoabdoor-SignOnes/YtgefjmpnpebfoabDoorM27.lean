/- Lemmas: What the package's isSecret, multiple, Key, Sign do. No condition. What slices.Contains of points, the package's handOn and total do. No condition. What the package's handOn hands on. No condition. -/
import Derived.Test.YtgefjmpnpebfoabDoorM1
import Derived.Test.YtgefjmpnpebfoabDoorM10
import Derived.Test.YtgefjmpnpebfoabDoorM11
import Derived.Test.YtgefjmpnpebfoabDoorM12
import Derived.Test.YtgefjmpnpebfoabDoorM13
import Derived.Test.YtgefjmpnpebfoabDoorM14
import Derived.Test.YtgefjmpnpebfoabDoorM15
import Derived.Test.YtgefjmpnpebfoabDoorM16
import Derived.Test.YtgefjmpnpebfoabDoorM17
import Derived.Test.YtgefjmpnpebfoabDoorM18
import Derived.Test.YtgefjmpnpebfoabDoorM19
import Derived.Test.YtgefjmpnpebfoabDoorM2
import Derived.Test.YtgefjmpnpebfoabDoorM20
import Derived.Test.YtgefjmpnpebfoabDoorM21
import Derived.Test.YtgefjmpnpebfoabDoorM22
import Derived.Test.YtgefjmpnpebfoabDoorM26
import Derived.Test.YtgefjmpnpebfoabDoorM3
import Derived.Test.YtgefjmpnpebfoabDoorM4
import Derived.Test.YtgefjmpnpebfoabDoorM5
import Derived.Test.YtgefjmpnpebfoabDoorM6
import Derived.Test.YtgefjmpnpebfoabDoorM7
import Derived.Test.YtgefjmpnpebfoabDoorM8
import Derived.Test.YtgefjmpnpebfoabDoorM9
import Derived.Test.YtgefjmpnpebfoabDoorRows
namespace Go.Proofs.YtgefjmpnpebfoabDoor
open Go.RowKit Go.Shelf Go.Sort

def scB (n : Nat) : Bool := decide (1 ≤ n) && decide (n < 536870717)
abbrev err2 : Value := .tuple #[.string ⟨#[]⟩, .int .i64 2]
def kyV (n : Nat) : Value := if scB n = true then bytV (tmN gN n) else err2
def sgV (n : Nat) (t : ByteArray) : Value := if scB n = true then bytV (tmN (hsN t) n) else err2
set_option maxHeartbeats 1000000 in
theorem isSecret_any (n : Nat) (w : World) :
    Calls Tryd.prog 12 #[.int .u64 n] w fun e w' => e = .returned (.bool (scB n)) ∧ w' = w := by
  unfold scB
  by_cases h1 : 1 ≤ n
  · by_cases h2 : n < 536870717
    · have e1 : (1 : Int) ≤ n := by omega
      have e2 : (n : Int) < 536870717 := by omega
      rw [decide_eq_true h1, decide_eq_true h2]
      go_enter Tryd.func12, Tryd.ntmps12
      go_wp2
      go_ret
      exact ⟨rfl, rfl⟩
    · have e1 : (1 : Int) ≤ n := by omega
      have e2 : ¬ (n : Int) < 536870717 := by omega
      rw [decide_eq_true h1, decide_eq_false h2]
      go_enter Tryd.func12, Tryd.ntmps12
      go_wp2
      go_ret
      exact ⟨rfl, rfl⟩
  · have e1 : ¬ (1 : Int) ≤ n := by omega
    rw [decide_eq_false h1, Bool.false_and]
    go_enter Tryd.func12, Tryd.ntmps12
    go_wp2
    go_ret
    exact ⟨rfl, rfl⟩

set_option maxRecDepth 20000 in
set_option maxHeartbeats 4000000 in
theorem multiple_any (n : Nat) (hn : U64 n) (p : Pt) (ho : onN p = true) (w : World) (hL : Li w) :
    Calls Tryd.prog 13 #[.int .u64 n, vT p] w fun e w' => e = .returned (bytV (tmN p n)) ∧ Below w.heap.size w w' := by
  have CT := fun W hW => times_any n hn p (wl_u (wl_on ho)) W hW ho
  have hq := wl_tm p (wl_on ho) n
  obtain ⟨q, eq⟩ : ∃ q, tmN p n = q := ⟨_, rfl⟩
  rw [eq] at CT hq ⊢
  have CB := bytes_any q (wl_u hq)
  obtain ⟨b, c, eb⟩ : ∃ b c, bytV q = .tuple #[b, c] := by unfold bytV; split <;> exact ⟨_, _, rfl⟩
  rw [eb] at CB ⊢
  clear eq eb hq ho
  obtain ⟨qX, qY, qI⟩ := q
  go_enter Tryd.func13, Tryd.ntmps13
  go_wp2_with fail
  refine callsOf (fun V => Below w.heap.size w V ∧ Tb w.heap.size p V ∧ Li V) ⟨by go_grown, Tb.new' w p 33 _ rfl, hL.below (by go_grown)⟩ ?_
  rintro V ⟨BV, TV, LV⟩
  refine (CT _ LV).mono ?_
  rintro e w1 ⟨rfl, B1⟩
  have BW1 := belowStep BV BV.size B1
  have L1 := LV.below B1
  clear BV TV LV B1 CT
  go_wp2_with fail
  have AL : Below w1.heap.size w1 (w1.alloc (.cells #[.int .u64 (qX : Int), .int .u64 (qY : Int), .bool qI] 33)) := (Below.refl _ _).alloc (Nat.le_refl _) _
  refine (CB _ (L1.below AL)).mono ?_
  rintro e w2 ⟨rfl, B2⟩
  have BW2 := belowStep (belowStep BW1 BW1.size AL) (Nat.le_trans BW1.size AL.size) B2
  clear BW1 L1 AL B2 CB
  go_wp2_with fail
  exact bodyPost_ret (v := .tuple #[b, c]) (by simp [results, Tryd.results13, go_sem, *]) rfl ⟨rfl, BW2⟩

set_option maxRecDepth 20000 in
set_option maxHeartbeats 4000000 in
theorem key_any (n : Nat) (hn : U64 n) (w : World) (hL : Ls w) :
    Calls Tryd.prog 6 #[.int .u64 n] w fun e w' => e = .returned (kyV n) ∧ Below w.heap.size w w' := by
  have CS := isSecret_any n
  unfold kyV
  have lq := hL.ne
  have g0 := hL.g0
  have g1 := hL.g1
  have g2 := hL.g2
  cases hs : scB n
  · rw [hs] at CS
    rw [if_neg (by simp)]
    go_enter Tryd.func6, Tryd.ntmps6
    go_wp2_with fail
    refine (CS _).mono ?_
    rintro e w1 ⟨rfl, rfl⟩
    go_wp2_with fail
    exact bodyPost_ret (v := err2) (by simp [results, Tryd.results6, go_sem, *]) rfl ⟨rfl, Below.refl _ _⟩
  · rw [hs] at CS
    rw [if_pos rfl]
    have CM := multiple_any n hn gN on_gen
    obtain ⟨b, c, eb⟩ : ∃ b c, bytV (tmN gN n) = .tuple #[b, c] := by unfold bytV; split <;> exact ⟨_, _, rfl⟩
    rw [eb] at CM ⊢
    go_enter Tryd.func6, Tryd.ntmps6
    go_wp2_with fail
    refine (CS _).mono ?_
    rintro e w1 ⟨rfl, rfl⟩
    go_wp2_with fail
    refine (CM _ hL.p.l).mono ?_
    rintro e w2 ⟨rfl, B2⟩
    clear lq g0 g1 g2 CM CS
    go_wp2_with fail
    exact bodyPost_ret (v := .tuple #[b, c]) (by simp [results, Tryd.results6, go_sem, *]) rfl ⟨rfl, B2⟩

set_option maxRecDepth 20000 in
set_option maxHeartbeats 4000000 in
theorem sign_any (n : Nat) (hn : U64 n) (t : ByteArray) (ht : t.size ≤ 10000) (w : World) (hL : Ls w) :
    Calls Tryd.prog 7 #[.int .u64 n, .string t] w fun e w' => e = .returned (sgV n t) ∧ Below w.heap.size w w' := by
  have CS := isSecret_any n
  unfold sgV
  cases hs : scB n
  · rw [hs] at CS
    rw [if_neg (by simp)]
    go_enter Tryd.func7, Tryd.ntmps7
    go_wp2_with fail
    refine (CS _).mono ?_
    rintro e w1 ⟨rfl, rfl⟩
    go_wp2_with fail
    exact bodyPost_ret (v := err2) (by simp [results, Tryd.results7, go_sem, *]) rfl ⟨rfl, Below.refl _ _⟩
  · rw [hs] at CS
    rw [if_pos rfl]
    have CH := hash_any t ht
    have hg := gr_on (hs_gr t).1
    obtain ⟨p, hp⟩ : ∃ p, hsN t = p := ⟨_, rfl⟩
    rw [hp] at CH hg ⊢
    have CM := multiple_any n hn p hg
    obtain ⟨b, c, eb⟩ : ∃ b c, bytV (tmN p n) = .tuple #[b, c] := by unfold bytV; split <;> exact ⟨_, _, rfl⟩
    rw [eb] at CM ⊢
    clear hp eb hg
    go_enter Tryd.func7, Tryd.ntmps7
    go_wp2_with fail
    refine (CS _).mono ?_
    rintro e w1 ⟨rfl, rfl⟩
    go_wp2_with fail
    refine (CH _ hL).mono ?_
    rintro e w2 ⟨rfl, B2⟩
    have L2' := hL.below B2
    go_wp2_with fail
    refine (CM _ L2'.p.l).mono ?_
    rintro e w3 ⟨rfl, B3⟩
    have BW := belowStep B2 B2.size B3
    clear B2 B3 L2' CM CH CS
    go_wp2_with fail
    exact bodyPost_ret (v := .tuple #[b, c]) (by simp [results, Tryd.results7, go_sem, *]) rfl ⟨rfl, BW⟩
end Go.Proofs.YtgefjmpnpebfoabDoor
namespace Go.Proofs.YtgefjmpnpebfoabDoor
open Go.RowKit Go.Shelf Go.Sort
attribute [local go_sem] Oper.semAt_some

/-- A slice of none, or of Inf alone. -/
def barV (b : Bool) (g : Nat) : Value := if b then .slice (some ⟨g, 0, none⟩) 1 1 else .slice none 0 0
set_option maxRecDepth 20000 in
set_option maxHeartbeats 4000000 in
theorem index0_any (p : Pt) (w : World) :
    Calls Tryd.prog 29 #[.slice none 0 0, vT p] w fun e w' => e = .returned (.int .i64 (-1)) ∧ Below w.heap.size w w' := by
  go_enter Tryd.func29, Tryd.ntmps29
  go_wp2_with fail
  go_loopg [8] 0 (fun gk i wr => i = .int .i64 0 ∧ Below w.heap.size w wr)
  case atStart => exact ⟨rfl, by go_grown⟩
  case round =>
    obtain ⟨rfl, hB⟩ := hrel
    go_wp2
    go_ret
    exact ⟨rfl, hB⟩
set_option maxRecDepth 20000 in
set_option maxHeartbeats 4000000 in
theorem index1_any (p : Pt) (g : Nat) (w : World) (hg : Tb g iN w) :
    Calls Tryd.prog 29 #[.slice (some ⟨g, 0, none⟩) 1 1, vT p] w fun e w' => e = .returned (.int .i64 (if p = iN then 0 else -1)) ∧ Below w.heap.size w w' := by
  have hE : ∀ W, (binOp .eql 33 (vT p) (vT iN)).run Tryd.prog W = .ok (.bool (decide (p = iN))) W := eqlT p iN
  have hgz := hg.z
  obtain ⟨r, hr⟩ : ∃ r : Int, (if p = iN then 0 else -1) = r := ⟨_, rfl⟩
  have HR : Hid ((if p = iN then 0 else -1) = r) := hr
  rw [hr]
  clear hr
  go_enter Tryd.func29, Tryd.ntmps29
  go_wp2_with fail
  go_loopg [8] 1 (fun gk i wr => ∃ k : Nat, k + gk = 1 ∧ i = .int .i64 (k : Int) ∧ Tb g iN wr ∧ Tb w.heap.size p wr ∧ Below w.heap.size w wr ∧ Hid (k = 1 → p ≠ iN))
  case atStart => exact ⟨0, rfl, rfl, hg.alloc _, Tb.new' w p 33 _ rfl, by go_grown, fun h => (by cases h)⟩
  case round =>
    obtain ⟨k, hk, rfl, hgr, hpr, hB, hno⟩ := hrel
    by_cases h0 : k = 0
    · subst h0
      have ⟨tz, t0, t1, t2, tf⟩ := hgr
      have ⟨pz, p0, p1, p2, pf⟩ := hpr
      have HH : Hid (_ ∧ _ ∧ _) := ⟨hgr, hpr, hB⟩
      clear hgr hpr hB hno hg
      by_cases hpi : p = iN
      · have hr := HR.out
        rw [if_pos hpi] at hr
        subst hr
        rw [decide_eq_true hpi] at hE
        simp only [vT, iN] at hE t0 t1 t2
        clear hpi HR
        rw [show ((0 : Nat) : Int) = 0 from rfl] at *
        go_wp2_with fail
        have k0 := cell_regrown t0
        have k1 := cell_regrown t1
        have k2 := cell_regrown t2
        have k3 := cell_regrown p0
        have k4 := cell_regrown p1
        have k5 := cell_regrown p2
        refine wp_region_quiet_below (by kernel_rfl) (by kernel_rfl) ?_
        repeat (quiet_step (fail))
        refine wpQuiet_nil ?_
        intro w8 hw8
        have B8 : Below wr.heap.size wr w8 := by
          obtain ⟨p, rfl⟩ := hw8
          exact below_regrown _ _ _
        clear hw8 k0 k1 k2 k3 k4 k5 p0 p1 p2 t0 t1 t2
        go_wp2
        go_ret
        exact ⟨rfl, belowStep HH.out.2.2 HH.out.2.2.size B8⟩
      · have hr := HR.out
        rw [if_neg hpi] at hr
        subst hr
        rw [decide_eq_false hpi] at hE
        have HP : Hid _ := hpi
        clear hpi HR
        simp only [vT, iN] at hE t0 t1 t2
        rw [show ((0 : Nat) : Int) = 0 from rfl] at *
        go_wp2_with fail
        have k0 := cell_regrown t0
        have k1 := cell_regrown t1
        have k2 := cell_regrown t2
        have k3 := cell_regrown p0
        have k4 := cell_regrown p1
        have k5 := cell_regrown p2
        refine wp_region_quiet_below (by kernel_rfl) (by kernel_rfl) ?_
        repeat (quiet_step (fail))
        refine wpQuiet_nil ?_
        intro w8 hw8
        have B8 : Below wr.heap.size wr w8 := by
          obtain ⟨p, rfl⟩ := hw8
          exact below_regrown _ _ _
        clear hw8 k0 k1 k2 k3 k4 k5 p0 p1 p2 t0 t1 t2
        go_wp2
        go_roundg 0
        case measure => omega
        case rel => exact ⟨1, rfl, rfl, HH.out.1.below B8, HH.out.2.1.below B8, belowStep HH.out.2.2 HH.out.2.2.size B8, fun _ => HP.out⟩
    · obtain rfl : k = 1 := by omega
      have hr := HR.out
      rw [if_neg (hno.out rfl)] at hr
      subst hr
      go_wp2
      go_ret
      exact ⟨rfl, hB⟩

/-- Which points are barred. -/
def BarIn (b : Bool) (g : Nat) (W : World) : Prop := b = true → Tb g iN W
theorem BarIn.below {b : Bool} {g : Nat} {W W' : World} (h : BarIn b g W) (hb : Below W.heap.size W W') : BarIn b g W' := fun e => (h e).below hb
set_option maxRecDepth 20000 in
set_option maxHeartbeats 4000000 in
theorem contains_any (b : Bool) (g : Nat) (p : Pt) (w : World) (hg : BarIn b g w) :
    Calls Tryd.prog 19 #[barV b g, vT p] w fun e w' => e = .returned (.bool (b && decide (p = iN))) ∧ Below w.heap.size w w' := by
  have AL : Below w.heap.size w (w.alloc (.cells #[.int .u64 (p.X : Int), .int .u64 (p.Y : Int), .bool p.I] 33)) := (Below.refl _ _).alloc (Nat.le_refl _) _
  cases b with
  | false =>
    have C0 := index0_any p
    show Calls Tryd.prog 19 #[.slice none 0 0, vT p] w _
    go_enter Tryd.func19, Tryd.ntmps19
    go_wp2_with fail
    refine (C0 _).mono ?_
    rintro e w1 ⟨rfl, B1⟩
    have BW := belowStep AL AL.size B1
    clear AL B1
    go_wp2
    go_ret
    exact ⟨rfl, BW⟩
  | true =>
    have C1 := index1_any p g
    have hT := (hg rfl).below AL
    show Calls Tryd.prog 19 #[.slice (some ⟨g, 0, none⟩) 1 1, vT p] w _
    by_cases hpi : p = iN
    · rw [if_pos hpi] at C1
      rw [decide_eq_true hpi]
      clear hpi
      go_enter Tryd.func19, Tryd.ntmps19
      go_wp2_with fail
      refine (C1 _ hT).mono ?_
      rintro e w1 ⟨rfl, B1⟩
      have BW := belowStep AL AL.size B1
      clear AL B1 hT hg
      go_wp2
      go_ret
      exact ⟨rfl, BW⟩
    · rw [if_neg hpi] at C1
      rw [decide_eq_false hpi]
      clear hpi
      go_enter Tryd.func19, Tryd.ntmps19
      go_wp2_with fail
      refine (C1 _ hT).mono ?_
      rintro e w1 ⟨rfl, B1⟩
      have BW := belowStep AL AL.size B1
      clear AL B1 hT hg
      go_wp2
      go_ret
      exact ⟨rfl, BW⟩

theorem handOn_any (a1 a2 : Option Addr) (n1 n2 c1 c2 : Nat) (w : World) :
    Calls Tryd.prog 10 #[.slice a1 n1 c1, .slice a2 n2 c2] w fun e w' => e = .returned (.func (.func 18) #[] #[.pointer (some ⟨w.heap.size, 0, none⟩), .pointer (some ⟨w.heap.size + 1, 0, none⟩)]) ∧ w' = (w.alloc (.cells #[.slice a1 n1 c1] 22)).alloc (.cells #[.slice a2 n2 c2] 46) := by
  go_enter Tryd.func10, Tryd.ntmps10
  go_wp2
  go_ret
  exact ⟨rfl, rfl⟩
end Go.Proofs.YtgefjmpnpebfoabDoor
namespace Go.Proofs.YtgefjmpnpebfoabDoor
open Go.RowKit Go.Shelf Go.Sort
attribute [local go_sem] Oper.semAt_some

/-- A list of texts in memory. -/
def txS (l : List ByteArray) (a : Option Addr) (W : World) : Prop := l = [] ∨ ∃ B o, a = some ⟨B, o, none⟩ ∧ B < W.heap.size ∧ ∀ (j : Nat) x, l[j]? = some x → W.cell? ⟨B, o + j, none⟩ = some (.string x)
theorem txS.below {l : List ByteArray} {a : Option Addr} {W W' : World} (h : txS l a W) (hb : Below W.heap.size W W') : txS l a W' := by
  rcases h with h | ⟨B, o, e, hB, hc⟩
  · exact .inl h
  · exact .inr ⟨B, o, e, Nat.lt_of_lt_of_le hB hb.size, fun j x hx => (hb.cell (p := ⟨B, o + j, none⟩) hB).trans (hc j x hx)⟩
/-- What is handed on: a point of the group, or none. -/
abbrev El : Type := {x : Option Pt // ∀ p, x = some p → grN p = true}
def eEnc (x : El) : Array Value := match x.val with
  | some p => #[vT p, .int .i64 0]
  | none => #[vT oP, .int .i64 100]
theorem fr_gr {s : ByteArray} (h : frB s = true) : grN (nmN s) = true := by
  unfold frB at h
  simp only [Bool.and_eq_true] at h
  exact h.1.2
def elN (b : Bool) (s : ByteArray) : El := if h : frB s = true ∧ ¬ (b = true ∧ nmN s = iN) then ⟨some (nmN s), fun p e => by cases e; exact fr_gr h.1⟩ else ⟨none, fun p e => by cases e⟩
theorem el_some {b : Bool} {s : ByteArray} (h1 : frB s = true) (h2 : ¬ (b = true ∧ nmN s = iN)) : eEnc (elN b s) = #[vT (nmN s), .int .i64 0] := by
  unfold elN
  rw [dif_pos ⟨h1, h2⟩]
  rfl
theorem el_none {b : Bool} {s : ByteArray} (h : ¬ (frB s = true ∧ ¬ (b = true ∧ nmN s = iN))) : eEnc (elN b s) = #[vT oP, .int .i64 100] := by
  unfold elN
  rw [dif_neg h]
  rfl
def elsT (b : Bool) (l : List ByteArray) : List El := l.map (elN b)
/-- What the going through stands on. -/
structure HdIn (bP bB : Nat) (b : Bool) (g : Nat) (l : List ByteArray) (a : Option Addr) (c : Nat) (W : World) : Prop where
  p : Bq bP 22 #[.slice a l.length c] W
  q : Bq bB 46 #[barV b g] W
  t : txS l a W
  g : BarIn b g W
  s : Ls W
theorem HdIn.below {bP bB : Nat} {b : Bool} {g : Nat} {l : List ByteArray} {a : Option Addr} {c : Nat} {W W' : World} (h : HdIn bP bB b g l a c W) (hb : Below W.heap.size W W') : HdIn bP bB b g l a c W' := ⟨h.p.below hb, h.q.below hb, h.t.below hb, h.g.below hb, h.s.below hb⟩
def HdK (bP bB : Nat) (b : Bool) (g : Nat) (l : List ByteArray) (a : Option Addr) (c : Nat) (W W' : World) : Prop := HdIn bP bB b g l a c W → HdIn bP bB b g l a c W'
theorem HdK.trans {bP bB : Nat} {b : Bool} {g : Nat} {l : List ByteArray} {a : Option Addr} {c : Nat} {W W' V : World} (h : HdK bP bB b g l a c W W') (k : HdK bP bB b g l a c W' V) : HdK bP bB b g l a c W V := fun x => k (h x)

set_option maxRecDepth 100000 in
set_option maxHeartbeats 4000000 in
theorem handOn1_in (n ly bP bB : Nat) (b : Bool) (g : Nat) (l : List ByteArray) (hl : l.length ≤ 1000) (a : Option Addr) (c : Nat) (J Jx : List El → World → Prop) (B : Nat) (hJ : AbidesFrom B J)
    (hY : ∀ m pre x W, J pre W → pre.length < l.length → YieldAt Fence.wide m Tryd.prog ly (eEnc x) W fun e W' =>
      (e = .returned (.bool true) ∧ J (pre ++ [x]) W' ∧ HdK bP bB b g l a c W W') ∨ (e = .returned (.bool false) ∧ Jx (pre ++ [x]) W'))
    (W : World) (hc : HdIn bP bB b g l a c W) (h0 : J [] W) :
    CallsIn Fence.wide n Tryd.prog 18 #[.func (.yield ly) #[] #[], .pointer (some ⟨bP, 0, none⟩), .pointer (some ⟨bB, 0, none⟩)] W fun e W' => (∃ v, e = .returned v) ∧
      (J (elsT b l) W' ∨ (∃ q, q ≤ l.length ∧ Jx ((elsT b l).take q) W')) := by
  have hc0 : W.cell? ⟨bP, 0, none⟩ = some (.slice a l.length c) := hc.p.cell 0
  refine callsIn_of_wp Tryd.func18 rfl trivial ?_ rfl
  simp only [Tryd.ntmps18, List.size_toArray, List.length_cons, List.length_nil, Nat.reduceAdd, Nat.reduceSub, Array.replicate_succ, Array.replicate_zero, List.push_toArray, List.append_toArray, List.nil_append, List.cons_append]
  gi_wp2_with fail
  obtain ⟨N, hN⟩ : ∃ N, l.length = N := ⟨_, rfl⟩
  have HN : Hid (l.length = N) := hN
  rw [hN] at hl ⊢
  gi_loopw [10] (fun i wr => ∃ k : Nat, k ≤ N ∧ i = .int .i64 (k : Int) ∧ J ((elsT b l).take k) wr ∧ HdIn bP bB b g l a c wr)
    (fun i _ => (N - (intOf i).toNat))
  case atStart => exact ⟨0, by omega, rfl, by rw [List.take_zero]; exact h0, hc⟩
  case round =>
    obtain ⟨k, hk, rfl, hJs, hkt⟩ := hrel
    clear hc0 hc h0
    by_cases hlk : k < N
    · have l0 : (k : Int) < N := by omega
      obtain ⟨s, hs⟩ : ∃ s, l[k]? = some s := ⟨l[k]'(by omega), by simp [hN, hlk]⟩
      have hne : l ≠ [] := fun e => by rw [e] at hs; cases hs
      obtain ⟨B0, o, rfl, hB0, hcs⟩ := hkt.t.resolve_left hne
      have hcell := hcs k s hs
      have htk : (elsT b l).take (k + 1) = (elsT b l).take k ++ [elN b s] := by
        rw [List.take_add_one]
        congr 1
        unfold elsT
        rw [List.getElem?_map, hs]
        rfl
      have hlen : ((elsT b l).take k).length < l.length := by
        rw [List.length_take]
        unfold elsT
        rw [List.length_map]
        omega
      have CF := from_any s
      obtain ⟨p, e, hV, hee⟩ : ∃ (p : Pt) (e : Int), frV s = .tuple #[vT p, .int .i64 e] ∧ eEnc (elN b s) = if (b && decide (p = iN)) = true then #[vT oP, .int .i64 100] else #[vT p, .int .i64 e] := by
        cases hf : frB s
        · refine ⟨oP, 100, by unfold frV; rw [hf]; rfl, ?_⟩
          rw [el_none (fun h => by rw [hf] at h; cases h.1)]
          split <;> rfl
        · refine ⟨nmN s, 0, by unfold frV; rw [hf]; rfl, ?_⟩
          by_cases hb : b = true ∧ nmN s = iN
          · rw [el_none (fun h => h.2 hb), hb.1, decide_eq_true hb.2]
            rfl
          · rw [el_some hf hb, if_neg (by simpa using fun h1 h2 => hb ⟨h1, h2⟩)]
      rw [hV] at CF
      have hLi := hkt.s.p.l
      have HH : Hid (_ ∧ _ ∧ _ ∧ _ ∧ _) := ⟨hJs, hkt, htk, hlen, hee⟩
      clear hJs hkt htk hlen hee hV hs hcs hne
      have hk1 : IntKind.i64.wrap ((k : Int) + 1) = ((k + 1 : Nat) : Int) := by rw [IntKind.wrap_i64]; omega
      gi_wp2_with fail
      refine ⟨trivial, fun h => (by cases h), (callsIn_wide.2 (CF _ hLi)).mono ?_⟩
      rintro e' W1 ⟨rfl, B1⟩
      obtain ⟨hJs, hkt, htk, hlen, hee⟩ := HH.out
      have K1 := hkt.below B1
      have hm := B1.size
      have AL : Below W1.heap.size W1 (W1.alloc (.cells #[.int .u64 (p.X : Int), .int .u64 (p.Y : Int), .bool p.I] 33)) := (Below.refl _ _).alloc (Nat.le_refl _) _
      have BW2 := belowStep B1 B1.size AL
      have K2 := K1.below AL
      have T2 : Tb W1.heap.size p (W1.alloc (.cells #[.int .u64 (p.X : Int), .int .u64 (p.Y : Int), .bool p.I] 33)) := Tb.new' W1 p 33 _ rfl
      have q0 : W1.cell? ⟨bB, 0, none⟩ = some (barV b g) := K1.q.cell 0
      have q1 := K1.q.lt
      have q2 : bB ≠ W1.heap.size := by omega
      have H2 : Hid (_ ∧ _ ∧ _) := ⟨BW2, K2, T2⟩
      clear hJs hkt htk hlen hee K1 AL BW2 K2 T2 B1 hcell hB0
      gi_wp2_with fail
      obtain ⟨BW2, K2, T2⟩ := H2.out
      refine ⟨trivial, fun h => (by cases h), (callsIn_wide.2 (contains_any b g p _ K2.g)).mono ?_⟩
      rintro e' W3 ⟨rfl, B3⟩
      have BW3 := belowStep BW2 BW2.size B3
      have K3 := K2.below B3
      have T3 := T2.below B3
      obtain ⟨hJs, hkt, htk, hlen, hee⟩ := HH.out
      obtain ⟨d, hd⟩ : ∃ d, (b && decide (p = iN)) = d := ⟨_, rfl⟩
      rw [hd] at hee ⊢
      clear hd H2 BW2 K2 T2 B3 HH q0 q1 q2
      have ⟨tz, t0, t1, t2, tf⟩ := T3
      cases d with
      | false =>
        rw [if_neg (by simp)] at hee
        have J3 := hJ _ _ _ none hJs (grown_of BW3) (fun r h => by cases h)
        obtain ⟨fn, tmps, assign, body, hyy, hR⟩ := hY (n - 1) _ (elN b s) W3 J3 hlen
        rw [hee] at hyy
        obtain ⟨pX, pY, pI⟩ := p
        simp only [vT] at hyy t0 t1 t2
        have HX : Hid (_ ∧ _) := ⟨K3, htk⟩
        clear hkt J3 K3 hee htk hlen BW3 hJs T3
        gi_wp2
        refine ⟨fun h => (by cases h), hR.mono ?_⟩
        rintro e' W5 (⟨rfl, hJ5, hk5⟩ | ⟨rfl, hJx5⟩)
        · gi_wp2
          go_roundw
          case rel => exact ⟨k + 1, by omega, rfl, by rw [HX.out.2]; exact hJ5, hk5 HX.out.1⟩
          case measure => simp [intOf]; omega
        · gi_wp2
          exact bodyPost_ret (v := .tuple #[]) (by simp [results, Tryd.results18, go_sem]) rfl ⟨⟨_, rfl⟩, .inr ⟨k + 1, by omega, by rw [HX.out.2]; exact hJx5⟩⟩
      | true =>
        rw [if_pos rfl] at hee
        have BW4 : Below wr.heap.size wr (Go.Proofs.YtgefjmpnpebfoabDoor.put3 W1.heap.size oP W3) := below_put3 BW3 hm oP
        have J4 := hJ _ _ _ none hJs (grown_of BW4) (fun r h => by cases h)
        have K4 : HdIn bP bB b g l (some ⟨B0, o, none⟩) c (Go.Proofs.YtgefjmpnpebfoabDoor.put3 W1.heap.size oP W3) := hkt.below BW4
        obtain ⟨fn, tmps, assign, body, hyy, hR⟩ := hY (n - 1) _ (elN b s) _ J4 hlen
        rw [hee] at hyy
        obtain ⟨pX, pY, pI⟩ := p
        simp only [vT, oP, Go.Proofs.YtgefjmpnpebfoabDoor.put3] at hyy t0 t1 t2
        rw [show ((0 : Nat) : Int) = 0 from rfl] at hyy
        have HX : Hid (_ ∧ _) := ⟨K4, htk⟩
        clear hkt J4 K4 K3 hee htk hlen BW3 BW4 hJs T3
        gi_wp2
        refine ⟨fun h => (by cases h), hR.mono ?_⟩
        rintro e' W5 (⟨rfl, hJ5, hk5⟩ | ⟨rfl, hJx5⟩)
        · gi_wp2
          go_roundw
          case rel => exact ⟨k + 1, by omega, rfl, by rw [HX.out.2]; exact hJ5, hk5 HX.out.1⟩
          case measure => simp [intOf]; omega
        · gi_wp2
          exact bodyPost_ret (v := .tuple #[]) (by simp [results, Tryd.results18, go_sem]) rfl ⟨⟨_, rfl⟩, .inr ⟨k + 1, by omega, by rw [HX.out.2]; exact hJx5⟩⟩
    · obtain rfl : k = N := by omega
      have l0 : ¬ (k : Int) < k := by omega
      have e2 : (elsT b l).take k = elsT b l := List.take_of_length_le (by unfold elsT; rw [List.length_map]; omega)
      rw [e2] at hJs
      gi_wp2
      go_end0
      exact ⟨⟨_, rfl⟩, .inl hJs⟩

theorem handOn_stops (n bP bB : Nat) (b : Bool) (g : Nat) (l : List ByteArray) (hl : l.length ≤ 1000) (a : Option Addr) (c : Nat) (w : World) (hc : HdIn bP bB b g l a c w) :
    SeqStopsK Fence.wide n Tryd.prog 18 #[.pointer (some ⟨bP, 0, none⟩), .pointer (some ⟨bB, 0, none⟩)] eEnc (HdK bP bB b g l a c) (fun ys => ys = elsT b l) (fun ys => ∃ q, q ≤ l.length ∧ ys = (elsT b l).take q) l.length w := fun ly J Jx W hW hJ _ hY h0 => by
  refine (handOn1_in n ly bP bB b g l hl a c J Jx W.heap.size hJ (fun m pre x W1 hj hl => yieldAny m (hY pre x W1 hj hl)) W (hc.below hW) h0).mono ?_
  rintro e W' ⟨he, hj | ⟨q, hq, hj⟩⟩
  · exact ⟨he, .inl ⟨_, rfl, hj⟩⟩
  · exact ⟨he, .inr ⟨_, ⟨q, hq, rfl⟩, hj⟩⟩
end Go.Proofs.YtgefjmpnpebfoabDoor
