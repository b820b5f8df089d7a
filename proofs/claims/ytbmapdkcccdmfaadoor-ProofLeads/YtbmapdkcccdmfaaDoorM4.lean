/- Lemmas: What joinRows does at this translation: for all lanes, whatever else lies in memory. What joinColumns does at this translation: for all lanes, whatever else lies in memory. What turnAndMove does at this translation: for all lanes, whatever else lies in memory, where the two tables are what the package lays. What mix does at this translation: all rounds, for all lanes, where the tables are what the package lays. What laneOf does at this translation: for all texts of at most eight bytes. What takeIn does at this translation: for all texts. -/
import Derived.Test.YtbmapdkcccdmfaaDoorM1
import Derived.Test.YtbmapdkcccdmfaaDoorM2
import Derived.Test.YtbmapdkcccdmfaaDoorM3
import Derived.Test.YtbmapdkcccdmfaaDoorRows
namespace Go.Proofs.YtbmapdkcccdmfaaDoor
open Go.RowKit Go.Sort

abbrev xr (a b : Int) : Int := bits .xor .u64 a b
abbrev an (a b : Int) : Int := bits .and .u64 a b
abbrev nt (a : Int) : Int := bits .xor .u64 18446744073709551615 a

def rowsOf (g : Nat → Int) (j : Nat) : Int := xr (g j) (an (nt (g (j / 5 * 5 + (j + 1) % 5))) (g (j / 5 * 5 + (j + 2) % 5)))

theorem rows_at (g : Nat → Int) (y r : Nat) (hr : r < 5) : rowsOf g (5 * y + r) = xr (g (5 * y + r)) (an (nt (g (5 * y + (r + 1) % 5))) (g (5 * y + (r + 2) % 5))) := by
 unfold rowsOf
 rw [show (5 * y + r) / 5 * 5 = 5 * y by omega, show (5 * y + r + 1) % 5 = (r + 1) % 5 by omega, show (5 * y + r + 2) % 5 = (r + 2) % 5 by omega]
theorem Fw.but {n N s : Nat} {g : Nat → Value} {W W' : World} (k : Fw n N g W) (hg : W.grownBy W' (some s)) (hn : n ≠ s) : Fw n N g W' :=
 ⟨Nat.lt_of_lt_of_le k.z hg.size, fun j hj => hg.cell (k.c j hj) (fun e => hn (Option.some.inj e)), fun o => by rw [World.frozen?_of_block (hg.block n k.z (fun e => hn (Option.some.inj e)))]; exact k.f o⟩
theorem but_set {s i : Nat} {w W : World} (h : w.grownBy W (some s)) (v : Value) : w.grownBy (W.setCell ⟨s, i, none⟩ v) (some s) := by
 have hb : Below s W (W.setCell ⟨s, i, none⟩ v) := (Below.refl s W).setCell (p := ⟨s, i, none⟩) (Nat.le_refl _) v
 refine ⟨hb.os.trans h.os, hb.tape.trans h.tape, hb.output.trans h.output, Nat.le_trans h.size hb.size, fun k hk hne => ?_⟩
 rw [Below.heap_setCell W ⟨s, i, none⟩ v k (fun e => hne (by rw [e]))]
 exact h.block k hk hne
theorem but_below {s : Nat} {w W W' : World} (h : w.grownBy W (some s)) (hb : Below W.heap.size W W') : w.grownBy W' (some s) :=
 ⟨hb.os.trans h.os, hb.tape.trans h.tape, hb.output.trans h.output, Nat.le_trans h.size hb.size, fun k hk hne => (hb.block k (Nat.lt_of_lt_of_le hk h.size)).trans (h.block k hk hne)⟩
theorem but_refl (s : Nat) (w : World) : w.grownBy w (some s) := ⟨rfl, rfl, rfl, Nat.le_refl _, fun _ _ _ => rfl⟩

set_option maxRecDepth 20000 in
set_option maxHeartbeats 4000000 in
theorem joinRows_any (s b : Nat) (f g : Nat → Int) (w : World) (hs : Fw s 25 (fun j => .int .u64 (f j)) w) (hb : Fw b 25 (fun j => .int .u64 (g j)) w) (hne : s ≠ b) :
  Calls Tryd.prog 85 #[.pointer (some ⟨s, 0, none⟩), .pointer (some ⟨b, 0, none⟩)] w fun e w' =>
   e = .returned (.tuple #[]) ∧ Fw s 25 (fun j => .int .u64 (rowsOf g j)) w' ∧ w.grownBy w' (some s) := by
 have km : IntKind.u64.max = 18446744073709551615 := by decide
 have ks : IntKind.u64.signed = false := rfl
 go_enter Tryd.func85, Tryd.ntmps85
 go_wp2
 go_loopg [11] 5 (fun gk i wr => ∃ y : Nat, ∃ h : Nat → Int, y + gk = 5 ∧ i = .int .i64 y ∧ w.grownBy wr (some s) ∧ Fw s 25 (fun j => .int .u64 (h j)) wr ∧ Fw b 25 (fun j => .int .u64 (g j)) wr ∧ Hid (∀ j, j < 25 → h j = if j < 5 * y then rowsOf g j else f j))
 case atStart => exact ⟨0, f, rfl, rfl, but_refl s w, hs, hb, fun j _ => by rw [if_neg (by omega)]⟩
 case round =>
  obtain ⟨y, h, hy, rfl, BW, CS, CB, hH⟩ := hrel
  by_cases hlt : y < 5
  ·obtain ⟨p, hp⟩ : ∃ p : Nat, 5 * y = p := ⟨_, rfl⟩
   obtain ⟨p1, hp1⟩ : ∃ q : Nat, p + 1 = q := ⟨_, rfl⟩
   obtain ⟨p2, hp2⟩ : ∃ q : Nat, p + 2 = q := ⟨_, rfl⟩
   obtain ⟨p3, hp3⟩ : ∃ q : Nat, p + 3 = q := ⟨_, rfl⟩
   obtain ⟨p4, hp4⟩ : ∃ q : Nat, p + 4 = q := ⟨_, rfl⟩
   have w0 : IntKind.i64.wrap ((y : Int) * 5) = p := by rw [IntKind.wrap_i64]; omega
   have w0' : IntKind.i64.wrap ((p : Nat) : Int) = p := by rw [IntKind.wrap_i64]; omega
   have w1 : IntKind.i64.wrap ((p : Int) + 1) = p1 := by rw [IntKind.wrap_i64]; omega
   have w2 : IntKind.i64.wrap ((p : Int) + 2) = p2 := by rw [IntKind.wrap_i64]; omega
   have w3 : IntKind.i64.wrap ((p : Int) + 3) = p3 := by rw [IntKind.wrap_i64]; omega
   have w4 : IntKind.i64.wrap ((p : Int) + 4) = p4 := by rw [IntKind.wrap_i64]; omega
   have l0 : (p : Int) < 25 := by omega
   have l1 : (p1 : Int) < 25 := by omega
   have l2 : (p2 : Int) < 25 := by omega
   have l3 : (p3 : Int) < 25 := by omega
   have l4 : (p4 : Int) < 25 := by omega
   have m0 := CB.c p (by omega)
   have m1 := CB.c p1 (by omega)
   have m2 := CB.c p2 (by omega)
   have m3 := CB.c p3 (by omega)
   have m4 := CB.c p4 (by omega)
   obtain ⟨b0, hb0⟩ : ∃ x, g p = x := ⟨_, rfl⟩
   obtain ⟨b1, hb1⟩ : ∃ x, g p1 = x := ⟨_, rfl⟩
   obtain ⟨b2, hb2⟩ : ∃ x, g p2 = x := ⟨_, rfl⟩
   obtain ⟨b3, hb3⟩ : ∃ x, g p3 = x := ⟨_, rfl⟩
   obtain ⟨b4, hb4⟩ : ∃ x, g p4 = x := ⟨_, rfl⟩
   rw [hb0] at m0
   rw [hb1] at m1
   rw [hb2] at m2
   rw [hb3] at m3
   rw [hb4] at m4
   have HG : Hid (_ ∧ _ ∧ _ ∧ _ ∧ _) := ⟨hb0, hb1, hb2, hb3, hb4⟩
   clear hb0 hb1 hb2 hb3 hb4
   go_wp2
   have k0 := cell_regrown m0
   have k1 := cell_regrown m1
   have k2 := cell_regrown m2
   have k3 := cell_regrown m3
   have k4 := cell_regrown m4
   refine wp_region_quiet_below (by kernel_rfl) (by kernel_rfl) ?_
   iterate 34 (quiet_step (fail))
   refine wpQuiet_nil ?_
   intro w8 hw8
   have hb8 : Below wr.heap.size wr w8 := by
    obtain ⟨p, rfl⟩ := hw8
    exact below_regrown _ _ _
   have S8 := CS.below hb8
   have B8 := CB.below hb8
   have G8 := but_below BW hb8
   clear hw8 hb8 k0 k1 k2 k3 k4 CS CB BW m0 m1 m2 m3 m4
   have n0 := S8.c p (by omega)
   have n1 := S8.c p1 (by omega)
   have n2 := S8.c p2 (by omega)
   have n3 := S8.c p3 (by omega)
   have n4 := S8.c p4 (by omega)
   have sf := S8.f
   have sz := S8.z
   go_wp2
   go_roundg (gk - 1)
   case measure => omega
   case rel =>
    have F1 := S8.put p (by omega) (.int .u64 (xr b0 (an (nt b1) b2))) (h := fun j => .int .u64 (if j = p then xr b0 (an (nt b1) b2) else h j)) (fun j _ => by by_cases e : j = p <;> simp [e])
    have F2 := F1.put p1 (by omega) (.int .u64 (xr b1 (an (nt b2) b3))) (h := fun j => .int .u64 (if j = p1 then xr b1 (an (nt b2) b3) else if j = p then xr b0 (an (nt b1) b2) else h j)) (fun j _ => by by_cases e : j = p1 <;> simp [e])
    have F3 := F2.put p2 (by omega) (.int .u64 (xr b2 (an (nt b3) b4))) (h := fun j => .int .u64 (if j = p2 then xr b2 (an (nt b3) b4) else if j = p1 then xr b1 (an (nt b2) b3) else if j = p then xr b0 (an (nt b1) b2) else h j)) (fun j _ => by by_cases e : j = p2 <;> simp [e])
    have F4 := F3.put p3 (by omega) (.int .u64 (xr b3 (an (nt b4) b0))) (h := fun j => .int .u64 (if j = p3 then xr b3 (an (nt b4) b0) else if j = p2 then xr b2 (an (nt b3) b4) else if j = p1 then xr b1 (an (nt b2) b3) else if j = p then xr b0 (an (nt b1) b2) else h j)) (fun j _ => by by_cases e : j = p3 <;> simp [e])
    have F5 := F4.put p4 (by omega) (.int .u64 (xr b4 (an (nt b0) b1))) (h := fun j => .int .u64 (if j = p4 then xr b4 (an (nt b0) b1) else if j = p3 then xr b3 (an (nt b4) b0) else if j = p2 then xr b2 (an (nt b3) b4) else if j = p1 then xr b1 (an (nt b2) b3) else if j = p then xr b0 (an (nt b1) b2) else h j)) (fun j _ => by by_cases e : j = p4 <;> simp [e])
    obtain ⟨g0, g1, g2, g3, g4⟩ := HG.out
    have q0 := rows_at g y 0 (by decide)
    have q1 := rows_at g y 1 (by decide)
    have q2 := rows_at g y 2 (by decide)
    have q3 := rows_at g y 3 (by decide)
    have q4 := rows_at g y 4 (by decide)
    simp only [Nat.add_zero, Nat.reduceAdd, Nat.reduceMod, hp, hp1, hp2, hp3, hp4, g0, g1, g2, g3, g4] at q0 q1 q2 q3 q4
    refine ⟨y + 1, fun j => if j = p4 then xr b4 (an (nt b0) b1) else if j = p3 then xr b3 (an (nt b4) b0) else if j = p2 then xr b2 (an (nt b3) b4) else if j = p1 then xr b1 (an (nt b2) b3) else if j = p then xr b0 (an (nt b1) b2) else h j, by omega, rfl, but_set (but_set (but_set (but_set (but_set G8 _) _) _) _) _, F5, ((((B8.setCell _ (fun e => hne e) _).setCell _ (fun e => hne e) _).setCell _ (fun e => hne e) _).setCell _ (fun e => hne e) _).setCell _ (fun e => hne e) _, ?_⟩
    intro j hj
    have hJ := hH.out j hj
    show (if j = p4 then xr b4 (an (nt b0) b1) else if j = p3 then xr b3 (an (nt b4) b0) else if j = p2 then xr b2 (an (nt b3) b4) else if j = p1 then xr b1 (an (nt b2) b3) else if j = p then xr b0 (an (nt b1) b2) else h j) = _
    by_cases e4 : j = p4
    ·rw [if_pos e4, if_pos (by omega), e4, q4]
    rw [if_neg e4]
    by_cases e3 : j = p3
    ·rw [if_pos e3, if_pos (by omega), e3, q3]
    rw [if_neg e3]
    by_cases e2 : j = p2
    ·rw [if_pos e2, if_pos (by omega), e2, q2]
    rw [if_neg e2]
    by_cases e1 : j = p1
    ·rw [if_pos e1, if_pos (by omega), e1, q1]
    rw [if_neg e1]
    by_cases e0 : j = p
    ·rw [if_pos e0, if_pos (by omega), e0, q0]
    rw [if_neg e0, hJ]
    by_cases h1 : j < 5 * y
    ·rw [if_pos h1, if_pos (by omega)]
    ·rw [if_neg h1, if_neg (by omega)]
  ·have hy5 : y = 5 := by omega
   subst hy5
   clear hlt
   go_wp2
   go_end0
   exact ⟨rfl, (CS.ext (fun j hj => by show Value.int .u64 _ = .int .u64 _; rw [hH.out j hj, if_pos (by omega)])), BW⟩
end Go.Proofs.YtbmapdkcccdmfaaDoor
namespace Go.Proofs.YtbmapdkcccdmfaaDoor
open Go.RowKit Go.Sort

def rot (x : Int) (k : Nat) : Int := bits .or .u64 (IntKind.u64.wrap (x * 2 ^ k)) (x / 2 ^ (64 - k))

theorem and_63 (k : Nat) (hk : k < 64) : bits .and .u64 (k : Int) 63 = k := by
 have e : ∀ j : Fin 64, bits .and .u64 ((j.val : Nat) : Int) 63 = (j.val : Nat) := by decide +kernel
 exact e ⟨k, hk⟩

set_option maxRecDepth 20000 in
set_option maxHeartbeats 4000000 in
theorem rot_any (x : Int) (k : Nat) (hk : k < 64) (w : World) :
  Calls Tryd.prog 96 #[.int .u64 x, .int .i64 k] w fun e w' =>
   e = .returned (.int .u64 (rot x k)) ∧ Below w.heap.size w w' := by
 have km : IntKind.u64.max = 18446744073709551615 := by decide
 have ks : IntKind.u64.signed = false := rfl
 have w1 : IntKind.u64.wrap (k : Int) = k := by rw [IntKind.wrap_u64]; omega
 have ha := and_63 k hk
 have hz : 0 ≤ (k : Int) := by omega
 obtain ⟨m, hm⟩ : ∃ m : Nat, 64 - k = m := ⟨_, rfl⟩
 have w2 : IntKind.u64.wrap (64 - (k : Int)) = m := by rw [IntKind.wrap_u64]; omega
 have w2' : IntKind.u64.wrap (m : Int) = m := by rw [IntKind.wrap_u64]; omega
 have l1 : (k : Int) ≤ 64 := by omega
 have l2 : (m : Int) ≤ 64 := by omega
 have hz2 : 0 ≤ (m : Int) := by omega
 go_enter Tryd.func96, Tryd.ntmps96
 go_wp2
 go_ret
 exact ⟨by rw [rot, hm]; rfl, Below.refl _ _⟩

theorem Fw.lit {W : World} {n N : Nat} {g : Nat → Value} (cs : Array Value) (t : TypeId) (hn : W.heap.size = n) (h : cs = (fl N g).toArray) : Fw n N g (W.alloc (.cells cs t)) := by
 subst hn h
 exact Fw.new W N g t
theorem below_but {s n : Nat} {w W : World} (h : Below n w W) (hn : n = w.heap.size) : w.grownBy W (some s) := by
 subst hn
 exact ⟨h.os, h.tape, h.output, h.size, fun k hk _ => h.block k hk⟩

def colOf (g : Nat → Int) (x : Nat) : Int := xr (xr (xr (xr (g x) (g (x + 5))) (g (x + 10))) (g (x + 15))) (g (x + 20))
def byOf (g : Nat → Int) (x : Nat) : Int := xr (colOf g ((x + 4) % 5)) (rot (colOf g ((x + 1) % 5)) 1)
def colsOf (g : Nat → Int) (j : Nat) : Int := xr (g j) (byOf g (j % 5))

set_option maxRecDepth 20000 in
set_option maxHeartbeats 4000000 in
theorem joinColumns_any (s : Nat) (f : Nat → Int) (w : World) (hs : Fw s 25 (fun j => .int .u64 (f j)) w) :
  Calls Tryd.prog 83 #[.pointer (some ⟨s, 0, none⟩)] w fun e w' =>
   e = .returned (.tuple #[]) ∧ Fw s 25 (fun j => .int .u64 (colsOf f j)) w' ∧ w.grownBy w' (some s) := by
 have km : IntKind.u64.max = 18446744073709551615 := by decide
 have ks : IntKind.u64.signed = false := rfl
 go_enter Tryd.func83, Tryd.ntmps83
 go_wp2
 have hsc : s ≠ w.heap.size := Nat.ne_of_lt hs.z
 refine wpOf (fun W => Below w.heap.size w W ∧ Fw w.heap.size 5 (fun _ => .int .u64 0) W ∧ Fw s 25 (fun j => .int .u64 (f j)) W) ⟨(Below.refl _ w).alloc (Nat.le_refl _) _, Fw.lit _ _ rfl rfl, hs.alloc _⟩ ?_
 rintro V ⟨BV, CV, SV⟩
 obtain ⟨c, hc⟩ : ∃ c, w.heap.size = c := ⟨_, rfl⟩
 have HC : Hid (w.heap.size = c) := hc
 rw [hc] at hsc BV CV ⊢
 clear hc
 go_loopg [7] 5 (fun gk i wr => ∃ x : Nat, ∃ h : Nat → Int, x + gk = 5 ∧ i = .int .i64 x ∧ Below c w wr ∧ Fw c 5 (fun j => .int .u64 (h j)) wr ∧ Fw s 25 (fun j => .int .u64 (f j)) wr ∧ Hid (∀ j, j < 5 → h j = if j < x then colOf f j else 0))
 case atStart => exact ⟨0, fun _ => 0, rfl, rfl, BV, CV, SV, fun j _ => by rw [if_neg (by omega)]⟩
 case round =>
  obtain ⟨x, h, hx, rfl, BW, CC, CS, hH⟩ := hrel
  clear BV CV SV hs
  by_cases hlt : x < 5
  ·obtain ⟨p1, hp1⟩ : ∃ q : Nat, x + 5 = q := ⟨_, rfl⟩
   obtain ⟨p2, hp2⟩ : ∃ q : Nat, x + 10 = q := ⟨_, rfl⟩
   obtain ⟨p3, hp3⟩ : ∃ q : Nat, x + 15 = q := ⟨_, rfl⟩
   obtain ⟨p4, hp4⟩ : ∃ q : Nat, x + 20 = q := ⟨_, rfl⟩
   have w1 : IntKind.i64.wrap ((x : Int) + 5) = p1 := by rw [IntKind.wrap_i64]; omega
   have w2 : IntKind.i64.wrap ((x : Int) + 10) = p2 := by rw [IntKind.wrap_i64]; omega
   have w3 : IntKind.i64.wrap ((x : Int) + 15) = p3 := by rw [IntKind.wrap_i64]; omega
   have w4 : IntKind.i64.wrap ((x : Int) + 20) = p4 := by rw [IntKind.wrap_i64]; omega
   have l0 : (x : Int) < 25 := by omega
   have l0' : (x : Int) < 5 := by omega
   have l1 : (p1 : Int) < 25 := by omega
   have l2 : (p2 : Int) < 25 := by omega
   have l3 : (p3 : Int) < 25 := by omega
   have l4 : (p4 : Int) < 25 := by omega
   have m0 := CS.c x (by omega)
   have m1 := CS.c p1 (by omega)
   have m2 := CS.c p2 (by omega)
   have m3 := CS.c p3 (by omega)
   have m4 := CS.c p4 (by omega)
   obtain ⟨b0, hb0⟩ : ∃ x', f x = x' := ⟨_, rfl⟩
   obtain ⟨b1, hb1⟩ : ∃ x', f p1 = x' := ⟨_, rfl⟩
   obtain ⟨b2, hb2⟩ : ∃ x', f p2 = x' := ⟨_, rfl⟩
   obtain ⟨b3, hb3⟩ : ∃ x', f p3 = x' := ⟨_, rfl⟩
   obtain ⟨b4, hb4⟩ : ∃ x', f p4 = x' := ⟨_, rfl⟩
   rw [hb0] at m0
   rw [hb1] at m1
   rw [hb2] at m2
   rw [hb3] at m3
   rw [hb4] at m4
   have HG : Hid (colOf f x = xr (xr (xr (xr b0 b1) b2) b3) b4) := by
    show _ = _
    rw [colOf, hp1, hp2, hp3, hp4, hb0, hb1, hb2, hb3, hb4]
   clear hb0 hb1 hb2 hb3 hb4
   go_wp2
   have k0 := cell_regrown m0
   have k1 := cell_regrown m1
   have k2 := cell_regrown m2
   have k3 := cell_regrown m3
   have k4 := cell_regrown m4
   refine region_tail 34 (by kernel_rfl) (by kernel_rfl) ?_
   simp only [List.take_succ_cons, List.take_zero, List.drop_succ_cons, List.drop_zero]
   iterate 34 (quiet_step (fail))
   refine wpQuiet_nil ?_
   intro w8 hw8
   have hb8 : Below wr.heap.size wr w8 := by
    obtain ⟨p, rfl⟩ := hw8
    exact below_regrown _ _ _
   have S8 := CS.below hb8
   have C8 := CC.below hb8
   have G8 := belowStep BW (by rw [← HC.out] at BW ⊢; exact BW.size) hb8
   clear hw8 hb8 k0 k1 k2 k3 k4 CS CC BW m0 m1 m2 m3 m4
   have n0 := C8.c x (by omega)
   have sf := C8.f
   have sz := C8.z
   go_wp2
   go_roundg (gk - 1)
   case measure => omega
   case rel =>
    refine ⟨x + 1, fun j => if j = x then xr (xr (xr (xr b0 b1) b2) b3) b4 else h j, by omega, rfl, G8.setCell (p := ⟨c, x, none⟩) (Nat.le_refl _) _, C8.put x hlt _ (fun j _ => by by_cases e : j = x <;> simp [e]), S8.setCell _ (fun e => hsc e.symm) _, ?_⟩
    intro j hj
    have hJ := hH.out j hj
    show (if j = x then xr (xr (xr (xr b0 b1) b2) b3) b4 else h j) = _
    by_cases e0 : j = x
    ·rw [if_pos e0, if_pos (by omega), e0, HG.out]
    rw [if_neg e0, hJ]
    by_cases h1 : j < x
    ·rw [if_pos h1, if_pos (by omega)]
    ·rw [if_neg h1, if_neg (by omega)]
  ·have hx5 : x = 5 := by omega
   subst hx5
   clear hlt
   have CK : Fw c 5 (fun j => .int .u64 (colOf f j)) wr := CC.ext (fun j hj => by show Value.int .u64 _ = .int .u64 _; rw [hH.out j hj, if_pos (by omega)])
   have GK : w.grownBy wr (some s) := below_but BW HC.out.symm
   clear CC BW hH
   have FC : Hid (∀ (w : World) (x : Int), Calls Tryd.prog 96 #[.int .u64 x, .int .i64 1] w fun e w' => e = .returned (.int .u64 (rot x 1)) ∧ Below w.heap.size w w') := fun w x => rot_any x 1 (by decide) w
   go_wp2
   go_loopg [46] 5 (fun gk i wr => ∃ x : Nat, ∃ h : Nat → Int, x + gk = 5 ∧ i = .int .i64 x ∧ w.grownBy wr (some s) ∧ Fw s 25 (fun j => .int .u64 (h j)) wr ∧ Fw c 5 (fun j => .int .u64 (colOf f j)) wr ∧ Hid (∀ j, j < 25 → h j = if j % 5 < x then colsOf f j else f j))
   case atStart => exact ⟨0, f, rfl, rfl, GK, CS, CK, fun j _ => by rw [if_neg (by omega)]⟩
   case round =>
    clear GK CS CK
    obtain ⟨x, h, hx, rfl, BW, CS, CC, hH⟩ := hrel
    by_cases hlt : x < 5
    ·obtain ⟨x5, hx5⟩ : ∃ q : Nat, x + 5 = q := ⟨_, rfl⟩
     obtain ⟨x4, hx4⟩ : ∃ q : Nat, x + 4 = q := ⟨_, rfl⟩
     obtain ⟨x1, hx1⟩ : ∃ q : Nat, x + 1 = q := ⟨_, rfl⟩
     obtain ⟨r4, hr4⟩ : ∃ q : Nat, x4 % 5 = q := ⟨_, rfl⟩
     obtain ⟨r1, hr1⟩ : ∃ q : Nat, x1 % 5 = q := ⟨_, rfl⟩
     have w1 : IntKind.i64.wrap ((x : Int) + 5) = x5 := by rw [IntKind.wrap_i64]; omega
     have w2 : IntKind.i64.wrap ((x5 : Int) - 1) = x4 := by rw [IntKind.wrap_i64]; omega
     have w3 : IntKind.i64.wrap ((x : Int) + 1) = x1 := by rw [IntKind.wrap_i64]; omega
     have w4 : (x4 : Int).tmod 5 = r4 := by rw [Int.tmod_eq_emod_of_nonneg (by omega)]; omega
     have w5 : (x1 : Int).tmod 5 = r1 := by rw [Int.tmod_eq_emod_of_nonneg (by omega)]; omega
     have w4' : IntKind.i64.wrap (r4 : Int) = r4 := by rw [IntKind.wrap_i64]; omega
     have w5' : IntKind.i64.wrap (r1 : Int) = r1 := by rw [IntKind.wrap_i64]; omega
     have l0 : (x : Int) < 5 := by omega
     have l1 : (r4 : Int) < 5 := by omega
     have l2 : (r1 : Int) < 5 := by omega
     have m4 := CC.c r4 (by omega)
     have m1 := CC.c r1 (by omega)
     have HB : Hid (byOf f x = xr (colOf f r4) (rot (colOf f r1) 1)) := by
      show _ = _
      rw [byOf, hx4, hx1, hr4, hr1]
     obtain ⟨c4, hc4⟩ : ∃ q, colOf f r4 = q := ⟨_, rfl⟩
     obtain ⟨c1, hc1⟩ : ∃ q, colOf f r1 = q := ⟨_, rfl⟩
     obtain ⟨c2, hc2⟩ : ∃ q, rot c1 1 = q := ⟨_, rfl⟩
     rw [hc4] at m4
     rw [hc1] at m1
     rw [hc4, hc1, hc2] at HB
     have KR : Hid (∀ w : World, _) := fun w => FC.out w c1
     rw [hc2] at KR
     clear hc4 hc1 hc2 hr4 hr1 hx4 hx5
     go_wp2
     have k4 := cell_regrown m4
     have k1 := cell_regrown m1
     have cR := inClass (w := wr) KR.out
     refine wp_region_quiet_below (by kernel_rfl) (by kernel_rfl) ?_
     iterate 11 (quiet_step (fail))
     quiet_step (exact cR _ _)
     iterate 2 (quiet_step (fail))
     refine wpQuiet_nil ?_
     intro w8 hw8
     have hb8 : Below wr.heap.size wr w8 := by
      obtain ⟨p, rfl⟩ := hw8
      exact below_regrown _ _ _
     have S8 := CS.below hb8
     have C8 := CC.below hb8
     have G8 := but_below BW hb8
     clear hw8 hb8 k4 k1 cR KR CS CC BW m4 m1
     obtain ⟨d, hd⟩ : ∃ q, bits BinOp.xor IntKind.u64 c4 c2 = q := ⟨_, rfl⟩
     have HD : Hid (byOf f x = d) := by rw [← hd]; exact HB.out
     rw [hd]
     clear hd HB
     go_wp2
     go_loopg [62] 5 (fun gm i wr => ∃ r : Nat, ∃ h : Nat → Int, r + gm = 5 ∧ i = .int .i64 r ∧ w.grownBy wr (some s) ∧ Fw s 25 (fun j => .int .u64 (h j)) wr ∧ Fw c 5 (fun j => .int .u64 (colOf f j)) wr ∧ Hid (∀ j, j < 25 → h j = if j % 5 < x ∨ j % 5 = x ∧ j / 5 < r then colsOf f j else f j))
     case atStart =>
      refine ⟨0, h, rfl, rfl, G8, S8, C8, fun j hj => ?_⟩
      rw [hH.out j hj]
      by_cases e : j % 5 < x
      ·rw [if_pos e, if_pos (Or.inl e)]
      ·rw [if_neg e, if_neg (by omega)]
     case round =>
      clear G8 S8 C8 hH h
      obtain ⟨r, h, hr, rfl, BW, CS, CC, hH⟩ := hrel
      by_cases hlr : r < 5
      ·obtain ⟨q, hq⟩ : ∃ q : Nat, 5 * r = q := ⟨_, rfl⟩
       obtain ⟨p, hp⟩ : ∃ p : Nat, x + q = p := ⟨_, rfl⟩
       have u1 : IntKind.i64.wrap ((r : Int) * 5) = q := by rw [IntKind.wrap_i64]; omega
       have u2 : IntKind.i64.wrap ((x : Int) + q) = p := by rw [IntKind.wrap_i64]; omega
       have l3 : (p : Int) < 25 := by omega
       have l4 : (r : Int) < 5 := by omega
       have m0 := CS.c p (by omega)
       obtain ⟨v, hv⟩ : ∃ v, h p = v := ⟨_, rfl⟩
       rw [hv] at m0
       have HV : Hid (f p = v) := by
        show _ = _
        rw [← hv, hH.out p (by omega), if_neg (by omega)]
       clear hv
       go_wp2
       have k0 := cell_regrown m0
       refine region_tail 11 (by kernel_rfl) (by kernel_rfl) ?_
       simp only [List.take_succ_cons, List.take_zero, List.drop_succ_cons, List.drop_zero]
       iterate 11 (quiet_step (fail))
       refine wpQuiet_nil ?_
       intro w8 hw8
       have hb8 : Below wr.heap.size wr w8 := by
        obtain ⟨p, rfl⟩ := hw8
        exact below_regrown _ _ _
       have S8 := CS.below hb8
       have C8 := CC.below hb8
       have G8 := but_below BW hb8
       clear hw8 hb8 k0 CS CC BW m0
       have n0 := S8.c p (by omega)
       have sf := S8.f
       have sz := S8.z
       go_wp2
       go_roundg (gk - 1)
       case measure => omega
       case rel =>
        refine ⟨r + 1, fun j => if j = p then xr v d else h j, by omega, rfl, but_set G8 _, S8.put p (by omega) _ (fun j _ => by by_cases e : j = p <;> simp [e]), C8.setCell _ (fun e => hsc e) _, ?_⟩
        intro j hj
        have hJ := hH.out j hj
        show (if j = p then xr v d else h j) = _
        by_cases e0 : j = p
        ·rw [if_pos e0, if_pos (by omega), e0, colsOf, HV.out, show p % 5 = x by omega, HD.out]
        rw [if_neg e0, hJ]
        by_cases h1 : j % 5 < x ∨ j % 5 = x ∧ j / 5 < r
        ·rw [if_pos h1, if_pos (by omega)]
        ·rw [if_neg h1, if_neg (by omega)]
      ·have hr5 : r = 5 := by omega
       subst hr5
       clear hlr
       go_wp2
       go_roundg (5 - x1)
       case measure => omega
       case rel =>
        refine ⟨x1, h, by omega, rfl, BW, CS, CC, ?_⟩
        intro j hj
        rw [hH.out j hj]
        by_cases h1 : j % 5 < x1
        ·rw [if_pos h1, if_pos (by omega)]
        ·rw [if_neg h1, if_neg (by omega)]
    ·have hx5 : x = 5 := by omega
     subst hx5
     clear hlt
     go_wp2
     go_end0
     exact ⟨rfl, (CS.ext (fun j hj => by show Value.int .u64 _ = .int .u64 _; rw [hH.out j hj, if_pos (by omega)])), BW⟩
end Go.Proofs.YtbmapdkcccdmfaaDoor
namespace Go.Proofs.YtbmapdkcccdmfaaDoor
open Go.RowKit Go.Sort

def tn (j : Nat) : Nat := [0, 1, 62, 28, 27, 36, 44, 6, 55, 20, 3, 10, 43, 25, 39, 41, 45, 15, 21, 8, 18, 2, 61, 56, 14].getD j 0
def pl (j : Nat) : Nat := [0, 10, 20, 5, 15, 16, 1, 11, 21, 6, 7, 17, 2, 12, 22, 23, 8, 18, 3, 13, 14, 24, 9, 19, 4].getD j 0
def fr (j : Nat) : Nat := [0, 6, 12, 18, 24, 3, 9, 10, 16, 22, 1, 7, 13, 19, 20, 4, 5, 11, 17, 23, 2, 8, 14, 15, 21].getD j 0
theorem tn_bd (j : Nat) (h : j < 25) : tn j < 64 := (by decide : ∀ j : Fin 25, tn j.val < 64) ⟨j, h⟩
theorem pl_bd (j : Nat) (h : j < 25) : pl j < 25 := (by decide : ∀ j : Fin 25, pl j.val < 25) ⟨j, h⟩
theorem fr_bd (j : Nat) (h : j < 25) : fr j < 25 := (by decide : ∀ j : Fin 25, fr j.val < 25) ⟨j, h⟩
theorem fr_pl (j : Nat) (h : j < 25) : fr (pl j) = j := (by decide : ∀ j : Fin 25, fr (pl j.val) = j.val) ⟨j, h⟩
theorem pl_fr (j : Nat) (h : j < 25) : pl (fr j) = j := (by decide : ∀ j : Fin 25, pl (fr j.val) = j.val) ⟨j, h⟩

structure Tabs (w : World) : Prop where
 t : Fw 1 25 (fun j => .int .i64 (tn j)) w
 p : Fw 2 25 (fun j => .int .i64 (pl j)) w

def movedOf (g : Nat → Int) (j : Nat) : Int := rot (g (fr j)) (tn (fr j))

theorem size_kst : (Tryd.prog.info? 66).map (·.size) = some 25 := by kernel_rfl

set_option maxRecDepth 20000 in
set_option maxHeartbeats 4000000 in
theorem turnAndMove_any (s : Nat) (f : Nat → Int) (w : World) (hs : Fw s 25 (fun j => .int .u64 (f j)) w) (ht : Tabs w) :
  Calls Tryd.prog 84 #[.pointer (some ⟨s, 0, none⟩)] w fun e w' =>
   e = .returned (.agg (fl 25 fun j => .int .u64 (movedOf f j)).toArray) ∧ Below w.heap.size w w' := by
 have km : IntKind.u64.max = 18446744073709551615 := by decide
 have ks : IntKind.u64.signed = false := rfl
 have FC : Hid (∀ (w : World) (x : Int) (k : Nat), k < 64 → Calls Tryd.prog 96 #[.int .u64 x, .int .i64 k] w fun e w' => e = .returned (.int .u64 (rot x k)) ∧ Below w.heap.size w w') := fun w x k h => rot_any x k h w
 go_enter Tryd.func84, Tryd.ntmps84
 go_wp2
 have hs2 : s ≠ w.heap.size + 1 := by have := hs.z; omega
 have h12 : 1 < w.heap.size + 1 := by have := ht.t.z; omega
 have h22 : 2 < w.heap.size + 1 := by have := ht.p.z; omega
 refine wpOf (fun W => Below w.heap.size w W ∧ Fw w.heap.size 25 (fun _ => .int .u64 0) W ∧ Fw (w.heap.size + 1) 25 (fun _ => .int .u64 0) W ∧ Fw s 25 (fun j => .int .u64 (f j)) W ∧ Fw 1 25 (fun j => .int .i64 (tn j)) W ∧ Fw 2 25 (fun j => .int .i64 (pl j)) W) ⟨((Below.refl _ w).alloc (Nat.le_refl _) _).alloc (by simp) _, Fw.alloc (Fw.lit _ _ rfl rfl) _, Fw.lit _ _ (by simp) rfl, (hs.alloc _).alloc _, (ht.t.alloc _).alloc _, (ht.p.alloc _).alloc _⟩ ?_
 rintro V ⟨BV, ZV, CV, SV, TV, PV⟩
 clear ht hs
 obtain ⟨z, hz⟩ : ∃ c, w.heap.size = c := ⟨_, rfl⟩
 have HZ : Hid (w.heap.size = z) := hz
 rw [hz] at BV ZV CV hs2 h12 h22 ⊢
 clear hz
 obtain ⟨c, hc⟩ : ∃ c, z + 1 = c := ⟨_, rfl⟩
 rw [hc] at CV hs2 h12 h22 ⊢
 go_loopg [5] 25 (fun gk i wr => ∃ k : Nat, ∃ h : Nat → Int, k + gk = 25 ∧ i = .int .i64 k ∧ Below z w wr ∧ Fw z 25 (fun _ => .int .u64 0) wr ∧ Fw c 25 (fun j => .int .u64 (h j)) wr ∧ Fw s 25 (fun j => .int .u64 (f j)) wr ∧ Fw 1 25 (fun j => .int .i64 (tn j)) wr ∧ Fw 2 25 (fun j => .int .i64 (pl j)) wr ∧ Hid (∀ j, j < 25 → h j = if fr j < k then movedOf f j else 0))
 case atStart => exact ⟨0, fun _ => 0, rfl, rfl, BV, ZV, CV, SV, TV, PV, fun j _ => by rw [if_neg (by omega)]⟩
 case round =>
  clear BV ZV CV SV TV PV
  obtain ⟨k, h, hk, rfl, BW, CZ, CC, CS, CT, CP, hH⟩ := hrel
  by_cases hlt : k < 25
  ·have l0 : (k : Int) < 25 := by omega
   have m0 := CS.c k hlt
   have m1 := CT.c k hlt
   have m2 := CP.c k hlt
   obtain ⟨v, hv⟩ : ∃ q, f k = q := ⟨_, rfl⟩
   obtain ⟨t, ht, ht64⟩ : ∃ q, tn k = q ∧ q < 64 := ⟨_, rfl, tn_bd k hlt⟩
   obtain ⟨p, hp, hp25⟩ : ∃ q, pl k = q ∧ q < 25 := ⟨_, rfl, pl_bd k hlt⟩
   obtain ⟨u, hu⟩ : ∃ q, rot v t = q := ⟨_, rfl⟩
   rw [hv] at m0
   rw [ht] at m1
   rw [hp] at m2
   have l1 : (p : Int) < 25 := by omega
   have KR : Hid (∀ w : World, _) := fun w => FC.out w v t ht64
   rw [hu] at KR
   have HM : Hid (movedOf f p = u ∧ fr p = k) := by
    refine ⟨?_, ?_⟩
    ·rw [movedOf, ← hp, fr_pl k hlt, hv, ht, hu]
    ·rw [← hp, fr_pl k hlt]
   clear hv ht hu
   go_wp2
   have k0 := cell_regrown m0
   have k1 := cell_regrown m1
   have k2 := cell_regrown m2
   have cR := inClass (w := wr) KR.out
   refine region_tail 12 (by kernel_rfl) (by kernel_rfl) ?_
   simp only [List.take_succ_cons, List.take_zero, List.drop_succ_cons, List.drop_zero]
   iterate 11 (quiet_step (fail))
   quiet_step (exact cR _ _)
   refine wpQuiet_nil ?_
   intro w8 hw8
   have hb8 : Below wr.heap.size wr w8 := by
    obtain ⟨p, rfl⟩ := hw8
    exact below_regrown _ _ _
   have Z8 := CZ.below hb8
   have S8 := CS.below hb8
   have T8 := CT.below hb8
   have P8 := CP.below hb8
   have C8 := CC.below hb8
   have G8 := belowStep BW (by rw [← HZ.out] at BW ⊢; exact BW.size) hb8
   clear hw8 hb8 k0 k1 k2 cR KR CS CC CZ CT CP BW m0 m1 m2
   have n0 := C8.c p hp25
   have sf := C8.f
   have sz := C8.z
   go_wp2
   go_roundg (gk - 1)
   case measure => omega
   case rel =>
    refine ⟨k + 1, fun j => if j = p then u else h j, by omega, rfl, G8.setCell (p := ⟨c, p, none⟩) (by dsimp only; omega) _, Z8.setCell _ (by dsimp only; omega) _, C8.put p hp25 _ (fun j _ => by by_cases e : j = p <;> simp [e]), S8.setCell _ (by dsimp only; omega) _, T8.setCell _ (by dsimp only; omega) _, P8.setCell _ (by dsimp only; omega) _, ?_⟩
    intro j hj
    have hJ := hH.out j hj
    obtain ⟨g1, g2⟩ := HM.out
    show (if j = p then u else h j) = _
    by_cases e0 : j = p
    ·rw [if_pos e0, e0, if_pos (by omega), g1]
    rw [if_neg e0, hJ]
    have hne : fr j ≠ k := fun e => e0 (by rw [← pl_fr j hj, e, hp])
    by_cases h1 : fr j < k
    ·rw [if_pos h1, if_pos (by omega)]
    ·rw [if_neg h1, if_neg (by omega)]
  ·have hk2 : k = 25 := by omega
   subst hk2
   clear hlt
   have e : Hid ((fl 25 fun j => .int .u64 (h j)) = (fl 25 fun j => .int .u64 (movedOf f j))) := fl_ext _ _ _ fun j hj => by show Value.int .u64 _ = .int .u64 _; rw [hH.out j hj, if_pos (fr_bd j hj)]
   have hst := CZ.run (P := Tryd.prog) (fun j => .int .u64 (h j)) (fun _ => rfl)
   obtain ⟨l, hl⟩ : ∃ l, (fl 25 fun j => .int .u64 (h j)) = l := ⟨_, rfl⟩
   have hr := CC.range
   have hr2 := (CZ.store (fun j => .int .u64 (h j))).range
   have hlen : l.length = 25 := by rw [← hl]; exact fl_len _ _
   rw [hl] at e hst hr hr2
   clear hl
   go_wp2_with (refine wpList_load_mid rfl 66 _ rfl c 0 rfl l _ hr Tryd.underlying66 rfl (by rw [hlen]; exact size_kst) ?_)
   refine bodyPost_ret (v := .agg l.toArray) (results_mid Tryd.results84 _ _ z l _ rfl hr2 Tryd.underlying66 rfl (by rw [hlen]; exact size_kst)) rfl ⟨by rw [e.out], ?_⟩
   rw [HZ.out]
   exact below_setCells' (Nat.le_refl _) _ _ _ BW
end Go.Proofs.YtbmapdkcccdmfaaDoor
namespace Go.Proofs.YtbmapdkcccdmfaaDoor
open Go.RowKit Go.Sort

def cn (j : Nat) : Int := [1, 32898, 9223372036854808714, 9223372039002292224, 32907, 2147483649, 9223372039002292353, 9223372036854808585, 138, 136, 2147516425, 2147483658, 2147516555, 9223372036854775947, 9223372036854808713, 9223372036854808579, 9223372036854808578, 9223372036854775936, 32778, 9223372039002259466, 9223372039002292353, 9223372036854808704, 2147483649, 9223372039002292232].getD j 0

def roundOf (k : Nat) (g : Nat → Int) (j : Nat) : Int := if j = 0 then xr (rowsOf (movedOf (colsOf g)) 0) (cn k) else rowsOf (movedOf (colsOf g)) j
def roundsOf (g : Nat → Int) : Nat → Nat → Int
 | 0 => g
 | k + 1 => roundOf k (roundsOf g k)

structure Laid (w : World) : Prop where
 t : Tabs w
 c : Fw 0 24 (fun j => .int .u64 (cn j)) w

theorem but_trans {s : Nat} {w W V : World} (h : w.grownBy W (some s)) (g : W.grownBy V (some s)) : w.grownBy V (some s) :=
 ⟨g.os.trans h.os, g.tape.trans h.tape, g.output.trans h.output, Nat.le_trans h.size g.size, fun k hk hne => (g.block k (Nat.lt_of_lt_of_le hk h.size) hne).trans (h.block k hk hne)⟩
theorem Laid.but {s : Nat} {w W : World} (k : Laid w) (h : w.grownBy W (some s)) (h3 : 3 ≤ s) : Laid W :=
 ⟨⟨k.t.t.but h (by omega), k.t.p.but h (by omega)⟩, k.c.but h (by omega)⟩
theorem Laid.below {w W : World} (k : Laid w) (h : Below w.heap.size w W) : Laid W := ⟨⟨k.t.t.below h, k.t.p.below h⟩, k.c.below h⟩

abbrev zs : Array Value := #[.int .u64 0, .int .u64 0, .int .u64 0, .int .u64 0, .int .u64 0, .int .u64 0, .int .u64 0, .int .u64 0, .int .u64 0, .int .u64 0, .int .u64 0, .int .u64 0, .int .u64 0, .int .u64 0, .int .u64 0, .int .u64 0, .int .u64 0, .int .u64 0, .int .u64 0, .int .u64 0, .int .u64 0, .int .u64 0, .int .u64 0, .int .u64 0, .int .u64 0]

set_option maxRecDepth 20000 in
set_option maxHeartbeats 4000000 in
theorem mix_any (s : Nat) (f : Nat → Int) (w : World) (hs : Fw s 25 (fun j => .int .u64 (f j)) w) (hl : Laid w) (h3 : 3 ≤ s) :
  Calls Tryd.prog 60 #[.pointer (some ⟨s, 0, none⟩)] w fun e w' =>
   e = .returned (.tuple #[]) ∧ Fw s 25 (fun j => .int .u64 (roundsOf f 24 j)) w' ∧ w.grownBy w' (some s) := by
 have km : IntKind.u64.max = 18446744073709551615 := by decide
 have ks : IntKind.u64.signed = false := rfl
 go_enter Tryd.func60, Tryd.ntmps60
 go_wp2
 go_loopg [4] 24 (fun gk i wr => ∃ k : Nat, k + gk = 24 ∧ i = .int .i64 k ∧ w.grownBy wr (some s) ∧ Laid wr ∧ Fw s 25 (fun j => .int .u64 (roundsOf f k j)) wr)
 case atStart => exact ⟨0, rfl, rfl, but_refl s w, hl, hs⟩
 case round =>
  clear hl hs
  obtain ⟨k, hk, rfl, GW, LW, CS⟩ := hrel
  by_cases hlt : k < 24
  ·have l0 : (k : Int) < 24 := by omega
   obtain ⟨g, hg⟩ : ∃ g, roundsOf f k = g := ⟨_, rfl⟩
   have HG : Hid (roundsOf f k = g) := hg
   rw [hg] at CS
   clear hg
   go_wp2_with fail
   refine (joinColumns_any s g wr CS).mono ?_
   rintro e w1 ⟨rfl, S1, G1⟩
   have L1 := LW.but G1 h3
   have GW1 := but_trans GW G1
   clear G1 GW LW CS
   go_wp2_with fail
   refine (turnAndMove_any s (colsOf g) w1 S1 L1.t).mono ?_
   rintro e w2 ⟨rfl, B2⟩
   have S2 := S1.below B2
   have L2 := L1.below B2
   have GW2 := but_below GW1 B2
   clear B2 GW1 L1 S1
   have hne : s ≠ w2.heap.size := Nat.ne_of_lt S2.z
   have Z2 : Fw w2.heap.size 25 (fun _ => .int .u64 0) (w2.alloc (.cells zs 66)) := Fw.lit _ _ rfl rfl
   have hst := Z2.run (P := Tryd.prog) (fun j => .int .u64 (movedOf (colsOf g) j)) (fun _ => rfl)
   have N3 := Z2.store (fun j => .int .u64 (movedOf (colsOf g) j))
   obtain ⟨l, hl⟩ : ∃ l, (fl 25 fun j => .int .u64 (movedOf (colsOf g) j)) = l := ⟨_, rfl⟩
   have hlen : l.length = 25 := by rw [← hl]; exact fl_len _ _
   rw [hl] at hst N3 ⊢
   have S3 : Fw s 25 (fun j => .int .u64 (colsOf g j)) ((w2.alloc (.cells zs 66)).setCells w2.heap.size 0 l) := (S2.alloc _).storeOther _ hne.symm _
   have B3 : Below w2.heap.size w2 ((w2.alloc (.cells zs 66)).setCells w2.heap.size 0 l) := below_setCells' (Nat.le_refl _) _ _ _ ((Below.refl _ w2).alloc (Nat.le_refl _) _)
   have H3 : Hid (_ ∧ _ ∧ _ ∧ _ ∧ _) := ⟨S3, N3, L2.below B3, but_below GW2 B3, hne⟩
   clear S3 N3 B3 Z2 S2 L2 GW2 hl hne
   go_wp2_with fail
   obtain ⟨S3, N3, L3', G3, hne⟩ := H3.out
   refine (joinRows_any s w2.heap.size (colsOf g) (movedOf (colsOf g)) _ S3 N3 hne).mono ?_
   rintro e w4 ⟨rfl, S4, G4⟩
   have L4 := L3'.but G4 h3
   have GW4 := but_trans G3 G4
   clear H3 S3 N3 L3' G3 G4 hne hst
   have m0 := S4.c 0 (by decide)
   have m1 := L4.c.c k hlt
   obtain ⟨v, hv⟩ : ∃ q, rowsOf (movedOf (colsOf g)) 0 = q := ⟨_, rfl⟩
   obtain ⟨d, hd⟩ : ∃ q, cn k = q := ⟨_, rfl⟩
   rw [hv] at m0
   rw [hd] at m1
   have HV : Hid (_ ∧ _) := ⟨hv, hd⟩
   clear hv hd
   go_wp2
   have k0 := cell_regrown m0
   have k1 := cell_regrown m1
   refine region_tail 9 (by kernel_rfl) (by kernel_rfl) ?_
   simp only [List.take_succ_cons, List.take_zero, List.drop_succ_cons, List.drop_zero]
   iterate 9 (quiet_step (fail))
   refine wpQuiet_nil ?_
   intro w8 hw8
   have hb8 : Below w4.heap.size w4 w8 := by
    obtain ⟨p, rfl⟩ := hw8
    exact below_regrown _ _ _
   have S8 := S4.below hb8
   have L8 := L4.below hb8
   have G8 := but_below GW4 hb8
   clear hw8 hb8 k0 k1 m0 m1 S4 L4 GW4
   have n0 := S8.c 0 (by decide)
   have sf := S8.f
   have sz := S8.z
   go_wp2
   go_roundg (gk - 1)
   case measure => omega
   case rel =>
    obtain ⟨g1, g2⟩ := HV.out
    refine ⟨k + 1, by omega, rfl, but_set G8 _, L8.but (but_set (but_refl s w8) _) h3, S8.put 0 (by decide) _ (fun j _ => ?_)⟩
    show Value.int .u64 (roundOf k (roundsOf f k) j) = _
    rw [HG.out, roundOf]
    by_cases e : j = 0
    ·rw [if_pos e, if_pos e, g1, g2]
    ·rw [if_neg e, if_neg e]
  ·have hk2 : k = 24 := by omega
   subst hk2
   clear hlt
   go_wp2
   go_end0
   exact ⟨rfl, CS, GW⟩
end Go.Proofs.YtbmapdkcccdmfaaDoor
namespace Go.Proofs.YtbmapdkcccdmfaaDoor
open Go.RowKit Go.Sort

def k_bt (s : ByteArray) (i : Nat) : Int := ((s.data.getD i 0).toNat : Int)
theorem k_bt_get (s : ByteArray) (d : Nat) (h : d < s.size) : ((s[d]'h).toNat : Int) = k_bt s d := by
 have : s.data.getD d 0 = s[d]'h := by
  simp [Array.getD, h]
  rfl
 unfold k_bt
 rw [this]
theorem k_bt_bd (s : ByteArray) (d : Nat) : 0 ≤ k_bt s d ∧ k_bt s d < 256 := by
 unfold k_bt
 have := (s.data.getD d 0).toNat_lt
 omega

def laneN (t : ByteArray) : Nat → Int
 | 0 => 0
 | k + 1 => bits .or .u64 (laneN t k) (IntKind.u64.wrap (k_bt t k * 2 ^ (8 * k)))

set_option maxRecDepth 20000 in
set_option maxHeartbeats 4000000 in
theorem laneOf_any (t : ByteArray) (h8 : t.size ≤ 8) (w : World) :
  Calls Tryd.prog 59 #[.string t] w fun e w' =>
   e = .returned (.int .u64 (laneN t t.size)) ∧ Below w.heap.size w w' := by
 have km : IntKind.u64.max = 18446744073709551615 := by decide
 have ks : IntKind.u64.signed = false := rfl
 obtain ⟨m, hm⟩ : ∃ m, t.size = m := ⟨_, rfl⟩
 rw [hm] at h8
 go_enter Tryd.func59, Tryd.ntmps59
 go_wp2
 go_loopg [3, 7] m (fun gk l i wr => ∃ k : Nat, ∃ v : Int, k + gk = m ∧ l = .int .u64 v ∧ i = .int .i64 k ∧ Below w.heap.size w wr ∧ Hid (v = laneN t k))
 case atStart => exact ⟨0, 0, by omega, rfl, rfl, Below.refl _ _, (rfl : (0 : Int) = _)⟩
 case round =>
  obtain ⟨k, v, hk, rfl, rfl, BW, hH⟩ := hrel
  by_cases hlt : k < m
  ·have hks : k < t.size := by omega
   have l0 : (k : Int) < m := by omega
   have l0' : (k : Int) < t.size := by omega
   have z0 : (0 : Int) ≤ k := by omega
   obtain ⟨y, hy⟩ : ∃ y, k_bt t k = y := ⟨_, rfl⟩
   have hyb := k_bt_bd t k
   rw [hy] at hyb
   have hu1 : IntKind.u64.wrap (((t[k]'hks).toNat : Nat) : Int) = y := by rw [k_bt_get, hy, IntKind.wrap_u64]; omega
   obtain ⟨e, he⟩ : ∃ e : Nat, 8 * k = e := ⟨_, rfl⟩
   have e64 : (e : Int) ≤ 64 := by omega
   have e0 : (0 : Int) ≤ e := by omega
   have hm8 : IntKind.i64.wrap (8 * (k : Int)) = e := by rw [IntKind.wrap_i64]; omega
   have HV : Hid (k_bt t k = y ∧ 8 * k = e) := ⟨hy, he⟩
   clear hy he
   go_wp2
   go_roundg (gk - 1)
   case measure => omega
   case rel =>
    refine ⟨k + 1, _, by omega, rfl, rfl, BW, ?_⟩
    show _ = laneN t (k + 1)
    rw [laneN, HV.out.1, HV.out.2, ← hH.out]
  ·have hk2 : k = m := by omega
   subst hk2
   clear hlt
   go_wp2
   go_ret
   exact ⟨by rw [hm, ← hH.out]; rfl, BW⟩
end Go.Proofs.YtbmapdkcccdmfaaDoor
namespace Go.Proofs.YtbmapdkcccdmfaaDoor
open Go.RowKit Go.Sort

def remAt (t : ByteArray) : Nat → ByteArray
 | 0 => t
 | n + 1 => (remAt t n).extract 8 (remAt t n).size
theorem rem_size (t : ByteArray) (n : Nat) : (remAt t n).size = t.size - 8 * n := by
 induction n with
 | zero => rfl
 | succ n ih => rw [remAt, ByteArray.size_extract, ih]; omega

def putAt (g : Nat → Int) (l : Nat) (v : Int) (j : Nat) : Int := if j = l then v else g j
def blkOf (g : Nat → Int) (t : ByteArray) (n : Nat) : Nat → Nat → Int
 | 0 => g
 | l + 1 => putAt (blkOf g t n l) l (xr (blkOf g t n l l) (laneN ((remAt t (17 * n + l)).extract 0 8) 8))
def inOf (f : Nat → Int) (t : ByteArray) : Nat → Nat → Int
 | 0 => f
 | n + 1 => roundsOf (blkOf (inOf f t n) t n 17) 24
def lastOf (g : Nat → Int) (r : ByteArray) (l : Nat) : Nat → Int := putAt g l (xr (g l) (bits .or .u64 (laneN r r.size) (IntKind.u64.wrap (1 * 2 ^ (8 * r.size)))))
def endOf (g : Nat → Int) : Nat → Int := roundsOf (putAt g 16 (xr (g 16) 9223372036854775808)) 24
def takeOf (f : Nat → Int) (t : ByteArray) : Nat → Int :=
 endOf (lastOf (blkOf (inOf f t (t.size / 136)) t (t.size / 136) (t.size % 136 / 8)) (remAt t (t.size / 8)) (t.size % 136 / 8))

set_option maxRecDepth 20000 in
set_option maxHeartbeats 4000000 in
theorem takeIn_any (s : Nat) (f : Nat → Int) (t : ByteArray) (ht : t.size < 9223372036854775808) (w : World) (hs : Fw s 25 (fun j => .int .u64 (f j)) w) (hl : Laid w) (h3 : 3 ≤ s) :
  Calls Tryd.prog 35 #[.pointer (some ⟨s, 0, none⟩), .string t] w fun e w' =>
   e = .returned (.tuple #[]) ∧ Fw s 25 (fun j => .int .u64 (takeOf f t j)) w' ∧ w.grownBy w' (some s) := by
 have km : IntKind.u64.max = 18446744073709551615 := by decide
 have ks : IntKind.u64.signed = false := rfl
 go_enter Tryd.func35, Tryd.ntmps35
 go_wp2
 go_step3
 go_wp2
 go_step3
 go_wp2
 go_loopg [1] (t.size / 136 + 1) (fun gk x wr => ∃ n : Nat, n + gk = t.size / 136 + 1 ∧ 0 < gk ∧ x = .string (remAt t (17 * n)) ∧ w.grownBy wr (some s) ∧ Laid wr ∧ Fw s 25 (fun j => .int .u64 (inOf f t n j)) wr)
 case atStart => exact ⟨0, by omega, by omega, rfl, but_refl s w, hl, hs⟩
 case round =>
  clear hl hs
  obtain ⟨n, hn, hgk, rfl, GW, LW, CS⟩ := hrel
  obtain ⟨g, hg⟩ : ∃ g, inOf f t n = g := ⟨_, rfl⟩
  have HG : Hid (inOf f t n = g) := hg
  have hnt : 136 * n ≤ t.size := by omega
  rw [hg] at CS
  clear hg
  go_wp2
  go_loopg [1, 5] 17 (fun gk x i wr => ∃ l : Nat, ∃ r : ByteArray, ∃ h : Nat → Int, l + gk = 17 ∧ x = .string r ∧ i = .int .i64 l ∧ w.grownBy wr (some s) ∧ Laid wr ∧ Fw s 25 (fun j => .int .u64 (h j)) wr ∧ Hid (r = remAt t (17 * n + l) ∧ h = blkOf g t n l) ∧ r.size + 8 * (17 * n + l) = t.size)
  case atStart => exact ⟨0, _, g, rfl, rfl, rfl, GW, LW, CS, ⟨rfl, rfl⟩, by rw [rem_size]; omega⟩
  case round =>
   clear GW LW CS
   obtain ⟨l, r, h, hl, rfl, rfl, GW, LW, CS, hH, hsz⟩ := hrel
   by_cases hlt : l < 17
   ·obtain ⟨m, hm⟩ : ∃ m, r.size = m := ⟨_, rfl⟩
    rw [hm] at hsz
    have l0 : (l : Int) < 17 := by omega
    have l25 : (l : Int) < 25 := by omega
    by_cases h8 : m < 8
    ·have m8 : (m : Int) < 8 := by omega
     have m0 := CS.c l (by omega)
     obtain ⟨v, hv⟩ : ∃ q, h l = q := ⟨_, rfl⟩
     rw [hv] at m0
     obtain ⟨e, he⟩ : ∃ e : Nat, 8 * m = e := ⟨_, rfl⟩
     have e64 : (e : Int) ≤ 64 := by omega
     have e0 : (0 : Int) ≤ e := by omega
     have we : IntKind.i64.wrap (8 * (m : Int)) = e := by rw [IntKind.wrap_i64]; omega
     obtain ⟨u, hu⟩ : ∃ u, laneN r m = u := ⟨_, rfl⟩
     have KL : Hid (∀ w : World, Calls Tryd.prog 59 #[.string r] w fun e w' => e = .returned (.int .u64 u) ∧ Below w.heap.size w w') := fun w => by
      have := laneOf_any r (by omega) w
      rw [hm, hu] at this
      exact this
     have HU : Hid (_ ∧ _ ∧ _) := ⟨hv, he, hu⟩
     clear hv he hu
     go_wp2
     have k0 := cell_regrown m0
     have cR := inClass (w := wr) KL.out
     refine region_tail 14 (by kernel_rfl) (by kernel_rfl) ?_
     simp only [List.take_succ_cons, List.take_zero, List.drop_succ_cons, List.drop_zero]
     iterate 6 (quiet_step (fail))
     quiet_step (exact cR _ _)
     iterate 7 (quiet_step (fail))
     refine wpQuiet_nil ?_
     intro w8 hw8
     have hb8 : Below wr.heap.size wr w8 := by
      obtain ⟨p, rfl⟩ := hw8
      exact below_regrown _ _ _
     have S8 := CS.below hb8
     have L8 := LW.below hb8
     have G8 := but_below GW hb8
     clear hw8 hb8 k0 cR KL m0 CS LW GW
     have n0 := S8.c l (by omega)
     have sf := S8.f
     have sz := S8.z
     go_wp2
     refine wpOf (fun W => w.grownBy W (some s) ∧ Laid W ∧ Fw s 25 (fun j => .int .u64 (lastOf h r l j)) W) ⟨but_set G8 _, L8.but (but_set (but_refl s w8) _) h3, S8.put l (by omega) _ (fun j _ => ?_)⟩ ?_
     ·obtain ⟨g1, g2, g3⟩ := HU.out
      show Value.int .u64 (lastOf h r l j) = _
      rw [lastOf, putAt]
      by_cases e : j = l
      ·rw [if_pos e, if_pos e, g1, hm, g3, g2, Int.one_mul]
      ·rw [if_neg e, if_neg e]
     clear S8 L8 G8 n0 sf sz
     rintro V ⟨GV, LV, SV⟩
     obtain ⟨k, hk⟩ : ∃ k, lastOf h r l = k := ⟨_, rfl⟩
     rw [hk] at SV
     have HT : Hid (takeOf f t = endOf k) := by
      obtain ⟨g1, g2⟩ := hH.out
      show _ = _
      rw [takeOf, show t.size / 136 = n by omega, show t.size % 136 / 8 = l by omega, show t.size / 8 = 17 * n + l by omega, HG.out, ← g2, ← g1, hk]
     clear hk HU
     have m1 := SV.c 16 (by decide)
     obtain ⟨v1, hv1⟩ : ∃ q, k 16 = q := ⟨_, rfl⟩
     rw [hv1] at m1
     have HV : Hid (k 16 = v1) := hv1
     clear hv1
     go_wp2
     have k1 := cell_regrown m1
     refine region_tail 6 (by kernel_rfl) (by kernel_rfl) ?_
     simp only [List.take_succ_cons, List.take_zero, List.drop_succ_cons, List.drop_zero]
     iterate 6 (quiet_step (fail))
     refine wpQuiet_nil ?_
     intro w9 hw9
     have hb9 : Below V.heap.size V w9 := by
      obtain ⟨p, rfl⟩ := hw9
      exact below_regrown _ _ _
     have S9 := SV.below hb9
     have L9 := LV.below hb9
     have G9 := but_below GV hb9
     clear hw9 hb9 k1 m1 SV LV GV
     have n0 := S9.c 16 (by decide)
     have sf := S9.f
     have sz := S9.z
     have H9 : Hid (_ ∧ _ ∧ _) := ⟨S9, L9, G9⟩
     clear S9 L9 G9
     go_wp2_with fail
     obtain ⟨S9, L9, G9⟩ := H9.out
     refine (mix_any s (putAt k 16 (xr (k 16) 9223372036854775808)) _ (S9.put 16 (by decide) _ (fun j _ => ?_)) (L9.but (but_set (but_refl s w9) _) h3) h3).mono ?_
     ·show Value.int .u64 (putAt k 16 _ j) = _
      rw [putAt]
      by_cases e : j = 16
      ·rw [if_pos e, if_pos e, HV.out]
      ·rw [if_neg e, if_neg e]
     rintro e wa ⟨rfl, SA, GA⟩
     have GZ := but_trans (but_set G9 _) GA
     clear S9 L9 G9 GA H9 n0 sf sz
     go_wp2
     simp only [Exit.noGoto]
     go_end0
     exact ⟨rfl, by rw [HT.out]; exact SA, GZ⟩
    ·have m8 : ¬ (m : Int) < 8 := by omega
     have m8' : (8 : Int) ≤ m := by omega
     have m0 := CS.c l (by omega)
     obtain ⟨v, hv⟩ : ∃ q, h l = q := ⟨_, rfl⟩
     rw [hv] at m0
     obtain ⟨u, hu⟩ : ∃ u, laneN (r.extract 0 8) 8 = u := ⟨_, rfl⟩
     have KL : Hid (∀ w : World, Calls Tryd.prog 59 #[.string (r.extract 0 8)] w fun e w' => e = .returned (.int .u64 u) ∧ Below w.heap.size w w') := fun w => by
      have hsx : (r.extract 0 8).size = 8 := by rw [ByteArray.size_extract, hm]; omega
      have := laneOf_any (r.extract 0 8) (by omega) w
      rw [hsx, hu] at this
      exact this
     have HU : Hid (_ ∧ _) := ⟨hv, hu⟩
     clear hv hu
     go_wp2
     have k0 := cell_regrown m0
     have cR := inClass (w := wr) KL.out
     refine region_tail 10 (by kernel_rfl) (by kernel_rfl) ?_
     simp only [List.take_succ_cons, List.take_zero, List.drop_succ_cons, List.drop_zero]
     iterate 7 (quiet_step (fail))
     quiet_step (exact cR _ _)
     iterate 2 (quiet_step (fail))
     refine wpQuiet_nil ?_
     intro w8 hw8
     have hb8 : Below wr.heap.size wr w8 := by
      obtain ⟨p, rfl⟩ := hw8
      exact below_regrown _ _ _
     have S8 := CS.below hb8
     have L8 := LW.below hb8
     have G8 := but_below GW hb8
     clear hw8 hb8 k0 cR KL m0 CS LW GW
     have n0 := S8.c l (by omega)
     have sf := S8.f
     have sz := S8.z
     go_wp2
     go_roundg (gk - 1)
     case measure => omega
     case rel =>
      obtain ⟨g1, g2⟩ := HU.out
      obtain ⟨g3, g4⟩ := hH.out
      refine ⟨l + 1, r.extract 8 r.size, putAt h l (xr v u), by omega, ?_, rfl, but_set G8 _, L8.but (but_set (but_refl s w8) _) h3, S8.put l (by omega) _ (fun j _ => ?_), ⟨?_, ?_⟩, ?_⟩
      ·first | rfl | (rw [hm]; rfl) | (simp [hm])
      ·show Value.int .u64 (putAt h l (xr v u) j) = _
       rw [putAt]
       by_cases e : j = l
       ·rw [if_pos e, if_pos e]
       ·rw [if_neg e, if_neg e]
      ·rw [← Nat.add_assoc, remAt, ← g3]
      ·rw [blkOf, ← g4, g1, ← g3, g2]
      ·rw [ByteArray.size_extract, hm]; omega
   ·have hl17 : l = 17 := by omega
    subst hl17
    clear hlt
    go_wp2_with fail
    refine (mix_any s h wr CS LW h3).mono ?_
    rintro e wa ⟨rfl, SA, GA⟩
    have LA := LW.but GA h3
    have GZ := but_trans GW GA
    clear GA GW LW CS
    go_wp2
    go_roundg (t.size / 136 + 1 - (n + 1))
    case measure => omega
    case rel =>
     obtain ⟨g3, g4⟩ := hH.out
     refine ⟨n + 1, by omega, by omega, ?_, GZ, LA, ?_⟩
     ·rw [g3, show 17 * (n + 1) = 17 * n + 17 by omega]
     ·show Fw s 25 (fun j => .int .u64 (roundsOf (blkOf (inOf f t n) t n 17) 24 j)) _
      rw [HG.out, ← g4]
      exact SA
end Go.Proofs.YtbmapdkcccdmfaaDoor
