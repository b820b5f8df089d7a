/- What joinRows does at this translation: for all lanes, whatever else lies in memory. -/
import Derived.Test.YteiadmhododppaaDoorArr
import Derived.Test.YteiadmhododppaaDoorTail
namespace Go.Proofs.YteiadmhododppaaDoor
open Go.RowKit Go.Sort

/-- One lane by another one, as the program reckons. -/
abbrev xr (a b : Int) : Int := bits .xor .u64 a b
abbrev an (a b : Int) : Int := bits .and .u64 a b
abbrev nt (a : Int) : Int := bits .xor .u64 18446744073709551615 a

/-- Step 3 of a round: a lane of the rows joined. -/
def rowsOf (g : Nat → Int) (j : Nat) : Int := xr (g j) (an (nt (g (j / 5 * 5 + (j + 1) % 5))) (g (j / 5 * 5 + (j + 2) % 5)))

theorem rows_at (g : Nat → Int) (y r : Nat) (hr : r < 5) : rowsOf g (5 * y + r) = xr (g (5 * y + r)) (an (nt (g (5 * y + (r + 1) % 5))) (g (5 * y + (r + 2) % 5))) := by
  unfold rowsOf
  rw [show (5 * y + r) / 5 * 5 = 5 * y by omega, show (5 * y + r + 1) % 5 = (r + 1) % 5 by omega, show (5 * y + r + 2) % 5 = (r + 2) % 5 by omega]
theorem Fw.but {n N s : Nat} {g : Nat → Value} {W W' : World} (k : Fw n N g W) (hg : W.grownBy W' (some s)) (hn : n ≠ s) : Fw n N g W' :=
  ⟨Nat.lt_of_lt_of_le k.z hg.size, fun j hj => hg.cell (k.c j hj) (fun e => hn (Option.some.inj e)), fun o => by rw [World.frozen?_of_block (hg.block n k.z (fun e => hn (Option.some.inj e)))]; exact k.f o⟩
theorem but_set {s i : Nat} {w W : World} (h : w.grownBy W (some s)) (v : Value) : w.grownBy (W.setCell ⟨s, i, none⟩ v) (some s) := by
  have hb : Below s W (W.setCell ⟨s, i, none⟩ v) := (Below.refl s W).setCell (p := ⟨s, i, none⟩) (Nat.le_refl _) v
  refine ⟨hb.os.trans h.os, hb.tape.trans h.tape, hb.output.trans h.output, Nat.le_trans h.size hb.size, fun k hk hne => ?_⟩
  rw [Below.heap_setCell W ⟨s, i, none⟩ v k (fun e => hne (by rw [e]))]
  exact h.block k hk hne
theorem but_below {s : Nat} {w W W' : World} (h : w.grownBy W (some s)) (hb : Below W.heap.size W W') : w.grownBy W' (some s) :=
  ⟨hb.os.trans h.os, hb.tape.trans h.tape, hb.output.trans h.output, Nat.le_trans h.size hb.size, fun k hk hne => (hb.block k (Nat.lt_of_lt_of_le hk h.size)).trans (h.block k hk hne)⟩
theorem but_refl (s : Nat) (w : World) : w.grownBy w (some s) := ⟨rfl, rfl, rfl, Nat.le_refl _, fun _ _ _ => rfl⟩

set_option maxRecDepth 20000 in
set_option maxHeartbeats 4000000 in
theorem joinRows_any (s b : Nat) (f g : Nat → Int) (w : World) (hs : Fw s 25 (fun j => .int .u64 (f j)) w) (hb : Fw b 25 (fun j => .int .u64 (g j)) w) (hne : s ≠ b) :
    Calls Tryd.prog 24 #[.pointer (some ⟨s, 0, none⟩), .pointer (some ⟨b, 0, none⟩)] w fun e w' =>
      e = .returned (.tuple #[]) ∧ Fw s 25 (fun j => .int .u64 (rowsOf g j)) w' ∧ w.grownBy w' (some s) := by
  have km : IntKind.u64.max = 18446744073709551615 := by decide
  have ks : IntKind.u64.signed = false := rfl
  go_enter Tryd.func24, Tryd.ntmps24
  go_wp2
  go_loopg [11] 5 (fun gk i wr => ∃ y : Nat, ∃ h : Nat → Int, y + gk = 5 ∧ i = .int .i64 y ∧ w.grownBy wr (some s) ∧ Fw s 25 (fun j => .int .u64 (h j)) wr ∧ Fw b 25 (fun j => .int .u64 (g j)) wr ∧ Hid (∀ j, j < 25 → h j = if j < 5 * y then rowsOf g j else f j))
  case atStart => exact ⟨0, f, rfl, rfl, but_refl s w, hs, hb, fun j _ => by rw [if_neg (by omega)]⟩
  case round =>
    obtain ⟨y, h, hy, rfl, BW, CS, CB, hH⟩ := hrel
    by_cases hlt : y < 5
    · obtain ⟨p, hp⟩ : ∃ p : Nat, 5 * y = p := ⟨_, rfl⟩
      obtain ⟨p1, hp1⟩ : ∃ q : Nat, p + 1 = q := ⟨_, rfl⟩
      obtain ⟨p2, hp2⟩ : ∃ q : Nat, p + 2 = q := ⟨_, rfl⟩
      obtain ⟨p3, hp3⟩ : ∃ q : Nat, p + 3 = q := ⟨_, rfl⟩
      obtain ⟨p4, hp4⟩ : ∃ q : Nat, p + 4 = q := ⟨_, rfl⟩
      have w0 : IntKind.i64.wrap ((y : Int) * 5) = p := by rw [IntKind.wrap_i64]; omega
      have w0' : IntKind.i64.wrap ((p : Nat) : Int) = p := by rw [IntKind.wrap_i64]; omega
      have w1 : IntKind.i64.wrap ((p : Int) + 1) = p1 := by rw [IntKind.wrap_i64]; omega
      have w2 : IntKind.i64.wrap ((p : Int) + 2) = p2 := by rw [IntKind.wrap_i64]; omega
      have w3 : IntKind.i64.wrap ((p : Int) + 3) = p3 := by rw [IntKind.wrap_i64]; omega
      have w4 : IntKind.i64.wrap ((p : Int) + 4) = p4 := by rw [IntKind.wrap_i64]; omega
      have l0 : (p : Int) < 25 := by omega
      have l1 : (p1 : Int) < 25 := by omega
      have l2 : (p2 : Int) < 25 := by omega
      have l3 : (p3 : Int) < 25 := by omega
      have l4 : (p4 : Int) < 25 := by omega
      have m0 := CB.c p (by omega)
      have m1 := CB.c p1 (by omega)
      have m2 := CB.c p2 (by omega)
      have m3 := CB.c p3 (by omega)
      have m4 := CB.c p4 (by omega)
      obtain ⟨b0, hb0⟩ : ∃ x, g p = x := ⟨_, rfl⟩
      obtain ⟨b1, hb1⟩ : ∃ x, g p1 = x := ⟨_, rfl⟩
      obtain ⟨b2, hb2⟩ : ∃ x, g p2 = x := ⟨_, rfl⟩
      obtain ⟨b3, hb3⟩ : ∃ x, g p3 = x := ⟨_, rfl⟩
      obtain ⟨b4, hb4⟩ : ∃ x, g p4 = x := ⟨_, rfl⟩
      rw [hb0] at m0
      rw [hb1] at m1
      rw [hb2] at m2
      rw [hb3] at m3
      rw [hb4] at m4
      have HG : Hid (_ ∧ _ ∧ _ ∧ _ ∧ _) := ⟨hb0, hb1, hb2, hb3, hb4⟩
      clear hb0 hb1 hb2 hb3 hb4
      go_wp2
      have k0 := cell_regrown m0
      have k1 := cell_regrown m1
      have k2 := cell_regrown m2
      have k3 := cell_regrown m3
      have k4 := cell_regrown m4
      refine wp_region_quiet_below (by kernel_rfl) (by kernel_rfl) ?_
      iterate 34 (quiet_step (fail))
      refine wpQuiet_nil ?_
      intro w8 hw8
      have hb8 : Below wr.heap.size wr w8 := by
        obtain ⟨p, rfl⟩ := hw8
        exact below_regrown _ _ _
      have S8 := CS.below hb8
      have B8 := CB.below hb8
      have G8 := but_below BW hb8
      clear hw8 hb8 k0 k1 k2 k3 k4 CS CB BW m0 m1 m2 m3 m4
      have n0 := S8.c p (by omega)
      have n1 := S8.c p1 (by omega)
      have n2 := S8.c p2 (by omega)
      have n3 := S8.c p3 (by omega)
      have n4 := S8.c p4 (by omega)
      have sf := S8.f
      have sz := S8.z
      go_wp2
      go_roundg (gk - 1)
      case measure => omega
      case rel =>
        have F1 := S8.put p (by omega) (.int .u64 (xr b0 (an (nt b1) b2))) (h := fun j => .int .u64 (if j = p then xr b0 (an (nt b1) b2) else h j)) (fun j _ => by by_cases e : j = p <;> simp [e])
        have F2 := F1.put p1 (by omega) (.int .u64 (xr b1 (an (nt b2) b3))) (h := fun j => .int .u64 (if j = p1 then xr b1 (an (nt b2) b3) else if j = p then xr b0 (an (nt b1) b2) else h j)) (fun j _ => by by_cases e : j = p1 <;> simp [e])
        have F3 := F2.put p2 (by omega) (.int .u64 (xr b2 (an (nt b3) b4))) (h := fun j => .int .u64 (if j = p2 then xr b2 (an (nt b3) b4) else if j = p1 then xr b1 (an (nt b2) b3) else if j = p then xr b0 (an (nt b1) b2) else h j)) (fun j _ => by by_cases e : j = p2 <;> simp [e])
        have F4 := F3.put p3 (by omega) (.int .u64 (xr b3 (an (nt b4) b0))) (h := fun j => .int .u64 (if j = p3 then xr b3 (an (nt b4) b0) else if j = p2 then xr b2 (an (nt b3) b4) else if j = p1 then xr b1 (an (nt b2) b3) else if j = p then xr b0 (an (nt b1) b2) else h j)) (fun j _ => by by_cases e : j = p3 <;> simp [e])
        have F5 := F4.put p4 (by omega) (.int .u64 (xr b4 (an (nt b0) b1))) (h := fun j => .int .u64 (if j = p4 then xr b4 (an (nt b0) b1) else if j = p3 then xr b3 (an (nt b4) b0) else if j = p2 then xr b2 (an (nt b3) b4) else if j = p1 then xr b1 (an (nt b2) b3) else if j = p then xr b0 (an (nt b1) b2) else h j)) (fun j _ => by by_cases e : j = p4 <;> simp [e])
        obtain ⟨g0, g1, g2, g3, g4⟩ := HG.out
        have q0 := rows_at g y 0 (by decide)
        have q1 := rows_at g y 1 (by decide)
        have q2 := rows_at g y 2 (by decide)
        have q3 := rows_at g y 3 (by decide)
        have q4 := rows_at g y 4 (by decide)
        simp only [Nat.add_zero, Nat.reduceAdd, Nat.reduceMod, hp, hp1, hp2, hp3, hp4, g0, g1, g2, g3, g4] at q0 q1 q2 q3 q4
        refine ⟨y + 1, fun j => if j = p4 then xr b4 (an (nt b0) b1) else if j = p3 then xr b3 (an (nt b4) b0) else if j = p2 then xr b2 (an (nt b3) b4) else if j = p1 then xr b1 (an (nt b2) b3) else if j = p then xr b0 (an (nt b1) b2) else h j, by omega, rfl, but_set (but_set (but_set (but_set (but_set G8 _) _) _) _) _, F5, ((((B8.setCell _ (fun e => hne e) _).setCell _ (fun e => hne e) _).setCell _ (fun e => hne e) _).setCell _ (fun e => hne e) _).setCell _ (fun e => hne e) _, ?_⟩
        intro j hj
        have hJ := hH.out j hj
        show (if j = p4 then xr b4 (an (nt b0) b1) else if j = p3 then xr b3 (an (nt b4) b0) else if j = p2 then xr b2 (an (nt b3) b4) else if j = p1 then xr b1 (an (nt b2) b3) else if j = p then xr b0 (an (nt b1) b2) else h j) = _
        by_cases e4 : j = p4
        · rw [if_pos e4, if_pos (by omega), e4, q4]
        rw [if_neg e4]
        by_cases e3 : j = p3
        · rw [if_pos e3, if_pos (by omega), e3, q3]
        rw [if_neg e3]
        by_cases e2 : j = p2
        · rw [if_pos e2, if_pos (by omega), e2, q2]
        rw [if_neg e2]
        by_cases e1 : j = p1
        · rw [if_pos e1, if_pos (by omega), e1, q1]
        rw [if_neg e1]
        by_cases e0 : j = p
        · rw [if_pos e0, if_pos (by omega), e0, q0]
        rw [if_neg e0, hJ]
        by_cases h1 : j < 5 * y
        · rw [if_pos h1, if_pos (by omega)]
        · rw [if_neg h1, if_neg (by omega)]
    · have hy5 : y = 5 := by omega
      subst hy5
      clear hlt
      go_wp2
      go_end0
      exact ⟨rfl, (CS.ext (fun j hj => by show Value.int .u64 _ = .int .u64 _; rw [hH.out j hj, if_pos (by omega)])), BW⟩
end Go.Proofs.YteiadmhododppaaDoor
