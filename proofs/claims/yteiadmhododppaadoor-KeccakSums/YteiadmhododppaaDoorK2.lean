/- What joinColumns does at this translation: for all lanes, whatever else lies in memory. -/
import Derived.Test.YteiadmhododppaaDoorK1
namespace Go.Proofs.YteiadmhododppaaDoor
open Go.RowKit Go.Sort

/-- A lane turned left, as bits.RotateLeft64 reckons it. -/
def rot (x : Int) (k : Nat) : Int := bits .or .u64 (IntKind.u64.wrap (x * 2 ^ k)) (x / 2 ^ (64 - k))

theorem and_63 (k : Nat) (hk : k < 64) : bits .and .u64 (k : Int) 63 = k := by
  have e : ∀ j : Fin 64, bits .and .u64 ((j.val : Nat) : Int) 63 = (j.val : Nat) := by decide +kernel
  exact e ⟨k, hk⟩

set_option maxRecDepth 20000 in
set_option maxHeartbeats 4000000 in
theorem rot_any (x : Int) (k : Nat) (hk : k < 64) (w : World) :
    Calls Tryd.prog 27 #[.int .u64 x, .int .i64 k] w fun e w' =>
      e = .returned (.int .u64 (rot x k)) ∧ Below w.heap.size w w' := by
  have km : IntKind.u64.max = 18446744073709551615 := by decide
  have ks : IntKind.u64.signed = false := rfl
  have w1 : IntKind.u64.wrap (k : Int) = k := by rw [IntKind.wrap_u64]; omega
  have ha := and_63 k hk
  have hz : 0 ≤ (k : Int) := by omega
  obtain ⟨m, hm⟩ : ∃ m : Nat, 64 - k = m := ⟨_, rfl⟩
  have w2 : IntKind.u64.wrap (64 - (k : Int)) = m := by rw [IntKind.wrap_u64]; omega
  have w2' : IntKind.u64.wrap (m : Int) = m := by rw [IntKind.wrap_u64]; omega
  have l1 : (k : Int) ≤ 64 := by omega
  have l2 : (m : Int) ≤ 64 := by omega
  have hz2 : 0 ≤ (m : Int) := by omega
  go_enter Tryd.func27, Tryd.ntmps27
  go_wp2
  go_ret
  exact ⟨by rw [rot, hm]; rfl, Below.refl _ _⟩

theorem Fw.lit {W : World} {n N : Nat} {g : Nat → Value} (cs : Array Value) (t : TypeId) (hn : W.heap.size = n) (h : cs = (fl N g).toArray) : Fw n N g (W.alloc (.cells cs t)) := by
  subst hn h
  exact Fw.new W N g t
theorem below_but {s n : Nat} {w W : World} (h : Below n w W) (hn : n = w.heap.size) : w.grownBy W (some s) := by
  subst hn
  exact ⟨h.os, h.tape, h.output, h.size, fun k hk _ => h.block k hk⟩

/-- A column's lanes, joined. -/
def colOf (g : Nat → Int) (x : Nat) : Int := xr (xr (xr (xr (g x) (g (x + 5))) (g (x + 10))) (g (x + 15))) (g (x + 20))
/-- What a column's lanes are joined by. -/
def byOf (g : Nat → Int) (x : Nat) : Int := xr (colOf g ((x + 4) % 5)) (rot (colOf g ((x + 1) % 5)) 1)
/-- Step 1 of a round: a lane of the columns joined. -/
def colsOf (g : Nat → Int) (j : Nat) : Int := xr (g j) (byOf g (j % 5))

set_option maxRecDepth 20000 in
set_option maxHeartbeats 4000000 in
theorem joinColumns_any (s : Nat) (f : Nat → Int) (w : World) (hs : Fw s 25 (fun j => .int .u64 (f j)) w) :
    Calls Tryd.prog 22 #[.pointer (some ⟨s, 0, none⟩)] w fun e w' =>
      e = .returned (.tuple #[]) ∧ Fw s 25 (fun j => .int .u64 (colsOf f j)) w' ∧ w.grownBy w' (some s) := by
  have km : IntKind.u64.max = 18446744073709551615 := by decide
  have ks : IntKind.u64.signed = false := rfl
  go_enter Tryd.func22, Tryd.ntmps22
  go_wp2
  have hsc : s ≠ w.heap.size := Nat.ne_of_lt hs.z
  refine wpOf (fun W => Below w.heap.size w W ∧ Fw w.heap.size 5 (fun _ => .int .u64 0) W ∧ Fw s 25 (fun j => .int .u64 (f j)) W) ⟨(Below.refl _ w).alloc (Nat.le_refl _) _, Fw.lit _ _ rfl rfl, hs.alloc _⟩ ?_
  rintro V ⟨BV, CV, SV⟩
  obtain ⟨c, hc⟩ : ∃ c, w.heap.size = c := ⟨_, rfl⟩
  have HC : Hid (w.heap.size = c) := hc
  rw [hc] at hsc BV CV ⊢
  clear hc
  go_loopg [7] 5 (fun gk i wr => ∃ x : Nat, ∃ h : Nat → Int, x + gk = 5 ∧ i = .int .i64 x ∧ Below c w wr ∧ Fw c 5 (fun j => .int .u64 (h j)) wr ∧ Fw s 25 (fun j => .int .u64 (f j)) wr ∧ Hid (∀ j, j < 5 → h j = if j < x then colOf f j else 0))
  case atStart => exact ⟨0, fun _ => 0, rfl, rfl, BV, CV, SV, fun j _ => by rw [if_neg (by omega)]⟩
  case round =>
    obtain ⟨x, h, hx, rfl, BW, CC, CS, hH⟩ := hrel
    clear BV CV SV hs
    by_cases hlt : x < 5
    · obtain ⟨p1, hp1⟩ : ∃ q : Nat, x + 5 = q := ⟨_, rfl⟩
      obtain ⟨p2, hp2⟩ : ∃ q : Nat, x + 10 = q := ⟨_, rfl⟩
      obtain ⟨p3, hp3⟩ : ∃ q : Nat, x + 15 = q := ⟨_, rfl⟩
      obtain ⟨p4, hp4⟩ : ∃ q : Nat, x + 20 = q := ⟨_, rfl⟩
      have w1 : IntKind.i64.wrap ((x : Int) + 5) = p1 := by rw [IntKind.wrap_i64]; omega
      have w2 : IntKind.i64.wrap ((x : Int) + 10) = p2 := by rw [IntKind.wrap_i64]; omega
      have w3 : IntKind.i64.wrap ((x : Int) + 15) = p3 := by rw [IntKind.wrap_i64]; omega
      have w4 : IntKind.i64.wrap ((x : Int) + 20) = p4 := by rw [IntKind.wrap_i64]; omega
      have l0 : (x : Int) < 25 := by omega
      have l0' : (x : Int) < 5 := by omega
      have l1 : (p1 : Int) < 25 := by omega
      have l2 : (p2 : Int) < 25 := by omega
      have l3 : (p3 : Int) < 25 := by omega
      have l4 : (p4 : Int) < 25 := by omega
      have m0 := CS.c x (by omega)
      have m1 := CS.c p1 (by omega)
      have m2 := CS.c p2 (by omega)
      have m3 := CS.c p3 (by omega)
      have m4 := CS.c p4 (by omega)
      obtain ⟨b0, hb0⟩ : ∃ x', f x = x' := ⟨_, rfl⟩
      obtain ⟨b1, hb1⟩ : ∃ x', f p1 = x' := ⟨_, rfl⟩
      obtain ⟨b2, hb2⟩ : ∃ x', f p2 = x' := ⟨_, rfl⟩
      obtain ⟨b3, hb3⟩ : ∃ x', f p3 = x' := ⟨_, rfl⟩
      obtain ⟨b4, hb4⟩ : ∃ x', f p4 = x' := ⟨_, rfl⟩
      rw [hb0] at m0
      rw [hb1] at m1
      rw [hb2] at m2
      rw [hb3] at m3
      rw [hb4] at m4
      have HG : Hid (colOf f x = xr (xr (xr (xr b0 b1) b2) b3) b4) := by
        show _ = _
        rw [colOf, hp1, hp2, hp3, hp4, hb0, hb1, hb2, hb3, hb4]
      clear hb0 hb1 hb2 hb3 hb4
      go_wp2
      have k0 := cell_regrown m0
      have k1 := cell_regrown m1
      have k2 := cell_regrown m2
      have k3 := cell_regrown m3
      have k4 := cell_regrown m4
      refine region_tail 34 (by kernel_rfl) (by kernel_rfl) ?_
      simp only [List.take_succ_cons, List.take_zero, List.drop_succ_cons, List.drop_zero]
      iterate 34 (quiet_step (fail))
      refine wpQuiet_nil ?_
      intro w8 hw8
      have hb8 : Below wr.heap.size wr w8 := by
        obtain ⟨p, rfl⟩ := hw8
        exact below_regrown _ _ _
      have S8 := CS.below hb8
      have C8 := CC.below hb8
      have G8 := belowStep BW (by rw [← HC.out] at BW ⊢; exact BW.size) hb8
      clear hw8 hb8 k0 k1 k2 k3 k4 CS CC BW m0 m1 m2 m3 m4
      have n0 := C8.c x (by omega)
      have sf := C8.f
      have sz := C8.z
      go_wp2
      go_roundg (gk - 1)
      case measure => omega
      case rel =>
        refine ⟨x + 1, fun j => if j = x then xr (xr (xr (xr b0 b1) b2) b3) b4 else h j, by omega, rfl, G8.setCell (p := ⟨c, x, none⟩) (Nat.le_refl _) _, C8.put x hlt _ (fun j _ => by by_cases e : j = x <;> simp [e]), S8.setCell _ (fun e => hsc e.symm) _, ?_⟩
        intro j hj
        have hJ := hH.out j hj
        show (if j = x then xr (xr (xr (xr b0 b1) b2) b3) b4 else h j) = _
        by_cases e0 : j = x
        · rw [if_pos e0, if_pos (by omega), e0, HG.out]
        rw [if_neg e0, hJ]
        by_cases h1 : j < x
        · rw [if_pos h1, if_pos (by omega)]
        · rw [if_neg h1, if_neg (by omega)]
    · have hx5 : x = 5 := by omega
      subst hx5
      clear hlt
      have CK : Fw c 5 (fun j => .int .u64 (colOf f j)) wr := CC.ext (fun j hj => by show Value.int .u64 _ = .int .u64 _; rw [hH.out j hj, if_pos (by omega)])
      have GK : w.grownBy wr (some s) := below_but BW HC.out.symm
      clear CC BW hH
      have FC : Hid (∀ (w : World) (x : Int), Calls Tryd.prog 27 #[.int .u64 x, .int .i64 1] w fun e w' => e = .returned (.int .u64 (rot x 1)) ∧ Below w.heap.size w w') := fun w x => rot_any x 1 (by decide) w
      go_wp2
      go_loopg [46] 5 (fun gk i wr => ∃ x : Nat, ∃ h : Nat → Int, x + gk = 5 ∧ i = .int .i64 x ∧ w.grownBy wr (some s) ∧ Fw s 25 (fun j => .int .u64 (h j)) wr ∧ Fw c 5 (fun j => .int .u64 (colOf f j)) wr ∧ Hid (∀ j, j < 25 → h j = if j % 5 < x then colsOf f j else f j))
      case atStart => exact ⟨0, f, rfl, rfl, GK, CS, CK, fun j _ => by rw [if_neg (by omega)]⟩
      case round =>
        clear GK CS CK
        obtain ⟨x, h, hx, rfl, BW, CS, CC, hH⟩ := hrel
        by_cases hlt : x < 5
        · obtain ⟨x5, hx5⟩ : ∃ q : Nat, x + 5 = q := ⟨_, rfl⟩
          obtain ⟨x4, hx4⟩ : ∃ q : Nat, x + 4 = q := ⟨_, rfl⟩
          obtain ⟨x1, hx1⟩ : ∃ q : Nat, x + 1 = q := ⟨_, rfl⟩
          obtain ⟨r4, hr4⟩ : ∃ q : Nat, x4 % 5 = q := ⟨_, rfl⟩
          obtain ⟨r1, hr1⟩ : ∃ q : Nat, x1 % 5 = q := ⟨_, rfl⟩
          have w1 : IntKind.i64.wrap ((x : Int) + 5) = x5 := by rw [IntKind.wrap_i64]; omega
          have w2 : IntKind.i64.wrap ((x5 : Int) - 1) = x4 := by rw [IntKind.wrap_i64]; omega
          have w3 : IntKind.i64.wrap ((x : Int) + 1) = x1 := by rw [IntKind.wrap_i64]; omega
          have w4 : (x4 : Int).tmod 5 = r4 := by rw [Int.tmod_eq_emod_of_nonneg (by omega)]; omega
          have w5 : (x1 : Int).tmod 5 = r1 := by rw [Int.tmod_eq_emod_of_nonneg (by omega)]; omega
          have w4' : IntKind.i64.wrap (r4 : Int) = r4 := by rw [IntKind.wrap_i64]; omega
          have w5' : IntKind.i64.wrap (r1 : Int) = r1 := by rw [IntKind.wrap_i64]; omega
          have l0 : (x : Int) < 5 := by omega
          have l1 : (r4 : Int) < 5 := by omega
          have l2 : (r1 : Int) < 5 := by omega
          have m4 := CC.c r4 (by omega)
          have m1 := CC.c r1 (by omega)
          have HB : Hid (byOf f x = xr (colOf f r4) (rot (colOf f r1) 1)) := by
            show _ = _
            rw [byOf, hx4, hx1, hr4, hr1]
          obtain ⟨c4, hc4⟩ : ∃ q, colOf f r4 = q := ⟨_, rfl⟩
          obtain ⟨c1, hc1⟩ : ∃ q, colOf f r1 = q := ⟨_, rfl⟩
          obtain ⟨c2, hc2⟩ : ∃ q, rot c1 1 = q := ⟨_, rfl⟩
          rw [hc4] at m4
          rw [hc1] at m1
          rw [hc4, hc1, hc2] at HB
          have KR : Hid (∀ w : World, _) := fun w => FC.out w c1
          rw [hc2] at KR
          clear hc4 hc1 hc2 hr4 hr1 hx4 hx5
          go_wp2
          have k4 := cell_regrown m4
          have k1 := cell_regrown m1
          have cR := inClass (w := wr) KR.out
          refine wp_region_quiet_below (by kernel_rfl) (by kernel_rfl) ?_
          iterate 11 (quiet_step (fail))
          quiet_step (exact cR _ _)
          iterate 2 (quiet_step (fail))
          refine wpQuiet_nil ?_
          intro w8 hw8
          have hb8 : Below wr.heap.size wr w8 := by
            obtain ⟨p, rfl⟩ := hw8
            exact below_regrown _ _ _
          have S8 := CS.below hb8
          have C8 := CC.below hb8
          have G8 := but_below BW hb8
          clear hw8 hb8 k4 k1 cR KR CS CC BW m4 m1
          obtain ⟨d, hd⟩ : ∃ q, bits BinOp.xor IntKind.u64 c4 c2 = q := ⟨_, rfl⟩
          have HD : Hid (byOf f x = d) := by rw [← hd]; exact HB.out
          rw [hd]
          clear hd HB
          go_wp2
          go_loopg [62] 5 (fun gm i wr => ∃ r : Nat, ∃ h : Nat → Int, r + gm = 5 ∧ i = .int .i64 r ∧ w.grownBy wr (some s) ∧ Fw s 25 (fun j => .int .u64 (h j)) wr ∧ Fw c 5 (fun j => .int .u64 (colOf f j)) wr ∧ Hid (∀ j, j < 25 → h j = if j % 5 < x ∨ j % 5 = x ∧ j / 5 < r then colsOf f j else f j))
          case atStart =>
            refine ⟨0, h, rfl, rfl, G8, S8, C8, fun j hj => ?_⟩
            rw [hH.out j hj]
            by_cases e : j % 5 < x
            · rw [if_pos e, if_pos (Or.inl e)]
            · rw [if_neg e, if_neg (by omega)]
          case round =>
            clear G8 S8 C8 hH h
            obtain ⟨r, h, hr, rfl, BW, CS, CC, hH⟩ := hrel
            by_cases hlr : r < 5
            · obtain ⟨q, hq⟩ : ∃ q : Nat, 5 * r = q := ⟨_, rfl⟩
              obtain ⟨p, hp⟩ : ∃ p : Nat, x + q = p := ⟨_, rfl⟩
              have u1 : IntKind.i64.wrap ((r : Int) * 5) = q := by rw [IntKind.wrap_i64]; omega
              have u2 : IntKind.i64.wrap ((x : Int) + q) = p := by rw [IntKind.wrap_i64]; omega
              have l3 : (p : Int) < 25 := by omega
              have l4 : (r : Int) < 5 := by omega
              have m0 := CS.c p (by omega)
              obtain ⟨v, hv⟩ : ∃ v, h p = v := ⟨_, rfl⟩
              rw [hv] at m0
              have HV : Hid (f p = v) := by
                show _ = _
                rw [← hv, hH.out p (by omega), if_neg (by omega)]
              clear hv
              go_wp2
              have k0 := cell_regrown m0
              refine region_tail 11 (by kernel_rfl) (by kernel_rfl) ?_
              simp only [List.take_succ_cons, List.take_zero, List.drop_succ_cons, List.drop_zero]
              iterate 11 (quiet_step (fail))
              refine wpQuiet_nil ?_
              intro w8 hw8
              have hb8 : Below wr.heap.size wr w8 := by
                obtain ⟨p, rfl⟩ := hw8
                exact below_regrown _ _ _
              have S8 := CS.below hb8
              have C8 := CC.below hb8
              have G8 := but_below BW hb8
              clear hw8 hb8 k0 CS CC BW m0
              have n0 := S8.c p (by omega)
              have sf := S8.f
              have sz := S8.z
              go_wp2
              go_roundg (gk - 1)
              case measure => omega
              case rel =>
                refine ⟨r + 1, fun j => if j = p then xr v d else h j, by omega, rfl, but_set G8 _, S8.put p (by omega) _ (fun j _ => by by_cases e : j = p <;> simp [e]), C8.setCell _ (fun e => hsc e) _, ?_⟩
                intro j hj
                have hJ := hH.out j hj
                show (if j = p then xr v d else h j) = _
                by_cases e0 : j = p
                · rw [if_pos e0, if_pos (by omega), e0, colsOf, HV.out, show p % 5 = x by omega, HD.out]
                rw [if_neg e0, hJ]
                by_cases h1 : j % 5 < x ∨ j % 5 = x ∧ j / 5 < r
                · rw [if_pos h1, if_pos (by omega)]
                · rw [if_neg h1, if_neg (by omega)]
            · have hr5 : r = 5 := by omega
              subst hr5
              clear hlr
              go_wp2
              go_roundg (5 - x1)
              case measure => omega
              case rel =>
                refine ⟨x1, h, by omega, rfl, BW, CS, CC, ?_⟩
                intro j hj
                rw [hH.out j hj]
                by_cases h1 : j % 5 < x1
                · rw [if_pos h1, if_pos (by omega)]
                · rw [if_neg h1, if_neg (by omega)]
        · have hx5 : x = 5 := by omega
          subst hx5
          clear hlt
          go_wp2
          go_end0
          exact ⟨rfl, (CS.ext (fun j hj => by show Value.int .u64 _ = .int .u64 _; rw [hH.out j hj, if_pos (by omega)])), BW⟩
end Go.Proofs.YteiadmhododppaaDoor
