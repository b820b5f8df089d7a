/- Lemmas: The reference's round, at this translation: the program's. The reference's Sum, at this translation: for all texts of at most a hundred thousand bytes. -/
import Derived.Test.YtfdjiofogohcmaaGreatDoorM22
import Derived.Test.YtfdjiofogohcmaaGreatDoorM16
namespace Go.Proofs.YtfdjiofogohcmaaGreatDoor
open Go.RowKit Go.Sort

theorem Fw.arr {W : World} {n N : Nat} {g : Nat → Value} (A : Array Value) (t : TypeId) (hn : W.heap.size = n) (h : ∀ j, j < N → A[j]? = some (g j)) : Fw n N g (W.alloc (.cells A t)) := by
  subst hn
  exact ⟨by simp, fun j hj => by simp [go_sem, h j hj], fun o => by simp [go_sem]⟩
theorem fl_arr (N : Nat) (g : Nat → Value) (j : Nat) (hj : j < N) : (fl N g).toArray[j]? = some (g j) := by simpa using fl_at N g j hj
theorem size_rst : (Tryz.prog.info? 65).map (·.size) = some 25 := by kernel_rfl

/-- What lies in memory: the lanes, the turns, the result. -/
structure RB (w : World) (z : Nat) (f : Nat → Int) (W : World) : Prop where
  b : Below z w W
  a : Fw z 25 (fun j => .int .u64 (f j)) W
  t : Fw (z + 1) 25 (fun j => .int .i64 (tn j)) W
  r : Fw (z + 2) 25 (fun _ => .int .u64 0) W
theorem RB.below {w : World} {z : Nat} {f : Nat → Int} {W W' : World} (h : RB w z f W) (hb : Below W.heap.size W W') : RB w z f W' :=
  ⟨belowStep h.b (Nat.le_of_lt h.a.z) hb, h.a.below hb, h.t.below hb, h.r.below hb⟩
theorem RB.setCell {w : World} {z : Nat} {f : Nat → Int} {W : World} (h : RB w z f W) (p : Addr) (hp : z + 2 < p.block) (v : Value) : RB w z f (W.setCell p v) :=
  ⟨h.b.setCell (p := p) (by omega) v, h.a.setCell p (by omega) v, h.t.setCell p (by omega) v, h.r.setCell p (by omega) v⟩

/-- In which order the lanes come. -/
def ordp (p : Nat) : Nat := 5 * (p % 5) + p / 5
theorem moved_step (f : Nat → Int) (x y : Nat) (hx : x < 5) (hy : y < 5) : movedOf (colsOf f) (pl (x + 5 * y)) = rot (xr (xr (f (x + 5 * y)) (colOf f ((x + 4) % 5))) (rot (colOf f ((x + 1) % 5)) 1)) (tn (x + 5 * y)) := by
  rw [movedOf, fr_pl _ (by omega), colsOf, byOf, show (x + 5 * y) % 5 = x by omega, xr_assoc]
theorem pl_is (x y : Nat) (hx : x < 5) (hy : y < 5) : y % 5 + 5 * ((2 * x + 3 * y) % 5) = pl (x + 5 * y) :=
  (by decide : ∀ x y : Fin 5, y.val % 5 + 5 * ((2 * x.val + 3 * y.val) % 5) = pl (x.val + 5 * y.val)) ⟨x, hx⟩ ⟨y, hy⟩
theorem ord_step (x y j : Nat) (hy : y < 5) (hj : j < 25) (h : j ≠ pl (x + 5 * y)) : (ordp (fr j) < 5 * x + (y + 1)) ↔ (ordp (fr j) < 5 * x + y) := by
  have h1 := fr_bd j hj
  constructor
  · intro h2
    refine Nat.lt_of_le_of_ne (by omega) fun e => h ?_
    have : fr j = x + 5 * y := by unfold ordp at e; omega
    rw [← this, pl_fr j hj]
  · omega
theorem ord_self (x y : Nat) (hx : x < 5) (hy : y < 5) : ordp (fr (pl (x + 5 * y))) < 5 * x + (y + 1) := by
  rw [fr_pl _ (by omega)]
  unfold ordp
  omega
theorem ord_all (j : Nat) (hj : j < 25) : ordp (fr j) < 25 := by
  have h1 := fr_bd j hj
  unfold ordp
  omega

theorem ord2_step (x y j : Nat) (hy : y < 5) (hj : j < 25) (h : j ≠ x + 5 * y) : (ordp j < 5 * x + (y + 1)) ↔ (ordp j < 5 * x + y) := by
  unfold ordp
  omega
theorem ord2_self (x y : Nat) (hx : x < 5) : ordp (x + 5 * y) < 5 * x + (y + 1) := by
  unfold ordp
  omega
theorem ord2_all (j : Nat) (hj : j < 25) : ordp j < 25 := by
  unfold ordp
  omega

set_option maxRecDepth 20000 in
set_option maxHeartbeats 4000000 in
theorem rround_any (f : Nat → Int) (hf : ∀ j, j < 25 → La (f j)) (k : Nat) (hk : k < 24) (w : World) :
    Calls Tryz.prog 38 #[.agg (fl 25 fun j => .int .u64 (f j)).toArray, .int .i64 k, .agg (fl 25 fun j => .int .i64 (tn j)).toArray] w fun e w' =>
      e = .returned (.agg (fl 25 fun j => .int .u64 (roundOf k f j)).toArray) ∧ Below w.heap.size w w' := by
  have HF : Hid (∀ j, j < 25 → La (f j)) := hf
  have km : IntKind.u64.max = 18446744073709551615 := by decide
  have ks : IntKind.u64.signed = false := rfl
  clear hf
  obtain ⟨A, hA⟩ : ∃ A, (fl 25 fun j => .int .u64 (f j)).toArray = A := ⟨_, rfl⟩
  obtain ⟨A2, hA2⟩ : ∃ A, (fl 25 fun j => .int .i64 (tn j)).toArray = A := ⟨_, rfl⟩
  have HA : Hid (∀ j, j < 25 → A[j]? = some (.int .u64 (f j))) := fun j hj => by rw [← hA]; exact fl_arr 25 _ j hj
  have HA2 : Hid (∀ j, j < 25 → A2[j]? = some (.int .i64 (tn j))) := fun j hj => by rw [← hA2]; exact fl_arr 25 _ j hj
  rw [hA, hA2]
  clear hA hA2
  go_enter Tryz.func38, Tryz.ntmps38
  go_wp2
  refine wpOf (fun W => RB w w.heap.size f W ∧ Fw (w.heap.size + 3) 5 (fun _ => .int .u64 0) W) ⟨⟨((((Below.refl _ w).alloc (Nat.le_refl _) _).alloc (by simp) _).alloc (by simp; omega) _).alloc (by simp; omega) _, ((Fw.arr _ _ rfl HA.out).alloc _).alloc _ |>.alloc _, ((Fw.arr _ _ (by simp) HA2.out).alloc _).alloc _, Fw.alloc (Fw.lit _ _ (by simp) rfl) _⟩, Fw.lit _ _ (by simp) rfl⟩ ?_
  rintro V ⟨RV, CV⟩
  obtain ⟨z, hz⟩ : ∃ c, w.heap.size = c := ⟨_, rfl⟩
  have HZ : Hid (w.heap.size = z) := hz
  rw [hz] at RV CV ⊢
  clear hz HA HA2
  rw [show z + 1 + 1 + 1 = z + 3 by omega, show z + 1 + 1 = z + 2 by omega]
  obtain ⟨c, hc⟩ : ∃ c, z + 3 = c := ⟨_, rfl⟩
  rw [hc] at CV ⊢
  go_loopg [8] 5 (fun gk i wr => ∃ x : Nat, ∃ h : Nat → Int, x + gk = 5 ∧ i = .int .i64 x ∧ RB w z f wr ∧ Fw c 5 (fun j => .int .u64 (h j)) wr ∧ Hid (∀ j, j < 5 → h j = if j < x then colOf f j else 0))
  case atStart => exact ⟨0, fun _ => 0, rfl, rfl, RV, CV, fun j _ => by rw [if_neg (by omega)]⟩
  case round =>
    clear RV CV
    obtain ⟨x, h, hx, rfl, RW, CW, hH⟩ := hrel
    by_cases hlt : x < 5
    · have l0 : (x : Int) < 5 := by omega
      go_wp2
      go_loopg [9] 5 (fun gk i wr => ∃ y : Nat, ∃ h : Nat → Int, y + gk = 5 ∧ i = .int .i64 y ∧ RB w z f wr ∧ Fw c 5 (fun j => .int .u64 (h j)) wr ∧ Hid (∀ j, j < 5 → h j = if j < x then colOf f j else if j = x then cpart f x y else 0))
      case atStart => exact ⟨0, h, rfl, rfl, RW, CW, fun j hj => by rw [hH.out j hj]; by_cases q : j < x <;> simp [q, cpart]⟩
      case round =>
        clear RW CW hH
        obtain ⟨y, h, hy, rfl, RW, CW, hH⟩ := hrel
        by_cases hly : y < 5
        · have l1 : (y : Int) < 5 := by omega
          have KA : Hid (∀ w : World, _) := fun w : World => rat_any x y (by omega) (by omega) w
          obtain ⟨p, hp, hp2⟩ : ∃ p, x % 5 + 5 * (y % 5) = p ∧ p < 25 := ⟨_, rfl, by omega⟩
          rw [hp] at KA
          have lp : (p : Int) < 25 := by omega
          have hpx : x + 5 * y = p := by omega
          have m0 := CW.c x hlt
          have m1 := RW.a.c p hp2
          obtain ⟨v0, hv0⟩ : ∃ v, h x = v := ⟨_, rfl⟩
          obtain ⟨v1, hv1⟩ : ∃ v, f p = v := ⟨_, rfl⟩
          rw [hv0] at m0
          rw [hv1] at m1
          have HV : Hid (cpart f x (y + 1) = bits .xor .u64 v0 v1) := by
            show xr (cpart f x y) (f (x + 5 * y)) = _
            have := hH.out x hlt
            rw [if_neg (by omega), if_pos rfl] at this
            rw [← this, hv0, hpx, hv1]
          clear hp hpx hv0 hv1
          go_wp2
          have k0 := cell_regrown m0
          have k1 := cell_regrown m1
          have cA := inClass (w := wr) KA.out
          refine region_tail 10 (by kernel_rfl) (by kernel_rfl) ?_
          simp only [List.take_succ_cons, List.take_zero, List.drop_succ_cons, List.drop_zero]
          iterate 6 (quiet_step (fail))
          quiet_step (exact cA _ _)
          iterate 3 (quiet_step (fail))
          refine wpQuiet_nil ?_
          intro w8 hw8
          have hb8 : Below wr.heap.size wr w8 := by
            obtain ⟨p, rfl⟩ := hw8
            exact below_regrown _ _ _
          have R8 := RW.below hb8
          have C8 := CW.below hb8
          clear hw8 hb8 k0 k1 cA KA RW CW m0 m1
          have n0 := C8.c x hlt
          have sf := C8.f
          have sz := C8.z
          go_wp2
          go_roundg (gk - 1)
          case measure => omega
          case rel =>
            refine ⟨y + 1, fun j => if j = x then bits .xor .u64 v0 v1 else h j, by omega, rfl, R8.setCell ⟨c, x, none⟩ (by dsimp only; omega) _, C8.put x hlt _ (fun j _ => by by_cases e : j = x <;> simp [e]), ?_⟩
            intro j hj
            have hJ := hH.out j hj
            show (if j = x then bits .xor .u64 v0 v1 else h j) = _
            by_cases e : j = x
            · rw [if_pos e, if_neg (by omega), if_pos e, HV.out]
            · rw [if_neg e, hJ, if_neg e, if_neg e]
        · have hy2 : y = 5 := by omega
          subst hy2
          clear hly
          go_wp2
          go_roundg (4 - x)
          case measure => omega
          case rel =>
            refine ⟨x + 1, h, by omega, rfl, RW, CW, fun j hj => ?_⟩
            rw [hH.out j hj]
            by_cases q : j < x
            · rw [if_pos q, if_pos (by omega)]
            · rw [if_neg q]
              by_cases e : j = x
              · rw [if_pos e, if_pos (by omega), e, cpart_is f x (HF.out x (by omega))]
              · rw [if_neg e, if_neg (by omega)]
    · have hx2 : x = 5 := by omega
      subst hx2
      clear hlt
      have C5 : Fw c 5 (fun j => .int .u64 (colOf f j)) wr := CW.ext fun j hj => by show Value.int .u64 _ = .int .u64 _; rw [hH.out j hj, if_pos hj]
      clear CW hH hx h
      go_wp2
      refine wpOf (fun W => RB w z f W ∧ Fw c 5 (fun j => .int .u64 (colOf f j)) W ∧ Fw wr.heap.size 25 (fun _ => .int .u64 0) W) ⟨RW.below ((Below.refl _ wr).alloc (Nat.le_refl _) _), C5.alloc _, Fw.lit _ _ rfl rfl⟩ ?_
      rintro V2 ⟨RV, CV, DV⟩
      have hdc := C5.z
      obtain ⟨d, hd⟩ : ∃ d, wr.heap.size = d := ⟨_, rfl⟩
      rw [hd] at hdc DV ⊢
      clear hd C5 RW
      go_loopg [11] 5 (fun gk i wr => ∃ x : Nat, ∃ g : Nat → Int, x + gk = 5 ∧ i = .int .i64 x ∧ RB w z f wr ∧ Fw c 5 (fun j => .int .u64 (colOf f j)) wr ∧ Fw d 25 (fun j => .int .u64 (g j)) wr ∧ Hid (∀ j, j < 25 → g j = if ordp (fr j) < 5 * x then movedOf (colsOf f) j else 0))
      case atStart => exact ⟨0, fun _ => 0, rfl, rfl, RV, CV, DV, fun j _ => by rw [if_neg (by omega)]⟩
      case round =>
        clear RV CV DV
        obtain ⟨x, g, hx, rfl, RW, CW, DW, hH⟩ := hrel
        by_cases hlt : x < 5
        · have l0 : (x : Int) < 5 := by omega
          go_wp2
          go_loopg [12] 5 (fun gk i wr => ∃ y : Nat, ∃ g : Nat → Int, y + gk = 5 ∧ i = .int .i64 y ∧ RB w z f wr ∧ Fw c 5 (fun j => .int .u64 (colOf f j)) wr ∧ Fw d 25 (fun j => .int .u64 (g j)) wr ∧ Hid (∀ j, j < 25 → g j = if ordp (fr j) < 5 * x + y then movedOf (colsOf f) j else 0))
          case atStart => exact ⟨0, g, rfl, rfl, RW, CW, DW, hH⟩
          case round =>
            clear RW CW DW hH g
            obtain ⟨y, g, hy, rfl, RW, CW, DW, hH⟩ := hrel
            by_cases hly : y < 5
            · have l1 : (y : Int) < 5 := by omega
              have KA : Hid (∀ w : World, _) := fun w : World => rat_any x y (by omega) (by omega) w
              have KB : Hid (∀ w : World, Calls Tryz.prog 62 #[.int .i64 y, .int .i64 (2 * (x : Int) + 3 * (y : Int))] w fun e w' => e = .returned (.int .i64 ((y % 5 + 5 * ((2 * x + 3 * y) % 5) : Nat) : Int)) ∧ Below w.heap.size w w') := fun w : World => by
                have e : 2 * (x : Int) + 3 * (y : Int) = ((2 * x + 3 * y : Nat) : Int) := by omega
                rw [e]
                exact rat_any y (2 * x + 3 * y) (by omega) (by omega) w
              have HV := moved_step f x y hlt hly
              have HO := ord_self x y hlt hly
              have HS : ∀ j, j < 25 → j ≠ pl (x + 5 * y) → ((ordp (fr j) < 5 * x + (y + 1)) ↔ (ordp (fr j) < 5 * x + y)) := fun j hj hne => ord_step x y j hly hj hne
              rw [pl_is x y hlt hly] at KB
              have hpl := pl_bd (x + 5 * y) (by omega)
              have htn := tn_bd (x + 5 * y) (by omega)
              obtain ⟨p, hp, hp2⟩ : ∃ p, x + 5 * y = p ∧ p < 25 := ⟨_, rfl, by omega⟩
              rw [show x % 5 + 5 * (y % 5) = p by omega] at KA
              rw [hp] at KB HV HO HS hpl htn
              obtain ⟨q, hq⟩ : ∃ q, pl p = q := ⟨_, rfl⟩
              obtain ⟨u, hu⟩ : ∃ q, tn p = q := ⟨_, rfl⟩
              obtain ⟨x4, hx4⟩ : ∃ q : Nat, x + 4 = q := ⟨_, rfl⟩
              obtain ⟨x1, hx1⟩ : ∃ q : Nat, x + 1 = q := ⟨_, rfl⟩
              obtain ⟨r4, hr4⟩ : ∃ q : Nat, x4 % 5 = q := ⟨_, rfl⟩
              obtain ⟨r1, hr1⟩ : ∃ q : Nat, x1 % 5 = q := ⟨_, rfl⟩
              rw [hx4, hx1, hr4, hr1] at HV
              rw [hq] at KB HV HO HS hpl
              rw [hu] at HV htn
              have w2 : IntKind.i64.wrap ((x : Int) + 4) = x4 := by rw [IntKind.wrap_i64]; omega
              have w3 : IntKind.i64.wrap ((x : Int) + 1) = x1 := by rw [IntKind.wrap_i64]; omega
              have w4 : (x4 : Int).tmod 5 = r4 := by rw [Int.tmod_eq_emod_of_nonneg (by omega)]; omega
              have w5 : (x1 : Int).tmod 5 = r1 := by rw [Int.tmod_eq_emod_of_nonneg (by omega)]; omega
              have w4' : IntKind.i64.wrap (r4 : Int) = r4 := by rw [IntKind.wrap_i64]; omega
              have w5' : IntKind.i64.wrap (r1 : Int) = r1 := by rw [IntKind.wrap_i64]; omega
              have l2 : (r4 : Int) < 5 := by omega
              have l3 : (r1 : Int) < 5 := by omega
              have l4 : (p : Int) < 25 := by omega
              have l5 : (q : Int) < 25 := by omega
              have m0 := RW.a.c p hp2
              have m4 := CW.c r4 (by omega)
              have m1 := CW.c r1 (by omega)
              have HC1 : La (colOf f r1) := xr_la _ _
              obtain ⟨v0, hv0⟩ : ∃ v, f p = v := ⟨_, rfl⟩
              obtain ⟨c4, hc4⟩ : ∃ q, colOf f r4 = q := ⟨_, rfl⟩
              obtain ⟨c1, hc1⟩ : ∃ q, colOf f r1 = q := ⟨_, rfl⟩
              obtain ⟨c2, hc2⟩ : ∃ q, rot c1 1 = q := ⟨_, rfl⟩
              rw [hv0] at m0
              rw [hc4] at m4
              rw [hc1] at m1 HC1
              rw [hv0, hc4, hc1, hc2] at HV
              have KL : Hid (∀ w : World, Calls Tryz.prog 63 #[.int .u64 c1, .int .i64 1] w fun e w' => e = .returned (.int .u64 (rot c1 1)) ∧ Below w.heap.size w w') := fun w => rleft_any c1 HC1 1 (by omega) w
              rw [hc2] at KL
              have HVL : La (xr (xr v0 c4) c2) := xr_la _ _
              obtain ⟨v, hv⟩ : ∃ v, bits .xor .u64 (bits .xor .u64 v0 c4) c2 = v := ⟨_, rfl⟩
              have HV2 : Hid (movedOf (colsOf f) q = rot v u) := by rw [← hv]; exact HV
              have HVL2 : La v := by rw [← hv]; exact HVL
              have KM : Hid (∀ w : World, Calls Tryz.prog 63 #[.int .u64 v, .int .i64 u] w fun e w' => e = .returned (.int .u64 (rot v u)) ∧ Below w.heap.size w w') := fun w => rleft_any v HVL2 u htn w
              obtain ⟨rv, hrv⟩ : ∃ q, rot v u = q := ⟨_, rfl⟩
              rw [hrv] at KM HV2
              have HS2 : Hid (∀ j, j < 25 → j ≠ q → ((ordp (fr j) < 5 * x + (y + 1)) ↔ (ordp (fr j) < 5 * x + y))) := HS
              have HO2 : Hid (ordp (fr q) < 5 * x + (y + 1)) := HO
              have HU : Hid (tn p = u) := hu
              have HW : Hid (bits .xor .u64 (bits .xor .u64 v0 c4) c2 = v) := hv
              clear hv HV HVL HVL2 hc1 hc2 hc4 hv0 HC1 HS HO hu hrv hq hr4 hr1 hx4 hx1 htn hp
              go_wp2
              have k0 := cell_regrown m0
              have k4 := cell_regrown m4
              have k1 := cell_regrown m1
              have cA := inClass (w := wr) KA.out
              have cL := inClass (w := wr) KL.out
              refine wp_region_quiet_below (by kernel_rfl) (by kernel_rfl) ?_
              iterate 2 (quiet_step (fail))
              quiet_step (exact cA _ _)
              iterate 13 (quiet_step (fail))
              quiet_step (exact cL _ _)
              iterate 2 (quiet_step (fail))
              refine wpQuiet_nil ?_
              intro w8 hw8
              have hb8 : Below wr.heap.size wr w8 := by
                obtain ⟨p, rfl⟩ := hw8
                exact below_regrown _ _ _
              have R8 := RW.below hb8
              have C8 := CW.below hb8
              have D8 := DW.below hb8
              clear hw8 hb8 k0 k4 k1 cA cL KL RW CW DW m0 m4 m1
              rw [HW.out]
              go_wp2_with fail
              refine (KB.out _).mono ?_
              rintro e w2 ⟨rfl, B2⟩
              have E2 := R8.below B2
              have C2 := C8.below B2
              have D2 := D8.below B2
              clear KB B2 R8 C8 D8
              go_wp2_with fail
              refine (KA.out _).mono ?_
              rintro e w3 ⟨rfl, B3⟩
              have E3 := E2.below B3
              have C3 := C2.below B3
              have D3 := D2.below B3
              clear KA B3 E2 C2 D2
              have nt := E3.t.c p hp2
              rw [HU.out] at nt
              go_wp2_with fail
              refine (KM.out _).mono ?_
              rintro e w4 ⟨rfl, B4⟩
              have E4 := E3.below B4
              have C4 := C3.below B4
              have D4 := D3.below B4
              clear KM B4 E3 C3 D3 nt
              have n0 := D4.c q hpl
              have sf := D4.f
              have sz := D4.z
              go_wp2
              go_roundg (gk - 1)
              case measure => omega
              case rel =>
                refine ⟨y + 1, fun j => if j = q then rv else g j, by omega, rfl, E4.setCell ⟨d, q, none⟩ (by dsimp only; omega) _, C4.setCell ⟨d, q, none⟩ (by dsimp only; omega) _, D4.put q hpl _ (fun j _ => by by_cases e : j = q <;> simp [e]), ?_⟩
                intro j hj
                show (if j = q then rv else g j) = _
                by_cases e : j = q
                · rw [if_pos e, e, if_pos HO2.out, HV2.out]
                · rw [if_neg e, hH.out j hj]
                  by_cases e2 : ordp (fr j) < 5 * x + y
                  · rw [if_pos e2, if_pos ((HS2.out j hj e).2 e2)]
                  · rw [if_neg e2, if_neg fun e3 => e2 ((HS2.out j hj e).1 e3)]
            · have hy2 : y = 5 := by omega
              subst hy2
              clear hly
              go_wp2
              go_roundg (4 - x)
              case measure => omega
              case rel => exact ⟨x + 1, g, by omega, rfl, RW, CW, DW, fun j hj => by rw [hH.out j hj, show 5 * (x + 1) = 5 * x + 5 by omega]⟩
        · have hx2 : x = 5 := by omega
          subst hx2
          clear hlt
          have D5 : Fw d 25 (fun j => .int .u64 (movedOf (colsOf f) j)) wr := DW.ext fun j hj => by show Value.int .u64 _ = .int .u64 _; rw [hH.out j hj, if_pos (ord_all j hj)]
          clear DW hH hx g CW
          have KC : Hid (∀ w : World, _) := fun w : World => rconst_any k hk w
          have HR : Hid ((fl 25 fun j => .int .u64 (roundOf k f j)) = fl 25 fun j => .int .u64 (if j = 0 then xr (rowsOf (movedOf (colsOf f)) 0) (cn k) else rowsOf (movedOf (colsOf f)) j)) := rfl
          obtain ⟨G, hG⟩ : ∃ G, movedOf (colsOf f) = G := ⟨_, rfl⟩
          rw [hG] at D5 HR
          clear hG
          go_wp2
          refine wpOf (fun W => RB w z f W ∧ Fw d 25 (fun j => .int .u64 (G j)) W ∧ Fw wr.heap.size 25 (fun _ => .int .u64 0) W) ⟨RW.below ((Below.refl _ wr).alloc (Nat.le_refl _) _), D5.alloc _, Fw.lit _ _ rfl rfl⟩ ?_
          rintro V3 ⟨RV, DV, OV⟩
          have hod := D5.z
          obtain ⟨o, ho⟩ : ∃ d, wr.heap.size = d := ⟨_, rfl⟩
          rw [ho] at hod OV ⊢
          clear ho D5 RW
          go_loopg [15] 5 (fun gk i wr => ∃ x : Nat, ∃ h : Nat → Int, x + gk = 5 ∧ i = .int .i64 x ∧ RB w z f wr ∧ Fw d 25 (fun j => .int .u64 (G j)) wr ∧ Fw o 25 (fun j => .int .u64 (h j)) wr ∧ Hid (∀ j, j < 25 → h j = if ordp j < 5 * x then rowsOf G j else 0))
          case atStart => exact ⟨0, fun _ => 0, rfl, rfl, RV, DV, OV, fun j _ => by rw [if_neg (by omega)]⟩
          case round =>
            clear RV DV OV
            obtain ⟨x, h, hx, rfl, RW, DW, OW, hH⟩ := hrel
            by_cases hlt : x < 5
            · have l0 : (x : Int) < 5 := by omega
              go_wp2
              go_loopg [16] 5 (fun gk i wr => ∃ y : Nat, ∃ h : Nat → Int, y + gk = 5 ∧ i = .int .i64 y ∧ RB w z f wr ∧ Fw d 25 (fun j => .int .u64 (G j)) wr ∧ Fw o 25 (fun j => .int .u64 (h j)) wr ∧ Hid (∀ j, j < 25 → h j = if ordp j < 5 * x + y then rowsOf G j else 0))
              case atStart => exact ⟨0, h, rfl, rfl, RW, DW, OW, hH⟩
              case round =>
                clear RW DW OW hH h
                obtain ⟨y, h, hy, rfl, RW, DW, OW, hH⟩ := hrel
                by_cases hly : y < 5
                · have l1 : (y : Int) < 5 := by omega
                  obtain ⟨x1, hx1⟩ : ∃ q : Nat, x + 1 = q := ⟨_, rfl⟩
                  obtain ⟨x2, hx2⟩ : ∃ q : Nat, x + 2 = q := ⟨_, rfl⟩
                  have w1 : IntKind.i64.wrap ((x : Int) + 1) = x1 := by rw [IntKind.wrap_i64]; omega
                  have w2 : IntKind.i64.wrap ((x : Int) + 2) = x2 := by rw [IntKind.wrap_i64]; omega
                  have KA : Hid (∀ w : World, _) := fun w : World => rat_any x y (by omega) (by omega) w
                  have KB : Hid (∀ w : World, _) := fun w : World => rat_any x1 y (by omega) (by omega) w
                  have KD : Hid (∀ w : World, _) := fun w : World => rat_any x2 y (by omega) (by omega) w
                  have HV := rows_at G y x hlt
                  rw [hx1, hx2] at HV
                  obtain ⟨p, hp, hp2⟩ : ∃ p, x + 5 * y = p ∧ p < 25 := ⟨_, rfl, by omega⟩
                  obtain ⟨p1, hp1, hp12⟩ : ∃ p, x1 % 5 + 5 * y = p ∧ p < 25 := ⟨_, rfl, by omega⟩
                  obtain ⟨p3, hp3, hp32⟩ : ∃ p, x2 % 5 + 5 * y = p ∧ p < 25 := ⟨_, rfl, by omega⟩
                  rw [show x % 5 + 5 * (y % 5) = p by omega] at KA
                  rw [show x1 % 5 + 5 * (y % 5) = p1 by omega] at KB
                  rw [show x2 % 5 + 5 * (y % 5) = p3 by omega] at KD
                  rw [show 5 * y + x = p by omega, show 5 * y + x1 % 5 = p1 by omega, show 5 * y + x2 % 5 = p3 by omega] at HV
                  have HO2 : Hid (ordp p < 5 * x + (y + 1)) := by rw [← hp]; exact ord2_self x y hlt
                  have HS2 : Hid (∀ j, j < 25 → j ≠ p → ((ordp j < 5 * x + (y + 1)) ↔ (ordp j < 5 * x + y))) := by rw [← hp]; exact fun j hj hne => ord2_step x y j hly hj hne
                  have l2 : (p : Int) < 25 := by omega
                  have l3 : (p1 : Int) < 25 := by omega
                  have l4 : (p3 : Int) < 25 := by omega
                  have m0 := DW.c p hp2
                  have m1 := DW.c p1 hp12
                  have m2 := DW.c p3 hp32
                  obtain ⟨v0, hv0⟩ : ∃ v, G p = v := ⟨_, rfl⟩
                  obtain ⟨v1, hv1⟩ : ∃ v, G p1 = v := ⟨_, rfl⟩
                  obtain ⟨v2, hv2⟩ : ∃ v, G p3 = v := ⟨_, rfl⟩
                  rw [hv0] at m0
                  rw [hv1] at m1
                  rw [hv2] at m2
                  rw [hv0, hv1, hv2] at HV
                  have HV2 : Hid (rowsOf G p = xr v0 (an (nt v1) v2)) := HV
                  clear HV hv0 hv1 hv2 hp hp1 hp3 hx1 hx2
                  go_wp2
                  have k0 := cell_regrown m0
                  have k1 := cell_regrown m1
                  have k2 := cell_regrown m2
                  have cA := inClass (w := wr) KA.out
                  have cB := inClass (w := wr) KB.out
                  have cD := inClass (w := wr) KD.out
                  refine region_tail 23 (by kernel_rfl) (by kernel_rfl) ?_
                  simp only [List.take_succ_cons, List.take_zero, List.drop_succ_cons, List.drop_zero]
                  iterate 2 (quiet_step (fail))
                  quiet_step (exact cA _ _)
                  iterate 2 (quiet_step (fail))
                  quiet_step (exact cA _ _)
                  iterate 5 (quiet_step (fail))
                  quiet_step (exact cB _ _)
                  iterate 6 (quiet_step (fail))
                  quiet_step (exact cD _ _)
                  iterate 4 (quiet_step (fail))
                  refine wpQuiet_nil ?_
                  intro w8 hw8
                  have hb8 : Below wr.heap.size wr w8 := by
                    obtain ⟨p, rfl⟩ := hw8
                    exact below_regrown _ _ _
                  have E8 := RW.below hb8
                  have D8 := DW.below hb8
                  have O8 := OW.below hb8
                  clear hw8 hb8 k0 k1 k2 cA cB cD KA KB KD RW DW OW m0 m1 m2
                  have n0 := O8.c p hp2
                  have sf := O8.f
                  have sz := O8.z
                  go_wp2
                  go_roundg (gk - 1)
                  case measure => omega
                  case rel =>
                    refine ⟨y + 1, fun j => if j = p then xr v0 (an (nt v1) v2) else h j, by omega, rfl, E8.setCell ⟨o, p, none⟩ (by dsimp only; omega) _, D8.setCell ⟨o, p, none⟩ (by dsimp only; omega) _, O8.put p hp2 _ (fun j _ => by by_cases e : j = p <;> simp [e]), ?_⟩
                    intro j hj
                    show (if j = p then xr v0 (an (nt v1) v2) else h j) = _
                    by_cases e : j = p
                    · rw [if_pos e, e, if_pos HO2.out, HV2.out]
                    · rw [if_neg e, hH.out j hj]
                      by_cases e2 : ordp j < 5 * x + y
                      · rw [if_pos e2, if_pos ((HS2.out j hj e).2 e2)]
                      · rw [if_neg e2, if_neg fun e3 => e2 ((HS2.out j hj e).1 e3)]
                · have hy2 : y = 5 := by omega
                  subst hy2
                  clear hly
                  go_wp2
                  go_roundg (4 - x)
                  case measure => omega
                  case rel => exact ⟨x + 1, h, by omega, rfl, RW, DW, OW, fun j hj => by rw [hH.out j hj, show 5 * (x + 1) = 5 * x + 5 by omega]⟩
            · have hx2 : x = 5 := by omega
              subst hx2
              clear hlt
              have O5 : Fw o 25 (fun j => .int .u64 (rowsOf G j)) wr := OW.ext fun j hj => by show Value.int .u64 _ = .int .u64 _; rw [hH.out j hj, if_pos (ord2_all j hj)]
              clear DW hH hx h OW
              have m0 := O5.c 0 (by omega)
              obtain ⟨v0, hv0⟩ : ∃ v, rowsOf G 0 = v := ⟨_, rfl⟩
              rw [hv0] at m0 HR
              go_wp2
              have k0 := cell_regrown m0
              have cC := inClass (w := wr) KC.out
              refine region_tail 5 (by kernel_rfl) (by kernel_rfl) ?_
              simp only [List.take_succ_cons, List.take_zero, List.drop_succ_cons, List.drop_zero]
              iterate 3 (quiet_step (fail))
              quiet_step (exact cC _ _)
              quiet_step (fail)
              refine wpQuiet_nil ?_
              intro w8 hw8
              have hb8 : Below wr.heap.size wr w8 := by
                obtain ⟨p, rfl⟩ := hw8
                exact below_regrown _ _ _
              have E8 := RW.below hb8
              have O8 := O5.below hb8
              clear hw8 hb8 k0 cC KC RW O5 m0
              obtain ⟨v, hv⟩ : ∃ v, bits .xor .u64 v0 (cn k) = v := ⟨_, rfl⟩
              have hv2 : xr v0 (cn k) = v := hv
              rw [hv2] at HR
              rw [hv]
              clear hv hv2 hv0
              have n0 := O8.c 0 (by omega)
              have sf := O8.f
              have sz := O8.z
              have E9 := E8.setCell ⟨o, 0, none⟩ (by dsimp only; omega) (.int .u64 v)
              have O9 : Fw o 25 (fun j => .int .u64 (if j = 0 then v else rowsOf G j)) (w8.setCell ⟨o, 0, none⟩ (.int .u64 v)) := O8.put 0 (by omega) _ (fun j _ => by by_cases e : j = 0 <;> simp [e])
              have hst := E9.r.run (P := Tryz.prog) (fun j => .int .u64 (if j = 0 then v else rowsOf G j)) (fun _ => rfl)
              have hr := O9.range
              have hr2 := (E9.r.store (fun j => .int .u64 (if j = 0 then v else rowsOf G j))).range
              have HB : Hid (Below z w (w8.setCell ⟨o, 0, none⟩ (.int .u64 v))) := E9.b
              obtain ⟨l, hl⟩ : ∃ l, (fl 25 fun j => .int .u64 (if j = 0 then v else rowsOf G j)) = l := ⟨_, rfl⟩
              have hlen : l.length = 25 := by rw [← hl]; exact fl_len _ _
              rw [hl] at HR hst hr hr2
              clear hl E8 O8 E9 O9
              go_wp2_with (refine wpList_load_mid rfl 65 _ rfl o 0 rfl l _ hr Tryz.underlying65 rfl (by rw [hlen]; exact size_rst) ?_)
              refine bodyPost_ret (v := .agg l.toArray) (results_mid Tryz.results38 _ _ (z + 2) l _ rfl hr2 Tryz.underlying65 rfl (by rw [hlen]; exact size_rst)) rfl ⟨by rw [HR.out], ?_⟩
              rw [HZ.out]
              exact below_setCells' (by omega) _ _ _ HB.out
end Go.Proofs.YtfdjiofogohcmaaGreatDoor
namespace Go.Proofs.YtfdjiofogohcmaaGreatDoor
open Go.RowKit Go.Sort

/-- A byte of a text with what follows it in its last block; how many there are. -/
def qN (s : ByteArray) : Nat := 136 * (s.size / 136 + 1)
def qAt (s : ByteArray) (k : Nat) : Int := if k < s.size then k_bt s k else if k = s.size then 1 else 0
def qL (s : ByteArray) (k : Nat) : Int := if k = qN s - 1 then bits .xor .u8 (qAt s k) 128 else qAt s k
theorem info_u8' : (Tryz.prog.info? 5).map (fun i => (i.zero, i.size, i.bytes)) = some (some (.int .u8 0), 1, 1) := by kernel_rfl
theorem one_new' (w : World) (x : Value) (t : TypeId) : ∀ j u, [x][j]? = some u → (w.alloc (.cells #[x] t)).cell? ((⟨w.heap.size, 0, none⟩ : Addr).add j) = some u := by
  intro j u hj
  match j, hj with
  | 0, hj => simp at hj; subst hj; simp [Addr.add]
theorem bs_bytes (s : ByteArray) (cap : Nat) (hc : s.size ≤ cap) (w : World) (e : TypeId) (h : Nat → Value) (hh : ∀ j, j < s.size → h j = .int .u8 (k_bt s j)) :
    Bs w.heap.size s.size cap h (w.alloc (.cells (bytesRow s cap) e ((bytesRow s cap).size, (bytesRow s cap).size + 1))) := by
  have hz : (bytesRow s cap).size = cap := by
    have : s.data.size = s.size := rfl
    simp [bytesRow, this]; omega
  refine ⟨by simp, hc, fun j hj => ?_, fun j hj => ?_, fun j hj => ?_⟩
  · rw [World.cell?_alloc_mark, bytesRow_at s cap j hj, hh j hj]
    unfold k_bt
    have : s.data.getD j 0 = s.data[j]'hj := by
      have hj' : j < s.data.size := hj
      simp only [Array.getD, hj', dite_true]
      rfl
    rw [this]
  · rw [World.cell?_alloc_mark, Array.getElem?_eq_getElem (by rw [hz]; exact hj)]
    rfl
  · rw [World.frozen?_alloc_mark, hz]
    simp; omega

/-- What is left of it, once it is only read. -/
structure Rd (g n : Nat) (f : Nat → Value) (W : World) : Prop where
  z : g < W.heap.size
  c : ∀ j, j < n → W.cell? ⟨g, j, none⟩ = some (f j)
theorem Rd.below {g n : Nat} {f : Nat → Value} {W W' : World} (k : Rd g n f W) (hb : Below W.heap.size W W') : Rd g n f W' :=
  ⟨Nat.lt_of_lt_of_le k.z hb.size, fun j hj => (hb.cell (p := ⟨g, j, none⟩) k.z).trans (k.c j hj)⟩

theorem Bs.mark {g n cap : Nat} {f h : Nat → Value} {W : World} (k : Bs g n cap f W) (i : Nat) (hi : i < n) (v : Value) (e : ∀ j, j < n → h j = if j = i then v else f j) : Rd g n h (W.setCell ⟨g, i, none⟩ v) := by
  refine ⟨by simpa [go_sem] using k.z, fun j hj => ?_⟩
  rw [e j hj]
  by_cases q : j = i
  · subst q
    have := k.c j hj
    simp [go_sem, *]
  · have := k.c j hj
    simp [go_sem, *]
theorem Rd.setCell {g n : Nat} {f : Nat → Value} {W : World} (k : Rd g n f W) (p : Addr) (hp : p.block ≠ g) (v : Value) : Rd g n f (W.setCell p v) := by
  have hp' : g ≠ p.block := fun e => hp e.symm
  obtain ⟨pb, po, pm⟩ := p
  simp only at hp hp'
  exact ⟨by simpa [go_sem] using k.z, fun j hj => by have := k.c j hj; simp [go_sem, *]⟩
theorem Rd.storeOther {g n : Nat} {f : Nat → Value} {W : World} (k : Rd g n f W) (b : Nat) (hb : b ≠ g) (vs : List Value) : Rd g n f (W.setCells b 0 vs) := by
  have G := grown_setCells (g := b) vs 0 W
  have hk : (W.setCells b 0 vs).heap[g]? = W.heap[g]? := G.block g k.z (fun e => hb (by cases e; rfl))
  exact ⟨Nat.lt_of_lt_of_le k.z G.size, fun j hj => by rw [← k.c j hj]; simp only [World.cell?, hk]⟩

/-- The lanes behind the first bytes of a block, and behind n blocks. -/
def rblk (g : Nat → Int) (q : Nat → Int) : Nat → Nat → Int
  | 0 => g
  | i + 1 => putAt (rblk g q i) (i / 8) (xr (rblk g q i (i / 8)) (IntKind.u64.wrap (q i * 2 ^ (8 * (i % 8)))))
def rin (s : ByteArray) : Nat → Nat → Int
  | 0 => fun _ => 0
  | n + 1 => roundsOf (rblk (rin s n) (fun i => qL s (136 * n + i)) 136) 24
def rsumOf (s : ByteArray) : ByteArray := ⟨(dg (rin s (s.size / 136 + 1))).toArray⟩
theorem la_round (k : Nat) (f : Nat → Int) (j : Nat) : La (roundOf k f j) := by
  unfold roundOf
  by_cases h : j = 0
  · rw [if_pos h]; exact xr_la _ _
  · rw [if_neg h]; exact xr_la _ _
theorem la_rounds (g : Nat → Int) (h : ∀ j, La (g j)) (k j : Nat) : La (roundsOf g k j) := by
  cases k with
  | zero => exact h j
  | succ k => exact la_round _ _ _
theorem la_rblk (g q : Nat → Int) (h : ∀ j, La (g j)) (i j : Nat) : La (rblk g q i j) := by
  induction i with
  | zero => exact h j
  | succ i ih =>
    show La (putAt _ _ _ j)
    unfold putAt
    by_cases e : j = i / 8
    · rw [if_pos e]; exact xr_la _ _
    · rw [if_neg e]; exact ih
theorem la_rin (s : ByteArray) (n j : Nat) : La (rin s n j) := by
  induction n generalizing j with
  | zero => exact ⟨Int.le_refl _, by show (0 : Int) < _; decide⟩
  | succ n ih => exact la_rounds _ (fun j => la_rblk _ _ ih _ _) _ _
theorem qL_bd (s : ByteArray) (k : Nat) : 0 ≤ qL s k ∧ qL s k < 256 := by
  have h1 : 0 ≤ qAt s k ∧ qAt s k < 256 := by
    unfold qAt
    by_cases a : k < s.size
    · rw [if_pos a]; exact k_bt_bd s k
    · rw [if_neg a]
      by_cases b : k = s.size
      · rw [if_pos b]; omega
      · rw [if_neg b]; omega
  unfold qL
  by_cases a : k = qN s - 1
  · rw [if_pos a]
    have e : bits .xor .u8 (qAt s k) 128 = IntKind.u8.wrap (((BitVec.ofInt 8 (qAt s k)) ^^^ (BitVec.ofInt 8 128)).toNat : Int) := rfl
    rw [e, IntKind.wrap_u8]
    omega
  · rw [if_neg a]; exact h1
abbrev is25 : Array Value := #[.int .i64 0, .int .i64 0, .int .i64 0, .int .i64 0, .int .i64 0, .int .i64 0, .int .i64 0, .int .i64 0, .int .i64 0, .int .i64 0, .int .i64 0, .int .i64 0, .int .i64 0, .int .i64 0, .int .i64 0, .int .i64 0, .int .i64 0, .int .i64 0, .int .i64 0, .int .i64 0, .int .i64 0, .int .i64 0, .int .i64 0, .int .i64 0, .int .i64 0]

theorem fl_succ' (k : Nat) (f : Nat → Value) : fl (k + 1) f = fl k f ++ [f k] := by simp [fl, List.range_succ]
theorem owns_below' {w w' : World} {b : Nat} {e : TypeId} {size : Nat} {v : Value} {n : Nat} {xs : List Value} (h : w.ownsRow b e size v n xs) (hb : Below w.heap.size w w') : w'.ownsRow b e size v n xs :=
  h.kept (row := none) ⟨hb.os, hb.tape, hb.output, hb.size, fun k hk _ => hb.block k hk⟩ (by cases v.ownBlock <;> simp)
theorem Fw.grown' {n N : Nat} {g : Nat → Value} {W W' : World} {row : Option Nat} (k : Fw n N g W) (hg : W.grownBy W' row) (hne : some n ≠ row) : Fw n N g W' := by
  have hb : W'.heap[n]? = W.heap[n]? := hg.block n k.z hne
  refine ⟨Nat.lt_of_lt_of_le k.z hg.size, fun j hj => ?_, fun o => ?_⟩
  · rw [← k.c j hj]; simp only [World.cell?, hb]
  · rw [← k.f o]; simp only [World.frozen?, hb]

set_option maxRecDepth 20000 in
set_option maxHeartbeats 4000000 in
theorem rsum_any (s : ByteArray) (hs : s.size ≤ 100000) (w : World) :
    Calls Tryz.prog 24 #[.string s] w fun e w' => e = .returned (.string (rsumOf s)) ∧ Below w.heap.size w w' := by
  obtain ⟨i0, hi0, hz0, hz1, hz2⟩ := info_parts info_u8'
  have hby : i0.bytes ≤ 64 := by rw [hz2]; decide
  have hge := grownCap_ge w s.size 0 5
  obtain ⟨c0, hc0⟩ : ∃ c, grownCap w s.size 0 5 = c := ⟨_, rfl⟩
  have hcv := run_bytes_of_string (P := Tryz.prog) w 9 60 5 s Tryz.underlying9 Tryz.underlying60 Tryz.underlying5
  rw [hc0] at hcv hge
  have B0 : Bs w.heap.size s.size c0 (fun j => .int .u8 (qAt s j)) (w.drew.alloc (.cells (bytesRow s c0) 5 ((bytesRow s c0).size, (bytesRow s c0).size + 1))) := bs_bytes s c0 hge w.drew 5 _ (fun j hj => by rw [qAt, if_pos hj])
  have E0 : Below w.heap.size w (w.drew.alloc (.cells (bytesRow s c0) 5 ((bytesRow s c0).size, (bytesRow s c0).size + 1))) := (Below.refl _ w).drew.alloc (by simp) _
  obtain ⟨w1, hw1⟩ : ∃ w1, w.drew.alloc (.cells (bytesRow s c0) 5 ((bytesRow s c0).size, (bytesRow s c0).size + 1)) = w1 := ⟨_, rfl⟩
  rw [hw1] at hcv B0 E0
  clear hw1 hc0 hge
  obtain ⟨z, hz⟩ : ∃ z, w.heap.size = z := ⟨_, rfl⟩
  rw [hz] at hcv B0 E0 ⊢
  have hzw : z ≤ w1.heap.size := by rw [← hz] at E0 ⊢; exact E0.size
  clear hz
  go_enter Tryz.func24, Tryz.ntmps24
  go_wp2_with (at_builtin; refine wpList_append_bs rfl _ _ 60 rfl 5 i0 (.int .u8 0) Tryz.underlying60 hi0 hz0 hz1 hby rfl z s.size c0 (fun j => .int .u8 (qAt s j)) rfl (B0.below ((Below.refl _ w1).alloc (Nat.le_refl _) _)) ⟨w1.heap.size, 0, none⟩ 1 1 [.int .u8 1] rfl rfl (one_new' _ _ _) (by intro u hu; simp at hu; subst hu; rfl) ?c4 (by omega) ?_)
  case c4 =>
    intro j u hj
    match j, hj with
    | 0, hj => cases hj; rw [Nat.add_zero, qAt, if_neg (by omega), if_pos rfl]
  intro g cap W1 BB hg hgr
  have E1 : Below z w W1 := (E0.alloc hzw _).grown hgr (by simp; omega) (fun k e => by cases e; exact Nat.le_refl _)
  have hzg : z ≤ g := by
    rcases hg with h | h
    · rw [h]; exact Nat.le_refl _
    · (try simp at h); omega
  clear hgr hg B0 E0 hcv
  go_wp2
  obtain ⟨nb, hnb⟩ : ∃ nb, s.size / 136 + 1 = nb := ⟨_, rfl⟩
  obtain ⟨N, hN⟩ : ∃ N, qN s = N := ⟨_, rfl⟩
  have hN136 : N = 136 * nb := by rw [← hN, ← hnb, qN]
  have hNs : s.size + 1 ≤ N ∧ N ≤ s.size + 136 := by omega
  obtain ⟨Z, hZ⟩ : ∃ Z, s.size + 1 + Z = N := ⟨N - (s.size + 1), by omega⟩
  have HN : Hid (qN s = N ∧ s.size / 136 + 1 = nb ∧ N = 136 * nb) := ⟨hN, hnb, hN136⟩
  have hnb8 : nb ≤ 1000 := by omega
  clear hN hN136 hnb
  have hzW : z ≤ W1.heap.size := Nat.le_trans hzg (Nat.le_of_lt BB.z)
  go_loopg [3] Z (fun gk v wr => ∃ k g cap : Nat, k + gk = Z ∧ v = .slice (some ⟨g, 0, none⟩) (s.size + 1 + k) cap ∧ Bs g (s.size + 1 + k) cap (fun j => .int .u8 (qAt s j)) wr ∧ z ≤ g ∧ Below z w wr)
  case atStart => exact ⟨0, g, cap, by omega, rfl, BB, hzg, E1⟩
  case round =>
    clear BB hzg E1 hzW
    obtain ⟨k, g, cap, hk, rfl, BB, hzg, E1⟩ := hrel
    have hzr : z ≤ wr.heap.size := Nat.le_trans hzg (Nat.le_of_lt BB.z)
    obtain ⟨n, hn⟩ : ∃ n, s.size + 1 + k = n := ⟨_, rfl⟩
    have hn1 : n ≤ 100200 := by omega
    rw [hn] at BB ⊢
    by_cases hlt : k < Z
    · have hm : ¬ (n : Int) % 136 = 0 := by have := HN.out.2.2; omega
      have hmt : (n : Int).tmod 136 = (n : Int) % 136 := Int.tmod_eq_emod_of_nonneg (by omega)
      have HP0 : Hid (qAt s n = 0) := by show _ = _; rw [qAt, if_neg (by omega), if_neg (by omega)]
      go_wp2_with (at_builtin; refine wpList_append_bs rfl _ _ 60 rfl 5 i0 (.int .u8 0) Tryz.underlying60 hi0 hz0 hz1 hby rfl g n cap (fun j => .int .u8 (qAt s j)) rfl (BB.below ((Below.refl _ wr).alloc (Nat.le_refl _) _)) ⟨wr.heap.size, 0, none⟩ 1 1 [.int .u8 0] rfl rfl (one_new' _ _ _) (by intro u hu; simp at hu; subst hu; rfl) ?c4 (by omega) ?_)
      case c4 =>
        intro j u hj
        match j, hj with
        | 0, hj => cases hj; rw [Nat.add_zero, HP0.out]
      intro g2 cap2 W2 B2 hg hgr
      have E2 : Below z w W2 := (E1.alloc hzr _).grown hgr (by simp; omega) (fun k e => by cases e; exact hzg)
      have hzg2 : z ≤ g2 := by
        rcases hg with h | h
        · rw [h]; exact hzg
        · (try simp at h); omega
      clear hgr hg BB E1
      go_wp2
      go_roundg (gk - 1)
      case measure => omega
      case rel => exact ⟨k + 1, g2, cap2, by omega, by rw [← hn]; rfl, by rw [show s.size + 1 + (k + 1) = n + 1 by omega]; exact B2, hzg2, E2⟩
    · have hk2 : k = Z := by omega
      subst hk2
      clear hlt
      have hnN : n = N := by omega
      subst hnN
      have hm : (n : Int) % 136 = 0 := by have := HN.out.2.2; omega
      have hmt : (n : Int).tmod 136 = (n : Int) % 136 := Int.tmod_eq_emod_of_nonneg (by omega)
      obtain ⟨M, hM⟩ : ∃ M : Nat, n - 1 = M := ⟨_, rfl⟩
      have wM : IntKind.i64.wrap ((n : Int) - 1) = M := by rw [IntKind.wrap_i64]; omega
      have lM : (M : Int) < n := by omega
      have n0 := BB.c M (by omega)
      have sf := BB.fr M (by have := BB.nc; omega)
      have sz := BB.z
      obtain ⟨v0, hv0⟩ : ∃ v, qAt s M = v := ⟨_, rfl⟩
      rw [hv0] at n0
      obtain ⟨v1, hv1⟩ : ∃ v, bits .xor .u8 v0 128 = v := ⟨_, rfl⟩
      have RD : Rd g n (fun j => .int .u8 (qL s j)) (wr.setCell ⟨g, M, none⟩ (.int .u8 v1)) := BB.mark M (by omega) _ fun j hj => by
        show Value.int .u8 _ = _
        rw [qL, HN.out.1, hM]
        by_cases e : j = M
        · rw [if_pos e, if_pos e, e, hv0, hv1]
        · rw [if_neg e, if_neg e]
      have E2 : Below z w (wr.setCell ⟨g, M, none⟩ (.int .u8 v1)) := E1.setCell (p := ⟨g, M, none⟩) (by exact hzg) _
      have HX : Hid (_ ∧ _) := ⟨RD, E2⟩
      clear RD E2 BB E1 hv0 hM
      go_wp2_with fail
      obtain ⟨RD, E2⟩ := HX.out
      have hzq : z ≤ (wr.setCell ⟨g, M, none⟩ (.int .u8 v1)).heap.size := Nat.le_trans hzg (Nat.le_of_lt RD.z)
      refine (rturns_any _).mono ?_
      rintro e w2 ⟨rfl, B2⟩
      have RD2 := RD.below B2
      have E3 := belowStep E2 hzq B2
      clear RD E2 hzq B2 HX n0 sf sz
      have hzc : z ≤ w2.heap.size := Nat.le_trans hzg (Nat.le_of_lt RD2.z)
      have hgc : g < w2.heap.size := RD2.z
      have Z2 : Fw w2.heap.size 25 (fun _ => .int .i64 0) (w2.alloc (.cells is25 61)) := Fw.lit _ _ rfl rfl
      have hst := Z2.run (P := Tryz.prog) (fun j => .int .i64 (tn j)) (fun _ => rfl)
      have N3 := Z2.store (fun j => .int .i64 (tn j))
      obtain ⟨l, hl⟩ : ∃ l, (fl 25 fun j => .int .i64 (tn j)) = l := ⟨_, rfl⟩
      have hlen : l.length = 25 := by rw [← hl]; exact fl_len _ _
      rw [hl] at hst N3 ⊢
      have hz3 : Hid (((w2.alloc (.cells is25 61)).setCells w2.heap.size 0 l).heap.size = w2.heap.size + 1) := by
        show _ = _
        rw [setCells_size]
        simp
      have R3' : Rd g n (fun j => .int .u8 (qL s j)) ((w2.alloc (.cells is25 61)).setCells w2.heap.size 0 l) := (RD2.below ((Below.refl _ w2).alloc (Nat.le_refl _) _)).storeOther _ (by omega) _
      have E4 : Below z w ((w2.alloc (.cells is25 61)).setCells w2.heap.size 0 l) := below_setCells' hzc _ _ _ (E3.alloc hzc _)
      have H3 : Hid (_ ∧ _ ∧ _ ∧ _) := ⟨R3', N3, E4, hl⟩
      clear R3' N3 E4 Z2 RD2 E3 hl
      go_wp2_with fail
      obtain ⟨R3', N3, E4, hl⟩ := H3.out
      rw [hz3.out]
      obtain ⟨w3, hw3⟩ : ∃ w3, (w2.alloc (.cells is25 61)).setCells w2.heap.size 0 l = w3 := ⟨_, rfl⟩
      have hz4 := hz3.out
      rw [hw3] at R3' N3 E4 hz4 ⊢
      obtain ⟨c, hc⟩ : ∃ c, w2.heap.size = c := ⟨_, rfl⟩
      rw [hc] at N3 hz4 hzc hgc ⊢
      refine wpOf (fun W => Rd g n (fun j => .int .u8 (qL s j)) W ∧ Fw c 25 (fun j => .int .i64 (tn j)) W ∧ Fw (c + 1) 25 (fun _ => .int .u64 0) W ∧ Below z w W) ⟨R3'.below ((Below.refl _ w3).alloc (Nat.le_refl _) _), N3.alloc _, Fw.lit _ _ hz4 rfl, E4.alloc (by omega) _⟩ ?_
      rintro V ⟨RV, CV, DV, EV⟩
      clear R3' N3 E4 hz4 hw3 hc H3 hz3 hst
      obtain ⟨d, hd⟩ : ∃ d, c + 1 = d := ⟨_, rfl⟩
      rw [hd] at DV ⊢
      have hL2 : Hid (_ ∧ _) := ⟨hl, hlen⟩
      clear hl hlen wM lM
      go_loopg [6] nb (fun gk v wr => ∃ m : Nat, m + gk = nb ∧ v = .int .i64 ((136 * m : Nat) : Int) ∧ Rd g n (fun j => .int .u8 (qL s j)) wr ∧ Fw c 25 (fun j => .int .i64 (tn j)) wr ∧ Fw d 25 (fun j => .int .u64 (rin s m j)) wr ∧ Below z w wr)
      case atStart => exact ⟨0, by omega, rfl, RV, CV, DV, EV⟩
      case round =>
        clear RV CV DV EV
        obtain ⟨m, hm, rfl, RW, CW, DW, EW⟩ := hrel
        obtain ⟨p, hp⟩ : ∃ p, 136 * m = p := ⟨_, rfl⟩
        rw [hp]
        by_cases hlt : m < nb
        · have hpn : p + 136 ≤ n := by have := HN.out.2.2; omega
          have l0 : (p : Int) < n := by omega
          obtain ⟨G, hG⟩ : ∃ G, rin s m = G := ⟨_, rfl⟩
          have HG : Hid (rin s m = G ∧ 136 * m = p ∧ ∀ j, La (G j)) := ⟨hG, hp, fun j => by rw [← hG]; exact la_rin s m j⟩
          rw [hG] at DW
          clear hG hp
          go_wp2
          go_loopg [7] 136 (fun gk v wr => ∃ i : Nat, ∃ h : Nat → Int, i + gk = 136 ∧ v = .int .i64 i ∧ Rd g n (fun j => .int .u8 (qL s j)) wr ∧ Fw c 25 (fun j => .int .i64 (tn j)) wr ∧ Fw d 25 (fun j => .int .u64 (h j)) wr ∧ Below z w wr ∧ Hid (h = rblk G (fun i => qL s (p + i)) i))
          case atStart => exact ⟨0, G, by omega, rfl, RW, CW, DW, EW, (rfl : _ = _)⟩
          case round =>
            clear RW CW DW EW
            obtain ⟨i, h, hi, rfl, RW, CW, DW, EW, hH⟩ := hrel
            by_cases hli : i < 136
            · have l1 : (i : Int) < 136 := by omega
              obtain ⟨q, hq, hq17⟩ : ∃ q : Nat, i / 8 = q ∧ q < 17 := ⟨_, rfl, by omega⟩
              obtain ⟨r, hr, hr8⟩ : ∃ r : Nat, i % 8 = r ∧ r < 8 := ⟨_, rfl, by omega⟩
              obtain ⟨e, he⟩ : ∃ e : Nat, 8 * r = e := ⟨_, rfl⟩
              obtain ⟨t, ht⟩ : ∃ t : Nat, p + i = t := ⟨_, rfl⟩
              have a1 : (i : Int).tdiv 8 = q := by rw [Int.tdiv_eq_ediv_of_nonneg (by omega)]; omega
              have a2 : (i : Int).tmod 8 = r := by rw [Int.tmod_eq_emod_of_nonneg (by omega)]; omega
              have a3 : IntKind.i64.wrap (q : Int) = q := by rw [IntKind.wrap_i64]; omega
              have a4 : IntKind.i64.wrap (r : Int) = r := by rw [IntKind.wrap_i64]; omega
              have a5 : IntKind.i64.wrap (8 * (r : Int)) = e := by rw [IntKind.wrap_i64]; omega
              have a6 : IntKind.i64.wrap ((p : Int) + i) = t := by rw [IntKind.wrap_i64]; omega
              have a7 : IntKind.i64.wrap (e : Int) = e := by rw [IntKind.wrap_i64]; omega
              have b1 : (q : Int) < 25 := by omega
              have b2 : (t : Int) < n := by omega
              have b3 : (e : Int) ≤ 64 := by omega
              have b4 : (0 : Int) ≤ e := by omega
              have b5 : min e 64 = e := by omega
              have b6 : ¬ (e : Int) < 0 := by omega
              have m0 := DW.c q (by omega)
              have m1 := RW.c t (by omega)
              obtain ⟨v0, hv0⟩ : ∃ v, h q = v := ⟨_, rfl⟩
              obtain ⟨b0, hb0⟩ : ∃ v, qL s t = v := ⟨_, rfl⟩
              have hbd := qL_bd s t
              rw [hv0] at m0
              rw [hb0] at m1 hbd
              have a8 : IntKind.u64.wrap b0 = b0 := by rw [IntKind.wrap_u64]; omega
              have HV : Hid (rblk G (fun i => qL s (p + i)) (i + 1) = putAt h q (xr v0 (IntKind.u64.wrap (b0 * 2 ^ e)))) := by
                show putAt _ (i / 8) (xr _ (IntKind.u64.wrap (qL s (p + i) * 2 ^ (8 * (i % 8))))) = _
                rw [← hH.out, hq, hr, he, ht, hv0, hb0]
              clear hv0 hb0 hq hr ht he
              go_wp2
              have k0 := cell_regrown m0
              have k1 := cell_regrown m1
              refine region_tail 18 (by kernel_rfl) (by kernel_rfl) ?_
              simp only [List.take_succ_cons, List.take_zero, List.drop_succ_cons, List.drop_zero]
              iterate 18 (quiet_step (fail))
              refine wpQuiet_nil ?_
              intro w8 hw8
              have hb8 : Below wr.heap.size wr w8 := by
                obtain ⟨p, rfl⟩ := hw8
                exact below_regrown _ _ _
              have R8 := RW.below hb8
              have C8 := CW.below hb8
              have D8 := DW.below hb8
              have E8 := belowStep EW (Nat.le_trans hzg (Nat.le_of_lt RW.z)) hb8
              clear hw8 hb8 k0 k1 RW CW DW EW m0 m1
              have n0 := D8.c q (by omega)
              have sf := D8.f
              have sz := D8.z
              go_wp2
              go_roundg (gk - 1)
              case measure => omega
              case rel =>
                refine ⟨i + 1, putAt h q (xr v0 (IntKind.u64.wrap (b0 * 2 ^ e))), by omega, rfl, R8.setCell ⟨d, q, none⟩ (by dsimp only; omega) _, C8.setCell ⟨d, q, none⟩ (by dsimp only; omega) _, D8.put q (by omega) _ (fun j _ => by unfold putAt; by_cases e : j = q <;> simp [e]), E8.setCell (p := ⟨d, q, none⟩) (by dsimp only; omega) _, HV.out.symm⟩
            · have hi2 : i = 136 := by omega
              subst hi2
              clear hli
              have HL : Hid (∀ j, La (h j)) := fun j => by rw [hH.out]; exact la_rblk _ _ HG.out.2.2 _ _
              go_wp2
              obtain ⟨H, hHH⟩ : ∃ H, h = H := ⟨_, rfl⟩
              rw [hHH] at DW HL hH
              clear hHH h
              go_loopg [8] 24 (fun gk v wr => ∃ k : Nat, k + gk = 24 ∧ v = .int .i64 k ∧ Rd g n (fun j => .int .u8 (qL s j)) wr ∧ Fw c 25 (fun j => .int .i64 (tn j)) wr ∧ Fw d 25 (fun j => .int .u64 (roundsOf H k j)) wr ∧ Below z w wr)
              case atStart => exact ⟨0, by omega, rfl, RW, CW, DW, EW⟩
              case round =>
                clear RW CW DW EW
                obtain ⟨k, hk, rfl, RW, CW, DW, EW⟩ := hrel
                by_cases hlk : k < 24
                · have l2 : (k : Int) < 24 := by omega
                  obtain ⟨F1, hF1⟩ : ∃ F1, roundsOf H k = F1 := ⟨_, rfl⟩
                  have HF1 : Hid (roundsOf H k = F1) := hF1
                  have KR : Hid (∀ w : World, _) := fun w : World => rround_any F1 (fun j _ => by rw [← hF1]; exact la_rounds H HL.out k j) k hlk w
                  rw [hF1] at DW
                  have hr1 := DW.range
                  have hr2 := CW.range
                  obtain ⟨l1, hl1⟩ : ∃ l, (fl 25 fun j => .int .u64 (F1 j)) = l := ⟨_, rfl⟩
                  obtain ⟨l3, hl3⟩ : ∃ l, (fl 25 fun j => .int .u64 (roundOf k F1 j)) = l := ⟨_, rfl⟩
                  have hlen1 : l1.length = 25 := by rw [← hl1]; exact fl_len _ _
                  have hlen2 : l.length = 25 := hL2.out.2
                  have hlen3 : l3.length = 25 := by rw [← hl3]; exact fl_len _ _
                  rw [hL2.out.1] at hr2 KR
                  rw [hl1] at hr1 KR
                  rw [hl3] at KR
                  have HL3 : Hid (_ = _) := hl3
                  clear hF1 hl1 hl3
                  go_wp2_with (first | refine wpList_load_mid rfl 65 _ rfl d 0 rfl l1 _ hr1 Tryz.underlying65 rfl (by rw [hlen1]; exact size_rst) ?_ | refine wpList_load_mid rfl 61 _ rfl c 0 rfl l _ hr2 Tryz.underlying61 rfl (by rw [hlen2]; exact size_i25) ?_)
                  refine (KR.out _).mono ?_
                  rintro e w4 ⟨rfl, B4⟩
                  have R4 := RW.below B4
                  have C4 := CW.below B4
                  have D4 := DW.below B4
                  have E4 := belowStep EW (Nat.le_trans hzg (Nat.le_of_lt RW.z)) B4
                  clear B4 RW CW DW EW KR hr1 hr2 hlen1 hlen2
                  have hst := D4.run (P := Tryz.prog) (fun j => .int .u64 (roundOf k F1 j)) (fun _ => rfl)
                  have N4 := D4.store (fun j => .int .u64 (roundOf k F1 j))
                  rw [HL3.out] at hst N4
                  have q4 : Below z w (w4.setCells d 0 l3) := below_setCells' (by omega) _ _ _ E4
                  have H4 : Hid (_ ∧ _ ∧ _ ∧ _) := ⟨R4.storeOther d (by omega) l3, C4.storeOther d (by omega) l3, N4, q4⟩
                  clear q4
                  clear R4 C4 D4 E4 N4
                  go_wp2
                  go_roundg (gk - 1)
                  case measure => omega
                  case rel =>
                    obtain ⟨q1, q2, q3, q4⟩ := H4.out
                    exact ⟨k + 1, by omega, rfl, q1, q2, by show Fw d 25 (fun j => .int .u64 (roundOf k (roundsOf H k) j)) _; rw [HF1.out]; exact q3, q4⟩
                · have hk2 : k = 24 := by omega
                  subst hk2
                  clear hlk
                  have ep : Hid (136 * (m + 1) = p + 136) := by have := HG.out.2.1; show _ = _; omega
                  have er : Hid (rin s (m + 1) = roundsOf H 24) := by
                    show roundsOf (rblk (rin s m) (fun i => qL s (136 * m + i)) 136) 24 = _
                    rw [HG.out.1, HG.out.2.1, ← hH.out]
                  have wp : IntKind.i64.wrap ((p : Int) + 136) = (p : Int) + 136 := by rw [IntKind.wrap_i64]; omega
                  go_wp2
                  go_roundg (nb - (m + 1))
                  case measure => omega
                  case rel => exact ⟨m + 1, by omega, by rw [ep.out]; rfl, RW, CW, by rw [er.out]; exact DW, EW⟩
        · have hm2 : m = nb := by omega
          subst hm2
          clear hlt
          have hpn : p = n := by have := HN.out.2.2; omega
          rw [hpn]
          clear hp hpn
          obtain ⟨F1, hF1⟩ : ∃ F1, rin s m = F1 := ⟨_, rfl⟩
          have HS : Hid (rsumOf s = ⟨(dg F1).toArray⟩) := by
            show _ = _
            rw [rsumOf, HN.out.2.1, hF1]
          rw [hF1] at DW
          clear hF1
          have hzd : z ≤ wr.heap.size := Nat.le_trans hzg (Nat.le_of_lt RW.z)
          go_wp2
          clear RW CW
          go_loopg [9, 10] 32 (fun gk v i wr => ∃ m : Nat, m + gk = 32 ∧ i = .int .i64 m ∧ Below z w wr ∧ z ≤ wr.heap.size ∧ Fw d 25 (fun j => .int .u64 (F1 j)) wr ∧ wr.ownsRow (d + 1) 5 1 v m (fl m fun j => .int .u8 (dgAt F1 j)))
          case atStart => exact ⟨0, by omega, rfl, EW, hzd, DW, World.ownsRow_nil _ _ _ _⟩
          case round =>
            clear EW hzd DW
            obtain ⟨k, hk, rfl, EW, hzd, DW, hown⟩ := hrel
            have hr9 : ∀ b, u9.ownBlock = some b → d + 1 ≤ b := fun b hb => (hown.lt b hb).1
            by_cases hlt : k < 32
            · obtain ⟨q, hqk, hq4⟩ : ∃ q : Nat, k / 8 = q ∧ q < 4 := ⟨k / 8, rfl, by omega⟩
              obtain ⟨r, hrk, hr4⟩ : ∃ r : Nat, k % 8 = r ∧ r < 8 := ⟨k % 8, rfl, by omega⟩
              have hq : (k : Int).tdiv 8 = q := by rw [Int.tdiv_eq_ediv_of_nonneg (by omega)]; omega
              have hr : (k : Int).tmod 8 = r := by rw [Int.tmod_eq_emod_of_nonneg (by omega)]; omega
              obtain ⟨e, he⟩ : ∃ s : Nat, 8 * r = s := ⟨_, rfl⟩
              have e64 : (e : Int) ≤ 64 := by omega
              have e0 : (0 : Int) ≤ e := by omega
              have emin : min e 64 = e := by omega
              have hm : IntKind.i64.wrap (8 * (r : Int)) = e := by rw [IntKind.wrap_i64]; omega
              have wq : IntKind.i64.wrap (q : Int) = q := by rw [IntKind.wrap_i64]; omega
              have lq : (q : Int) < 25 := by omega
              have l0 : (k : Int) < 32 := by omega
              have m0 := DW.c q (by omega)
              obtain ⟨v, hv⟩ : ∃ v, F1 q = v := ⟨_, rfl⟩
              rw [hv] at m0
              obtain ⟨t, ht⟩ : ∃ t, v / 2 ^ e % 256 = t := ⟨_, rfl⟩
              have hu : IntKind.u8.wrap (v / 2 ^ e) = t := by rw [IntKind.wrap_u8]; exact ht
              have HB : Hid (dgAt F1 k = t) := by
                show _ = _
                rw [dgAt, hqk, hrk, hv, he, ht]
              clear hqk hrk hv ht he
              go_wp2_with (at_builtin; refine wpList_append_own _ rfl _ _ 60 rfl (d + 1) 5 i0 (.int .u8 0) 1 1 Tryz.underlying60 hi0 hz0 hz1 hz2 rfl (by decide) _ _ _ rfl (owns_below' hown ((Below.refl _ wr).alloc (Nat.le_refl _) _)) ⟨wr.heap.size, 0, none⟩ 1 1 [.int .u8 t] rfl rfl ?c1 ?c2 ?c3 ?c4 ?c5 ?_)
              case c1 => exact one_new' _ _ _
              case c2 => intro u hu; simp at hu; subst hu; rfl
              case c3 => unfold maxLen; omega
              case c4 => have := DW.z; (try simp); omega
              case c5 => have := DW.z; (try simp); omega
              · intro v' w3 hown' hgrow _
                go_wp2
                go_roundg (gk - 1)
                case measure => omega
                case rel =>
                  refine ⟨k + 1, by omega, rfl, (EW.alloc hzd _).grown hgrow (by simp; omega) (fun b hb => Nat.le_trans (by omega) (hr9 b hb)), Nat.le_trans (by simp; omega) hgrow.size, (DW.alloc _).grown' hgrow (fun e => by have := hr9 _ e.symm; omega), ?_⟩
                  rw [fl_succ', HB.out]
                  exact hown'
            · have hk2 : k = 32 := by omega
              subst hk2
              clear hlt
              rcases hown.2 with ⟨rfl, h0⟩ | ⟨q, cp, cur, rfl, hg1, hg2, hg3, hg4, hg5, hg6⟩
              · exact absurd h0 (by decide)
              · have hcv := run_convert_bytes_back (P := Tryz.prog) wr 60 9 5 ⟨q, 0, none⟩ cp (dg F1) Tryz.underlying60 Tryz.underlying5 Tryz.underlying9 (fun j hj => by
                  have hj' : j < 32 := by rw [dg_len] at hj; exact hj
                  rw [dg_at]
                  exact hown.cells (g := q) rfl j _ (fl_at 32 _ j hj'))
                rw [dg_len] at hcv
                clear hown hg2 hg3 hg4 hg5 hg6
                go_wp2
                go_ret
                exact ⟨by rw [HS.out]; rfl, EW⟩
end Go.Proofs.YtfdjiofogohcmaaGreatDoor
