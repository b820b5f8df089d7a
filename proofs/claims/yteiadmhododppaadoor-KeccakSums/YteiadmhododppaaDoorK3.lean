/- What turnAndMove does at this translation: for all lanes, whatever else lies in memory, where the two tables are what the package lays. -/
import Derived.Test.YteiadmhododppaaDoorK2
namespace Go.Proofs.YteiadmhododppaaDoor
open Go.RowKit Go.Sort

/-- By how much a lane is turned; the lane that it goes to; the lane that comes to it. -/
def tn (j : Nat) : Nat := [0, 1, 62, 28, 27, 36, 44, 6, 55, 20, 3, 10, 43, 25, 39, 41, 45, 15, 21, 8, 18, 2, 61, 56, 14].getD j 0
def pl (j : Nat) : Nat := [0, 10, 20, 5, 15, 16, 1, 11, 21, 6, 7, 17, 2, 12, 22, 23, 8, 18, 3, 13, 14, 24, 9, 19, 4].getD j 0
def fr (j : Nat) : Nat := [0, 6, 12, 18, 24, 3, 9, 10, 16, 22, 1, 7, 13, 19, 20, 4, 5, 11, 17, 23, 2, 8, 14, 15, 21].getD j 0
theorem tn_bd (j : Nat) (h : j < 25) : tn j < 64 := (by decide : ∀ j : Fin 25, tn j.val < 64) ⟨j, h⟩
theorem pl_bd (j : Nat) (h : j < 25) : pl j < 25 := (by decide : ∀ j : Fin 25, pl j.val < 25) ⟨j, h⟩
theorem fr_bd (j : Nat) (h : j < 25) : fr j < 25 := (by decide : ∀ j : Fin 25, fr j.val < 25) ⟨j, h⟩
theorem fr_pl (j : Nat) (h : j < 25) : fr (pl j) = j := (by decide : ∀ j : Fin 25, fr (pl j.val) = j.val) ⟨j, h⟩
theorem pl_fr (j : Nat) (h : j < 25) : pl (fr j) = j := (by decide : ∀ j : Fin 25, pl (fr j.val) = j.val) ⟨j, h⟩

/-- The two tables lie where the package has them. -/
structure Tabs (w : World) : Prop where
  t : Fw 1 25 (fun j => .int .i64 (tn j)) w
  p : Fw 2 25 (fun j => .int .i64 (pl j)) w

/-- Step 2 of a round: a lane turned and moved. -/
def movedOf (g : Nat → Int) (j : Nat) : Int := rot (g (fr j)) (tn (fr j))

theorem size_kst : (Tryd.prog.info? 31).map (·.size) = some 25 := by kernel_rfl

set_option maxRecDepth 20000 in
set_option maxHeartbeats 4000000 in
theorem turnAndMove_any (s : Nat) (f : Nat → Int) (w : World) (hs : Fw s 25 (fun j => .int .u64 (f j)) w) (ht : Tabs w) :
    Calls Tryd.prog 23 #[.pointer (some ⟨s, 0, none⟩)] w fun e w' =>
      e = .returned (.agg (fl 25 fun j => .int .u64 (movedOf f j)).toArray) ∧ Below w.heap.size w w' := by
  have km : IntKind.u64.max = 18446744073709551615 := by decide
  have ks : IntKind.u64.signed = false := rfl
  have FC : Hid (∀ (w : World) (x : Int) (k : Nat), k < 64 → Calls Tryd.prog 27 #[.int .u64 x, .int .i64 k] w fun e w' => e = .returned (.int .u64 (rot x k)) ∧ Below w.heap.size w w') := fun w x k h => rot_any x k h w
  go_enter Tryd.func23, Tryd.ntmps23
  go_wp2
  have hs2 : s ≠ w.heap.size + 1 := by have := hs.z; omega
  have h12 : 1 < w.heap.size + 1 := by have := ht.t.z; omega
  have h22 : 2 < w.heap.size + 1 := by have := ht.p.z; omega
  refine wpOf (fun W => Below w.heap.size w W ∧ Fw w.heap.size 25 (fun _ => .int .u64 0) W ∧ Fw (w.heap.size + 1) 25 (fun _ => .int .u64 0) W ∧ Fw s 25 (fun j => .int .u64 (f j)) W ∧ Fw 1 25 (fun j => .int .i64 (tn j)) W ∧ Fw 2 25 (fun j => .int .i64 (pl j)) W) ⟨((Below.refl _ w).alloc (Nat.le_refl _) _).alloc (by simp) _, Fw.alloc (Fw.lit _ _ rfl rfl) _, Fw.lit _ _ (by simp) rfl, (hs.alloc _).alloc _, (ht.t.alloc _).alloc _, (ht.p.alloc _).alloc _⟩ ?_
  rintro V ⟨BV, ZV, CV, SV, TV, PV⟩
  clear ht hs
  obtain ⟨z, hz⟩ : ∃ c, w.heap.size = c := ⟨_, rfl⟩
  have HZ : Hid (w.heap.size = z) := hz
  rw [hz] at BV ZV CV hs2 h12 h22 ⊢
  clear hz
  obtain ⟨c, hc⟩ : ∃ c, z + 1 = c := ⟨_, rfl⟩
  rw [hc] at CV hs2 h12 h22 ⊢
  go_loopg [5] 25 (fun gk i wr => ∃ k : Nat, ∃ h : Nat → Int, k + gk = 25 ∧ i = .int .i64 k ∧ Below z w wr ∧ Fw z 25 (fun _ => .int .u64 0) wr ∧ Fw c 25 (fun j => .int .u64 (h j)) wr ∧ Fw s 25 (fun j => .int .u64 (f j)) wr ∧ Fw 1 25 (fun j => .int .i64 (tn j)) wr ∧ Fw 2 25 (fun j => .int .i64 (pl j)) wr ∧ Hid (∀ j, j < 25 → h j = if fr j < k then movedOf f j else 0))
  case atStart => exact ⟨0, fun _ => 0, rfl, rfl, BV, ZV, CV, SV, TV, PV, fun j _ => by rw [if_neg (by omega)]⟩
  case round =>
    clear BV ZV CV SV TV PV
    obtain ⟨k, h, hk, rfl, BW, CZ, CC, CS, CT, CP, hH⟩ := hrel
    by_cases hlt : k < 25
    · have l0 : (k : Int) < 25 := by omega
      have m0 := CS.c k hlt
      have m1 := CT.c k hlt
      have m2 := CP.c k hlt
      obtain ⟨v, hv⟩ : ∃ q, f k = q := ⟨_, rfl⟩
      obtain ⟨t, ht, ht64⟩ : ∃ q, tn k = q ∧ q < 64 := ⟨_, rfl, tn_bd k hlt⟩
      obtain ⟨p, hp, hp25⟩ : ∃ q, pl k = q ∧ q < 25 := ⟨_, rfl, pl_bd k hlt⟩
      obtain ⟨u, hu⟩ : ∃ q, rot v t = q := ⟨_, rfl⟩
      rw [hv] at m0
      rw [ht] at m1
      rw [hp] at m2
      have l1 : (p : Int) < 25 := by omega
      have KR : Hid (∀ w : World, _) := fun w => FC.out w v t ht64
      rw [hu] at KR
      have HM : Hid (movedOf f p = u ∧ fr p = k) := by
        refine ⟨?_, ?_⟩
        · rw [movedOf, ← hp, fr_pl k hlt, hv, ht, hu]
        · rw [← hp, fr_pl k hlt]
      clear hv ht hu
      go_wp2
      have k0 := cell_regrown m0
      have k1 := cell_regrown m1
      have k2 := cell_regrown m2
      have cR := inClass (w := wr) KR.out
      refine region_tail 12 (by kernel_rfl) (by kernel_rfl) ?_
      simp only [List.take_succ_cons, List.take_zero, List.drop_succ_cons, List.drop_zero]
      iterate 11 (quiet_step (fail))
      quiet_step (exact cR _ _)
      refine wpQuiet_nil ?_
      intro w8 hw8
      have hb8 : Below wr.heap.size wr w8 := by
        obtain ⟨p, rfl⟩ := hw8
        exact below_regrown _ _ _
      have Z8 := CZ.below hb8
      have S8 := CS.below hb8
      have T8 := CT.below hb8
      have P8 := CP.below hb8
      have C8 := CC.below hb8
      have G8 := belowStep BW (by rw [← HZ.out] at BW ⊢; exact BW.size) hb8
      clear hw8 hb8 k0 k1 k2 cR KR CS CC CZ CT CP BW m0 m1 m2
      have n0 := C8.c p hp25
      have sf := C8.f
      have sz := C8.z
      go_wp2
      go_roundg (gk - 1)
      case measure => omega
      case rel =>
        refine ⟨k + 1, fun j => if j = p then u else h j, by omega, rfl, G8.setCell (p := ⟨c, p, none⟩) (by dsimp only; omega) _, Z8.setCell _ (by dsimp only; omega) _, C8.put p hp25 _ (fun j _ => by by_cases e : j = p <;> simp [e]), S8.setCell _ (by dsimp only; omega) _, T8.setCell _ (by dsimp only; omega) _, P8.setCell _ (by dsimp only; omega) _, ?_⟩
        intro j hj
        have hJ := hH.out j hj
        obtain ⟨g1, g2⟩ := HM.out
        show (if j = p then u else h j) = _
        by_cases e0 : j = p
        · rw [if_pos e0, e0, if_pos (by omega), g1]
        rw [if_neg e0, hJ]
        have hne : fr j ≠ k := fun e => e0 (by rw [← pl_fr j hj, e, hp])
        by_cases h1 : fr j < k
        · rw [if_pos h1, if_pos (by omega)]
        · rw [if_neg h1, if_neg (by omega)]
    · have hk2 : k = 25 := by omega
      subst hk2
      clear hlt
      have e : Hid ((fl 25 fun j => .int .u64 (h j)) = (fl 25 fun j => .int .u64 (movedOf f j))) := fl_ext _ _ _ fun j hj => by show Value.int .u64 _ = .int .u64 _; rw [hH.out j hj, if_pos (fr_bd j hj)]
      have hst := CZ.run (P := Tryd.prog) (fun j => .int .u64 (h j)) (fun _ => rfl)
      obtain ⟨l, hl⟩ : ∃ l, (fl 25 fun j => .int .u64 (h j)) = l := ⟨_, rfl⟩
      have hr := CC.range
      have hr2 := (CZ.store (fun j => .int .u64 (h j))).range
      have hlen : l.length = 25 := by rw [← hl]; exact fl_len _ _
      rw [hl] at e hst hr hr2
      clear hl
      go_wp2_with (refine wpList_load_mid rfl 31 _ rfl c 0 rfl l _ hr Tryd.underlying31 rfl (by rw [hlen]; exact size_kst) ?_)
      refine bodyPost_ret (v := .agg l.toArray) (results_mid Tryd.results23 _ _ z l _ rfl hr2 Tryd.underlying31 rfl (by rw [hlen]; exact size_kst)) rfl ⟨by rw [e.out], ?_⟩
      rw [HZ.out]
      exact below_setCells' (Nat.le_refl _) _ _ _ BW
end Go.Proofs.YteiadmhododppaaDoor
