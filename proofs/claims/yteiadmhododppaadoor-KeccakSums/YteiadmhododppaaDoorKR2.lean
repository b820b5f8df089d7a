/- The reference's turns and constant, at this translation: they are the program's tables. -/
import Derived.Test.YteiadmhododppaaDoorKR1
namespace Go.Proofs.YteiadmhododppaaDoor
open Go.RowKit Go.Sort

/-- Where the k-th turn stands; what is known behind k of them. -/
def txy : Nat → Nat × Nat
  | 0 => (1, 0)
  | k + 1 => ((txy k).2, (2 * (txy k).1 + 3 * (txy k).2) % 5)
def tpl (k : Nat) : Nat := (txy k).1 % 5 + 5 * ((txy k).2 % 5)
def tva (k : Nat) : Nat := (k + 1) * (k + 2) / 2 % 64
def trn : Nat → Nat → Nat
  | 0 => fun _ => 0
  | k + 1 => fun j => if j = tpl k then tva k else trn k j
theorem trn_is (j : Nat) (h : j < 25) : trn 24 j = tn j := (by decide : ∀ j : Fin 25, trn 24 j.val = tn j.val) ⟨j, h⟩
theorem txy_bd (k : Nat) (h : k < 25) : (txy k).1 < 5 ∧ (txy k).2 < 5 := (by decide : ∀ k : Fin 25, (txy k.val).1 < 5 ∧ (txy k.val).2 < 5) ⟨k, h⟩
theorem size_i25 : (Tryd.prog.info? 37).map (·.size) = some 25 := by kernel_rfl

set_option maxRecDepth 20000 in
set_option maxHeartbeats 2000000 in
theorem rturns_any (w : World) :
    Calls Tryd.prog 12 #[] w fun e w' => e = .returned (.agg (fl 25 fun j => .int .i64 (tn j)).toArray) ∧ Below w.heap.size w w' := by
  go_enter Tryd.func12, Tryd.ntmps12
  go_wp2
  refine wpOf (fun W => Below w.heap.size w W ∧ Fw w.heap.size 25 (fun _ => .int .i64 0) W ∧ Fw (w.heap.size + 1) 25 (fun _ => .int .i64 0) W) ⟨((Below.refl _ w).alloc (Nat.le_refl _) _).alloc (by simp) _, Fw.alloc (Fw.lit _ _ rfl rfl) _, Fw.lit _ _ (by simp) rfl⟩ ?_
  rintro V ⟨BV, ZV, CV⟩
  obtain ⟨z, hz⟩ : ∃ c, w.heap.size = c := ⟨_, rfl⟩
  have HZ : Hid (w.heap.size = z) := hz
  rw [hz] at BV ZV CV ⊢
  clear hz
  obtain ⟨c, hc⟩ : ∃ c, z + 1 = c := ⟨_, rfl⟩
  rw [hc] at CV ⊢
  go_loopg [2, 3, 4] 24 (fun gk a b i wr => ∃ k x y : Nat, k + gk = 24 ∧ a = .int .i64 x ∧ b = .int .i64 y ∧ i = .int .i64 k ∧ Below z w wr ∧ Fw z 25 (fun _ => .int .i64 0) wr ∧ Fw c 25 (fun j => .int .i64 (trn k j)) wr ∧ Hid (txy k = (x, y)))
  case atStart => exact ⟨0, 1, 0, rfl, rfl, rfl, rfl, BV, ZV, CV, (rfl : _ = _)⟩
  case round =>
    clear BV ZV CV
    obtain ⟨k, x, y, hk, rfl, rfl, rfl, BW, CZ, CC, hH⟩ := hrel
    by_cases hlt : k < 24
    · have l0 : (k : Int) < 24 := by omega
      have hxy := txy_bd k (by omega)
      rw [hH.out] at hxy
      have hx5 : x < 5 := hxy.1
      have hy5 : y < 5 := hxy.2
      have KA : Hid (∀ w : World, _) := fun w : World => rat_any x y (by omega) (by omega) w
      obtain ⟨p, hp, hp2⟩ : ∃ p, x % 5 + 5 * (y % 5) = p ∧ p < 25 := ⟨_, rfl, by omega⟩
      rw [hp] at KA
      obtain ⟨v, hv⟩ : ∃ v, tva k = v := ⟨_, rfl⟩
      obtain ⟨q, hq⟩ : ∃ q : Nat, (k + 1) * (k + 2) = q := ⟨_, rfl⟩
      have hq2 : q ≤ 625 := by rw [← hq]; exact Nat.le_trans (Nat.mul_le_mul (show k + 1 ≤ 25 by omega) (show k + 2 ≤ 25 by omega)) (Nat.le_refl _)
      have w1 : IntKind.i64.wrap ((k : Int) + 1) = (k : Int) + 1 := by rw [IntKind.wrap_i64]; omega
      have hqi : ((k : Int) + 1) * ((k : Int) + 2) = q := by rw [← hq]; simp
      have hq3 : (q : Int).tdiv 2 = ((q / 2 : Nat) : Int) := by rw [Int.tdiv_eq_ediv_of_nonneg (by omega)]; omega
      have hq4 : (q : Int) / 2 = ((q / 2 : Nat) : Int) := by omega
      obtain ⟨r, hr⟩ : ∃ r, q / 2 = r := ⟨_, rfl⟩
      rw [hr] at hq3 hq4
      have hvr : r % 64 = v := by rw [← hr, ← hq, ← hv, tva]
      have hr3 : (r : Int).tmod 64 = v := by rw [Int.tmod_eq_emod_of_nonneg (by omega)]; omega
      have hr4 : (r : Int) % 64 = v := by omega
      obtain ⟨y2, hy2⟩ : ∃ y2, (2 * x + 3 * y) % 5 = y2 := ⟨_, rfl⟩
      have hy3 : (2 * (x : Int) + 3 * (y : Int)) % 5 = y2 := by omega
      have hy4 : (2 * (x : Int) + 3 * (y : Int)).tmod 5 = y2 := by rw [Int.tmod_eq_emod_of_nonneg (by omega)]; exact hy3
      have lp : (p : Int) < 25 := by omega
      have HV : Hid (tpl k = p ∧ tva k = v ∧ txy (k + 1) = (y, y2)) := by
        refine ⟨by rw [tpl, hH.out]; exact hp, hv, ?_⟩
        show ((txy k).2, (2 * (txy k).1 + 3 * (txy k).2) % 5) = _
        rw [hH.out, ← hy2]
      clear hp hv hq hr hy2 hvr hxy
      go_wp2_with fail
      refine (KA.out _).mono ?_
      rintro e w2 ⟨rfl, B2⟩
      have Z2 := CZ.below B2
      have C2 := CC.below B2
      have G2 := belowStep BW (by rw [← HZ.out] at BW ⊢; exact BW.size) B2
      clear KA B2 CZ CC BW
      have n0 := C2.c p hp2
      have sf := C2.f
      have sz := C2.z
      go_wp2
      go_roundg (gk - 1)
      case measure => omega
      case rel =>
        obtain ⟨g1, g2, g3⟩ := HV.out
        refine ⟨k + 1, y, y2, by omega, rfl, rfl, rfl, G2.setCell (p := ⟨c, p, none⟩) (by dsimp only; omega) _, Z2.setCell _ (by dsimp only; omega) _, C2.put p hp2 _ (fun j _ => ?_), g3⟩
        show Value.int .i64 ((if j = tpl k then tva k else trn k j : Nat) : Int) = _
        rw [g1, g2]
        by_cases e : j = p
        · rw [if_pos e, if_pos e]
        · rw [if_neg e, if_neg e]
    · have hk2 : k = 24 := by omega
      subst hk2
      clear hlt
      have e : Hid ((fl 25 fun j => .int .i64 (trn 24 j)) = (fl 25 fun j => .int .i64 (tn j))) := fl_ext _ _ _ fun j hj => by show Value.int .i64 _ = .int .i64 _; rw [trn_is j hj]
      have hst := CZ.run (P := Tryd.prog) (fun j => .int .i64 (trn 24 j)) (fun _ => rfl)
      obtain ⟨l, hl⟩ : ∃ l, (fl 25 fun j => .int .i64 (trn 24 j)) = l := ⟨_, rfl⟩
      have hr := CC.range
      have hr2 := (CZ.store (fun j => .int .i64 (trn 24 j))).range
      have hlen : l.length = 25 := by rw [← hl]; exact fl_len _ _
      rw [hl] at e hst hr hr2
      clear hl
      go_wp2_with (refine wpList_load_mid rfl 37 _ rfl c 0 rfl l _ hr Tryd.underlying37 rfl (by rw [hlen]; exact size_i25) ?_)
      refine bodyPost_ret (v := .agg l.toArray) (results_mid Tryd.results12 _ _ z l _ rfl hr2 Tryd.underlying37 rfl (by rw [hlen]; exact size_i25)) rfl ⟨by rw [e.out], ?_⟩
      rw [HZ.out]
      exact below_setCells' (Nat.le_refl _) _ _ _ BW
end Go.Proofs.YteiadmhododppaaDoor
