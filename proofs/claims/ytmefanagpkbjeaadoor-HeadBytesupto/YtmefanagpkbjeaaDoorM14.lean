/- Lemmas: The reference's take, at this translation. -/
import Derived.Test.YtmefanagpkbjeaaDoorM1
import Derived.Test.YtmefanagpkbjeaaDoorM12
import Derived.Test.YtmefanagpkbjeaaDoorM13
import Derived.Test.YtmefanagpkbjeaaDoorM2
import Derived.Test.YtmefanagpkbjeaaDoorM3
import Derived.Test.YtmefanagpkbjeaaDoorM4
import Derived.Test.YtmefanagpkbjeaaDoorM6
import Derived.Test.YtmefanagpkbjeaaDoorM7
import Derived.Test.YtmefanagpkbjeaaDoorM8
import Derived.Test.YtmefanagpkbjeaaDoorRows
namespace Go.Proofs.YtmefanagpkbjeaaDoor
open Go.RowKit Go.Sort

theorem size_w8 : (Tryd.prog.info? 111).map (·.size) = some 8 := by kernel_rfl
theorem g1_is (x : Int) : g1 x = bits .xor .u32 (bits .xor .u32 (ror x 6) (ror x 11)) (ror x 25) := rfl
theorem at_lit (v : Ei) : (fl 8 fun j => .int .u32 (v.at j)).toArray = v.l := rfl

/-- What take has in memory. -/
structure RT (w : World) (z g1 g2 g3 : Nat) (hv u : Ei) (g : Nat → Int) (W : World) : Prop where
  b : Below z w W
  h : Fw z 8 (fun j => .int .u32 (hv.at j)) W
  r : Fw (z + 1) 8 (fun _ => .int .u32 0) W
  w : Fw g1 64 (fun j => .int .u32 (g j)) W
  k : Fw g2 64 (fun j => .int .u32 (kc j)) W
  v : Fw g3 8 (fun j => .int .u32 (u.at j)) W
theorem RT.below {w : World} {z g1 g2 g3 : Nat} {hv u : Ei} {g : Nat → Int} {W W' : World} (h : RT w z g1 g2 g3 hv u g W) (hb : Below W.heap.size W W') : RT w z g1 g2 g3 hv u g W' :=
  ⟨belowStep h.b (Nat.le_of_lt h.h.z) hb, h.h.below hb, h.r.below hb, h.w.below hb, h.k.below hb, h.v.below hb⟩

set_option maxRecDepth 20000 in
set_option maxHeartbeats 8000000 in
theorem z_rtake_any (hv : Ei) (g o cap : Nat) (f : Nat → Int) (hf : ∀ j, 0 ≤ f j ∧ f j < 256) (w : World) (hg : g < w.heap.size) (hc : ∀ j, j < 64 → w.cell? ⟨g, o + j, none⟩ = some (.int .u8 (f j))) :
    Calls Tryd.prog 78 #[.agg hv.l, .slice (some ⟨g, o, none⟩) 64 cap] w fun e w' => e = .returned (.agg (takeOf hv (spreadOf (wordF f))).l) ∧ Below w.heap.size w w' := by
  obtain ⟨B, hB⟩ : ∃ B, spreadOf (wordF f) = B := ⟨_, rfl⟩
  have KS : Hid (∀ (w : World), g < w.heap.size → (∀ j, j < 64 → w.cell? ⟨g, o + j, none⟩ = some (.int .u8 (f j))) → _) := fun (w : World) hg hc => rspread_any g o cap f hf w hg hc
  rw [hB] at KS ⊢
  clear hB
  have HC : Hid (∀ j, j < 64 → w.cell? ⟨g, o + j, none⟩ = some (.int .u8 (f j))) := hc
  clear hc
  go_enter Tryd.func78, Tryd.ntmps78
  go_wp2_with fail
  have B0 : Below w.heap.size w ((w.alloc (.cells hv.l 111)).alloc (.cells #[.int .u32 0, .int .u32 0, .int .u32 0, .int .u32 0, .int .u32 0, .int .u32 0, .int .u32 0, .int .u32 0] 111)) := ((Below.refl _ w).alloc (Nat.le_refl _) _).alloc (by simp) _
  have H0 : Fw w.heap.size 8 (fun j => .int .u32 (hv.at j)) ((w.alloc (.cells hv.l 111)).alloc (.cells #[.int .u32 0, .int .u32 0, .int .u32 0, .int .u32 0, .int .u32 0, .int .u32 0, .int .u32 0, .int .u32 0] 111)) := Fw.alloc (Fw.lit _ _ rfl rfl) _
  have R0 : Fw (w.heap.size + 1) 8 (fun _ => .int .u32 0) ((w.alloc (.cells hv.l 111)).alloc (.cells #[.int .u32 0, .int .u32 0, .int .u32 0, .int .u32 0, .int .u32 0, .int .u32 0, .int .u32 0, .int .u32 0] 111)) := Fw.lit _ _ (by simp) rfl
  refine (KS.out _ (by simp; omega) (fun j hj => (B0.cell (p := ⟨g, o + j, none⟩) hg).trans (HC.out j hj))).mono ?_
  rintro e w1 ⟨rfl, B1⟩
  have H1 := H0.below B1
  have R1 := R0.below B1
  have E1 := belowStep B0 B0.size B1
  clear B0 H0 R0 B1 KS HC
  obtain ⟨z, hz⟩ : ∃ z, w.heap.size = z := ⟨_, rfl⟩
  have HZ : Hid (w.heap.size = z) := hz
  rw [hz] at H1 R1 E1 hg ⊢
  clear hz
  have hz1 : z + 1 < w1.heap.size := R1.z
  have Z1 : Fw w1.heap.size 64 (fun _ => .int .u32 0) (w1.alloc (.cells y64 120)) := Fw.lit _ _ rfl rfl
  have hst := Z1.run (P := Tryd.prog) (fun j => .int .u32 (B j)) (fun _ => rfl)
  have N1 := Z1.store (fun j => .int .u32 (B j))
  have D1 : Below w1.heap.size w1 ((w1.alloc (.cells y64 120)).setCells w1.heap.size 0 (fl 64 fun j => .int .u32 (B j))) := below_setCells' (Nat.le_refl _) _ _ _ ((Below.refl _ w1).alloc (Nat.le_refl _) _)
  obtain ⟨l, hl⟩ : ∃ l, (fl 64 fun j => .int .u32 (B j)) = l := ⟨_, rfl⟩
  have hlen : l.length = 64 := by rw [← hl]; exact fl_len _ _
  rw [hl] at hst N1 D1 ⊢
  obtain ⟨w2, hw2⟩ : ∃ W, (w1.alloc (.cells y64 120)).setCells w1.heap.size 0 l = W := ⟨_, rfl⟩
  rw [hw2] at hst N1 D1
  have H2 := H1.below D1
  have R2' := R1.below D1
  have E2 := belowStep E1 (by omega) D1
  obtain ⟨g1, hg1⟩ : ∃ q, w1.heap.size = q := ⟨_, rfl⟩
  rw [hg1] at hst N1 hz1
  clear hl Z1 D1 H1 R1 E1 hw2
  have HH : Hid (_ ∧ _ ∧ _ ∧ _) := ⟨N1, H2, R2', E2⟩
  clear N1 H2 R2' E2
  go_wp2_with fail
  refine (rwords_any _).mono ?_
  rintro e w3 ⟨rfl, B3⟩
  obtain ⟨N1, H2, R2', E2⟩ := HH.out
  have N3 := N1.below B3
  have H3 := H2.below B3
  have R3' := R2'.below B3
  have E3 := belowStep E2 (Nat.le_of_lt H2.z) B3
  clear HH N1 H2 R2' E2 B3 hst hg1 hlen
  have hg13 : g1 < w3.heap.size := N3.z
  have Z3 : Fw w3.heap.size 64 (fun _ => .int .u32 0) (w3.alloc (.cells y64 120)) := Fw.lit _ _ rfl rfl
  have hst := Z3.run (P := Tryd.prog) (fun j => .int .u32 (kc j)) (fun _ => rfl)
  have K3 := Z3.store (fun j => .int .u32 (kc j))
  have D3 : Below w3.heap.size w3 ((w3.alloc (.cells y64 120)).setCells w3.heap.size 0 (fl 64 fun j => .int .u32 (kc j))) := below_setCells' (Nat.le_refl _) _ _ _ ((Below.refl _ w3).alloc (Nat.le_refl _) _)
  obtain ⟨l2, hl⟩ : ∃ l, (fl 64 fun j => .int .u32 (kc j)) = l := ⟨_, rfl⟩
  have hlen : l2.length = 64 := by rw [← hl]; exact fl_len _ _
  rw [hl] at hst K3 D3 ⊢
  obtain ⟨w4, hw4⟩ : ∃ W, (w3.alloc (.cells y64 120)).setCells w3.heap.size 0 l2 = W := ⟨_, rfl⟩
  rw [hw4] at hst K3 D3
  have N4 := N3.below D3
  have H4 := H3.below D3
  have R4' := R3'.below D3
  have E4 := belowStep E3 (Nat.le_of_lt H3.z) D3
  obtain ⟨g2, hg2⟩ : ∃ q, w3.heap.size = q := ⟨_, rfl⟩
  rw [hg2] at hst K3 hg13
  clear hl Z3 D3 H3 R3' E3 N3 hw4
  obtain ⟨h0, h1, h2, h3, h4, h5, h6, h7⟩ := hv
  have c0 : w4.cell? ⟨z, 0, none⟩ = some (.int .u32 h0) := H4.c 0 (by decide)
  have c1 : w4.cell? ⟨z, 1, none⟩ = some (.int .u32 h1) := H4.c 1 (by decide)
  have c2 : w4.cell? ⟨z, 2, none⟩ = some (.int .u32 h2) := H4.c 2 (by decide)
  have c3 : w4.cell? ⟨z, 3, none⟩ = some (.int .u32 h3) := H4.c 3 (by decide)
  have c4 : w4.cell? ⟨z, 4, none⟩ = some (.int .u32 h4) := H4.c 4 (by decide)
  have c5 : w4.cell? ⟨z, 5, none⟩ = some (.int .u32 h5) := H4.c 5 (by decide)
  have c6 : w4.cell? ⟨z, 6, none⟩ = some (.int .u32 h6) := H4.c 6 (by decide)
  have c7 : w4.cell? ⟨z, 7, none⟩ = some (.int .u32 h7) := H4.c 7 (by decide)
  have HH : Hid (_ ∧ _ ∧ _ ∧ _ ∧ _) := ⟨N4, K3, H4, R4', E4⟩
  clear N4 K3 H4 R4' E4
  go_wp2
  obtain ⟨N4, K3, H4, R4', E4⟩ := HH.out
  refine wpOf (fun W => RT w z g1 g2 w4.heap.size ⟨h0, h1, h2, h3, h4, h5, h6, h7⟩ ⟨h0, h1, h2, h3, h4, h5, h6, h7⟩ B W) ⟨E4.alloc (Nat.le_of_lt H4.z) _, H4.alloc _, R4'.alloc _, N4.alloc _, K3.alloc _, Fw.lit _ _ rfl rfl⟩ ?_
  have hg23 : g2 < w4.heap.size := K3.z
  obtain ⟨g3, hg3⟩ : ∃ q, w4.heap.size = q := ⟨_, rfl⟩
  rw [hg3] at hg23 ⊢
  rintro V TV
  clear HH N4 K3 H4 R4' E4 hst hg3 hg2 c0 c1 c2 c3 c4 c5 c6 c7 hlen
  go_loopg [8] 64 (fun gk i wr => ∃ k : Nat, ∃ u : Ei, k + gk = 64 ∧ i = .int .i64 k ∧ RT w z g1 g2 g3 ⟨h0, h1, h2, h3, h4, h5, h6, h7⟩ u B wr ∧ Hid (runE ⟨h0, h1, h2, h3, h4, h5, h6, h7⟩ B k = u))
  case atStart => exact ⟨0, _, rfl, rfl, TV, (rfl : _ = _)⟩
  case round =>
    clear TV
    obtain ⟨k, u, hk, rfl, T1, hH⟩ := hrel
    obtain ⟨va, vb, vc, vd, ve, vf, vg, vh⟩ := u
    by_cases hlt : k < 64
    · have l0 : (k : Int) < 64 := by omega
      have m0 := T1.k.c k hlt
      have m1 := T1.w.c k hlt
      obtain ⟨y0, hy0⟩ : ∃ q, kc k = q := ⟨_, rfl⟩
      obtain ⟨y1, hy1⟩ : ∃ q, B k = q := ⟨_, rfl⟩
      rw [hy0] at m0
      rw [hy1] at m1
      have v0 : wr.cell? ⟨g3, 0, none⟩ = some (.int .u32 va) := T1.v.c 0 (by decide)
      have v1 : wr.cell? ⟨g3, 1, none⟩ = some (.int .u32 vb) := T1.v.c 1 (by decide)
      have v2 : wr.cell? ⟨g3, 2, none⟩ = some (.int .u32 vc) := T1.v.c 2 (by decide)
      have v3 : wr.cell? ⟨g3, 3, none⟩ = some (.int .u32 vd) := T1.v.c 3 (by decide)
      have v4 : wr.cell? ⟨g3, 4, none⟩ = some (.int .u32 ve) := T1.v.c 4 (by decide)
      have v5 : wr.cell? ⟨g3, 5, none⟩ = some (.int .u32 vf) := T1.v.c 5 (by decide)
      have v6 : wr.cell? ⟨g3, 6, none⟩ = some (.int .u32 vg) := T1.v.c 6 (by decide)
      have v7 : wr.cell? ⟨g3, 7, none⟩ = some (.int .u32 vh) := T1.v.c 7 (by decide)
      obtain ⟨x0, hx0⟩ : ∃ q, ror ve 6 = q := ⟨_, rfl⟩
      obtain ⟨x1, hx1⟩ : ∃ q, ror ve 11 = q := ⟨_, rfl⟩
      obtain ⟨x2, hx2⟩ : ∃ q, ror ve 25 = q := ⟨_, rfl⟩
      obtain ⟨x3, hx3⟩ : ∃ q, ror va 2 = q := ⟨_, rfl⟩
      obtain ⟨x4, hx4⟩ : ∃ q, ror va 13 = q := ⟨_, rfl⟩
      obtain ⟨x5, hx5⟩ : ∃ q, ror va 22 = q := ⟨_, rfl⟩
      have K0 : Hid (∀ w : World, _) := fun w : World => rturn_any ve 6 (by decide) (by decide) w
      have K1 : Hid (∀ w : World, _) := fun w : World => rturn_any ve 11 (by decide) (by decide) w
      have K2 : Hid (∀ w : World, _) := fun w : World => rturn_any ve 25 (by decide) (by decide) w
      have K3 : Hid (∀ w : World, _) := fun w : World => rturn_any va 2 (by decide) (by decide) w
      have K4 : Hid (∀ w : World, _) := fun w : World => rturn_any va 13 (by decide) (by decide) w
      have K5 : Hid (∀ w : World, _) := fun w : World => rturn_any va 22 (by decide) (by decide) w
      rw [hx0] at K0
      rw [hx1] at K1
      rw [hx2] at K2
      rw [hx3] at K3
      rw [hx4] at K4
      rw [hx5] at K5
      have HX : Hid (_ ∧ _ ∧ _ ∧ _ ∧ _ ∧ _ ∧ _ ∧ _) := ⟨hy0, hy1, hx0, hx1, hx2, hx3, hx4, hx5⟩
      clear hy0 hy1 hx0 hx1 hx2 hx3 hx4 hx5
      go_wp2
      have k0 := cell_regrown m0
      have k1 := cell_regrown m1
      have k5 := cell_regrown v5
      have k6 := cell_regrown v6
      have k7 := cell_regrown v7
      have c0 := inClass (w := wr) K0.out
      have c1 := inClass (w := wr) K1.out
      have c2 := inClass (w := wr) K2.out
      refine wp_region_quiet_below (by kernel_rfl) (by kernel_rfl) ?_
      iterate 3 (quiet_step (fail))
      quiet_step (exact c0 _ _)
      quiet_step (fail)
      quiet_step (exact c1 _ _)
      iterate 2 (quiet_step (fail))
      quiet_step (exact c2 _ _)
      iterate 22 (quiet_step (fail))
      refine wpQuiet_nil ?_
      intro w8 hw8
      have T8 : RT w z g1 g2 g3 ⟨h0, h1, h2, h3, h4, h5, h6, h7⟩ ⟨va, vb, vc, vd, ve, vf, vg, vh⟩ B w8 := T1.below (by obtain ⟨p, rfl⟩ := hw8; exact below_regrown _ _ _)
      clear hw8 k0 k1 k5 k6 k7 c0 c1 c2 K0 K1 K2 m0 m1 v0 v1 v2 v3 v4 v5 v6 v7 T1
      have v0 : w8.cell? ⟨g3, 0, none⟩ = some (.int .u32 va) := T8.v.c 0 (by decide)
      have v1 : w8.cell? ⟨g3, 1, none⟩ = some (.int .u32 vb) := T8.v.c 1 (by decide)
      have v2 : w8.cell? ⟨g3, 2, none⟩ = some (.int .u32 vc) := T8.v.c 2 (by decide)
      have v3 : w8.cell? ⟨g3, 3, none⟩ = some (.int .u32 vd) := T8.v.c 3 (by decide)
      have v4 : w8.cell? ⟨g3, 4, none⟩ = some (.int .u32 ve) := T8.v.c 4 (by decide)
      have v5 : w8.cell? ⟨g3, 5, none⟩ = some (.int .u32 vf) := T8.v.c 5 (by decide)
      have v6 : w8.cell? ⟨g3, 6, none⟩ = some (.int .u32 vg) := T8.v.c 6 (by decide)
      have v7 : w8.cell? ⟨g3, 7, none⟩ = some (.int .u32 vh) := T8.v.c 7 (by decide)
      go_wp2
      have k1 := cell_regrown v1
      have k2 := cell_regrown v2
      have c3 := inClass (w := w8) K3.out
      have c4 := inClass (w := w8) K4.out
      have c5 := inClass (w := w8) K5.out
      refine wp_region_quiet_below (by kernel_rfl) (by kernel_rfl) ?_
      iterate 1 (quiet_step (fail))
      quiet_step (exact c3 _ _)
      quiet_step (fail)
      quiet_step (exact c4 _ _)
      iterate 2 (quiet_step (fail))
      quiet_step (exact c5 _ _)
      iterate 18 (quiet_step (fail))
      refine wpQuiet_nil ?_
      intro w9 hw9
      have T9 : RT w z g1 g2 g3 ⟨h0, h1, h2, h3, h4, h5, h6, h7⟩ ⟨va, vb, vc, vd, ve, vf, vg, vh⟩ B w9 := T8.below (by obtain ⟨p, rfl⟩ := hw9; exact below_regrown _ _ _)
      clear hw9 k1 k2 c3 c4 c5 K3 K4 K5 v0 v1 v2 v3 v4 v5 v6 v7 T8
      have v0 : w9.cell? ⟨g3, 0, none⟩ = some (.int .u32 va) := T9.v.c 0 (by decide)
      have v1 : w9.cell? ⟨g3, 1, none⟩ = some (.int .u32 vb) := T9.v.c 1 (by decide)
      have v2 : w9.cell? ⟨g3, 2, none⟩ = some (.int .u32 vc) := T9.v.c 2 (by decide)
      have v3 : w9.cell? ⟨g3, 3, none⟩ = some (.int .u32 vd) := T9.v.c 3 (by decide)
      have v4 : w9.cell? ⟨g3, 4, none⟩ = some (.int .u32 ve) := T9.v.c 4 (by decide)
      have v5 : w9.cell? ⟨g3, 5, none⟩ = some (.int .u32 vf) := T9.v.c 5 (by decide)
      have v6 : w9.cell? ⟨g3, 6, none⟩ = some (.int .u32 vg) := T9.v.c 6 (by decide)
      have v7 : w9.cell? ⟨g3, 7, none⟩ = some (.int .u32 vh) := T9.v.c 7 (by decide)
      have vfz := T9.v.f
      have vz := T9.v.z
      have N9 := T9.v.store (fun j => .int .u32 ((stepE ⟨va, vb, vc, vd, ve, vf, vg, vh⟩ (kc k) (B k)).at j))
      have HN : Hid (_ ∧ _) := ⟨N9, T9⟩
      clear N9 T9
      go_wp2
      obtain ⟨N9, T9⟩ := HN.out
      obtain ⟨e1, e2, e3, e4, e5, e6, e7, e8⟩ := HX.out
      go_roundg (gk - 1)
      case measure => omega
      case rel =>
        refine ⟨k + 1, stepE ⟨va, vb, vc, vd, ve, vf, vg, vh⟩ (kc k) (B k), by omega, rfl, ?_, ?_⟩
        · have eA : (stepE ⟨va, vb, vc, vd, ve, vf, vg, vh⟩ (kc k) (B k)).a = (vh + bits .xor .u32 (bits .xor .u32 x0 x1) x2 + bits .xor .u32 (bits .and .u32 ve vf) (bits .and .u32 (bits .xor .u32 IntKind.u32.max ve) vg) + y0 + y1 + (bits .xor .u32 (bits .xor .u32 x3 x4) x5 + bits .xor .u32 (bits .xor .u32 (bits .and .u32 va vb) (bits .and .u32 va vc)) (bits .and .u32 vb vc))) % 4294967296 := by
            simp only [stepE, t1, t2, md, xr, an, g0, g1_is]
            rw [e1, e2, e3, e4, e5, e6, e7, e8]
            omega
          have eE : (stepE ⟨va, vb, vc, vd, ve, vf, vg, vh⟩ (kc k) (B k)).e = (vd + (vh + bits .xor .u32 (bits .xor .u32 x0 x1) x2 + bits .xor .u32 (bits .and .u32 ve vf) (bits .and .u32 (bits .xor .u32 IntKind.u32.max ve) vg) + y0 + y1)) % 4294967296 := by
            simp only [stepE, t1, md, xr, an, g1_is]
            rw [e1, e2, e3, e4, e5]
            omega
          rw [← eA, ← eE]
          show RT w z g1 g2 g3 ⟨h0, h1, h2, h3, h4, h5, h6, h7⟩ (stepE ⟨va, vb, vc, vd, ve, vf, vg, vh⟩ (kc k) (B k)) B (w9.setCells g3 0 (fl 8 fun j => .int .u32 ((stepE ⟨va, vb, vc, vd, ve, vf, vg, vh⟩ (kc k) (B k)).at j)))
          exact ⟨below_setCells' (by omega) _ _ _ T9.b, T9.h.storeOther g3 (by omega) _, T9.r.storeOther g3 (by omega) _, T9.w.storeOther g3 (by omega) _, T9.k.storeOther g3 (by omega) _, N9⟩
        · show _ = _
          rw [runE, hH.out]
    · have hk2 : k = 64 := by omega
      subst hk2
      clear hlt
      go_wp2
      go_loopg [13] 8 (fun gk i wr => ∃ k : Nat, ∃ q : Nat → Int, k + gk = 8 ∧ i = .int .i64 k ∧ Below z w wr ∧ Fw z 8 (fun j => .int .u32 (q j)) wr ∧ Fw (z + 1) 8 (fun _ => .int .u32 0) wr ∧ Fw g3 8 (fun j => .int .u32 ((⟨va, vb, vc, vd, ve, vf, vg, vh⟩ : Ei).at j)) wr ∧ Hid (∀ j, j < 8 → q j = if j < k then ((⟨h0, h1, h2, h3, h4, h5, h6, h7⟩ : Ei).at j + (⟨va, vb, vc, vd, ve, vf, vg, vh⟩ : Ei).at j) % 4294967296 else (⟨h0, h1, h2, h3, h4, h5, h6, h7⟩ : Ei).at j))
      case atStart => exact ⟨0, _, rfl, rfl, T1.b, T1.h, T1.r, T1.v, fun j _ => by rw [if_neg (by omega)]⟩
      case round =>
        clear T1
        obtain ⟨k, q, hk, rfl, BW, CH, CR, CV, hQ⟩ := hrel
        by_cases hlt : k < 8
        · have l0 : (k : Int) < 8 := by omega
          have m0 := CH.c k hlt
          have m1 := CV.c k hlt
          obtain ⟨y0, hy0⟩ : ∃ x, q k = x := ⟨_, rfl⟩
          obtain ⟨y1, hy1⟩ : ∃ x, (⟨va, vb, vc, vd, ve, vf, vg, vh⟩ : Ei).at k = x := ⟨_, rfl⟩
          rw [hy0] at m0
          rw [hy1] at m1
          have HY : Hid (((⟨h0, h1, h2, h3, h4, h5, h6, h7⟩ : Ei).at k + (⟨va, vb, vc, vd, ve, vf, vg, vh⟩ : Ei).at k) % 4294967296 = (y0 + y1) % 4294967296) := by
            show _ = _
            rw [← hy0, hQ.out k hlt, if_neg (by omega), hy1]
          clear hy0 hy1
          go_wp2
          have k0 := cell_regrown m0
          have k1 := cell_regrown m1
          refine region_tail 8 (by kernel_rfl) (by kernel_rfl) ?_
          simp only [List.take_succ_cons, List.take_zero, List.drop_succ_cons, List.drop_zero]
          iterate 8 (quiet_step (fail))
          refine wpQuiet_nil ?_
          intro w8 hw8
          have hb8 : Below wr.heap.size wr w8 := by
            obtain ⟨p, rfl⟩ := hw8
            exact below_regrown _ _ _
          have H8 := CH.below hb8
          have R8 := CR.below hb8
          have V8 := CV.below hb8
          have G8 := belowStep BW (Nat.le_of_lt CH.z) hb8
          clear hw8 hb8 k0 k1 CH CR CV BW m0 m1
          have n0 := H8.c k hlt
          have sf := H8.f
          have sz := H8.z
          go_wp2
          go_roundg (gk - 1)
          case measure => omega
          case rel =>
            refine ⟨k + 1, fun j => if j = k then (y0 + y1) % 4294967296 else q j, by omega, rfl, G8.setCell (p := ⟨z, k, none⟩) (Nat.le_refl _) _, H8.put k hlt _ (fun j _ => by by_cases e : j = k <;> simp [e]), R8.setCell _ (by dsimp only; omega) _, V8.setCell _ (by dsimp only; omega) _, ?_⟩
            intro j hj
            have hJ := hQ.out j hj
            show (if j = k then (y0 + y1) % 4294967296 else q j) = _
            by_cases e : j = k
            · rw [if_pos e, e, if_pos (by omega), HY.out]
            rw [if_neg e, hJ]
            by_cases h1 : j < k
            · rw [if_pos h1, if_pos (by omega)]
            · rw [if_neg h1, if_neg (by omega)]
        · have hk2 : k = 8 := by omega
          subst hk2
          clear hlt
          have CF : Fw z 8 (fun j => .int .u32 ((takeOf ⟨h0, h1, h2, h3, h4, h5, h6, h7⟩ B).at j)) wr := CH.ext (fun j hj => by
            show Value.int .u32 _ = .int .u32 _
            rw [hQ.out j hj, if_pos hj, takeOf, hH.out]
            match j, hj with
            | 0, _ | 1, _ | 2, _ | 3, _ | 4, _ | 5, _ | 6, _ | 7, _ => rfl
            | j + 8, hj => exact absurd hj (by omega))
          obtain ⟨⟨r0, r1, r2, r3, r4, r5, r6, r7⟩, hr⟩ : ∃ r, takeOf ⟨h0, h1, h2, h3, h4, h5, h6, h7⟩ B = r := ⟨_, rfl⟩
          rw [hr] at CF
          have HR : Hid (_ = _) := hr
          clear hr CH
          have f0 : wr.cell? ⟨z, 0, none⟩ = some (.int .u32 r0) := CF.c 0 (by decide)
          have f1 : wr.cell? ⟨z, 1, none⟩ = some (.int .u32 r1) := CF.c 1 (by decide)
          have f2 : wr.cell? ⟨z, 2, none⟩ = some (.int .u32 r2) := CF.c 2 (by decide)
          have f3 : wr.cell? ⟨z, 3, none⟩ = some (.int .u32 r3) := CF.c 3 (by decide)
          have f4 : wr.cell? ⟨z, 4, none⟩ = some (.int .u32 r4) := CF.c 4 (by decide)
          have f5 : wr.cell? ⟨z, 5, none⟩ = some (.int .u32 r5) := CF.c 5 (by decide)
          have f6 : wr.cell? ⟨z, 6, none⟩ = some (.int .u32 r6) := CF.c 6 (by decide)
          have f7 : wr.cell? ⟨z, 7, none⟩ = some (.int .u32 r7) := CF.c 7 (by decide)
          have hr2 := (CR.store (fun j => .int .u32 ((⟨r0, r1, r2, r3, r4, r5, r6, r7⟩ : Ei).at j))).range
          have HS : Hid (_ ∧ _) := ⟨hr2, BW⟩
          have crf := CR.f
          have o0 := CR.c 0 (by decide)
          have o1 := CR.c 1 (by decide)
          have o2 := CR.c 2 (by decide)
          have o3 := CR.c 3 (by decide)
          have o4 := CR.c 4 (by decide)
          have o5 := CR.c 5 (by decide)
          have o6 := CR.c 6 (by decide)
          have o7 := CR.c 7 (by decide)
          clear hr2 BW CF CR CV
          go_wp2
          obtain ⟨hr2, BW⟩ := HS.out
          refine bodyPost_ret (v := .agg (⟨r0, r1, r2, r3, r4, r5, r6, r7⟩ : Ei).l) (results_mid Tryd.results78 _ _ (z + 1) [.int .u32 r0, .int .u32 r1, .int .u32 r2, .int .u32 r3, .int .u32 r4, .int .u32 r5, .int .u32 r6, .int .u32 r7] _ rfl (by exact hr2) Tryd.underlying111 rfl size_w8) rfl ⟨by rw [HR.out], ?_⟩
          rw [HZ.out]
          exact below_setCells' (b := z + 1) (by omega) [_, _, _, _, _, _, _, _] 0 _ BW
end Go.Proofs.YtmefanagpkbjeaaDoor
