/- The reference's spread, walked. -/
import Derived.Test.YtmemfdpfbeijeaaDoorR3
namespace Go.Proofs.YtmemfdpfbeijeaaDoor
open Go.RowKit Go.Sort

set_option maxRecDepth 20000 in
set_option maxHeartbeats 4000000 in
theorem rspread_any (g o cap : Nat) (f : Nat → Int) (hf : ∀ j, 0 ≤ f j ∧ f j < 256) (w : World) (hg : g < w.heap.size) (hc : ∀ j, j < 64 → w.cell? ⟨g, o + j, none⟩ = some (.int .u8 (f j))) :
    Calls Tryd.prog 61 #[.slice (some ⟨g, o, none⟩) 64 cap] w fun e w' => e = .returned (.agg (fl 64 fun j => .int .u32 (spreadOf (wordF f) j)).toArray) ∧ Below w.heap.size w w' := by
  go_enter Tryd.func61, Tryd.ntmps61
  go_wp2
  refine wpOf (fun W => Below w.heap.size w W ∧ Fw w.heap.size 64 (fun _ => .int .u32 0) W ∧ Fw (w.heap.size + 1) 64 (fun _ => .int .u32 0) W ∧ ∀ j, j < 64 → W.cell? ⟨g, o + j, none⟩ = some (.int .u8 (f j))) ⟨((Below.refl _ w).alloc (Nat.le_refl _) _).alloc (by simp) _, Fw.alloc (Fw.lit _ _ rfl rfl) _, Fw.lit _ _ (by simp) rfl, fun j hj => (((((Below.refl _ w).alloc (Nat.le_refl _) _).alloc (by simp) _).cell (p := ⟨g, o + j, none⟩) hg).trans (hc j hj))⟩ ?_
  rintro V ⟨BV, ZV, CV, DV⟩
  clear hc
  obtain ⟨z, hz⟩ : ∃ c, w.heap.size = c := ⟨_, rfl⟩
  have HZ : Hid (w.heap.size = z) := hz
  rw [hz] at BV ZV CV hg ⊢
  clear hz
  obtain ⟨c, hc⟩ : ∃ c, z + 1 = c := ⟨_, rfl⟩
  rw [hc] at CV ⊢
  obtain ⟨B, hB⟩ : ∃ B, spreadOf (wordF f) = B := ⟨_, rfl⟩
  have HB : Hid (spreadOf (wordF f) = B) := hB
  have HBl : Hid (∀ j, j < 16 → B j = wordF f j) := fun j hj => by rw [← hB]; exact sp_lt _ j hj
  have HBg : Hid (∀ t, 16 ≤ t → t < 64 → B t = nxt B t) := fun t h1 h2 => by rw [← hB]; exact sp_ge _ t h1 h2
  clear hB
  go_loopg [4] 64 (fun gk i wr => ∃ t : Nat, ∃ h : Nat → Int, t + gk = 64 ∧ i = .int .i64 t ∧ Below z w wr ∧ Fw z 64 (fun _ => .int .u32 0) wr ∧ Fw c 64 (fun j => .int .u32 (h j)) wr ∧ (∀ j, j < 64 → wr.cell? ⟨g, o + j, none⟩ = some (.int .u8 (f j))) ∧ Hid (∀ j, j < t → h j = B j))
  case atStart => exact ⟨0, fun _ => 0, rfl, rfl, BV, ZV, CV, DV, fun j hj => absurd hj (by omega)⟩
  case round =>
    clear BV ZV CV DV
    obtain ⟨t, h, hk, rfl, BW, CZ, CC, DD, hH⟩ := hrel
    have HDD : Hid (∀ j, j < 64 → wr.cell? ⟨g, o + j, none⟩ = some (.int .u8 (f j))) := DD
    clear DD
    by_cases hlt : t < 64
    · have l0 : (t : Int) < 64 := by omega
      by_cases h16 : t < 16
      · have l1 : (t : Int) < 16 := by omega
        obtain ⟨p0, hp0, q0⟩ : ∃ a : Nat, 4 * t = a ∧ a < 64 := ⟨_, rfl, by omega⟩
        obtain ⟨p1, hp1, q1⟩ : ∃ a : Nat, p0 + 1 = a ∧ a < 64 := ⟨_, rfl, by omega⟩
        obtain ⟨p2, hp2, q2⟩ : ∃ a : Nat, p0 + 2 = a ∧ a < 64 := ⟨_, rfl, by omega⟩
        obtain ⟨p3, hp3, q3⟩ : ∃ a : Nat, p0 + 3 = a ∧ a < 64 := ⟨_, rfl, by omega⟩
        have w0 : IntKind.i64.wrap (4 * (t : Int)) = p0 := by rw [IntKind.wrap_i64]; omega
        have w1 : IntKind.i64.wrap ((p0 : Int) + 1) = p1 := by rw [IntKind.wrap_i64]; omega
        have w2 : IntKind.i64.wrap ((p0 : Int) + 2) = p2 := by rw [IntKind.wrap_i64]; omega
        have w3 : IntKind.i64.wrap ((p0 : Int) + 3) = p3 := by rw [IntKind.wrap_i64]; omega
        have lp0 : (p0 : Int) < 64 := by omega
        have lp1 : (p1 : Int) < 64 := by omega
        have lp2 : (p2 : Int) < 64 := by omega
        have lp3 : (p3 : Int) < 64 := by omega
        have m0 := HDD.out p0 q0
        have m1 := HDD.out p1 q1
        have m2 := HDD.out p2 q2
        have m3 := HDD.out p3 q3
        obtain ⟨y0, hy0, b0⟩ : ∃ y, f p0 = y ∧ 0 ≤ y ∧ y < 256 := ⟨_, rfl, hf p0⟩
        obtain ⟨y1, hy1, b1⟩ : ∃ y, f p1 = y ∧ 0 ≤ y ∧ y < 256 := ⟨_, rfl, hf p1⟩
        obtain ⟨y2, hy2, b2⟩ : ∃ y, f p2 = y ∧ 0 ≤ y ∧ y < 256 := ⟨_, rfl, hf p2⟩
        obtain ⟨y3, hy3, b3⟩ : ∃ y, f p3 = y ∧ 0 ≤ y ∧ y < 256 := ⟨_, rfl, hf p3⟩
        rw [hy0] at m0
        rw [hy1] at m1
        rw [hy2] at m2
        rw [hy3] at m3
        have u0 : IntKind.u32.wrap y0 = y0 := by rw [IntKind.wrap_u32]; omega
        have u1 : IntKind.u32.wrap y1 = y1 := by rw [IntKind.wrap_u32]; omega
        have u2 : IntKind.u32.wrap y2 = y2 := by rw [IntKind.wrap_u32]; omega
        have u3 : IntKind.u32.wrap y3 = y3 := by rw [IntKind.wrap_u32]; omega
        have HV : Hid (B t = bits .or .u32 (bits .or .u32 (bits .or .u32 (y0 * 16777216) (y1 * 65536)) (y2 * 256)) y3) := by
          show _ = _
          rw [or4 y0 y1 y2 y3 b0 b1 b2 b3, HBl.out t h16, wordF, hp0, hp1, hp2, hp3, hy0, hy1, hy2, hy3]
        have s0 : y0 * 16777216 % 4294967296 = y0 * 16777216 := by omega
        have s1 : y1 * 65536 % 4294967296 = y1 * 65536 := by omega
        have s2 : y2 * 256 % 4294967296 = y2 * 256 := by omega
        clear hp0 hp1 hp2 hp3 hy0 hy1 hy2 hy3
        go_wp2
        have k0 := cell_regrown m0
        have k1 := cell_regrown m1
        have k2 := cell_regrown m2
        have k3 := cell_regrown m3
        refine region_tail 34 (by kernel_rfl) (by kernel_rfl) ?_
        simp only [List.take_succ_cons, List.take_zero, List.drop_succ_cons, List.drop_zero]
        iterate 34 (quiet_step (fail))
        refine wpQuiet_nil ?_
        intro w8 hw8
        have hb8 : Below wr.heap.size wr w8 := by
          obtain ⟨p, rfl⟩ := hw8
          exact below_regrown _ _ _
        have Z8 := CZ.below hb8
        have C8 := CC.below hb8
        have G8 := belowStep BW (by rw [← HZ.out] at BW ⊢; exact BW.size) hb8
        have D8 : Hid (∀ j, j < 64 → w8.cell? ⟨g, o + j, none⟩ = some (.int .u8 (f j))) := fun j hj => (hb8.cell (p := ⟨g, o + j, none⟩) (block_lt_of_cell (HDD.out j hj))).trans (HDD.out j hj)
        clear hw8 hb8 k0 k1 k2 k3 CC CZ BW m0 m1 m2 m3 HDD
        have n0 := C8.c t hlt
        have sf := C8.f
        have sz := C8.z
        go_wp2
        go_roundg (gk - 1)
        case measure => omega
        case rel =>
          refine ⟨t + 1, fun j => if j = t then B t else h j, by omega, rfl, G8.setCell (p := ⟨c, t, none⟩) (by dsimp only; omega) _, Z8.setCell _ (by dsimp only; omega) _, C8.put t hlt _ (fun j _ => ?_), fun j hj => ?_, ?_⟩
          · show Value.int .u32 (if j = t then B t else h j) = _
            by_cases q : j = t
            · rw [if_pos q, if_pos q, HV.out]
            · rw [if_neg q, if_neg q]
          · exact (World.cell?_setCells_out c [_] t w8 ⟨g, o + j, none⟩ (fun e => absurd e (by dsimp only; omega))).trans (D8.out j hj)
          · intro j hj
            show (if j = t then B t else h j) = B j
            by_cases q : j = t
            · rw [if_pos q, q]
            · rw [if_neg q]; exact hH.out j (by omega)
      · have l1 : ¬ (t : Int) < 16 := by omega
        obtain ⟨a, ha, ha2⟩ : ∃ a : Nat, t - 16 = a ∧ a < 64 := ⟨_, rfl, by omega⟩
        obtain ⟨e, he, he2⟩ : ∃ a : Nat, t - 15 = a ∧ a < 64 := ⟨_, rfl, by omega⟩
        obtain ⟨s, hs, hs2⟩ : ∃ a : Nat, t - 7 = a ∧ a < 64 := ⟨_, rfl, by omega⟩
        obtain ⟨r, hr, hr2⟩ : ∃ a : Nat, t - 2 = a ∧ a < 64 := ⟨_, rfl, by omega⟩
        have wa : IntKind.i64.wrap ((t : Int) - 16) = a := by rw [IntKind.wrap_i64]; omega
        have we : IntKind.i64.wrap ((t : Int) - 15) = e := by rw [IntKind.wrap_i64]; omega
        have ws : IntKind.i64.wrap ((t : Int) - 7) = s := by rw [IntKind.wrap_i64]; omega
        have wg : IntKind.i64.wrap ((t : Int) - 2) = r := by rw [IntKind.wrap_i64]; omega
        have la : (a : Int) < 64 := by omega
        have le : (e : Int) < 64 := by omega
        have ls : (s : Int) < 64 := by omega
        have lr : (r : Int) < 64 := by omega
        have m1 := CC.c e he2
        have m3 := CC.c r hr2
        obtain ⟨v0, hv0⟩ : ∃ v, h a = v := ⟨_, rfl⟩
        obtain ⟨v1, hv1⟩ : ∃ v, h e = v := ⟨_, rfl⟩
        obtain ⟨v2, hv2⟩ : ∃ v, h s = v := ⟨_, rfl⟩
        obtain ⟨v3, hv3⟩ : ∃ v, h r = v := ⟨_, rfl⟩
        rw [hv1] at m1
        rw [hv3] at m3
        obtain ⟨x0, hx0⟩ : ∃ v, ror v1 7 = v := ⟨_, rfl⟩
        obtain ⟨x1, hx1⟩ : ∃ v, ror v1 18 = v := ⟨_, rfl⟩
        obtain ⟨x2, hx2⟩ : ∃ v, ror v3 17 = v := ⟨_, rfl⟩
        obtain ⟨x3, hx3⟩ : ∃ v, ror v3 19 = v := ⟨_, rfl⟩
        have K0 : Hid (∀ w : World, _) := fun w : World => rturn_any v1 7 (by decide) (by decide) w
        have K1 : Hid (∀ w : World, _) := fun w : World => rturn_any v1 18 (by decide) (by decide) w
        have K2 : Hid (∀ w : World, _) := fun w : World => rturn_any v3 17 (by decide) (by decide) w
        have K3 : Hid (∀ w : World, _) := fun w : World => rturn_any v3 19 (by decide) (by decide) w
        rw [hx0] at K0
        rw [hx1] at K1
        rw [hx2] at K2
        rw [hx3] at K3
        have HV : Hid (B t = (((v0 + bits .xor .u32 (bits .xor .u32 x0 x1) (v1 / 8)) % 4294967296 + v2) % 4294967296 + bits .xor .u32 (bits .xor .u32 x2 x3) (v3 / 1024)) % 4294967296) := by
          show _ = _
          rw [HBg.out t (by omega) hlt, nxt, ha, he, hs, hr, ← hH.out a (by omega), ← hH.out e (by omega), ← hH.out s (by omega), ← hH.out r (by omega), hv0, hv1, hv2, hv3]
          unfold s0 s1
          rw [hx0, hx1, hx2, hx3]
          rfl
        have HV0 : Hid (h a = v0 ∧ h s = v2) := ⟨hv0, hv2⟩
        clear ha he hs hr hv0 hv1 hv2 hv3 hx0 hx1 hx2 hx3
        go_wp2_with fail
        refine (K0.out _).mono ?_
        rintro er v4 ⟨rfl, B1⟩
        go_wp2_with fail
        refine (K1.out _).mono ?_
        rintro er v5 ⟨rfl, B2⟩
        go_wp2_with fail
        refine (K2.out _).mono ?_
        rintro er v6 ⟨rfl, B3⟩
        go_wp2_with fail
        refine (K3.out _).mono ?_
        rintro er v7 ⟨rfl, B4⟩
        have B5 := belowStep B1 B1.size (belowStep B2 B2.size (belowStep B3 B3.size B4))
        have Z7 := CZ.below B5
        have C7 := CC.below B5
        have G7 := belowStep BW (by rw [← HZ.out] at BW ⊢; exact BW.size) B5
        have D7 : Hid (∀ j, j < 64 → v7.cell? ⟨g, o + j, none⟩ = some (.int .u8 (f j))) := fun j hj => (B5.cell (p := ⟨g, o + j, none⟩) (block_lt_of_cell (HDD.out j hj))).trans (HDD.out j hj)
        clear B1 B2 B3 B4 B5 K0 K1 K2 K3 CZ CC BW HDD m1 m3
        have m0 := C7.c a ha2
        have m2 := C7.c s hs2
        rw [HV0.out.1] at m0
        rw [HV0.out.2] at m2
        go_wp2
        have k0 := cell_regrown m0
        have k2 := cell_regrown m2
        refine region_tail 14 (by kernel_rfl) (by kernel_rfl) ?_
        simp only [List.take_succ_cons, List.take_zero, List.drop_succ_cons, List.drop_zero]
        iterate 14 (quiet_step (fail))
        refine wpQuiet_nil ?_
        intro w8 hw8
        have hb8 : Below v7.heap.size v7 w8 := by
          obtain ⟨p, rfl⟩ := hw8
          exact below_regrown _ _ _
        have Z8 := Z7.below hb8
        have C8 := C7.below hb8
        have G8 := belowStep G7 (by rw [← HZ.out] at G7 ⊢; exact G7.size) hb8
        have D8 : Hid (∀ j, j < 64 → w8.cell? ⟨g, o + j, none⟩ = some (.int .u8 (f j))) := fun j hj => (hb8.cell (p := ⟨g, o + j, none⟩) (block_lt_of_cell (D7.out j hj))).trans (D7.out j hj)
        clear hw8 hb8 k0 k2 C7 Z7 G7 m0 m2 D7
        have n0 := C8.c t hlt
        have sf := C8.f
        have sz := C8.z
        go_wp2
        go_roundg (gk - 1)
        case measure => omega
        case rel =>
          refine ⟨t + 1, fun j => if j = t then B t else h j, by omega, rfl, G8.setCell (p := ⟨c, t, none⟩) (by dsimp only; omega) _, Z8.setCell _ (by dsimp only; omega) _, C8.put t hlt _ (fun j _ => ?_), fun j hj => ?_, ?_⟩
          · show Value.int .u32 (if j = t then B t else h j) = _
            by_cases q : j = t
            · rw [if_pos q, if_pos q, HV.out]
              congr 1
              omega
            · rw [if_neg q, if_neg q]
          · exact (World.cell?_setCells_out c [_] t w8 ⟨g, o + j, none⟩ (fun e => absurd e (by dsimp only; omega))).trans (D8.out j hj)
          · intro j hj
            show (if j = t then B t else h j) = B j
            by_cases q : j = t
            · rw [if_pos q, q]
            · rw [if_neg q]; exact hH.out j (by omega)
    · have hk2 : t = 64 := by omega
      subst hk2
      clear hlt
      have e : Hid ((fl 64 fun j => .int .u32 (h j)) = (fl 64 fun j => .int .u32 (spreadOf (wordF f) j))) := fl_ext _ _ _ fun j hj => by show Value.int .u32 _ = .int .u32 _; rw [hH.out j hj, HB.out]
      have hst := CZ.run (P := Tryd.prog) (fun j => .int .u32 (h j)) (fun _ => rfl)
      obtain ⟨l, hl⟩ : ∃ l, (fl 64 fun j => .int .u32 (h j)) = l := ⟨_, rfl⟩
      have hr := CC.range
      have hr2 := (CZ.store (fun j => .int .u32 (h j))).range
      have hlen : l.length = 64 := by rw [← hl]; exact fl_len _ _
      rw [hl] at e hst hr hr2
      clear hl
      go_wp2_with (refine wpList_load_mid rfl 70 _ rfl c 0 rfl l _ hr Tryd.underlying70 rfl (by rw [hlen]; exact size_w64) ?_)
      refine bodyPost_ret (v := .agg l.toArray) (results_mid Tryd.results61 _ _ z l _ rfl hr2 Tryd.underlying70 rfl (by rw [hlen]; exact size_w64)) rfl ⟨by rw [e.out], ?_⟩
      rw [HZ.out]
      exact below_setCells' (Nat.le_refl _) _ _ _ BW
end Go.Proofs.YtmemfdpfbeijeaaDoor
