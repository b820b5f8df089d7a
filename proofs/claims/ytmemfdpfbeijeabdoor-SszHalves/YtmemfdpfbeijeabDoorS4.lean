/- What spread does at this translation: for all blocks. -/
import Derived.Test.YtmemfdpfbeijeabDoorS2
namespace Go.Proofs.YtmemfdpfbeijeabDoor
open Go.RowKit Go.Sort

/-- The next word, out of those ahead of it. -/
def nxt (f : Nat → Int) (t : Nat) : Int := (((f (t - 16) + s0 (f (t - 15))) % 4294967296 + f (t - 7)) % 4294967296 + s1 (f (t - 2))) % 4294967296
/-- The words behind n of them were made. -/
def spN (b : Nat → Int) : Nat → Nat → Int
  | 0 => fun j => if j < 16 then b j else 0
  | n + 1 => fun j => if j = 16 + n then nxt (spN b n) (16 + n) else spN b n j
def spreadOf (b : Nat → Int) : Nat → Int := spN b 48

theorem index_bw (A : Array Value) (k : Nat) (x : Int) (hk : k < 16) (hA : A[k]? = some (.int .u32 x)) (w : World) :
    (Instr.index 56 (.agg A) (.int .i64 k)).run Tryd.prog w = .ok (.int .u32 x) w := by
  simp [Instr.index, asIntOf, run_underlying Tryd.underlying56, go_sem, hA, hk]
theorem size_w64 : (Tryd.prog.info? 58).map (·.size) = some 64 := by kernel_rfl

set_option maxRecDepth 20000 in
set_option maxHeartbeats 4000000 in
theorem spread_any (b : Nat → Int) (w : World) :
    Calls Tryd.prog 22 #[.agg (fl 16 fun j => .int .u32 (b j)).toArray] w fun e w' =>
      e = .returned (.agg (fl 64 fun j => .int .u32 (spreadOf b j)).toArray) ∧ Below w.heap.size w w' := by
  have e16 : (fl 16 fun j => .int .u32 (b j)).toArray = #[.int .u32 (b 0), .int .u32 (b 1), .int .u32 (b 2), .int .u32 (b 3), .int .u32 (b 4), .int .u32 (b 5), .int .u32 (b 6), .int .u32 (b 7), .int .u32 (b 8), .int .u32 (b 9), .int .u32 (b 10), .int .u32 (b 11), .int .u32 (b 12), .int .u32 (b 13), .int .u32 (b 14), .int .u32 (b 15)] := rfl
  rw [e16]
  go_enter Tryd.func22, Tryd.ntmps22
  go_wp2
  refine wpOf (fun W => Below w.heap.size w W ∧ Fw (w.heap.size + 1) 64 (fun _ => .int .u32 0) W ∧ Fw (w.heap.size + 1 + 1) 64 (fun _ => .int .u32 0) W) ⟨(((Below.refl _ w).alloc (Nat.le_refl _) _).alloc (by simp) _).alloc (by simp; omega) _, Fw.alloc (Fw.lit _ _ (by simp) rfl) _, Fw.lit _ _ (by simp) rfl⟩ ?_
  rintro V ⟨BV, ZV, CV⟩
  obtain ⟨A, hA⟩ : ∃ A : Array Value, #[.int .u32 (b 0), .int .u32 (b 1), .int .u32 (b 2), .int .u32 (b 3), .int .u32 (b 4), .int .u32 (b 5), .int .u32 (b 6), .int .u32 (b 7), .int .u32 (b 8), .int .u32 (b 9), .int .u32 (b 10), .int .u32 (b 11), .int .u32 (b 12), .int .u32 (b 13), .int .u32 (b 14), .int .u32 (b 15)] = A := ⟨_, rfl⟩
  have hAk : ∀ j, j < 16 → A[j]? = some (.int .u32 (b j)) := fun j hj => by
    rw [← hA, ← e16]
    simpa using fl_at 16 (fun j => .int .u32 (b j)) j hj
  rw [hA]
  have HA : Hid (∀ j, j < 16 → A[j]? = some (.int .u32 (b j))) := hAk
  clear hA e16 hAk
  obtain ⟨z, hz⟩ : ∃ c, w.heap.size = c := ⟨_, rfl⟩
  have HZ : Hid (w.heap.size = z) := hz
  rw [hz] at BV ZV CV ⊢
  clear hz
  obtain ⟨c, hc⟩ : ∃ c, z + 1 = c := ⟨_, rfl⟩
  rw [hc] at ZV CV ⊢
  obtain ⟨d, hd⟩ : ∃ d, c + 1 = d := ⟨_, rfl⟩
  rw [hd] at CV ⊢
  go_loopg [8] 16 (fun gk i wr => ∃ k : Nat, ∃ h : Nat → Int, k + gk = 16 ∧ i = .int .i64 k ∧ Below z w wr ∧ Fw c 64 (fun _ => .int .u32 0) wr ∧ Fw d 64 (fun j => .int .u32 (h j)) wr ∧ Hid (∀ j, j < 64 → h j = if j < k then b j else 0))
  case atStart => exact ⟨0, fun _ => 0, rfl, rfl, BV, ZV, CV, fun j _ => by rw [if_neg (by omega)]⟩
  case round =>
    clear BV ZV CV
    obtain ⟨k, h, hk, rfl, BW, CZ, CC, hH⟩ := hrel
    by_cases hlt : k < 16
    · have l0 : (k : Int) < 16 := by omega
      have l1 : (k : Int) < 64 := by omega
      have hi := fun w => index_bw A k (b k) hlt (HA.out k hlt) w
      obtain ⟨y, hy⟩ : ∃ y, b k = y := ⟨_, rfl⟩
      rw [hy] at hi
      have n0 := CC.c k (by omega)
      have sf := CC.f
      have sz := CC.z
      have HY : Hid (b k = y) := hy
      clear hy
      go_wp2
      go_roundg (gk - 1)
      case measure => omega
      case rel =>
        refine ⟨k + 1, fun j => if j = k then y else h j, by omega, rfl, BW.setCell (p := ⟨d, k, none⟩) (by dsimp only; omega) _, CZ.setCell _ (by dsimp only; omega) _, CC.put k (by omega) _ (fun j _ => by by_cases e : j = k <;> simp [e]), ?_⟩
        intro j hj
        have hJ := hH.out j hj
        show (if j = k then y else h j) = _
        by_cases e0 : j = k
        · rw [if_pos e0, e0, if_pos (by omega), HY.out]
        rw [if_neg e0, hJ]
        by_cases h1 : j < k
        · rw [if_pos h1, if_pos (by omega)]
        · rw [if_neg h1, if_neg (by omega)]
    · have hk2 : k = 16 := by omega
      subst hk2
      clear hlt
      have CC2 := CC.ext (h := fun j => .int .u32 (spN b 0 j)) (fun j hj => by show Value.int .u32 _ = .int .u32 _; rw [hH.out j hj]; rfl)
      clear CC hH
      go_wp2
      go_loopg [6] 48 (fun gk i wr => ∃ t : Nat, ∃ h : Nat → Int, t + gk = 64 ∧ 16 ≤ t ∧ i = .int .i64 t ∧ Below z w wr ∧ Fw c 64 (fun _ => .int .u32 0) wr ∧ Fw d 64 (fun j => .int .u32 (h j)) wr ∧ Hid (h = spN b (t - 16)))
      case atStart => exact ⟨16, _, by omega, by omega, rfl, BW, CZ, CC2, (rfl : _ = _)⟩
      case round =>
        clear BW CZ CC2
        obtain ⟨t, h, hk, ht, rfl, BW, CZ, CC, hH⟩ := hrel
        by_cases hlt : t < 64
        · have l0 : (t : Int) < 64 := by omega
          obtain ⟨a, ha, ha2⟩ : ∃ a : Nat, t - 16 = a ∧ a < 64 := ⟨_, rfl, by omega⟩
          obtain ⟨e, he, he2⟩ : ∃ a : Nat, t - 15 = a ∧ a < 64 := ⟨_, rfl, by omega⟩
          obtain ⟨f, hf, hf2⟩ : ∃ a : Nat, t - 7 = a ∧ a < 64 := ⟨_, rfl, by omega⟩
          obtain ⟨g, hg, hg2⟩ : ∃ a : Nat, t - 2 = a ∧ a < 64 := ⟨_, rfl, by omega⟩
          have wa : IntKind.i64.wrap ((t : Int) - 16) = a := by rw [IntKind.wrap_i64]; omega
          have we : IntKind.i64.wrap ((t : Int) - 15) = e := by rw [IntKind.wrap_i64]; omega
          have wf : IntKind.i64.wrap ((t : Int) - 7) = f := by rw [IntKind.wrap_i64]; omega
          have wg : IntKind.i64.wrap ((t : Int) - 2) = g := by rw [IntKind.wrap_i64]; omega
          have la : (a : Int) < 64 := by omega
          have le : (e : Int) < 64 := by omega
          have lf : (f : Int) < 64 := by omega
          have lg : (g : Int) < 64 := by omega
          have m0 := CC.c a ha2
          have m1 := CC.c e he2
          have m2 := CC.c f hf2
          have m3 := CC.c g hg2
          obtain ⟨v0, hv0⟩ : ∃ v, h a = v := ⟨_, rfl⟩
          obtain ⟨v1, hv1⟩ : ∃ v, h e = v := ⟨_, rfl⟩
          obtain ⟨v2, hv2⟩ : ∃ v, h f = v := ⟨_, rfl⟩
          obtain ⟨v3, hv3⟩ : ∃ v, h g = v := ⟨_, rfl⟩
          rw [hv0] at m0
          rw [hv1] at m1
          rw [hv2] at m2
          rw [hv3] at m3
          have K0 : Hid (∀ w : World, _) := fun w : World => s0_any v1 w
          have K1 : Hid (∀ w : World, _) := fun w : World => s1_any v3 w
          obtain ⟨x0, hx0⟩ : ∃ v, s0 v1 = v := ⟨_, rfl⟩
          obtain ⟨x1, hx1⟩ : ∃ v, s1 v3 = v := ⟨_, rfl⟩
          rw [hx0] at K0
          rw [hx1] at K1
          have HV : Hid (nxt h t = ((v0 + x0) % 4294967296 + v2) % 4294967296 + x1 - (((v0 + x0) % 4294967296 + v2) % 4294967296 + x1) / 4294967296 * 4294967296) := by
            show _ = _
            rw [nxt, ha, he, hf, hg, hv0, hv1, hv2, hv3, hx0, hx1]
            omega
          clear ha he hf hg hv0 hv1 hv2 hv3 hx0 hx1
          go_wp2
          have k0 := cell_regrown m0
          have k1 := cell_regrown m1
          have k2 := cell_regrown m2
          have k3 := cell_regrown m3
          have c0 := inClass (w := wr) K0.out
          have c1 := inClass (w := wr) K1.out
          refine region_tail 22 (by kernel_rfl) (by kernel_rfl) ?_
          simp only [List.take_succ_cons, List.take_zero, List.drop_succ_cons, List.drop_zero]
          iterate 9 (quiet_step (fail))
          quiet_step (exact c0 _ _)
          iterate 10 (quiet_step (fail))
          quiet_step (exact c1 _ _)
          iterate 1 (quiet_step (fail))
          refine wpQuiet_nil ?_
          intro w8 hw8
          have hb8 : Below wr.heap.size wr w8 := by
            obtain ⟨p, rfl⟩ := hw8
            exact below_regrown _ _ _
          have Z8 := CZ.below hb8
          have C8 := CC.below hb8
          have G8 := belowStep BW (by rw [← HZ.out] at BW ⊢; exact BW.size) hb8
          clear hw8 hb8 k0 k1 k2 k3 c0 c1 K0 K1 CC CZ BW m0 m1 m2 m3
          have n0 := C8.c t hlt
          have sf := C8.f
          have sz := C8.z
          go_wp2
          go_roundg (gk - 1)
          case measure => omega
          case rel =>
            refine ⟨t + 1, fun j => if j = t then nxt h t else h j, by omega, by omega, rfl, G8.setCell (p := ⟨d, t, none⟩) (by dsimp only; omega) _, Z8.setCell _ (by dsimp only; omega) _, C8.put t hlt _ (fun j _ => ?_), ?_⟩
            · show Value.int .u32 (if j = t then nxt h t else h j) = _
              by_cases q : j = t
              · rw [if_pos q, if_pos q, HV.out]
                congr 1
                omega
              · rw [if_neg q, if_neg q]
            · show _ = _
              rw [show t + 1 - 16 = (t - 16) + 1 by omega, spN, show 16 + (t - 16) = t by omega, ← hH.out]
        · have hk2 : t = 64 := by omega
          subst hk2
          clear hlt
          have e : Hid ((fl 64 fun j => .int .u32 (h j)) = (fl 64 fun j => .int .u32 (spreadOf b j))) := by show _ = _; rw [hH.out]; rfl
          have hst := CZ.run (P := Tryd.prog) (fun j => .int .u32 (h j)) (fun _ => rfl)
          obtain ⟨l, hl⟩ : ∃ l, (fl 64 fun j => .int .u32 (h j)) = l := ⟨_, rfl⟩
          have hr := CC.range
          have hr2 := (CZ.store (fun j => .int .u32 (h j))).range
          have hlen : l.length = 64 := by rw [← hl]; exact fl_len _ _
          rw [hl] at e hst hr hr2
          clear hl
          go_wp2_with (refine wpList_load_mid rfl 58 _ rfl d 0 rfl l _ hr Tryd.underlying58 rfl (by rw [hlen]; exact size_w64) ?_)
          refine bodyPost_ret (v := .agg l.toArray) (results_mid Tryd.results22 _ _ c l _ rfl hr2 Tryd.underlying58 rfl (by rw [hlen]; exact size_w64)) rfl ⟨by rw [e.out], ?_⟩
          rw [HZ.out]
          exact below_setCells' (by omega) _ _ _ BW
end Go.Proofs.YtmemfdpfbeijeabDoor
