/- What wordsOf does at this translation: for all blocks of 64 bytes. -/
import Derived.Test.YtmemfdpfbeijeabDoorS1
namespace Go.Proofs.YtmemfdpfbeijeabDoor
open Go.RowKit Go.Sort

/-- A text's byte. -/
def bt (s : ByteArray) (i : Nat) : Int := ((s.data.getD i 0).toNat : Int)
theorem bt_get (s : ByteArray) (d : Nat) (h : d < s.size) : ((s[d]'h).toNat : Int) = bt s d := by
  have : s.data.getD d 0 = s[d]'h := by
    simp [Array.getD, h]
    rfl
  unfold bt
  rw [this]
theorem bt_bd (s : ByteArray) (d : Nat) : 0 ≤ bt s d ∧ bt s d < 256 := by
  unfold bt
  have := (s.data.getD d 0).toNat_lt
  omega

/-- The number of the first r bytes from the place p on, the highest first, as it is reckoned. -/
def num (t : ByteArray) (p : Nat) : Nat → Int
  | 0 => 0
  | r + 1 => bits .or .u32 (num t p r * 256 % 4294967296) (bt t (p + r))
/-- A block's word. -/
def wordAt (t : ByteArray) (j : Nat) : Int := num t (4 * j) 4

theorem size_bw : (Tryd.prog.info? 56).map (·.size) = some 16 := by kernel_rfl

set_option maxRecDepth 20000 in
set_option maxHeartbeats 4000000 in
theorem wordsOf_any (t : ByteArray) (ht : t.size = 64) (w : World) :
    Calls Tryd.prog 43 #[.string t] w fun e w' =>
      e = .returned (.agg (fl 16 fun j => .int .u32 (wordAt t j)).toArray) ∧ Below w.heap.size w w' := by
  go_enter Tryd.func43, Tryd.ntmps43
  go_wp2
  refine wpOf (fun W => Below w.heap.size w W ∧ Fw w.heap.size 16 (fun _ => .int .u32 0) W ∧ Fw (w.heap.size + 1) 16 (fun _ => .int .u32 0) W) ⟨((Below.refl _ w).alloc (Nat.le_refl _) _).alloc (by simp) _, Fw.alloc (Fw.lit _ _ rfl rfl) _, Fw.lit _ _ (by simp) rfl⟩ ?_
  rintro V ⟨BV, ZV, CV⟩
  obtain ⟨z, hz⟩ : ∃ c, w.heap.size = c := ⟨_, rfl⟩
  have HZ : Hid (w.heap.size = z) := hz
  rw [hz] at BV ZV CV ⊢
  clear hz
  obtain ⟨c, hc⟩ : ∃ c, z + 1 = c := ⟨_, rfl⟩
  rw [hc] at CV ⊢
  go_loopg [7] 64 (fun gk i wr => ∃ k : Nat, ∃ h : Nat → Int, k + gk = 64 ∧ i = .int .i64 k ∧ Below z w wr ∧ Fw z 16 (fun _ => .int .u32 0) wr ∧ Fw c 16 (fun j => .int .u32 (h j)) wr ∧ Hid (∀ j, j < 16 → h j = num t (4 * j) (min 4 (k - 4 * j))))
  case atStart => exact ⟨0, fun _ => 0, rfl, rfl, BV, ZV, CV, fun j _ => by rw [Nat.zero_sub]; rfl⟩
  case round =>
    clear BV ZV CV
    obtain ⟨k, h, hk, rfl, BW, CZ, CC, hH⟩ := hrel
    by_cases hlt : k < 64
    · obtain ⟨q, hqk, hq4⟩ : ∃ q : Nat, k / 4 = q ∧ q < 16 := ⟨k / 4, rfl, by omega⟩
      have hq : (k : Int).tdiv 4 = q := by rw [Int.tdiv_eq_ediv_of_nonneg (by omega)]; omega
      have wq : IntKind.i64.wrap (q : Int) = q := by rw [IntKind.wrap_i64]; omega
      have lq : (q : Int) < 16 := by omega
      have l0 : (k : Int) < 64 := by omega
      have l0' : (k : Int) < t.size := by omega
      have hks : k < t.size := by omega
      have m0 := CC.c q hq4
      obtain ⟨v, hv⟩ : ∃ v, h q = v := ⟨_, rfl⟩
      rw [hv] at m0
      obtain ⟨y, hy⟩ : ∃ y, bt t k = y := ⟨_, rfl⟩
      have hyb := bt_bd t k
      rw [hy] at hyb
      have hu1 : IntKind.u32.wrap (((t[k]'hks).toNat : Nat) : Int) = y := by rw [bt_get, hy, IntKind.wrap_u32]; omega
      have HB : Hid (k / 4 = q ∧ h q = v ∧ bt t k = y) := ⟨hqk, hv, hy⟩
      clear hqk hv hy
      go_wp2
      have k0 := cell_regrown m0
      refine region_tail 12 (by kernel_rfl) (by kernel_rfl) ?_
      simp only [List.take_succ_cons, List.take_zero, List.drop_succ_cons, List.drop_zero]
      iterate 12 (quiet_step (fail))
      refine wpQuiet_nil ?_
      intro w8 hw8
      have hb8 : Below wr.heap.size wr w8 := by
        obtain ⟨p, rfl⟩ := hw8
        exact below_regrown _ _ _
      have Z8 := CZ.below hb8
      have C8 := CC.below hb8
      have G8 := belowStep BW (by rw [← HZ.out] at BW ⊢; exact BW.size) hb8
      clear hw8 hb8 k0 CC CZ BW m0
      have n0 := C8.c q hq4
      have sf := C8.f
      have sz := C8.z
      go_wp2
      go_roundg (gk - 1)
      case measure => omega
      case rel =>
        refine ⟨k + 1, fun j => if j = q then bits .or .u32 (v * 256 % 4294967296) y else h j, by omega, rfl, G8.setCell (p := ⟨c, q, none⟩) (by dsimp only; omega) _, Z8.setCell _ (by dsimp only; omega) _, C8.put q hq4 _ (fun j _ => by by_cases e : j = q <;> simp [e]), ?_⟩
        intro j hj
        have hJ := hH.out j hj
        obtain ⟨g1, g2, g3⟩ := HB.out
        show (if j = q then bits .or .u32 (v * 256 % 4294967296) y else h j) = _
        by_cases e0 : j = q
        · subst e0
          rw [if_pos rfl, show min 4 (k + 1 - 4 * j) = (k - 4 * j) + 1 by omega, num, show 4 * j + (k - 4 * j) = k by omega, g3, ← g2, hJ, show min 4 (k - 4 * j) = k - 4 * j by omega]
        · rw [if_neg e0, hJ]
          by_cases h1 : j < q
          · rw [show min 4 (k + 1 - 4 * j) = 4 by omega, show min 4 (k - 4 * j) = 4 by omega]
          · rw [show min 4 (k + 1 - 4 * j) = 0 by omega, show min 4 (k - 4 * j) = 0 by omega]
    · have hk2 : k = 64 := by omega
      subst hk2
      clear hlt
      have e : Hid ((fl 16 fun j => .int .u32 (h j)) = (fl 16 fun j => .int .u32 (wordAt t j))) := fl_ext _ _ _ fun j hj => by show Value.int .u32 _ = .int .u32 _; rw [hH.out j hj, wordAt, show min 4 (64 - 4 * j) = 4 by omega]
      have hst := CZ.run (P := Tryd.prog) (fun j => .int .u32 (h j)) (fun _ => rfl)
      obtain ⟨l, hl⟩ : ∃ l, (fl 16 fun j => .int .u32 (h j)) = l := ⟨_, rfl⟩
      have hr := CC.range
      have hr2 := (CZ.store (fun j => .int .u32 (h j))).range
      have hlen : l.length = 16 := by rw [← hl]; exact fl_len _ _
      rw [hl] at e hst hr hr2
      clear hl
      go_wp2_with (refine wpList_load_mid rfl 56 _ rfl c 0 rfl l _ hr Tryd.underlying56 rfl (by rw [hlen]; exact size_bw) ?_)
      refine bodyPost_ret (v := .agg l.toArray) (results_mid Tryd.results43 _ _ z l _ rfl hr2 Tryd.underlying56 rfl (by rw [hlen]; exact size_bw)) rfl ⟨by rw [e.out], ?_⟩
      rw [HZ.out]
      exact below_setCells' (Nat.le_refl _) _ _ _ BW
end Go.Proofs.YtmemfdpfbeijeabDoor
