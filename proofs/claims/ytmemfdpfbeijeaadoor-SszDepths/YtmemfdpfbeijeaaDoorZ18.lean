/- The law SszDepths, walked. -/
import Derived.Test.YtmemfdpfbeijeaaDoorZ15
namespace Go.Proofs.YtmemfdpfbeijeaaDoor
open Go.RowKit Go.Shelf Go.Sort

theorem rt_pk (n : Nat) (d : Int) : rt8 (pk (zs (32 * n))) d = decide (0 ≤ d ∧ d ≤ 10 ∧ n ≤ 256 ∧ (8 < d ∨ n ≤ 2 ^ d.toNat)) := by
  have hl : (pk (zs (32 * n))).length = n := by rw [pk_len, zs_size]; omega
  rw [Bool.eq_iff_iff, rt8_iff, decide_eq_true_iff, hl]
  constructor
  · rintro ⟨h1, h2, h3, h4, _⟩
    exact ⟨h1, h2, h4, .inr h3⟩
  · rintro ⟨h1, h2, h3, h4⟩
    refine ⟨h1, h2, ?_, h3, pk_mem _⟩
    rcases h4 with h | h
    · have : 2 ^ 8 ≤ 2 ^ d.toNat := Nat.pow_le_pow_right (by decide) (by omega)
      omega
    · exact h
set_option maxRecDepth 20000 in
set_option maxHeartbeats 4000000 in
theorem sdepths_any (d m : Int) (w : World) (hl : Laid w) :
    Calls Tryd.prog 5 #[.int .i64 d, .int .i64 m] w fun e w' => e = .returned (.bool true) ∧ Below w.heap.size w w' := by
  obtain ⟨i0, hi0, hz0, hz1, hz2⟩ := info_parts info_u8'
  go_enter Tryd.func5, Tryd.ntmps5
  go_wp2_with fail
  refine (shown8_any w hl).mono ?_
  rintro e w1 ⟨rfl, B1⟩
  by_cases h0 : m < 0
  · go_wp2
    go_ret
    exact ⟨rfl, B1⟩
  · by_cases h3 : 300 < m
    · go_wp2
      go_ret
      exact ⟨rfl, B1⟩
    · obtain ⟨n, rfl⟩ : ∃ n : Nat, m = (n : Int) := ⟨m.toNat, by omega⟩
      obtain ⟨q, hq⟩ : ∃ q, 32 * n = q := ⟨_, rfl⟩
      have wq : IntKind.i64.wrap (32 * (n : Int)) = q := by rw [IntKind.wrap_i64]; omega
      have hq2 : q ≤ 9600 := by omega
      have l1 : (0 : Int) ≤ q := by omega
      go_wp2_with (at_make; refine wpList_make_full _ rfl _ _ 36 rfl w1.heap.size 5 i0 _ 1 Tryd.underlying36 hi0 hz0 hz1 .i64 .i64 _ _ q rfl rfl rfl rfl (by rw [hz2]; omega) (by unfold maxLen; omega) (Nat.le_refl _) ?_; intro w2 hown hgr)
      have hcv := run_convert_bytes_back (P := Tryd.prog) w2 36 9 5 ⟨w1.heap.size, 0, none⟩ q (by8 q fun _ => 0) Tryd.underlying36 Tryd.underlying5 Tryd.underlying9 (fun j hj => by
        rw [by8_at _ _ (fun _ => ⟨by decide, by decide⟩)]
        rw [by8_len] at hj
        exact hown.cells (g := w1.heap.size) rfl j _ (by simp [madeCells, hj, Value.cells, Nat.mod_one]))
      rw [by8_len] at hcv
      have B2 : Below w1.heap.size w1 w2 := (Below.refl _ w1).grown hgr (Nat.le_refl _) (fun _ e => by cases e)
      clear hown hgr
      have hzq : (⟨(by8 q fun _ => 0).toArray⟩ : ByteArray) = zs q := rfl
      rw [hzq] at hcv
      rw [hcv]
      clear hcv
      have BW2 := belowStep B1 B1.size B2
      clear B1 B2
      have KP : Hid (∀ W : World, _) := fun W : World => pack_any (zs q) (by rw [zs_size]; omega) W
      have hlen : (pk (zs q)).length = n := by rw [pk_len, zs_size]; omega
      have hrt := rt_pk n d
      rw [hq] at hrt
      go_wp2_with fail
      refine (KP.out _).mono ?_
      rintro e w3 ⟨a, c, rfl, hc3, hs3, B3⟩
      have BW3 := belowStep BW2 BW2.size B3
      clear BW2 B3 KP
      have KR := root_any (pk (zs q)) d a c w3.heap.size w3 (hl.below BW3) (Nat.le_refl _) hs3
      rw [hlen] at KR ⊢
      go_wp2_with fail
      refine KR.mono ?_
      rintro e w4 ⟨rfl, B4⟩
      have BW4 := belowStep BW3 BW3.size B4
      clear BW3 B4 KR
      by_cases hr : rt8 (pk (zs q)) d = true
      · have hrv : rootV (pk (zs q)) d = .tuple #[.string (lf (lvs (pk (zs q))) d.toNat 0), .int .i64 0] := if_pos hr
        rw [hrv]
        rw [hr] at hrt
        obtain ⟨g1, g2, g3, g4⟩ := of_decide_eq_true hrt.symm
        obtain ⟨D, rfl⟩ : ∃ D : Nat, d = (D : Int) := ⟨d.toNat, by omega⟩
        rw [Int.toNat_natCast] at g4
        have hpow : 2 ^ D ≤ 1024 := Nat.pow_le_pow_right (by decide) (by omega : D ≤ 10)
        have hmin : min D 64 = D := by omega
        obtain ⟨Q, hQ⟩ : ∃ q, 2 ^ D = q := ⟨_, rfl⟩
        have hqi : (2 : Int) ^ D = (Q : Int) := by rw [← hQ]; simp
        have wQ : IntKind.i64.wrap (Q : Int) = Q := by rw [IntKind.wrap_i64]; omega
        rw [hQ] at g4
        clear hrv hrt hQ
        by_cases h8 : 8 < (D : Int)
        · have l3 : (n : Int) ≤ 256 := by omega
          go_wp2
          go_ret
          exact ⟨rfl, BW4⟩
        · have l3 : (n : Int) ≤ 256 := by omega
          have l4 : (n : Int) ≤ Q := by omega
          go_wp2
          go_ret
          exact ⟨rfl, BW4⟩
      · have hrv : rootV (pk (zs q)) d = .tuple #[.string ⟨#[]⟩, .int .i64 80] := if_neg hr
        rw [hrv]
        have hno : ¬ (0 ≤ d ∧ d ≤ 10 ∧ n ≤ 256 ∧ (8 < d ∨ n ≤ 2 ^ d.toNat)) := fun h => hr (by rw [hrt]; exact decide_eq_true h)
        clear hrv hrt
        by_cases d0 : d < 0
        · have l0 : ¬ 0 ≤ d := by omega
          go_wp2
          go_ret
          exact ⟨rfl, BW4⟩
        · by_cases d1 : 10 < d
          · have l0 : ¬ d ≤ 10 := by omega
            go_wp2
            go_ret
            exact ⟨rfl, BW4⟩
          · by_cases d2 : 256 < n
            · have l0 : ¬ (n : Int) ≤ 256 := by omega
              go_wp2
              go_ret
              exact ⟨rfl, BW4⟩
            · obtain ⟨D, rfl⟩ : ∃ D : Nat, d = (D : Int) := ⟨d.toNat, by omega⟩
              rw [Int.toNat_natCast] at hno
              have hpow : 2 ^ D ≤ 1024 := Nat.pow_le_pow_right (by decide) (by omega : D ≤ 10)
              have hmin : min D 64 = D := by omega
              obtain ⟨Q, hQ⟩ : ∃ q, 2 ^ D = q := ⟨_, rfl⟩
              have hqi : (2 : Int) ^ D = (Q : Int) := by rw [← hQ]; simp
              have wQ : IntKind.i64.wrap (Q : Int) = Q := by rw [IntKind.wrap_i64]; omega
              rw [hQ] at hno
              have l8 : ¬ 8 < (D : Int) := by omega
              have l9 : ¬ (n : Int) ≤ Q := by omega
              have l3 : (n : Int) ≤ 256 := by omega
              have l10 : (D : Int) ≤ 10 := by omega
              clear hQ hno
              go_wp2
              go_ret
              exact ⟨congrArg (fun b => Ending.returned (.bool b)) (by rw [decide_eq_false (show ¬ (8 : Int) < D by omega), decide_eq_false (show ¬ n ≤ Q by omega)]; rfl), BW4⟩
end Go.Proofs.YtmemfdpfbeijeaaDoor
