/- The reference's Root and Branch. -/
import Derived.Test.YtmemfdpfbeijeaaDoorZ19
namespace Go.Proofs.YtmemfdpfbeijeaaDoor
open Go.RowKit Go.Shelf Go.Sort

set_option maxRecDepth 20000 in
set_option maxHeartbeats 4000000 in
theorem rroot_any (xs : List ByteArray) (d : Int) (a : Option Addr) (c n : Nat) (w : World) (hn : n ≤ w.heap.size) (hp : slS n w a xs) :
    Calls Tryd.prog 18 #[.slice a xs.length c, .int .i64 d] w fun e w' => e = .returned (rootV xs d) ∧ Below w.heap.size w w' := by
  have KR := rright_any xs d a c n w hn hp
  obtain ⟨ok, hok⟩ : ∃ q, rt8 xs d = q := ⟨_, rfl⟩
  rw [hok] at KR
  have HO : Hid _ := hok
  obtain ⟨N, hN⟩ : ∃ N, xs.length = N := ⟨_, rfl⟩
  rw [hN] at KR ⊢
  go_enter Tryd.func18, Tryd.ntmps18
  go_wp2_with fail
  refine KR.mono ?_
  rintro e w1 ⟨rfl, B1⟩
  clear KR hok
  cases ok with
  | false =>
    have HR : Hid (rootV xs d = .tuple #[.string ⟨#[]⟩, .int .i64 80]) := if_neg (by rw [HO.out]; decide)
    go_wp2
    exact bodyPost_ret (v := .tuple #[.string ⟨#[]⟩, .int .i64 80]) (by simp [results, Tryd.results18, go_sem]) rfl ⟨by rw [HR.out], B1⟩
  | true =>
    obtain ⟨h0, h10, hpw, h256, h32⟩ := (rt8_iff xs d).1 HO.out
    obtain ⟨D, rfl⟩ : ∃ D : Nat, d = (D : Int) := ⟨d.toNat, by omega⟩
    rw [Int.toNat_natCast] at hpw
    have HR : Hid (rootV xs (D : Int) = .tuple #[.string (lf (lvs xs) D 0), .int .i64 0]) := by
      show _ = _
      rw [rootV, if_pos HO.out, Int.toNat_natCast]
    have KL := rlevel_any xs D D (by omega) (Nat.le_refl _) hpw h32 a c n w1 (Nat.le_trans hn B1.size) (slS_below (B1.mono hn) hp)
    rw [hN] at KL
    clear h0 h10 hpw HO
    go_wp2_with fail
    refine KL.mono ?_
    rintro e w2 ⟨⟨a', c', rfl, hsl, -⟩, B2⟩
    have BW2 := belowStep B1 B1.size B2
    have hlen : (lvA xs D D).length = 1 := by rw [lvA_len, Nat.sub_self]
    obtain ⟨b, o, rfl, hb, c0⟩ := slS_at hsl 0 _ (lvA_at xs D D 0 (by rw [Nat.sub_self]; decide))
    rw [Nat.add_zero] at c0
    obtain ⟨r, hr⟩ : ∃ r, lf (lvs xs) D 0 = r := ⟨_, rfl⟩
    rw [hr] at c0 HR
    rw [hlen]
    clear B1 B2 hsl hr KL
    go_wp2
    exact bodyPost_ret (v := .tuple #[.string r, .int .i64 0]) (by simp [results, Tryd.results18, go_sem]) rfl ⟨by rw [HR.out], BW2⟩

set_option maxRecDepth 20000 in
set_option maxHeartbeats 4000000 in
theorem rbranch_any (xs : List ByteArray) (d i : Int) (a : Option Addr) (c n : Nat) (w : World) (hn : n ≤ w.heap.size) (hp : slS n w a xs) :
    Calls Tryd.prog 20 #[.slice a xs.length c, .int .i64 d, .int .i64 i] w fun e w' => BrR xs d i e w' ∧ Below w.heap.size w w' := by
  obtain ⟨i0, hi0, hz0, hz1, hz2⟩ := info_parts info_str8
  have KR := rright_any xs d a c n w hn hp
  obtain ⟨ok, hok⟩ : ∃ q, rt8 xs d = q := ⟨_, rfl⟩
  rw [hok] at KR
  have HO : Hid _ := hok
  obtain ⟨N, hN⟩ : ∃ N, xs.length = N := ⟨_, rfl⟩
  have HN : Hid _ := hN
  rw [hN] at KR ⊢
  have hBr : ∀ (e : Ending) (w' : World), brOk xs d i = false → e = .returned (.tuple #[.slice none 0 0, .int .i64 80]) → BrR xs d i e w' := fun e w' h1 h2 => by
    unfold BrR
    rw [if_neg (by rw [h1]; decide)]
    exact h2
  have HBr : Hid (∀ (e : Ending) (w' : World), _ → _ → _) := hBr
  clear hBr
  go_enter Tryd.func20, Tryd.ntmps20
  go_wp2_with fail
  refine KR.mono ?_
  rintro e w1 ⟨rfl, B1⟩
  clear KR hok
  cases ok with
  | false =>
    have hno : Hid (brOk xs d i = false) := by show _ = _; unfold brOk; rw [HO.out]; rfl
    go_wp2
    exact bodyPost_ret (v := .tuple #[.slice none 0 0, .int .i64 80]) (by simp [results, Tryd.results20, go_sem]) rfl ⟨HBr.out _ _ hno.out rfl, B1⟩
  | true =>
    obtain ⟨h0, h10, hpw, h256, h32⟩ := (rt8_iff xs d).1 HO.out
    obtain ⟨D, rfl⟩ : ∃ D : Nat, d = (D : Int) := ⟨d.toNat, by omega⟩
    have hD : D ≤ 10 := by omega
    rw [Int.toNat_natCast] at hpw
    have HPW : Hid (xs.length ≤ 2 ^ D) := hpw
    have hpow : 2 ^ D ≤ 1024 := Nat.pow_le_pow_right (by decide) hD
    have hmin : min D 64 = D := by omega
    obtain ⟨q, hq⟩ : ∃ q, 2 ^ D = q := ⟨_, rfl⟩
    have HQ : Hid _ := hq
    have hqi : (2 : Int) ^ D = (q : Int) := by rw [← hq]; simp
    have wq : IntKind.i64.wrap (q : Int) = q := by rw [IntKind.wrap_i64]; omega
    rw [hq] at hpow
    clear hq hpw
    by_cases hi0' : i < 0
    · have hno : Hid (brOk xs (D : Int) i = false) := by show _ = _; unfold brOk; rw [HO.out, Bool.true_and]; exact decide_eq_false (by omega)
      go_wp2
      exact bodyPost_ret (v := .tuple #[.slice none 0 0, .int .i64 80]) (by simp [results, Tryd.results20, go_sem]) rfl ⟨HBr.out _ _ hno.out rfl, B1⟩
    · by_cases hiq : (q : Int) ≤ i
      · have hno : Hid (brOk xs (D : Int) i = false) := by show _ = _; unfold brOk; rw [HO.out, Bool.true_and, Int.toNat_natCast, hqi]; exact decide_eq_false (by omega)
        go_wp2
        exact bodyPost_ret (v := .tuple #[.slice none 0 0, .int .i64 80]) (by simp [results, Tryd.results20, go_sem]) rfl ⟨HBr.out _ _ hno.out rfl, B1⟩
      · obtain ⟨I, rfl⟩ : ∃ I : Nat, i = (I : Int) := ⟨i.toNat, by omega⟩
        have hIq : I < q := by omega
        have hdI : decide ((I : Int) < 0) = false := decide_eq_false (by omega)
        have hdq : decide (q ≤ I) = false := decide_eq_false (by omega)
        have hok : Hid (brOk xs (D : Int) (I : Int) = true) := by show _ = _; unfold brOk; rw [HO.out, Bool.true_and, Int.toNat_natCast, hqi]; exact decide_eq_true (by omega)
        obtain ⟨z, hz⟩ : ∃ z, w1.heap.size = z := ⟨_, rfl⟩
        have HZ : Hid _ := hz
        have BZ : Below z w1 w1 := Below.refl _ _
        have hzz : z ≤ w1.heap.size := by omega
        have hnz : n ≤ z := by rw [← hz]; exact Nat.le_trans hn B1.size
        have hp1 := slS_below (B1.mono hn) hp
        clear hz
        go_wp2_with fail
        go_loopg [9, 10] D (fun gk v i' wr => ∃ k : Nat, k + gk = D ∧ i' = .int .i64 (k : Int) ∧ Below z w1 wr ∧ z ≤ wr.heap.size ∧ wr.ownsRow z 9 1 v k ((brF (lvs xs) I 0 k).map .string))
        case atStart => exact ⟨0, by omega, rfl, BZ, hzz, World.ownsRow_nil _ _ _ _⟩
        case round =>
          clear BZ hzz
          obtain ⟨k, hk, rfl, BW, hzw, hown⟩ := hrel
          have hr3 : ∀ b, u9.ownBlock = some b → z ≤ b := fun b hb => (hown.lt b hb).1
          by_cases hlt : k < D
          · have lk : (k : Int) < D := by omega
            have wk : IntKind.i64.wrap ((k : Int) + 1) = ((k + 1 : Nat) : Int) := by rw [IntKind.wrap_i64]; omega
            have KL := rlevel_any xs D k hD (by omega) HPW.out h32 a c n wr (by omega) (slS_below (BW.mono hnz) hp1)
            rw [HN.out] at KL
            have hmk2 : min k 64 = k := by omega
            obtain ⟨M, hM⟩ : ∃ M, I / 2 ^ k = M := ⟨_, rfl⟩
            have hMi : (I : Int) / 2 ^ k = (M : Int) := by rw [← hM]; simp
            obtain ⟨L, hL⟩ : ∃ L, 2 ^ (D - k) = L := ⟨_, rfl⟩
            have hML : M < L := by
              rw [← hM, ← hL]
              apply Nat.div_lt_of_lt_mul
              rw [← Nat.pow_add, show k + (D - k) = D by omega, HQ.out]
              exact hIq
            have hLe : L % 2 = 0 := by rw [← hL, show D - k = (D - k - 1) + 1 by omega, Nat.pow_succ]; omega
            have hL2 : L ≤ 1024 := by rw [← hL]; exact Nat.pow_le_pow_right (by decide) (by omega : D - k ≤ 10)
            have HL : Hid (brF (lvs xs) I 0 (k + 1) = brF (lvs xs) I 0 k ++ [lf (lvs xs) k (M + 1 - 2 * (M % 2))]) := by
              show _ = _
              rw [brF_snoc, Nat.zero_add, hM]
            have HLL : Hid _ := hL
            clear hM
            go_wp2_with fail
            refine KL.mono ?_
            rintro e w2 ⟨⟨a', c', rfl, hsl, -⟩, B2⟩
            have BW2 := belowStep BW hzw B2
            have hown2 := owns_below8 hown B2
            have hz2' : z ≤ w2.heap.size := Nat.le_trans hzw B2.size
            have hlen : (lvA xs D k).length = L := by rw [lvA_len]; exact HLL.out
            rw [hlen]
            clear KL BW B2 hown hL
            have hmt : (M : Int).tmod 2 = (M : Int) % 2 := Int.tmod_eq_emod_of_nonneg (by omega)
            by_cases hev : M % 2 = 0
            · have l2 : (M : Int) % 2 = 0 := by omega
              rw [show M + 1 - 2 * (M % 2) = M + 1 by omega] at HL
              obtain ⟨b, o, rfl, hb, c0⟩ := slS_at hsl (M + 1) _ (lvA_at xs D k (M + 1) (by rw [HLL.out]; omega))
              have wM : IntKind.i64.wrap ((M : Int) + 1) = ((M + 1 : Nat) : Int) := by rw [IntKind.wrap_i64]; omega
              have lM : ((M + 1 : Nat) : Int) < L := by omega
              have lM2 : (M : Int) + 1 < L := by omega
              obtain ⟨r, hr⟩ : ∃ r, lf (lvs xs) k (M + 1) = r := ⟨_, rfl⟩
              rw [hr] at c0 HL
              clear hsl hr hlen
              go_wp2_with (at_builtin; refine wpList_append_own _ rfl _ _ 28 rfl z 9 i0 (.string ⟨#[]⟩) 1 16 Tryd.underlying28 hi0 hz0 hz1 hz2 rfl (by decide) _ _ _ rfl (owns_below8 hown2 ((Below.refl _ w2).alloc (Nat.le_refl _) _)) ⟨w2.heap.size, 0, none⟩ 1 1 [.string r] rfl rfl (one_new' _ _ _) (by intro u hu; simp at hu; subst hu; rfl) (by unfold maxLen; omega) (by omega) (by simp; omega) ?_)
              intro v5 w5 hown5 hgrow5 hiff
              have HW : Hid (_ ∧ _) := ⟨hown5, hgrow5⟩
              clear hown5 hgrow5 hiff
              go_wp2
              go_roundg (gk - 1)
              case measure => omega
              case rel =>
                obtain ⟨hown5, hgrow5⟩ := HW.out
                refine ⟨k + 1, by omega, by first | rfl | (congr 1; omega), (BW2.alloc hz2' _).grown hgrow5 (by simp; omega) (fun b hb => hr3 b hb), Nat.le_trans (by simp; omega) hgrow5.size, ?_⟩
                rw [HL.out, List.map_append]
                exact hown5
            · have l2 : ¬ (M : Int) % 2 = 0 := by omega
              rw [show M + 1 - 2 * (M % 2) = M - 1 by omega] at HL
              obtain ⟨b, o, rfl, hb, c0⟩ := slS_at hsl (M - 1) _ (lvA_at xs D k (M - 1) (by rw [HLL.out]; omega))
              obtain ⟨M1, hM1⟩ : ∃ x, M - 1 = x := ⟨_, rfl⟩
              have wM : IntKind.i64.wrap ((M : Int) - 1) = (M1 : Int) := by rw [IntKind.wrap_i64]; omega
              have wM2 : (M : Int) - 1 = (M1 : Int) := by omega
              have lM : (M1 : Int) < L := by omega
              obtain ⟨r, hr⟩ : ∃ r, lf (lvs xs) k (M - 1) = r := ⟨_, rfl⟩
              rw [hr] at c0 HL
              rw [hM1] at c0
              clear hsl hr hlen hM1
              go_wp2_with (at_builtin; refine wpList_append_own _ rfl _ _ 28 rfl z 9 i0 (.string ⟨#[]⟩) 1 16 Tryd.underlying28 hi0 hz0 hz1 hz2 rfl (by decide) _ _ _ rfl (owns_below8 hown2 ((Below.refl _ w2).alloc (Nat.le_refl _) _)) ⟨w2.heap.size, 0, none⟩ 1 1 [.string r] rfl rfl (one_new' _ _ _) (by intro u hu; simp at hu; subst hu; rfl) (by unfold maxLen; omega) (by omega) (by simp; omega) ?_)
              intro v5 w5 hown5 hgrow5 hiff
              have HW : Hid (_ ∧ _) := ⟨hown5, hgrow5⟩
              clear hown5 hgrow5 hiff
              go_wp2
              go_roundg (gk - 1)
              case measure => omega
              case rel =>
                obtain ⟨hown5, hgrow5⟩ := HW.out
                refine ⟨k + 1, by omega, by first | rfl | (congr 1; omega), (BW2.alloc hz2' _).grown hgrow5 (by simp; omega) (fun b hb => hr3 b hb), Nat.le_trans (by simp; omega) hgrow5.size, ?_⟩
                rw [HL.out, List.map_append]
                exact hown5
          · obtain rfl : k = D := by omega
            have lk : ¬ (k : Int) < k := by omega
            have hown3 : wr.ownsRow z 9 1 u9 (brF (lvs xs) I 0 k).length ((brF (lvs xs) I 0 k).map .string) := by rw [brF_len]; exact hown
            obtain ⟨a', c', rfl, hsl⟩ := slS_owns hown3
            have hc := owns_cap hown3
            rw [brF_len] at hc ⊢
            have BF := belowStep B1 B1.size (by rw [HZ.out]; exact BW)
            have HF : Hid (_ ∧ _ ∧ _) := ⟨hc, hsl, BF⟩
            clear hown hown3 hsl BW hc BF B1
            go_wp2
            refine bodyPost_ret (v := .tuple #[.slice a' k c', .int .i64 0]) (by simp [results, Tryd.results20, go_sem]) rfl ⟨?_, HF.out.2.2⟩
            unfold BrR
            rw [if_pos hok.out, Int.toNat_natCast, Int.toNat_natCast]
            exact ⟨a', c', rfl, HF.out.1, HF.out.2.1⟩
end Go.Proofs.YtmemfdpfbeijeaaDoor
