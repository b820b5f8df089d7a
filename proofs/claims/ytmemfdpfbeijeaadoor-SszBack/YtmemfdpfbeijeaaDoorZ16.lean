/- The law SszBack, walked. -/
import Derived.Test.YtmemfdpfbeijeaaDoorZ15
namespace Go.Proofs.YtmemfdpfbeijeaaDoor
open Go.RowKit Go.Shelf Go.Sort

theorem chk_brF (xs : List ByteArray) (D I : Nat) (hD : D ≤ 10) (h32 : ∀ x ∈ xs, x.size = 32) (hI : I < 2 ^ D) : chk (lvs xs I) (brF (lvs xs) I 0 D) I (lf (lvs xs) D 0) = true := by
  have hz := lvs_size xs h32
  refine decide_eq_true ⟨by rw [brF_len]; omega, by rw [brF_len]; exact hI, hz I, lf_size _ hz D 0, brF_mem _ hz I 0 D, ?_⟩
  have h := clF_brF (lvs xs) I D 0
  rw [Nat.pow_zero, Nat.div_one, Nat.zero_add, Nat.div_eq_of_lt hI] at h
  exact h
set_option maxRecDepth 20000 in
set_option maxHeartbeats 4000000 in
theorem sback_any (xs : List ByteArray) (a : Option Addr) (c : Nat) (d i : Int) (w : World) (hl : Laid w) (hp : slS w.heap.size w a xs) :
    Calls Tryd.prog 7 #[.slice a xs.length c, .int .i64 d, .int .i64 i] w fun e w' => e = .returned (.bool true) ∧ Below w.heap.size w w' := by
  obtain ⟨i0, hi0, hz0, hz1, hz2⟩ := info_parts info_u8'
  obtain ⟨N, hN⟩ : ∃ N, xs.length = N := ⟨_, rfl⟩
  have KS := shown8_any
  have KR : ∀ W : World, Below w.heap.size w W → _ := fun W hB => root_any xs d a c w.heap.size W (hl.below hB) hB.size (slS_below hB hp)
  have KB : ∀ W : World, Below w.heap.size w W → _ := fun W hB => branch_any xs d i a c w.heap.size W (hl.below hB) hB.size (slS_below hB hp)
  rw [hN] at KR KB ⊢
  have HK : Hid (_ ∧ _) := ⟨KR, KB⟩
  clear KR KB
  go_enter Tryd.func7, Tryd.ntmps7
  go_wp2_with fail
  refine (KS w hl).mono ?_
  rintro e w1 ⟨rfl, B1⟩
  clear KS
  by_cases h8 : 8 < d
  · go_wp2
    go_ret
    exact ⟨rfl, B1⟩
  · go_wp2_with fail
    refine (HK.out.1 _ B1).mono ?_
    rintro e w2 ⟨rfl, B2⟩
    have BW2 := belowStep B1 B1.size B2
    clear B1 B2
    by_cases hr : rt8 xs d = true
    · have hrv : rootV xs d = .tuple #[.string (lf (lvs xs) d.toNat 0), .int .i64 0] := if_pos hr
      rw [hrv]
      obtain ⟨h0, h10, hpw, h256, h32⟩ := (rt8_iff xs d).1 hr
      obtain ⟨D, rfl⟩ : ∃ D : Nat, d = (D : Int) := ⟨d.toNat, by omega⟩
      rw [Int.toNat_natCast]
      obtain ⟨r, hr0⟩ : ∃ r, lf (lvs xs) D 0 = r := ⟨_, rfl⟩
      have HR0 : Hid _ := hr0
      rw [hr0]
      clear hr0 hrv
      go_wp2_with fail
      refine (HK.out.2 _ BW2).mono ?_
      rintro e w3 ⟨hbr, B3⟩
      have BW3 := belowStep BW2 BW2.size B3
      clear BW2 B3
      by_cases hb : brOk xs (D : Int) i = true
      · unfold BrR at hbr
        rw [if_pos hb, Int.toNat_natCast] at hbr
        obtain ⟨a', c', rfl, hc', hs3⟩ := hbr
        have hib : 0 ≤ i ∧ i < 2 ^ D := by
          unfold brOk at hb
          rw [hr, Bool.true_and, Int.toNat_natCast] at hb
          exact of_decide_eq_true hb
        obtain ⟨I, rfl⟩ : ∃ I : Nat, i = (I : Int) := ⟨i.toNat, by omega⟩
        rw [Int.toNat_natCast] at hs3
        have hI : I < 2 ^ D := by
          have := hib.2
          have e : ((2 ^ D : Nat) : Int) = (2 : Int) ^ D := by simp
          omega
        have hII : I < 18446744073709551616 := by
          have : 2 ^ D ≤ 1024 := Nat.pow_le_pow_right (by decide) (by omega : D ≤ 10)
          omega
        have wI : IntKind.u64.wrap (I : Int) = I := by rw [IntKind.wrap_u64]; omega
        have hck := chk_brF xs D I (by omega) h32 hI
        have KC : ∀ W : World, Below w3.heap.size w3 W → _ := fun W hB => check_any (lvs xs I) (brF (lvs xs) I 0 D) I hII r a' c' w3.heap.size W (hl.below (belowStep BW3 BW3.size hB)) hB.size (slS_below hB hs3)
        rw [HR0.out] at hck
        rw [hck, brF_len] at KC
        have HC : Hid (∀ W : World, Below w3.heap.size w3 W → _) := KC
        clear hck KC hpw hib
        go_wp2_with (at_make; refine wpList_make_full _ rfl _ _ 36 rfl w3.heap.size 5 i0 _ 1 Tryd.underlying36 hi0 hz0 hz1 .i64 .i64 _ _ 32 rfl rfl rfl rfl (by rw [hz2]; omega) (by unfold maxLen; omega) (Nat.le_refl _) ?_; intro w4 hown hgr)
        have hcv := run_convert_bytes_back (P := Tryd.prog) w4 36 9 5 ⟨w3.heap.size, 0, none⟩ 32 (by8 32 fun _ => 0) Tryd.underlying36 Tryd.underlying5 Tryd.underlying9 (fun j hj => by
          rw [by8_at _ _ (fun _ => ⟨by decide, by decide⟩)]
          rw [by8_len] at hj
          exact hown.cells (g := w3.heap.size) rfl j _ (by simp [madeCells, hj, Value.cells, Nat.mod_one]))
        rw [by8_len] at hcv
        have B4 : Below w3.heap.size w3 w4 := (Below.refl _ w3).grown hgr (Nat.le_refl _) (fun _ e => by cases e)
        clear hown hgr
        have hzz : (⟨(by8 32 fun _ => 0).toArray⟩ : ByteArray) = z32 := zs_32
        rw [hzz] at hcv
        rw [hcv]
        clear hcv hzz
        have BW4 := belowStep BW3 BW3.size B4
        by_cases hin : I < N
        · obtain ⟨x, hx⟩ : ∃ x, xs[I]? = some x := ⟨xs[I]'(by omega), List.getElem?_eq_getElem (by omega)⟩
          have hlx : lvs xs I = x := by unfold lvs; rw [List.getD_eq_getElem?_getD, hx]; rfl
          obtain ⟨b, o, rfl, hbb, c0⟩ := slS_at (slS_below BW4 hp) I x hx
          have l0 : (I : Int) < N := by omega
          rw [hlx] at HC
          go_wp2_with fail
          refine (HC.out _ B4).mono ?_
          rintro e w5 ⟨rfl, B5⟩
          have BW5 := belowStep BW4 BW4.size B5
          clear BW4 B4 B5 BW3
          go_wp2
          go_ret
          exact ⟨rfl, BW5⟩
        · have hlx : lvs xs I = z32 := by unfold lvs; rw [List.getD_eq_getElem?_getD, List.getElem?_eq_none (by omega)]; rfl
          have l0 : ¬ (I : Int) < N := by omega
          rw [hlx] at HC
          go_wp2_with fail
          refine (HC.out _ B4).mono ?_
          rintro e w5 ⟨rfl, B5⟩
          have BW5 := belowStep BW4 BW4.size B5
          clear BW4 B4 B5 BW3
          go_wp2
          go_ret
          exact ⟨rfl, BW5⟩
      · unfold BrR at hbr
        rw [if_neg hb] at hbr
        subst hbr
        go_wp2
        go_ret
        exact ⟨rfl, BW3⟩
    · have hrv : rootV xs d = .tuple #[.string ⟨#[]⟩, .int .i64 80] := if_neg hr
      rw [hrv]
      clear hrv
      go_wp2_with fail
      refine (HK.out.2 _ BW2).mono ?_
      rintro e w3 ⟨hbr, B3⟩
      have BW3 := belowStep BW2 BW2.size B3
      have hb : ¬ brOk xs d i = true := fun h => hr (by unfold brOk at h; exact (Bool.and_eq_true_iff.1 h).1)
      unfold BrR at hbr
      rw [if_neg hb] at hbr
      subst hbr
      clear BW2 B3
      go_wp2
      go_ret
      exact ⟨rfl, BW3⟩
end Go.Proofs.YtmemfdpfbeijeaaDoor
