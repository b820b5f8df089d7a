/- The law SszRoots, walked. -/
import Derived.Test.YtmemfdpfbeijeaaDoorZ20
import Derived.Test.YtmemfdpfbeijeaaDoorZ15
namespace Go.Proofs.YtmemfdpfbeijeaaDoor
open Go.RowKit Go.Shelf Go.Sort

/-- What both answer. -/
theorem br_two {xs : List ByteArray} {d i : Int} {e : Ending} {w' : World} (h : BrR xs d i e w') : ∃ (a : Option Addr) (c : Nat) (ys : List ByteArray) (g : Int), e = .returned (.tuple #[.slice a ys.length c, .int .i64 g]) ∧ slS w'.heap.size w' a ys ∧ ys.length ≤ 10 ∧ (ys, g) = (if brOk xs d i = true then (brF (lvs xs) i.toNat 0 d.toNat, 0) else ([], 80)) := by
  unfold BrR at h
  by_cases hb : brOk xs d i = true
  · rw [if_pos hb] at h
    obtain ⟨a, c, h1, h2, h3⟩ := h
    have hd : d.toNat ≤ 10 := by
      unfold brOk at hb
      have := (rt8_iff xs d).1 (Bool.and_eq_true_iff.1 hb).1
      omega
    refine ⟨a, c, _, 0, ?_, h3, by rw [brF_len]; exact hd, by rw [if_pos hb]⟩
    rw [brF_len]
    exact h1
  · rw [if_neg hb] at h
    exact ⟨none, 0, [], 80, h, .inl rfl, by simp, by rw [if_neg hb]⟩
set_option maxRecDepth 20000 in
set_option maxHeartbeats 4000000 in
theorem sroots_at (xs : List ByteArray) (a : Option Addr) (c : Nat) (d d' i : Int) (hdd : d' = if 8 < d ∧ d ≤ 10 then 8 else d) (w : World) (hl : Laid w) (hp : slS w.heap.size w a xs) :
    Calls Tryd.prog 4 #[.slice a xs.length c, .int .i64 d, .int .i64 i] w fun e w' => e = .returned (.bool true) ∧ Below w.heap.size w w' := by
  have K1 : ∀ W : World, Below w.heap.size w W → _ := fun W hB => root_any xs d' a c w.heap.size W (hl.below hB) hB.size (slS_below hB hp)
  have K2 : ∀ W : World, Below w.heap.size w W → _ := fun W hB => rroot_any xs d' a c w.heap.size W hB.size (slS_below hB hp)
  have K3 : ∀ W : World, Below w.heap.size w W → _ := fun W hB => branch_any xs d' i a c w.heap.size W (hl.below hB) hB.size (slS_below hB hp)
  have K4 : ∀ W : World, Below w.heap.size w W → _ := fun W hB => rbranch_any xs d' i a c w.heap.size W hB.size (slS_below hB hp)
  obtain ⟨N, hN⟩ : ∃ N, xs.length = N := ⟨_, rfl⟩
  obtain ⟨s, g, hsg⟩ : ∃ (s : ByteArray) (g : Int), rootV xs d' = .tuple #[.string s, .int .i64 g] := by
    unfold rootV
    split
    · exact ⟨_, _, rfl⟩
    · exact ⟨_, _, rfl⟩
  rw [hN, hsg] at K1 K2
  rw [hN] at K3 K4 ⊢
  have HK : Hid (_ ∧ _ ∧ _ ∧ _) := ⟨K1, K2, K3, K4⟩
  clear K1 K2 K3 K4 hsg
  by_cases h8 : 8 < d
  · by_cases h10 : d ≤ 10
    · rw [if_pos ⟨h8, h10⟩] at hdd
      subst hdd
      go_enter Tryd.func4, Tryd.ntmps4
      go_wp2_with fail
      refine (shown8_any w hl).mono ?_
      rintro e w1 ⟨rfl, B1⟩
      go_wp2_with fail
      refine (HK.out.1 _ B1).mono ?_
      rintro e w2 ⟨rfl, B2⟩
      have BW2 := belowStep B1 B1.size B2
      go_wp2_with fail
      refine (HK.out.2.1 _ BW2).mono ?_
      rintro e w3 ⟨rfl, B3⟩
      have BW3 := belowStep BW2 BW2.size B3
      go_wp2_with fail
      refine (HK.out.2.2.1 _ BW3).mono ?_
      rintro e w4 ⟨hb4, B4⟩
      have BW4 := belowStep BW3 BW3.size B4
      obtain ⟨a1, c1, ys1, g1, rfl, hs1, hl1, he1⟩ := br_two hb4
      go_wp2_with fail
      refine (HK.out.2.2.2 _ BW4).mono ?_
      rintro e w5 ⟨hb5, B5⟩
      have BW5 := belowStep BW4 BW4.size B5
      obtain ⟨a2, c2, ys2, g2, rfl, hs2, hl2, he2⟩ := br_two hb5
      obtain ⟨rfl, rfl⟩ : ys1 = ys2 ∧ g1 = g2 := by
        have := he1.trans he2.symm
        simp only [Prod.mk.injEq] at this
        exact this
      have KM := same8_any ys1 ys1 (by omega) (by omega) a1 a2 c1 c2 w5.heap.size w5 (Nat.le_refl _) (by
        rcases slS_below B5 hs1 with e | ⟨b, o, k1, k2, k3⟩
        · exact .inl e
        · exact .inr ⟨b, o, k1, Nat.lt_of_lt_of_le k2 B5.size, k3⟩) hs2
      rw [decide_eq_true rfl] at KM
      clear B1 BW2 B2 BW3 B3 BW4 B4 B5 hb4 hb5 he1 he2 hs1 hs2 HK
      go_wp2_with fail
      refine KM.mono ?_
      rintro e w6 ⟨rfl, B6⟩
      have BW6 := belowStep BW5 BW5.size B6
      clear KM BW5 B6
      go_wp2
      go_ret
      exact ⟨rfl, BW6⟩
    · rw [if_neg (by omega)] at hdd
      subst hdd
      go_enter Tryd.func4, Tryd.ntmps4
      go_wp2_with fail
      refine (shown8_any w hl).mono ?_
      rintro e w1 ⟨rfl, B1⟩
      go_wp2_with fail
      refine (HK.out.1 _ B1).mono ?_
      rintro e w2 ⟨rfl, B2⟩
      have BW2 := belowStep B1 B1.size B2
      go_wp2_with fail
      refine (HK.out.2.1 _ BW2).mono ?_
      rintro e w3 ⟨rfl, B3⟩
      have BW3 := belowStep BW2 BW2.size B3
      go_wp2_with fail
      refine (HK.out.2.2.1 _ BW3).mono ?_
      rintro e w4 ⟨hb4, B4⟩
      have BW4 := belowStep BW3 BW3.size B4
      obtain ⟨a1, c1, ys1, g1, rfl, hs1, hl1, he1⟩ := br_two hb4
      go_wp2_with fail
      refine (HK.out.2.2.2 _ BW4).mono ?_
      rintro e w5 ⟨hb5, B5⟩
      have BW5 := belowStep BW4 BW4.size B5
      obtain ⟨a2, c2, ys2, g2, rfl, hs2, hl2, he2⟩ := br_two hb5
      obtain ⟨rfl, rfl⟩ : ys1 = ys2 ∧ g1 = g2 := by
        have := he1.trans he2.symm
        simp only [Prod.mk.injEq] at this
        exact this
      have KM := same8_any ys1 ys1 (by omega) (by omega) a1 a2 c1 c2 w5.heap.size w5 (Nat.le_refl _) (by
        rcases slS_below B5 hs1 with e | ⟨b, o, k1, k2, k3⟩
        · exact .inl e
        · exact .inr ⟨b, o, k1, Nat.lt_of_lt_of_le k2 B5.size, k3⟩) hs2
      rw [decide_eq_true rfl] at KM
      clear B1 BW2 B2 BW3 B3 BW4 B4 B5 hb4 hb5 he1 he2 hs1 hs2 HK
      go_wp2_with fail
      refine KM.mono ?_
      rintro e w6 ⟨rfl, B6⟩
      have BW6 := belowStep BW5 BW5.size B6
      clear KM BW5 B6
      go_wp2
      go_ret
      exact ⟨rfl, BW6⟩
  · rw [if_neg (by omega)] at hdd
    subst hdd
    go_enter Tryd.func4, Tryd.ntmps4
    go_wp2_with fail
    refine (shown8_any w hl).mono ?_
    rintro e w1 ⟨rfl, B1⟩
    go_wp2_with fail
    refine (HK.out.1 _ B1).mono ?_
    rintro e w2 ⟨rfl, B2⟩
    have BW2 := belowStep B1 B1.size B2
    go_wp2_with fail
    refine (HK.out.2.1 _ BW2).mono ?_
    rintro e w3 ⟨rfl, B3⟩
    have BW3 := belowStep BW2 BW2.size B3
    go_wp2_with fail
    refine (HK.out.2.2.1 _ BW3).mono ?_
    rintro e w4 ⟨hb4, B4⟩
    have BW4 := belowStep BW3 BW3.size B4
    obtain ⟨a1, c1, ys1, g1, rfl, hs1, hl1, he1⟩ := br_two hb4
    go_wp2_with fail
    refine (HK.out.2.2.2 _ BW4).mono ?_
    rintro e w5 ⟨hb5, B5⟩
    have BW5 := belowStep BW4 BW4.size B5
    obtain ⟨a2, c2, ys2, g2, rfl, hs2, hl2, he2⟩ := br_two hb5
    obtain ⟨rfl, rfl⟩ : ys1 = ys2 ∧ g1 = g2 := by
      have := he1.trans he2.symm
      simp only [Prod.mk.injEq] at this
      exact this
    have KM := same8_any ys1 ys1 (by omega) (by omega) a1 a2 c1 c2 w5.heap.size w5 (Nat.le_refl _) (by
      rcases slS_below B5 hs1 with e | ⟨b, o, k1, k2, k3⟩
      · exact .inl e
      · exact .inr ⟨b, o, k1, Nat.lt_of_lt_of_le k2 B5.size, k3⟩) hs2
    rw [decide_eq_true rfl] at KM
    clear B1 BW2 B2 BW3 B3 BW4 B4 B5 hb4 hb5 he1 he2 hs1 hs2 HK
    go_wp2_with fail
    refine KM.mono ?_
    rintro e w6 ⟨rfl, B6⟩
    have BW6 := belowStep BW5 BW5.size B6
    clear KM BW5 B6
    go_wp2
    go_ret
    exact ⟨rfl, BW6⟩
theorem sroots_any (xs : List ByteArray) (a : Option Addr) (c : Nat) (d i : Int) (w : World) (hl : Laid w) (hp : slS w.heap.size w a xs) :
    Calls Tryd.prog 4 #[.slice a xs.length c, .int .i64 d, .int .i64 i] w fun e w' => e = .returned (.bool true) ∧ Below w.heap.size w w' := sroots_at xs a c d _ i rfl w hl hp
end Go.Proofs.YtmemfdpfbeijeaaDoor
