/- The law SszPacks, walked. -/
import Derived.Test.YtmemfdpfbeijeaaDoorZ15
namespace Go.Proofs.YtmemfdpfbeijeaaDoor
open Go.RowKit Go.Shelf Go.Sort

set_option maxRecDepth 20000 in
set_option maxHeartbeats 4000000 in
theorem spacks_any (s root : ByteArray) (n : Int) (w : World) (hl : Laid w) :
    Calls Tryd.prog 3 #[.string s, .string root, .int .u64 n] w fun e w' => e = .returned (.bool true) ∧ Below w.heap.size w w' := by
  obtain ⟨m, hm⟩ : ∃ m, min s.size 10000 = m := ⟨_, rfl⟩
  have hmi : min (s.size : Int) 10000 = m := by omega
  have hmt : (min (s.size : Int) 10000).toNat = m := by omega
  obtain ⟨t, ht⟩ : ∃ t, s.extract 0 m = t := ⟨_, rfl⟩
  have htz : t.size ≤ 100000 := by rw [← ht, ByteArray.size_extract]; omega
  have lm : (m : Int) ≤ s.size := by omega
  have lm0 : (0 : Int) ≤ m := by omega
  obtain ⟨r, g, hrg⟩ : ∃ (r : ByteArray) (g : Int), mixV root n = .tuple #[.string r, .int .i64 g] := by
    unfold mixV
    split
    · exact ⟨_, _, rfl⟩
    · exact ⟨_, _, rfl⟩
  have K1 : ∀ W : World, Laid W → _ := fun W hW => mix_any root n W hW
  have K2 := rmix_any root n
  have K3 := pack_any t htz
  have K4 := rpack_any t htz
  have K5 := number_any n
  have K6 := rnumber_any n
  rw [hrg] at K1 K2
  obtain ⟨x, hx⟩ : ∃ x, numOf n = x := ⟨_, rfl⟩
  rw [hx] at K5 K6
  have hpl : (pk t).length ≤ 100000 := by rw [pk_len]; omega
  obtain ⟨ps, hps⟩ : ∃ ps, pk t = ps := ⟨_, rfl⟩
  rw [hps] at K3 K4 hpl
  have HK : Hid (_ ∧ _ ∧ _ ∧ _ ∧ _ ∧ _) := ⟨K1, K2, K3, K4, K5, K6⟩
  clear K1 K2 K3 K4 K5 K6 hrg hx hps hm
  go_enter Tryd.func3, Tryd.ntmps3
  go_wp2_with fail
  refine (shown8_any w hl).mono ?_
  rintro e w1 ⟨rfl, B1⟩
  go_wp2_with fail
  refine (HK.out.1 _ (hl.below B1)).mono ?_
  rintro e w2 ⟨rfl, B2⟩
  have BW2 := belowStep B1 B1.size B2
  go_wp2_with fail
  refine (HK.out.2.1 _).mono ?_
  rintro e w3 ⟨rfl, B3⟩
  have BW3 := belowStep BW2 BW2.size B3
  clear B1 B2 B3 BW2
  go_wp2_with fail
  refine (HK.out.2.2.1 _).mono ?_
  rintro e w4 ⟨a1, c1, rfl, -, hs1, B4⟩
  have BW4 := belowStep BW3 BW3.size B4
  go_wp2_with fail
  refine (HK.out.2.2.2.1 _).mono ?_
  rintro e w5 ⟨a2, c2, rfl, -, hs2, B5⟩
  have BW5 := belowStep BW4 BW4.size B5
  have KM := same8_any ps ps (by omega) (by omega) a1 a2 c1 c2 w5.heap.size w5 (Nat.le_refl _) (by
    rcases slS_below B5 hs1 with e | ⟨b, o, k1, k2, k3⟩
    · exact .inl e
    · exact .inr ⟨b, o, k1, Nat.lt_of_lt_of_le k2 B5.size, k3⟩) hs2
  rw [decide_eq_true rfl] at KM
  clear BW3 BW4 B4 B5 hs1 hs2
  go_wp2_with fail
  refine KM.mono ?_
  rintro e w6 ⟨rfl, B6⟩
  have BW6 := belowStep BW5 BW5.size B6
  clear KM BW5 B6
  go_wp2_with fail
  refine (HK.out.2.2.2.2.1 _).mono ?_
  rintro e w7 ⟨rfl, B7⟩
  have BW7 := belowStep BW6 BW6.size B7
  go_wp2_with fail
  refine (HK.out.2.2.2.2.2 _).mono ?_
  rintro e w8 ⟨rfl, B8⟩
  have BW8 := belowStep BW7 BW7.size B8
  clear BW6 BW7 B7 B8 HK
  go_wp2
  go_ret
  exact ⟨rfl, BW8⟩
end Go.Proofs.YtmemfdpfbeijeaaDoor
