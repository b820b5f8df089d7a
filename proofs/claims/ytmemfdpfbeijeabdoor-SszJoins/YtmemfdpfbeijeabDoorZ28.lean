/- The law SszJoins, walked. -/
import Derived.Test.YtmemfdpfbeijeabDoorZ19
import Derived.Test.YtmemfdpfbeijeabDoorZ15
namespace Go.Proofs.YtmemfdpfbeijeabDoor
open Go.RowKit Go.Shelf Go.Sort

theorem pk_join (s t : ByteArray) (h : s.size % 32 = 0) : pk (s ++ t) = pk s ++ pk t := by
  have hz : (s ++ t).size = s.size + t.size := ByteArray.size_append
  refine List.ext_getElem? fun j => ?_
  unfold pk
  by_cases h1 : j < (s.size + 31) / 32
  · rw [List.getElem?_append_left (by rw [List.length_map, List.length_range]; exact h1), List.getElem?_map, List.getElem?_map, List.getElem?_range (by rw [hz]; omega), List.getElem?_range h1]
    refine congrArg some (ext_bt8 _ _ (by rw [ck_size, ck_size]) fun m hm => ?_)
    rw [ck_size] at hm
    rw [bt_ck _ _ _ hm, bt_ck _ _ _ hm, if_pos (by rw [hz]; omega), if_pos (by omega), bt_append _ _ _ (by omega), if_pos (by omega)]
  · rw [List.getElem?_append_right (by rw [List.length_map, List.length_range]; omega), List.length_map, List.length_range, List.getElem?_map, List.getElem?_map]
    by_cases h2 : j < (s.size + t.size + 31) / 32
    · rw [List.getElem?_range (by rw [hz]; exact h2), List.getElem?_range (by omega)]
      refine congrArg some (ext_bt8 _ _ (by rw [ck_size, ck_size]) fun m hm => ?_)
      rw [ck_size] at hm
      rw [bt_ck _ _ _ hm, bt_ck _ _ _ hm, hz]
      by_cases h3 : 32 * j + m < s.size + t.size
      · rw [if_pos h3, if_pos (by omega), bt_append _ _ _ h3, if_neg (by omega)]
        congr 1
        omega
      · rw [if_neg h3, if_neg (by omega)]
    · rw [List.getElem?_eq_none (by rw [List.length_range, hz]; omega), List.getElem?_eq_none (by rw [List.length_range]; omega)]
      rfl

set_option maxRecDepth 100000 in
set_option maxHeartbeats 4000000 in
theorem sjoins_any (s0 t0 : ByteArray) (w : World) (hl : Laid w) :
    Calls Tryd.prog 4 #[.string s0, .string t0] w fun e w' => e = .returned (.bool true) ∧ Below w.heap.size w w' := by
  obtain ⟨i0, hi0, hz0, hz1, hz2⟩ := info_parts info_str8
  obtain ⟨m, hm⟩ : ∃ m, min s0.size 3000 = m := ⟨_, rfl⟩
  obtain ⟨m', hm'⟩ : ∃ m, min t0.size 3000 = m := ⟨_, rfl⟩
  have hmi : min (s0.size : Int) 3000 = m := by omega
  have hmi' : min (t0.size : Int) 3000 = m' := by omega
  have lm : (m : Int) ≤ s0.size := by omega
  have lm' : (m' : Int) ≤ t0.size := by omega
  have lm0 : (0 : Int) ≤ m := by omega
  have lm0' : (0 : Int) ≤ m' := by omega
  obtain ⟨s1, hs1⟩ : ∃ t, s0.extract 0 m = t := ⟨_, rfl⟩
  obtain ⟨t, ht⟩ : ∃ t, t0.extract 0 m' = t := ⟨_, rfl⟩
  have hs1z : s1.size = m := by rw [← hs1, ByteArray.size_extract]; omega
  have htz : t.size = m' := by rw [← ht, ByteArray.size_extract]; omega
  obtain ⟨q, hq⟩ : ∃ q, m / 32 = q := ⟨_, rfl⟩
  obtain ⟨q32, hq32⟩ : ∃ x, q * 32 = x := ⟨_, rfl⟩
  have hqd : (m : Int) / 32 = (q : Int) := by omega
  have wq : IntKind.i64.wrap ((q : Int) * 32) = (q32 : Int) := by rw [IntKind.wrap_i64]; omega
  have wq2 : (q : Int) * 32 = (q32 : Int) := by omega
  have lq : (q32 : Int) ≤ m := by omega
  have lq0 : (0 : Int) ≤ q32 := by omega
  obtain ⟨s, hs⟩ : ∃ t, s1.extract 0 q32 = t := ⟨_, rfl⟩
  have hsz : s.size = q32 := by rw [← hs, ByteArray.size_extract]; omega
  have hsm : s.size % 32 = 0 := by omega
  have hjz : ¬ 9223372036854775807 < s.size + t.size := by omega
  have hpj := pk_join s t hsm
  have hls : (pk s).length = q := by rw [pk_len]; omega
  have hlt : (pk t).length = (m' + 31) / 32 := by rw [pk_len, htz]
  obtain ⟨p, hp⟩ : ∃ p, (m' + 31) / 32 = p := ⟨_, rfl⟩
  rw [hp] at hlt
  have K1 := pack_any s (by omega)
  have K2 := pack_any t (by omega)
  have K3 := pack_any (s ++ t) (by rw [ByteArray.size_append]; omega)
  have hlc : (pk (s ++ t)).length = q + p := by rw [hpj, List.length_append, hls, hlt]
  have hcm := pk_mem (s ++ t)
  obtain ⟨ps, hps⟩ : ∃ x, pk s = x := ⟨_, rfl⟩
  obtain ⟨pt, hpt⟩ : ∃ x, pk t = x := ⟨_, rfl⟩
  obtain ⟨pc, hpc⟩ : ∃ x, pk (s ++ t) = x := ⟨_, rfl⟩
  rw [hps] at K1 hpj hls
  rw [hpt] at K2 hpj hlt
  rw [hpc] at K3 hpj hlc hcm
  rw [hls] at K1
  rw [hlt] at K2
  rw [hlc] at K3
  have w31 : IntKind.i64.wrap ((m' : Int) + 31) = (m' : Int) + 31 := by rw [IntKind.wrap_i64]; omega
  have hpd : ((m' : Int) + 31) / 32 = (p : Int) := by omega
  have hqb : q ≤ 100 := by omega
  have hpb : p ≤ 100 := by omega
  have HK : Hid (_ ∧ _ ∧ _) := ⟨K1, K2, K3⟩
  have HP : Hid (_ ∧ _ ∧ _ ∧ _ ∧ _) := ⟨hpj, hls, hlt, hlc, hcm⟩
  clear K1 K2 K3 hpj hls hlt hlc hcm hps hpt hpc hm hm' hq hq32 hp hsm
  go_enter Tryd.func4, Tryd.ntmps4
  go_wp2_with fail
  refine (shown8_any w hl).mono ?_
  rintro e w1 ⟨rfl, B1⟩
  go_wp2_with fail
  refine (HK.out.1 _).mono ?_
  rintro e w2 ⟨a1, c1, rfl, hc1, hsA, B2⟩
  have BW2 := belowStep B1 B1.size B2
  go_wp2_with fail
  refine (HK.out.2.1 _).mono ?_
  rintro e w3 ⟨a2, c2, rfl, hc2, hsB, B3⟩
  have BW3 := belowStep BW2 BW2.size B3
  go_wp2_with fail
  refine (HK.out.2.2 _).mono ?_
  rintro e w4 ⟨a3, c3, rfl, hc3, hs3, B4⟩
  have BW4 := belowStep BW3 BW3.size B4
  have up : ∀ {A C : World} {a : Option Addr} {xs : List ByteArray}, Below A.heap.size A C → slS A.heap.size A a xs → slS C.heap.size C a xs := fun hb hs => by
    rcases slS_below hb hs with e | ⟨b, o, k1, k2, k3⟩
    · exact .inl e
    · exact .inr ⟨b, o, k1, Nat.lt_of_lt_of_le k2 hb.size, k3⟩
  have g1 := up B4 (up B3 hsA)
  have g2 := up B4 hsB
  clear up B1 B2 BW2 B3 BW3 B4 hsA hsB HK hc1 hc2 hc3
  obtain ⟨M, hM⟩ : ∃ M, q + p = M := ⟨_, rfl⟩
  have HM : Hid _ := hM
  rw [hM]
  have hMb : M ≤ 200 := by omega
  clear hM
  obtain ⟨z, hz⟩ : ∃ z, w4.heap.size = z := ⟨_, rfl⟩
  have BZ : Below z w4 w4 := Below.refl _ _
  rw [hz] at g1 g2 hs3
  have HZ : Hid _ := hz
  clear hz
  go_wp2_with fail
  go_loopg [9] M (fun gk i' wr => ∃ j : Nat, j + gk = M ∧ i' = .int .i64 (j : Int) ∧ Below z w4 wr)
  case atStart => exact ⟨0, by omega, rfl, BZ⟩
  case round =>
    clear BZ
    obtain ⟨j, hj, rfl, BY⟩ := hrel
    have hzw : z ≤ wr.heap.size := by have := BY.size; have := HZ.out; omega
    by_cases hjm : j < M
    · have lj : (j : Int) < M := by omega
      have wj : IntKind.i64.wrap ((j : Int) + 1) = ((j + 1 : Nat) : Int) := by rw [IntKind.wrap_i64]; omega
      obtain ⟨x, hx⟩ : ∃ x, pc[j]? = some x := ⟨pc[j]'(by rw [HP.out.2.2.2.1, HM.out]; exact hjm), List.getElem?_eq_getElem _⟩
      have hx32 := HP.out.2.2.2.2 x (List.mem_of_getElem? hx)
      have lx : (x.size : Int) = 32 := by omega
      obtain ⟨b, o, rfl, hb, c0⟩ := slS_at hs3 j x hx
      replace c0 := (BY.cell (p := ⟨b, _, none⟩) hb).trans c0
      clear hx
      go_wp2
      go_roundg (gk - 1)
      case measure => omega
      case rel => exact ⟨j + 1, by omega, by first | rfl | (congr 1; omega), BY⟩
    · obtain rfl : j = M := by omega
      have lj : ¬ (j : Int) < j := by omega
      have w2' : IntKind.i64.wrap ((q : Int) + p) = (j : Int) := by have := HM.out; rw [IntKind.wrap_i64]; omega
      have w3' : (q : Int) + p = (j : Int) := by have := HM.out; omega
      have G1 : Hid (∀ W, Below z w4 W → slS z W a1 ps ∧ slS z W a2 pt ∧ slS z W a3 pc) := fun W hB => ⟨slS_below hB g1, slS_below hB g2, slS_below hB hs3⟩
      have HLs : Hid (_ ∧ _) := ⟨HP.out.2.1, HP.out.2.2.1⟩
      have gz : ∀ {A C : World} {row : Option Nat}, z ≤ A.heap.size → Below z w4 A → A.grownBy C row → (∀ b, row = some b → z ≤ b) → Below z w4 C := fun hA hb hg hr => hb.grown hg hA hr
      have GZ : Hid (∀ {A C : World} {row : Option Nat}, z ≤ A.heap.size → Below z w4 A → A.grownBy C row → (∀ b, row = some b → z ≤ b) → Below z w4 C) := gz
      clear g1 g2 hs3 gz
      go_wp2_with (first | (at_make; refine wpList_make_own _ rfl _ _ 22 rfl z 9 i0 _ 1 Tryd.underlying22 hi0 hz0 hz1 .i64 .i64 _ j rfl rfl rfl (by rw [hz2]; omega) (by unfold maxLen; omega) hzw ?_; intro w5 ho5 hg5; have b5 := GZ.out hzw BY hg5 (fun _ e => by cases e); have y5 := Nat.le_trans hzw hg5.size) | (at_builtin; refine wpList_append_list rfl _ _ rfl z _ rfl 0 [] ho5 ps a1 q c1 z HLs.out.1 rfl (G1.out _ b5).1 (by omega) (by omega) y5 ?_; intro v6 w6 ho6 hg6; have b6 := GZ.out y5 b5 hg6 (fun b hb => (ho5.lt b hb).1); have y6 := Nat.le_trans y5 hg6.size) | (at_builtin; refine wpList_append_list rfl _ _ rfl z _ rfl _ _ ho6 pt a2 p c2 z HLs.out.2 rfl (G1.out _ b6).2.1 (by omega) (by omega) y6 ?_; intro v7 w7 ho7 hg7; have b7 := GZ.out y6 b6 hg7 (fun b hb => (ho6.lt b hb).1); have y7 := Nat.le_trans y6 hg7.size))
      have hl7 : pc.length = 0 + q + p := by rw [HP.out.2.2.2.1]; omega
      have hm7 : ([] ++ ps.map Value.string) ++ pt.map .string = pc.map .string := by rw [HP.out.1, List.nil_append, List.map_append]
      rw [hm7, ← hl7] at ho7
      obtain ⟨a7, c7, rfl, hs7⟩ := slS_owns ho7
      have hj7 : pc.length = j := by rw [HP.out.2.2.2.1]; exact HM.out
      have g7 := (G1.out _ b7).2.2
      have KM := same8_any pc pc (by omega) (by omega) a3 a7 c3 c7 w7.heap.size w7 (Nat.le_refl _) (by
        rcases g7 with e | ⟨b, o, k1, k2, k3⟩
        · exact .inl e
        · exact .inr ⟨b, o, k1, Nat.lt_of_lt_of_le k2 y7, k3⟩) hs7
      rw [decide_eq_true rfl] at KM
      rw [hj7] at KM ⊢
      refine KM.mono ?_
      rintro e w8 ⟨rfl, B8⟩
      have BF : Below w.heap.size w w8 := belowStep (BW4.trans (b7.mono (by have := BW4.size; have := HZ.out; omega))) (by have := BW4.size; have := HZ.out; omega) B8
      clear KM B8 hs7 ho7 ho6 ho5 hg5 hg6 hg7 b5 b6 b7 g7 G1 GZ BY
      go_wp2
      go_ret
      exact ⟨rfl, BF⟩
end Go.Proofs.YtmemfdpfbeijeabDoor
