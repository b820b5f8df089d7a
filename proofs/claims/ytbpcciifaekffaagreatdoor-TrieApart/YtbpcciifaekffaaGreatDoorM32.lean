/- Lemmas: What laneOf does at this translation: for all texts of at most eight bytes. What takeIn does at this translation: for all texts. -/
import Derived.Test.YtbpcciifaekffaaGreatDoorM1
import Derived.Test.YtbpcciifaekffaaGreatDoorM2
import Derived.Test.YtbpcciifaekffaaGreatDoorM3
import Derived.Test.YtbpcciifaekffaaGreatDoorM4
import Derived.Test.YtbpcciifaekffaaGreatDoorRows
namespace Go.Proofs.YtbpcciifaekffaaGreatDoor
open Go.RowKit Go.Sort

/-- A text's byte. -/
def k_bt (s : ByteArray) (i : Nat) : Int := ((s.data.getD i 0).toNat : Int)
theorem k_bt_get (s : ByteArray) (d : Nat) (h : d < s.size) : ((s[d]'h).toNat : Int) = k_bt s d := by
  have : s.data.getD d 0 = s[d]'h := by
    simp [Array.getD, h]
    rfl
  unfold k_bt
  rw [this]
theorem k_bt_bd (s : ByteArray) (d : Nat) : 0 ≤ k_bt s d ∧ k_bt s d < 256 := by
  unfold k_bt
  have := (s.data.getD d 0).toNat_lt
  omega

/-- The number of the first k bytes, the lowest first, as the program joins it. -/
def laneN (t : ByteArray) : Nat → Int
  | 0 => 0
  | k + 1 => bits .or .u64 (laneN t k) (IntKind.u64.wrap (k_bt t k * 2 ^ (8 * k)))

set_option maxRecDepth 20000 in
set_option maxHeartbeats 4000000 in
theorem laneOf_any (t : ByteArray) (h8 : t.size ≤ 8) (w : World) :
    Calls Tryz.prog 69 #[.string t] w fun e w' =>
      e = .returned (.int .u64 (laneN t t.size)) ∧ Below w.heap.size w w' := by
  have km : IntKind.u64.max = 18446744073709551615 := by decide
  have ks : IntKind.u64.signed = false := rfl
  obtain ⟨m, hm⟩ : ∃ m, t.size = m := ⟨_, rfl⟩
  rw [hm] at h8
  go_enter Tryz.func69, Tryz.ntmps69
  go_wp2
  go_loopg [3, 7] m (fun gk l i wr => ∃ k : Nat, ∃ v : Int, k + gk = m ∧ l = .int .u64 v ∧ i = .int .i64 k ∧ Below w.heap.size w wr ∧ Hid (v = laneN t k))
  case atStart => exact ⟨0, 0, by omega, rfl, rfl, Below.refl _ _, (rfl : (0 : Int) = _)⟩
  case round =>
    obtain ⟨k, v, hk, rfl, rfl, BW, hH⟩ := hrel
    by_cases hlt : k < m
    · have hks : k < t.size := by omega
      have l0 : (k : Int) < m := by omega
      have l0' : (k : Int) < t.size := by omega
      have z0 : (0 : Int) ≤ k := by omega
      obtain ⟨y, hy⟩ : ∃ y, k_bt t k = y := ⟨_, rfl⟩
      have hyb := k_bt_bd t k
      rw [hy] at hyb
      have hu1 : IntKind.u64.wrap (((t[k]'hks).toNat : Nat) : Int) = y := by rw [k_bt_get, hy, IntKind.wrap_u64]; omega
      obtain ⟨e, he⟩ : ∃ e : Nat, 8 * k = e := ⟨_, rfl⟩
      have e64 : (e : Int) ≤ 64 := by omega
      have e0 : (0 : Int) ≤ e := by omega
      have hm8 : IntKind.i64.wrap (8 * (k : Int)) = e := by rw [IntKind.wrap_i64]; omega
      have HV : Hid (k_bt t k = y ∧ 8 * k = e) := ⟨hy, he⟩
      clear hy he
      go_wp2
      go_roundg (gk - 1)
      case measure => omega
      case rel =>
        refine ⟨k + 1, _, by omega, rfl, rfl, BW, ?_⟩
        show _ = laneN t (k + 1)
        rw [laneN, HV.out.1, HV.out.2, ← hH.out]
    · have hk2 : k = m := by omega
      subst hk2
      clear hlt
      go_wp2
      go_ret
      exact ⟨by rw [hm, ← hH.out]; rfl, BW⟩
end Go.Proofs.YtbpcciifaekffaaGreatDoor
namespace Go.Proofs.YtbpcciifaekffaaGreatDoor
open Go.RowKit Go.Sort

/-- What is left of a text behind n lanes. -/
def remAt (t : ByteArray) : Nat → ByteArray
  | 0 => t
  | n + 1 => (remAt t n).extract 8 (remAt t n).size
theorem rem_size (t : ByteArray) (n : Nat) : (remAt t n).size = t.size - 8 * n := by
  induction n with
  | zero => rfl
  | succ n ih => rw [remAt, ByteArray.size_extract, ih]; omega

/-- One lane set. -/
def putAt (g : Nat → Int) (l : Nat) (v : Int) (j : Nat) : Int := if j = l then v else g j
/-- The first l lanes of block n joined. -/
def blkOf (g : Nat → Int) (t : ByteArray) (n : Nat) : Nat → Nat → Int
  | 0 => g
  | l + 1 => putAt (blkOf g t n l) l (xr (blkOf g t n l l) (laneN ((remAt t (17 * n + l)).extract 0 8) 8))
/-- The lanes behind n whole blocks. -/
def inOf (f : Nat → Int) (t : ByteArray) : Nat → Nat → Int
  | 0 => f
  | n + 1 => roundsOf (blkOf (inOf f t n) t n 17) 24
/-- The last block's lane with the text's end and the mark, in block n at lane l. -/
def lastOf (g : Nat → Int) (r : ByteArray) (l : Nat) : Nat → Int := putAt g l (xr (g l) (bits .or .u64 (laneN r r.size) (IntKind.u64.wrap (1 * 2 ^ (8 * r.size)))))
def endOf (g : Nat → Int) : Nat → Int := roundsOf (putAt g 16 (xr (g 16) 9223372036854775808)) 24
/-- The lanes behind a text. -/
def takeOf (f : Nat → Int) (t : ByteArray) : Nat → Int :=
  endOf (lastOf (blkOf (inOf f t (t.size / 136)) t (t.size / 136) (t.size % 136 / 8)) (remAt t (t.size / 8)) (t.size % 136 / 8))

set_option maxRecDepth 20000 in
set_option maxHeartbeats 4000000 in
theorem takeIn_any (s : Nat) (f : Nat → Int) (t : ByteArray) (ht : t.size < 9223372036854775808) (w : World) (hs : Fw s 25 (fun j => .int .u64 (f j)) w) (hl : Laid w) (h3 : 4 ≤ s) :
    Calls Tryz.prog 41 #[.pointer (some ⟨s, 0, none⟩), .string t] w fun e w' =>
      e = .returned (.tuple #[]) ∧ Fw s 25 (fun j => .int .u64 (takeOf f t j)) w' ∧ w.grownBy w' (some s) := by
  have km : IntKind.u64.max = 18446744073709551615 := by decide
  have ks : IntKind.u64.signed = false := rfl
  go_enter Tryz.func41, Tryz.ntmps41
  go_wp2
  go_step3
  go_wp2
  go_step3
  go_wp2
  go_loopg [1] (t.size / 136 + 1) (fun gk x wr => ∃ n : Nat, n + gk = t.size / 136 + 1 ∧ 0 < gk ∧ x = .string (remAt t (17 * n)) ∧ w.grownBy wr (some s) ∧ Laid wr ∧ Fw s 25 (fun j => .int .u64 (inOf f t n j)) wr)
  case atStart => exact ⟨0, by omega, by omega, rfl, but_refl s w, hl, hs⟩
  case round =>
    clear hl hs
    obtain ⟨n, hn, hgk, rfl, GW, LW, CS⟩ := hrel
    obtain ⟨g, hg⟩ : ∃ g, inOf f t n = g := ⟨_, rfl⟩
    have HG : Hid (inOf f t n = g) := hg
    have hnt : 136 * n ≤ t.size := by omega
    rw [hg] at CS
    clear hg
    go_wp2
    go_loopg [1, 5] 17 (fun gk x i wr => ∃ l : Nat, ∃ r : ByteArray, ∃ h : Nat → Int, l + gk = 17 ∧ x = .string r ∧ i = .int .i64 l ∧ w.grownBy wr (some s) ∧ Laid wr ∧ Fw s 25 (fun j => .int .u64 (h j)) wr ∧ Hid (r = remAt t (17 * n + l) ∧ h = blkOf g t n l) ∧ r.size + 8 * (17 * n + l) = t.size)
    case atStart => exact ⟨0, _, g, rfl, rfl, rfl, GW, LW, CS, ⟨rfl, rfl⟩, by rw [rem_size]; omega⟩
    case round =>
      clear GW LW CS
      obtain ⟨l, r, h, hl, rfl, rfl, GW, LW, CS, hH, hsz⟩ := hrel
      by_cases hlt : l < 17
      · obtain ⟨m, hm⟩ : ∃ m, r.size = m := ⟨_, rfl⟩
        rw [hm] at hsz
        have l0 : (l : Int) < 17 := by omega
        have l25 : (l : Int) < 25 := by omega
        by_cases h8 : m < 8
        · have m8 : (m : Int) < 8 := by omega
          have m0 := CS.c l (by omega)
          obtain ⟨v, hv⟩ : ∃ q, h l = q := ⟨_, rfl⟩
          rw [hv] at m0
          obtain ⟨e, he⟩ : ∃ e : Nat, 8 * m = e := ⟨_, rfl⟩
          have e64 : (e : Int) ≤ 64 := by omega
          have e0 : (0 : Int) ≤ e := by omega
          have we : IntKind.i64.wrap (8 * (m : Int)) = e := by rw [IntKind.wrap_i64]; omega
          obtain ⟨u, hu⟩ : ∃ u, laneN r m = u := ⟨_, rfl⟩
          have KL : Hid (∀ w : World, Calls Tryz.prog 69 #[.string r] w fun e w' => e = .returned (.int .u64 u) ∧ Below w.heap.size w w') := fun w => by
            have := laneOf_any r (by omega) w
            rw [hm, hu] at this
            exact this
          have HU : Hid (_ ∧ _ ∧ _) := ⟨hv, he, hu⟩
          clear hv he hu
          go_wp2
          have k0 := cell_regrown m0
          have cR := inClass (w := wr) KL.out
          refine region_tail 14 (by kernel_rfl) (by kernel_rfl) ?_
          simp only [List.take_succ_cons, List.take_zero, List.drop_succ_cons, List.drop_zero]
          iterate 6 (quiet_step (fail))
          quiet_step (exact cR _ _)
          iterate 7 (quiet_step (fail))
          refine wpQuiet_nil ?_
          intro w8 hw8
          have hb8 : Below wr.heap.size wr w8 := by
            obtain ⟨p, rfl⟩ := hw8
            exact below_regrown _ _ _
          have S8 := CS.below hb8
          have L8 := LW.below hb8
          have G8 := but_below GW hb8
          clear hw8 hb8 k0 cR KL m0 CS LW GW
          have n0 := S8.c l (by omega)
          have sf := S8.f
          have sz := S8.z
          go_wp2
          refine wpOf (fun W => w.grownBy W (some s) ∧ Laid W ∧ Fw s 25 (fun j => .int .u64 (lastOf h r l j)) W) ⟨but_set G8 _, L8.but (but_set (but_refl s w8) _) h3, S8.put l (by omega) _ (fun j _ => ?_)⟩ ?_
          · obtain ⟨g1, g2, g3⟩ := HU.out
            show Value.int .u64 (lastOf h r l j) = _
            rw [lastOf, putAt]
            by_cases e : j = l
            · rw [if_pos e, if_pos e, g1, hm, g3, g2, Int.one_mul]
            · rw [if_neg e, if_neg e]
          clear S8 L8 G8 n0 sf sz
          rintro V ⟨GV, LV, SV⟩
          obtain ⟨k, hk⟩ : ∃ k, lastOf h r l = k := ⟨_, rfl⟩
          rw [hk] at SV
          have HT : Hid (takeOf f t = endOf k) := by
            obtain ⟨g1, g2⟩ := hH.out
            show _ = _
            rw [takeOf, show t.size / 136 = n by omega, show t.size % 136 / 8 = l by omega, show t.size / 8 = 17 * n + l by omega, HG.out, ← g2, ← g1, hk]
          clear hk HU
          have m1 := SV.c 16 (by decide)
          obtain ⟨v1, hv1⟩ : ∃ q, k 16 = q := ⟨_, rfl⟩
          rw [hv1] at m1
          have HV : Hid (k 16 = v1) := hv1
          clear hv1
          go_wp2
          have k1 := cell_regrown m1
          refine region_tail 6 (by kernel_rfl) (by kernel_rfl) ?_
          simp only [List.take_succ_cons, List.take_zero, List.drop_succ_cons, List.drop_zero]
          iterate 6 (quiet_step (fail))
          refine wpQuiet_nil ?_
          intro w9 hw9
          have hb9 : Below V.heap.size V w9 := by
            obtain ⟨p, rfl⟩ := hw9
            exact below_regrown _ _ _
          have S9 := SV.below hb9
          have L9 := LV.below hb9
          have G9 := but_below GV hb9
          clear hw9 hb9 k1 m1 SV LV GV
          have n0 := S9.c 16 (by decide)
          have sf := S9.f
          have sz := S9.z
          have H9 : Hid (_ ∧ _ ∧ _) := ⟨S9, L9, G9⟩
          clear S9 L9 G9
          go_wp2_with fail
          obtain ⟨S9, L9, G9⟩ := H9.out
          refine (mix_any s (putAt k 16 (xr (k 16) 9223372036854775808)) _ (S9.put 16 (by decide) _ (fun j _ => ?_)) (L9.but (but_set (but_refl s w9) _) h3) h3).mono ?_
          · show Value.int .u64 (putAt k 16 _ j) = _
            rw [putAt]
            by_cases e : j = 16
            · rw [if_pos e, if_pos e, HV.out]
            · rw [if_neg e, if_neg e]
          rintro e wa ⟨rfl, SA, GA⟩
          have GZ := but_trans (but_set G9 _) GA
          clear S9 L9 G9 GA H9 n0 sf sz
          go_wp2
          simp only [Exit.noGoto]
          go_end0
          exact ⟨rfl, by rw [HT.out]; exact SA, GZ⟩
        · have m8 : ¬ (m : Int) < 8 := by omega
          have m8' : (8 : Int) ≤ m := by omega
          have m0 := CS.c l (by omega)
          obtain ⟨v, hv⟩ : ∃ q, h l = q := ⟨_, rfl⟩
          rw [hv] at m0
          obtain ⟨u, hu⟩ : ∃ u, laneN (r.extract 0 8) 8 = u := ⟨_, rfl⟩
          have KL : Hid (∀ w : World, Calls Tryz.prog 69 #[.string (r.extract 0 8)] w fun e w' => e = .returned (.int .u64 u) ∧ Below w.heap.size w w') := fun w => by
            have hsx : (r.extract 0 8).size = 8 := by rw [ByteArray.size_extract, hm]; omega
            have := laneOf_any (r.extract 0 8) (by omega) w
            rw [hsx, hu] at this
            exact this
          have HU : Hid (_ ∧ _) := ⟨hv, hu⟩
          clear hv hu
          go_wp2
          have k0 := cell_regrown m0
          have cR := inClass (w := wr) KL.out
          refine region_tail 10 (by kernel_rfl) (by kernel_rfl) ?_
          simp only [List.take_succ_cons, List.take_zero, List.drop_succ_cons, List.drop_zero]
          iterate 7 (quiet_step (fail))
          quiet_step (exact cR _ _)
          iterate 2 (quiet_step (fail))
          refine wpQuiet_nil ?_
          intro w8 hw8
          have hb8 : Below wr.heap.size wr w8 := by
            obtain ⟨p, rfl⟩ := hw8
            exact below_regrown _ _ _
          have S8 := CS.below hb8
          have L8 := LW.below hb8
          have G8 := but_below GW hb8
          clear hw8 hb8 k0 cR KL m0 CS LW GW
          have n0 := S8.c l (by omega)
          have sf := S8.f
          have sz := S8.z
          go_wp2
          go_roundg (gk - 1)
          case measure => omega
          case rel =>
            obtain ⟨g1, g2⟩ := HU.out
            obtain ⟨g3, g4⟩ := hH.out
            refine ⟨l + 1, r.extract 8 r.size, putAt h l (xr v u), by omega, ?_, rfl, but_set G8 _, L8.but (but_set (but_refl s w8) _) h3, S8.put l (by omega) _ (fun j _ => ?_), ⟨?_, ?_⟩, ?_⟩
            · first | rfl | (rw [hm]; rfl) | (simp [hm])
            · show Value.int .u64 (putAt h l (xr v u) j) = _
              rw [putAt]
              by_cases e : j = l
              · rw [if_pos e, if_pos e]
              · rw [if_neg e, if_neg e]
            · rw [← Nat.add_assoc, remAt, ← g3]
            · rw [blkOf, ← g4, g1, ← g3, g2]
            · rw [ByteArray.size_extract, hm]; omega
      · have hl17 : l = 17 := by omega
        subst hl17
        clear hlt
        go_wp2_with fail
        refine (mix_any s h wr CS LW h3).mono ?_
        rintro e wa ⟨rfl, SA, GA⟩
        have LA := LW.but GA h3
        have GZ := but_trans GW GA
        clear GA GW LW CS
        go_wp2
        go_roundg (t.size / 136 + 1 - (n + 1))
        case measure => omega
        case rel =>
          obtain ⟨g3, g4⟩ := hH.out
          refine ⟨n + 1, by omega, by omega, ?_, GZ, LA, ?_⟩
          · rw [g3, show 17 * (n + 1) = 17 * n + 17 by omega]
          · show Fw s 25 (fun j => .int .u64 (roundsOf (blkOf (inOf f t n) t n 17) 24 j)) _
            rw [HG.out, ← g4]
            exact SA
end Go.Proofs.YtbpcciifaekffaaGreatDoor
