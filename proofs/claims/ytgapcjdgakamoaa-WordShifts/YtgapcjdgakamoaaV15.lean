/- What the reference's MulMod does at this translation: for all words, whatever the memory. -/
import Derived.Test.YtgapcjdgakamoaaV14
import Derived.Test.YtgapcjdgakamoaaV11
import Derived.Test.YtgapcjdgakamoaaW22
namespace Go.Proofs.Ytgapcjdgakamoaa
open Go.RowKit Go.Shelf Go.Sort

theorem sum32_add (f : Nat → Int) (a : Nat) : ∀ b, sum32 f (a + b) = sum32 f a + 2 ^ (32 * a) * sum32 (fun j => f (a + j)) b
  | 0 => by simp [sum32]
  | b + 1 => by
    rw [show a + (b + 1) = a + b + 1 from rfl]
    simp only [sum32]
    rw [sum32_add f a b, Int.mul_add, show 32 * (a + b) = 32 * a + 32 * b by omega, Int.pow_add, Int.mul_left_comm (2 ^ (32 * a)) (f (a + b))]
    omega
theorem sum32_bd (f : Nat → Int) (hf : ∀ j, j < 16 → 0 ≤ f j ∧ f j < 4294967296) : ∀ n, n ≤ 16 → 0 ≤ sum32 f n ∧ sum32 f n < 2 ^ (32 * n)
  | 0, _ => by simp [sum32]
  | n + 1, h => by
    have h1 := sum32_bd f hf n (by omega)
    obtain ⟨h2, h3⟩ := hf n (by omega)
    have hp : (0 : Int) < 2 ^ (32 * n) := Int.pow_pos (by decide)
    simp only [sum32]
    rw [show 32 * (n + 1) = 32 * n + 32 by omega, Int.pow_add, show ((2 : Int) ^ 32) = 4294967296 from rfl]
    have h4 : f n * 2 ^ (32 * n) ≤ 4294967295 * 2 ^ (32 * n) := Int.mul_le_mul_of_nonneg_right (by omega) (Int.le_of_lt hp)
    have h5 : 0 ≤ f n * 2 ^ (32 * n) := Int.mul_nonneg h2 (Int.le_of_lt hp)
    omega
theorem pw_mid (r : Nat) (hr : r < 32) : ∃ e : Int, (4294967296 : Int) = 2 ^ r * (2 * e) := by
  refine ⟨2 ^ (31 - r), ?_⟩
  rw [show (2 : Int) * 2 ^ (31 - r) = 2 ^ (32 - r) by rw [show 32 - r = 31 - r + 1 by omega, Int.pow_succ, Int.mul_comm], ← Int.pow_add, show r + (32 - r) = 32 by omega]
  rfl
theorem bit_mid (x y : Int) (r : Nat) (hr : r < 32) : (x + 4294967296 * y) / 2 ^ r % 2 = x / 2 ^ r % 2 := by
  obtain ⟨e, he⟩ := pw_mid r hr
  have hp : (2 : Int) ^ r ≠ 0 := Int.ne_of_gt (Int.pow_pos (by decide))
  rw [he, Int.mul_assoc, Int.add_mul_ediv_left _ _ hp, Int.mul_assoc, Int.add_mul_emod_self_left]
theorem bit32 (f : Nat → Int) (hf : ∀ j, j < 16 → 0 ≤ f j ∧ f j < 4294967296) (i q r : Nat) (hi : i = 32 * q + r) (hq : q < 16) (hr : r < 32) : (bits .and .u64 (f q / 2 ^ r) 1 == 1) = bitAt (sum32 f 16) i := by
  obtain ⟨h0, h1⟩ := hf q hq
  have hpos : (0 : Int) < 2 ^ r := Int.pow_pos (by decide)
  rw [and_bit _ ⟨Int.ediv_nonneg h0 (Int.le_of_lt hpos), Int.lt_of_le_of_lt (Int.ediv_le_self _ h0) (by omega)⟩]
  unfold bitAt
  have hb := sum32_bd f hf q (by omega)
  have hpq : (0 : Int) < 2 ^ (32 * q) := Int.pow_pos (by decide)
  have e : sum32 f 16 = sum32 f q + 2 ^ (32 * q) * (f q + 4294967296 * sum32 (fun j => f (q + 1 + j)) (15 - q)) := by
    rw [show (16 : Nat) = (q + 1) + (15 - q) by omega, sum32_add f (q + 1) (15 - q), show sum32 f (q + 1) = sum32 f q + f q * 2 ^ (32 * q) from rfl, show 32 * (q + 1) = 32 * q + 32 by omega, Int.pow_add, show ((2 : Int) ^ 32) = 4294967296 from rfl, Int.mul_add, Int.mul_comm (f q), Int.mul_assoc]
    omega
  rw [hi, Int.pow_add, ← Int.ediv_ediv_of_nonneg (Int.le_of_lt hpq), e, Int.add_mul_ediv_left _ _ (Int.ne_of_gt hpq), Int.ediv_eq_zero_of_lt hb.1 hb.2, Int.zero_add, bit_mid _ _ _ hr]
  rfl

/-- The number of 512 bits, the highest first. -/
theorem num_high2 (x : Int) (hx : 0 ≤ x ∧ x < 13407807929942597099574024998205846127479365820592393377723561443721764030073546976801874298166903427690031858186486050853753882811946569946433649006084096) : ∀ k, k ≤ 512 → num (fun j => bitAt x (511 - j)) k = x / 2 ^ (512 - k)
  | 0, _ => by
    show (0 : Int) = x / 2 ^ 512
    rw [show ((2 : Int) ^ 512) = 13407807929942597099574024998205846127479365820592393377723561443721764030073546976801874298166903427690031858186486050853753882811946569946433649006084096 from by decide +kernel]; omega
  | k + 1, h => by
    simp only [num]
    rw [num_high2 x hx k (by omega), show 512 - k = 511 - k + 1 by omega, show 512 - (k + 1) = 511 - k by omega, half_step x (511 - k)]

theorem product_lit (a0 a1 a2 a3 b0 b1 b2 b3 : Int) (ha : Ws a0 a1 a2 a3) (hb : Ws b0 b1 b2 b3) (w : World) :
    Calls Try.prog 66 #[.agg #[.int .u64 a0, .int .u64 a1, .int .u64 a2, .int .u64 a3], .agg #[.int .u64 b0, .int .u64 b1, .int .u64 b2, .int .u64 b3]] w fun e w' => ∃ o : Nat → Int, e = .returned (.agg #[.int .u64 (o 0), .int .u64 (o 1), .int .u64 (o 2), .int .u64 (o 3), .int .u64 (o 4), .int .u64 (o 5), .int .u64 (o 6), .int .u64 (o 7), .int .u64 (o 8), .int .u64 (o 9), .int .u64 (o 10), .int .u64 (o 11), .int .u64 (o 12), .int .u64 (o 13), .int .u64 (o 14), .int .u64 (o 15)]) ∧ (∀ j, j < 16 → 0 ≤ o j ∧ o j < 4294967296) ∧ Hid (sum32 o 16 = val a0 a1 a2 a3 * val b0 b1 b2 b3) ∧ Below w.heap.size w w' :=
  rproduct_any a0 a1 a2 a3 b0 b1 b2 b3 ha hb w

theorem Cw.grown {n : Nat} {a0 a1 a2 a3 : Int} {W W' : World} {r : Option Nat} (k : Cw n a0 a1 a2 a3 W) (hg : W.grownBy W' r) (hr : some n ≠ r) : Cw n a0 a1 a2 a3 W' :=
  ⟨Nat.lt_of_lt_of_le k.z hg.size, hg.cell k.c0 hr, hg.cell k.c1 hr, hg.cell k.c2 hr, hg.cell k.c3 hr⟩
theorem Rw.grown {n : Nat} {a0 a1 a2 a3 : Int} {W W' : World} {r : Option Nat} (k : Rw n a0 a1 a2 a3 W) (hg : W.grownBy W' r) (hr : some n ≠ r) : Rw n a0 a1 a2 a3 W' :=
  ⟨k.w.grown hg hr, fun o => by rw [World.frozen?_of_block (hg.block n k.w.z hr)]; exact k.f o⟩

set_option maxRecDepth 20000 in
set_option maxHeartbeats 4000000 in
theorem rmulmod_nz (a0 a1 a2 a3 b0 b1 b2 b3 m0 m1 m2 m3 : Int) (ha : Ws a0 a1 a2 a3) (hb : Ws b0 b1 b2 b3) (hm : Ws m0 m1 m2 m3) (hne : val m0 m1 m2 m3 ≠ 0) (w : World) :
    Calls Try.prog 29 #[.agg #[.int .u64 a0, .int .u64 a1, .int .u64 a2, .int .u64 a3], .agg #[.int .u64 b0, .int .u64 b1, .int .u64 b2, .int .u64 b3], .agg #[.int .u64 m0, .int .u64 m1, .int .u64 m2, .int .u64 m3]] w fun e w' =>
      ∃ r0 r1 r2 r3 : Int, e = .returned (.agg #[.int .u64 r0, .int .u64 r1, .int .u64 r2, .int .u64 r3]) ∧ Ws r0 r1 r2 r3 ∧ Hid (val r0 r1 r2 r3 = rm (val a0 a1 a2 a3 * val b0 b1 b2 b3) (val m0 m1 m2 m3)) ∧ Below w.heap.size w w' := by
  have ho : Pt 0 := ⟨by decide, by decide⟩
  have bA := val_bd _ _ _ _ ha
  have bB := val_bd _ _ _ _ hb
  have e0 := eq_word_no m0 m1 m2 m3 0 0 0 0 hm ⟨ho, ho, ho, ho⟩ hne
  obtain ⟨i0, hi, hz0, hz1, hz2⟩ := info_parts info_bool
  go_enter Try.func29, Try.ntmps29
  go_wp2_with fail
  refine (product_lit a0 a1 a2 a3 b0 b1 b2 b3 ha hb _).mono ?_
  rintro e w1 ⟨o, rfl, hob, hov, hb1⟩
  have M1 : Cw (w.heap.size + 1 + 1) m0 m1 m2 m3 w1 := Cw.below (by simpa using (Cw.new ((w.alloc (.cells #[.int .u64 a0, .int .u64 a1, .int .u64 a2, .int .u64 a3] 24)).alloc (.cells #[.int .u64 b0, .int .u64 b1, .int .u64 b2, .int .u64 b3] 24)) m0 m1 m2 m3 24).alloc (.cells #[.int .u64 0, .int .u64 0, .int .u64 0, .int .u64 0] 24)) hb1
  have Z1 : Rw (w.heap.size + 1 + 1 + 1) 0 0 0 0 w1 := Rw.below (by simpa using Rw.new (((w.alloc (.cells #[.int .u64 a0, .int .u64 a1, .int .u64 a2, .int .u64 a3] 24)).alloc (.cells #[.int .u64 b0, .int .u64 b1, .int .u64 b2, .int .u64 b3] 24)).alloc (.cells #[.int .u64 m0, .int .u64 m1, .int .u64 m2, .int .u64 m3] 24)) 0 0 0 0 24) hb1
  have E1 := belowStep (n := w.heap.size) (w := w) (by go_grown) (by (try simp) <;> omega) hb1
  clear hb1
  have z1 := Z1.w.z
  have HO : Hid (_ ∧ _) := ⟨hob, hov.out⟩
  clear hob hov
  go_wp2_with (at_make; refine wpList_make_own _ rfl _ _ 49 rfl (w1.heap.size + 1) 4 i0 (.bool false) 1 Try.underlying49 hi hz0 hz1 .i64 .i64 512 512 rfl rfl rfl (by rw [hz2]; decide) (by unfold maxLen; decide) (by simp) ?_; intro w2 hown hgr)
  have F2 : Fw w1.heap.size 16 (fun j => .int .u64 (o j)) w2 := Fw.grown (Fw.lit _ _ rfl rfl) hgr (by simp)
  have B2 : Below w1.heap.size w1 w2 := ((Below.refl _ w1).alloc (Nat.le_refl _) _).grown hgr (by simp) (by simp)
  have M2 := M1.below B2
  have Z2 := Z1.below B2
  have E2 := belowStep E1 E1.size B2
  clear M1 Z1 E1 hgr B2
  replace hown : w2.ownsRow (w1.heap.size + 1) 4 1 (.slice (some ⟨w1.heap.size + 1, 0, none⟩) 0 512) 0 [] := by simpa using hown
  go_wp2
  refine wpOf (fun W => Below w.heap.size w W ∧ Cw (w.heap.size + 1 + 1) m0 m1 m2 m3 W ∧ Rw (w.heap.size + 1 + 1 + 1) 0 0 0 0 W ∧ Fw w1.heap.size 16 (fun j => .int .u64 (o j)) W ∧ W.ownsRow (w1.heap.size + 1) 4 1 (.slice (some ⟨w1.heap.size + 1, 0, none⟩) 0 512) 0 []) ⟨E2, M2, Z2, F2, hown⟩ ?_
  clear E2 M2 Z2 F2 hown
  rintro V ⟨EV, MV, ZV, FV, hown⟩
  generalize w1.heap.size = g at FV hown z1 ⊢
  clear w1 w2
  obtain ⟨y, hy⟩ : ∃ y, sum32 o 16 = y := ⟨_, rfl⟩
  go_loopg [8, 9] 512 (fun gk v i wr => gk ≤ 512 ∧ i = .int .i64 ((gk : Int) - 1) ∧ Below w.heap.size w wr ∧ Cw (w.heap.size + 1 + 1) m0 m1 m2 m3 wr ∧ Rw (w.heap.size + 1 + 1 + 1) 0 0 0 0 wr ∧ Fw g 16 (fun j => .int .u64 (o j)) wr ∧ wr.ownsRow (g + 1) 4 1 v (512 - gk) (bl (512 - gk) fun j => bitAt y (511 - j)))
  case atStart => exact ⟨Nat.le_refl _, rfl, EV, MV, ZV, FV, hown⟩
  case round =>
    obtain ⟨hk, rfl, EW, MW, ZW, FW, hown⟩ := hrel
    cases gk with
    | zero =>
      obtain ⟨g2, cap, hv, hg1, hg2, hcells⟩ := owns_cells hown (by decide)
      subst hv
      obtain ⟨mz, mc0, mc1, mc2, mc3⟩ := id MW
      have ZZ := ZW
      go_wp2_with fail
      refine (rdivided_any g2 512 cap _ m0 m1 m2 m3 hm hne (by decide) _ hg2 hcells).mono ?_
      rintro e w3 ⟨q0, q1, q2, q3, r0, r1, r2, r3, rfl, hq, hr, hv, hb3⟩
      have Z3 := ZW.below hb3
      have E3 := belowStep EW EW.size hb3
      clear hb3 ZW EW MW FW hown mz mc0 mc1 mc2 mc3 hcells ZZ EV MV ZV FV
      obtain ⟨⟨z, z0, z1, z2, z3⟩, zf⟩ := id Z3
      have z' : w.heap.size + 1 + 1 + 1 < w3.heap.size + 1 := by omega
      go_wp2
      refine bodyPost_ret (v := .agg #[.int .u64 r0, .int .u64 r1, .int .u64 r2, .int .u64 r3]) (by simp [results, Try.results29, go_sem, *]) rfl ⟨r0, r1, r2, r3, rfl, hr, ?_, ?_⟩
      · show _ = _
        have hxy : y = val a0 a1 a2 a3 * val b0 b1 b2 b3 := by rw [← hy]; exact HO.out.2
        rw [hv.out.2, num_high2 y (by rw [hxy]; exact ⟨Int.mul_nonneg bA.1 bB.1, mul_bd _ _ bA.1 bA.2 bB.1 bB.2⟩) 512 (Nat.le_refl _), hxy]
        unfold rm
        rw [if_neg hne]
        simp
      · go_grown
    | succ k =>
      obtain ⟨q, hqk, hq4⟩ : ∃ q : Nat, k / 32 = q ∧ q < 16 := ⟨k / 32, rfl, by omega⟩
      obtain ⟨r, hrk, hr4⟩ : ∃ r : Nat, k % 32 = r ∧ r < 32 := ⟨k % 32, rfl, by omega⟩
      have hq : (k : Int).tdiv 32 = q := by rw [Int.tdiv_eq_ediv_of_nonneg (by omega)]; omega
      have hr : (k : Int).tmod 32 = r := by rw [Int.tmod_eq_emod_of_nonneg (by omega)]; omega
      have hr64 : (r : Int) < 64 := by omega
      have hbit := bit32 o HO.out.1 k q r (by omega) hq4 hr4
      rw [hy] at hbit
      have lc := FW.c q hq4
      obtain ⟨oq, hoq⟩ : ∃ x, o q = x := ⟨_, rfl⟩
      rw [hoq] at hbit lc
      have e1 : ((k + 1 : Nat) : Int) - 1 = k := by omega
      have hlt : (k : Int) < 512 := by omega
      rw [e1]
      have hgz := FW.z
      clear hqk hrk hoq
      go_wp2_with (at_builtin; refine wpList_append_own _ rfl _ _ 49 rfl (g + 1) 4 i0 (.bool false) 1 1 Try.underlying49 hi hz0 hz1 hz2 rfl (by decide) _ _ _ rfl (hown.alloc _) ⟨wr.heap.size, 0, none⟩ 1 1 [.bool (bitAt y k)] rfl rfl ?c1 ?c2 ?c3 ?c4 ?c5 ?_)
      case c1 => exact one_new _ _ _
      case c2 => intro u hu; simp at hu; subst hu; rfl
      case c3 => unfold maxLen; omega
      case c4 => omega
      case c5 => simp; omega
      · intro v' w2 hown' hgrow _
        go_wp2
        go_roundg k
        case measure => omega
        case rel =>
          have hr : ∀ b, u8.ownBlock = some b → g + 1 ≤ b := fun b hb => (hown.lt b hb).1
          refine ⟨by omega, rfl, ?_, ?_, ?_, ?_, ?_⟩
          · exact (EW.alloc EW.size _).grown hgrow (by have := EW.size; simp; omega) (fun b hb => by have := hr b hb; omega)
          · exact (MW.alloc _).grown hgrow (fun e => by have := hr _ e.symm; omega)
          · exact (ZW.alloc _).grown hgrow (fun e => by have := hr _ e.symm; omega)
          · exact (FW.alloc _).grown hgrow (fun e => by have := hr g e.symm; omega)
          · have e2 : 512 - k = 511 - k + 1 := by omega
            have e3 : 511 - (511 - k) = k := by omega
            rw [e2, bl_succ, e3]
            exact hown'
end Go.Proofs.Ytgapcjdgakamoaa
