/- What the reference's Mul does at this translation: for all words, whatever the memory. -/
import Derived.Test.YtgapcjdgakamoaaV2
import Derived.Test.YtgapcjdgakamoaaV3
import Derived.Test.YtgapcjdgakamoaaW23
namespace Go.Proofs.Ytgapcjdgakamoaa
open Go.RowKit Go.Shelf Go.Sort

theorem half_step (B : Int) (k : Nat) : B / 2 ^ k = 2 * (B / 2 ^ (k + 1)) + (if bitAt B k then 1 else 0) := by
  have h : B / 2 ^ (k + 1) = B / 2 ^ k / 2 := by
    rw [Int.pow_succ, ← Int.ediv_ediv_of_nonneg (Int.le_of_lt (Int.pow_pos (by decide)))]
  rw [h]
  unfold bitAt
  generalize B / 2 ^ k = x
  by_cases e : x % 2 = 1
  · simp [e]; omega
  · simp [e]; omega
theorem mul_yes (A B : Int) (k : Nat) (h : bitAt B k = true) : ((A * (B / 2 ^ (k + 1)) % 115792089237316195423570985008687907853269984665640564039457584007913129639936 + A * (B / 2 ^ (k + 1)) % 115792089237316195423570985008687907853269984665640564039457584007913129639936) % 115792089237316195423570985008687907853269984665640564039457584007913129639936 + A) % 115792089237316195423570985008687907853269984665640564039457584007913129639936 = A * (B / 2 ^ k) % 115792089237316195423570985008687907853269984665640564039457584007913129639936 := by
  rw [half_step B k, h]
  simp only [if_true, Int.mul_add, Int.mul_one]
  rw [show A * (2 * (B / 2 ^ (k + 1))) = 2 * (A * (B / 2 ^ (k + 1))) by rw [← Int.mul_assoc, Int.mul_comm A 2, Int.mul_assoc]]
  generalize A * (B / 2 ^ (k + 1)) = x
  omega
theorem mul_no (A B : Int) (k : Nat) (h : bitAt B k = false) : (A * (B / 2 ^ (k + 1)) % 115792089237316195423570985008687907853269984665640564039457584007913129639936 + A * (B / 2 ^ (k + 1)) % 115792089237316195423570985008687907853269984665640564039457584007913129639936) % 115792089237316195423570985008687907853269984665640564039457584007913129639936 = A * (B / 2 ^ k) % 115792089237316195423570985008687907853269984665640564039457584007913129639936 := by
  rw [half_step B k, h]
  rw [if_neg (by decide), Int.add_zero, show A * (2 * (B / 2 ^ (k + 1))) = 2 * (A * (B / 2 ^ (k + 1))) by rw [← Int.mul_assoc, Int.mul_comm A 2, Int.mul_assoc]]
  generalize A * (B / 2 ^ (k + 1)) = x
  omega

theorem Fw.put4 {n N g : Nat} {f : Nat → Value} {W : World} (k : Fw n N f W) (hg : g ≠ n) (b0 b1 b2 b3 : Int) : Fw n N f (put4 g b0 b1 b2 b3 W) :=
  (((k.setCell ⟨g, 0, none⟩ hg _).setCell ⟨g, 1, none⟩ hg _).setCell ⟨g, 2, none⟩ hg _).setCell ⟨g, 3, none⟩ hg _

/-- The memory of a product between two rounds. -/
structure MS (n g : Nat) (f : Nat → Value) (a0 a1 a2 a3 o0 o1 o2 o3 : Int) (W : World) : Prop where
  X : Rw n a0 a1 a2 a3 W
  Z : Rw (n + 1 + 1) 0 0 0 0 W
  O : Rw (n + 1 + 1 + 1) o0 o1 o2 o3 W
  L : Fw g 256 f W
  hg : n + 1 + 1 + 1 < g
section
variable {n g : Nat} {f : Nat → Value} {a0 a1 a2 a3 o0 o1 o2 o3 : Int} {W W' : World}
theorem MS.below (h : MS n g f a0 a1 a2 a3 o0 o1 o2 o3 W) (hb : Below W.heap.size W W') : MS n g f a0 a1 a2 a3 o0 o1 o2 o3 W' := ⟨h.X.below hb, h.Z.below hb, h.O.below hb, Fw.below h.4 hb, h.hg⟩
theorem MS.putO (h : MS n g f a0 a1 a2 a3 o0 o1 o2 o3 W) (b0 b1 b2 b3 : Int) : MS n g f a0 a1 a2 a3 b0 b1 b2 b3 (put4 (n + 1 + 1 + 1) b0 b1 b2 b3 W) := by
  have := h.hg
  exact ⟨h.X.other b0 b1 b2 b3 (by omega), h.Z.other b0 b1 b2 b3 (by omega), h.O.over b0 b1 b2 b3, Fw.put4 h.4 (by omega) b0 b1 b2 b3, h.hg⟩
end

set_option maxRecDepth 20000 in
set_option maxHeartbeats 2000000 in
theorem rmul_any (a0 a1 a2 a3 b0 b1 b2 b3 : Int) (ha : Ws a0 a1 a2 a3) (hb : Ws b0 b1 b2 b3) (w : World) :
    Calls Try.prog 15 #[.agg #[.int .u64 a0, .int .u64 a1, .int .u64 a2, .int .u64 a3], .agg #[.int .u64 b0, .int .u64 b1, .int .u64 b2, .int .u64 b3]] w fun e w' =>
      ∃ r0 r1 r2 r3 : Int, e = .returned (.agg #[.int .u64 r0, .int .u64 r1, .int .u64 r2, .int .u64 r3]) ∧ Ws r0 r1 r2 r3 ∧ Hid (val r0 r1 r2 r3 = val a0 a1 a2 a3 * val b0 b1 b2 b3 % 115792089237316195423570985008687907853269984665640564039457584007913129639936) ∧ Below w.heap.size w w' := by
  have ho : Pt 0 := ⟨by decide, by decide⟩
  have bA := val_bd _ _ _ _ ha
  have bB := val_bd _ _ _ _ hb
  have z0 := zero_bits.1
  obtain ⟨y, hy⟩ : ∃ y, val b0 b1 b2 b3 = y := ⟨_, rfl⟩
  have cB := rbits_any b0 b1 b2 b3 hb
  rw [hy] at cB
  have CB : Hid (∀ w : World, _) := cB
  have HY : Hid (_ = _) := hy
  clear cB
  go_enter Try.func15, Try.ntmps15
  go_wp2_with fail
  refine (CB.out _).mono ?_
  rintro e w1 ⟨rfl, hb1⟩
  have X1 : Rw w.heap.size a0 a1 a2 a3 w1 := Rw.below (by
    have := (((Rw.new w a0 a1 a2 a3 24).below ((Below.refl _ _).alloc (Nat.le_refl _) (.cells #[.int .u64 b0, .int .u64 b1, .int .u64 b2, .int .u64 b3] 24))).below ((Below.refl _ _).alloc (Nat.le_refl _) (.cells #[.int .u64 0, .int .u64 0, .int .u64 0, .int .u64 0] 24)))
    exact this.below ((Below.refl _ _).alloc (Nat.le_refl _) (.cells #[.int .u64 0, .int .u64 0, .int .u64 0, .int .u64 0] 24))) hb1
  have Z1 : Rw (w.heap.size + 1 + 1) 0 0 0 0 w1 := Rw.below (by
    have := (Rw.new ((w.alloc (.cells #[.int .u64 a0, .int .u64 a1, .int .u64 a2, .int .u64 a3] 24)).alloc (.cells #[.int .u64 b0, .int .u64 b1, .int .u64 b2, .int .u64 b3] 24)) 0 0 0 0 24).below ((Below.refl _ _).alloc (Nat.le_refl _) (.cells #[.int .u64 0, .int .u64 0, .int .u64 0, .int .u64 0] 24))
    simpa using this) hb1
  have O1 : Rw (w.heap.size + 1 + 1 + 1) 0 0 0 0 w1 := Rw.below (by
    have := Rw.new (((w.alloc (.cells #[.int .u64 a0, .int .u64 a1, .int .u64 a2, .int .u64 a3] 24)).alloc (.cells #[.int .u64 b0, .int .u64 b1, .int .u64 b2, .int .u64 b3] 24)).alloc (.cells #[.int .u64 0, .int .u64 0, .int .u64 0, .int .u64 0] 24)) 0 0 0 0 24
    simpa using this) hb1
  have E1 := belowStep (n := w.heap.size) (w := w) (by go_grown) (by (try simp) <;> omega) hb1
  clear hb1
  have z1 := O1.w.z
  have hst := (Fw.new w1 256 (fun _ => .bool false) 43).run (P := Try.prog) (fun j => .bool (bitAt y j)) (fun _ => rfl)
  go_wp2_with fail
  refine wpOf (fun W => Below w.heap.size w W ∧ MS w.heap.size w1.heap.size (fun j => .bool (bitAt y j)) a0 a1 a2 a3 0 0 0 0 W) ⟨?_, ?_⟩ ?_
  · exact below_setCells' E1.size _ _ _ (E1.alloc E1.size _)
  · have FN := Fw.new w1 256 (fun _ => .bool false) 43
    have hb : Below w1.heap.size w1 ((w1.alloc (.cells (fl 256 fun _ => .bool false).toArray 43)).setCells w1.heap.size 0 (fl 256 fun j => .bool (bitAt y j))) := below_setCells' (Nat.le_refl _) _ _ _ ((Below.refl _ _).alloc (Nat.le_refl _) _)
    exact ⟨X1.below hb, Z1.below hb, O1.below hb, FN.store _, z1⟩
  rintro V ⟨EV, HV⟩
  clear X1 Z1 O1 E1 z1 hst
  generalize w1.heap.size = g at HV ⊢
  clear w1
  go_loopg [7] 256 (fun gk i wr => ∃ o0 o1 o2 o3 : Int, gk ≤ 256 ∧ i = .int .i64 ((gk : Int) - 1) ∧ Below w.heap.size w wr ∧ MS w.heap.size g (fun j => .bool (bitAt y j)) a0 a1 a2 a3 o0 o1 o2 o3 wr ∧ Ws o0 o1 o2 o3 ∧ Hid (val o0 o1 o2 o3 = val a0 a1 a2 a3 * (y / 2 ^ gk) % 115792089237316195423570985008687907853269984665640564039457584007913129639936))
  case atStart =>
    refine ⟨0, 0, 0, 0, Nat.le_refl _, rfl, EV, HV, ⟨ho, ho, ho, ho⟩, ?_⟩
    show _ = _
    have e : y / 2 ^ 256 = 0 := by
      rw [← hy]
      rw [show ((2 : Int) ^ 256) = 115792089237316195423570985008687907853269984665640564039457584007913129639936 from rfl]
      omega
    rw [e, Int.mul_zero]
    rfl
  case round =>
    obtain ⟨o0, o1, o2, o3, hk, rfl, EW, HW, hO, hH⟩ := hrel
    obtain ⟨⟨kz, k0, k1, k2, k3⟩, kf⟩ := id HW.X
    obtain ⟨⟨dz, d0, d1, d2, d3⟩, df⟩ := id HW.Z
    obtain ⟨⟨pz, l0, l1, l2, l3⟩, lf⟩ := id HW.O
    have gz := HW.hg
    cases gk with
    | zero =>
      go_wp2
      refine bodyPost_ret (v := .agg #[.int .u64 o0, .int .u64 o1, .int .u64 o2, .int .u64 o3]) (by simp [results, Try.results15, go_sem, *]) rfl ⟨o0, o1, o2, o3, rfl, hO, ?_, ?_⟩
      · have := hH.out
        show _ = _
        rw [this, HY.out]
        simp
      · go_grown
    | succ k =>
      obtain ⟨b, hbb⟩ : ∃ b, bitAt y k = b := ⟨_, rfl⟩
      have lc := (Fw.c HW.4 k (by omega))
      rw [hbb] at lc
      have HB : Hid (_ = _) := hbb
      clear hbb
      have e1 : ((k + 1 : Nat) : Int) - 1 = k := by omega
      rw [e1]
      go_wp2_with fail
      refine (radd_any o0 o1 o2 o3 o0 o1 o2 o3 hO hO _).mono ?_
      rintro e w1 ⟨t0, t1, t2, t3, rfl, ht, htv, hb1⟩
      have HW1 := HW.below hb1
      have EW1 := belowStep EW EW.size hb1
      have lc1 := (Fw.c HW1.4 k (by omega))
      rw [HB.out] at lc1
      clear hb1 kz k0 k1 k2 k3 kf dz d0 d1 d2 d3 df pz l0 l1 l2 l3 lf lc HW EW
      obtain ⟨⟨kz, k0, k1, k2, k3⟩, kf⟩ := id HW1.X
      obtain ⟨⟨pz, l0, l1, l2, l3⟩, lf⟩ := id HW1.O
      cases b with
      | false =>
        go_wp2_with fail
        go_roundg k
        case measure => omega
        case rel =>
          refine ⟨t0, t1, t2, t3, by omega, rfl, below_put4 (g := w.heap.size + 1 + 1 + 1) EW1 (by omega) t0 t1 t2 t3, HW1.putO t0 t1 t2 t3, ht, ?_⟩
          show _ = _
          rw [htv.out, hH.out, mul_no _ _ _ HB.out]
      | true =>
        go_wp2_with fail
        refine (radd_any t0 t1 t2 t3 a0 a1 a2 a3 ht ha _).mono ?_
        rintro e w2 ⟨s0, s1, s2, s3, rfl, hs, hsv, hb2⟩
        have HW2 := (HW1.putO t0 t1 t2 t3).below hb2
        have EW2 := belowStep (below_put4 (g := w.heap.size + 1 + 1 + 1) EW1 (by omega) t0 t1 t2 t3) (below_put4 (g := w.heap.size + 1 + 1 + 1) EW1 (by omega) t0 t1 t2 t3).size hb2
        clear hb2 HW1 EW1 kz k0 k1 k2 k3 kf pz l0 l1 l2 l3 lf lc1
        obtain ⟨⟨pz, l0, l1, l2, l3⟩, lf⟩ := id HW2.O
        go_wp2_with fail
        go_roundg k
        case measure => omega
        case rel =>
          refine ⟨s0, s1, s2, s3, by omega, rfl, below_put4 (g := w.heap.size + 1 + 1 + 1) EW2 (by omega) s0 s1 s2 s3, HW2.putO s0 s1 s2 s3, hs, ?_⟩
          show _ = _
          rw [hsv.out, htv.out, hH.out, mul_yes _ _ _ HB.out]
end Go.Proofs.Ytgapcjdgakamoaa
