/- What the reference's product does at this translation: for all words, whatever the memory. -/
import Derived.Test.YtgapcjdgakamoaaV13
import Derived.Test.YtgapcjdgakamoaaV4
namespace Go.Proofs.Ytgapcjdgakamoaa
open Go.RowKit Go.Shelf Go.Sort

/-- The number of parts of 32 bits, the lowest first. -/
def sum32 (f : Nat → Int) : Nat → Int
  | 0 => 0
  | k + 1 => sum32 f k + f k * 2 ^ (32 * k)
theorem sum32_ext (f g : Nat → Int) : ∀ n, (∀ j, j < n → f j = g j) → sum32 f n = sum32 g n
  | 0, _ => rfl
  | n + 1, h => by
    simp only [sum32]
    rw [sum32_ext f g n (fun j hj => h j (by omega)), h n (by omega)]
theorem sum32_zero : ∀ n, sum32 (fun _ => 0) n = 0
  | 0 => rfl
  | n + 1 => by simp only [sum32]; rw [sum32_zero n]; omega
theorem sum32_put (f : Nat → Int) (i : Nat) (v : Int) : ∀ n, i < n → sum32 (fun j => if j = i then v else f j) n = sum32 f n + (v - f i) * 2 ^ (32 * i)
  | 0, h => absurd h (Nat.not_lt_zero _)
  | n + 1, h => by
    simp only [sum32]
    by_cases e : n = i
    · subst e
      rw [sum32_ext (fun j => if j = n then v else f j) f n (fun j hj => by simp [show j ≠ n by omega])]
      simp only [if_true]
      rw [Int.sub_mul]; omega
    · rw [sum32_put f i v n (by omega), if_neg e]
      omega
theorem emod_two (x p m : Int) (hp : 0 < p) (hm : 0 < m) : x % (p * m) = x % p + x / p % m * p := by
  have e1 := Int.mul_ediv_add_emod x p
  have e2 := Int.mul_ediv_add_emod (x / p) m
  have h1 := Int.emod_nonneg x (Int.ne_of_gt hp)
  have h2 := Int.emod_lt_of_pos x hp
  have h3 := Int.emod_nonneg (x / p) (Int.ne_of_gt hm)
  have h4 := Int.emod_lt_of_pos (x / p) hm
  have h5 : x / p % m * p ≤ (m - 1) * p := Int.mul_le_mul_of_nonneg_right (by omega) (Int.le_of_lt hp)
  have h6 : 0 ≤ x / p % m * p := Int.mul_nonneg h3 (Int.le_of_lt hp)
  have h7 : (m - 1) * p = p * m - p := by rw [Int.sub_mul, Int.mul_comm m p, Int.one_mul]
  refine ((Int.ediv_emod_unique (q := x / p / m) (Int.mul_pos hp hm)).2 ⟨?_, ?_, ?_⟩).2
  · have : p * m * (x / p / m) = p * (m * (x / p / m)) := Int.mul_assoc _ _ _
    have h8 : p * (x / p) = p * (m * (x / p / m)) + x / p % m * p := by
      rw [Int.mul_comm (x / p % m) p, ← Int.mul_add, e2]
    omega
  · omega
  · omega
theorem sum32_third (x : Int) (hx : 0 ≤ x) : ∀ n, sum32 (third x) n = x % 2 ^ (32 * n)
  | 0 => by simp [sum32]
  | n + 1 => by
    simp only [sum32]
    rw [sum32_third x hx n]
    unfold third
    rw [show 32 * (n + 1) = 32 * n + 32 by omega, Int.pow_add, show ((2 : Int) ^ 32) = 4294967296 from rfl]
    rw [emod_two x (2 ^ (32 * n)) 4294967296 (Int.pow_pos (by decide)) (by decide)]
theorem sum32_word (a0 a1 a2 a3 : Int) (ha : Ws a0 a1 a2 a3) : sum32 (third (val a0 a1 a2 a3)) 8 = val a0 a1 a2 a3 := by
  have b := val_bd _ _ _ _ ha
  rw [sum32_third _ b.1, show ((2 : Int) ^ (32 * 8)) = 115792089237316195423570985008687907853269984665640564039457584007913129639936 from rfl]
  omega

/-- One step of the schoolbook's row. -/
theorem row_step (V o x y v s R : Int) (p : Int) (hs : s = o + x * y + v) (hV : V + v * p = R) : V + (s % 4294967296 - o) * p + s / 4294967296 * (p * 4294967296) = R + x * y * p := by
  have e : s = 4294967296 * (s / 4294967296) + s % 4294967296 := by omega
  have : (s % 4294967296 - o) * p + s / 4294967296 * (p * 4294967296) = (x * y + v) * p := by
    rw [Int.sub_mul, show s / 4294967296 * (p * 4294967296) = 4294967296 * (s / 4294967296) * p by rw [Int.mul_comm p, ← Int.mul_assoc, Int.mul_comm (s / 4294967296)]]
    have h2 : s % 4294967296 * p - o * p + 4294967296 * (s / 4294967296) * p = (4294967296 * (s / 4294967296) + s % 4294967296) * p - o * p := by rw [Int.add_mul]; omega
    rw [h2, ← e, hs, Int.add_mul, Int.add_mul, Int.add_mul]; omega
  rw [Int.add_mul] at this
  omega

theorem Fw.lit {W : World} {n N : Nat} {g : Nat → Value} (cs : Array Value) (t : TypeId) (hn : W.heap.size = n) (h : cs = (fl N g).toArray) : Fw n N g (W.alloc (.cells cs t)) := by
  subst hn h
  exact Fw.new W N g t
/-- The step, as the loop tells it. -/
theorem row_next (X Y o : Nat → Int) (k j t : Nat) (ht : k + j = t) (c s R : Int) (hs : s = o t + X k * Y j + c) (h16 : t < 16) (h : sum32 o 16 + c * 2 ^ (32 * (k + j)) = R + X k * sum32 Y j * 2 ^ (32 * k)) :
    sum32 (fun i => if i = t then s % 4294967296 else o i) 16 + s / 4294967296 * 2 ^ (32 * (k + (j + 1))) = R + X k * sum32 Y (j + 1) * 2 ^ (32 * k) := by
  rw [ht] at h
  have e1 := row_step (sum32 o 16) (o t) (X k) (Y j) c s (R + X k * sum32 Y j * 2 ^ (32 * k)) (2 ^ (32 * t)) hs h
  rw [sum32_put o t _ 16 h16, show 32 * (k + (j + 1)) = 32 * t + 32 by omega, Int.pow_add, show ((2 : Int) ^ 32) = 4294967296 from rfl]
  rw [show sum32 Y (j + 1) = sum32 Y j + Y j * 2 ^ (32 * j) from rfl]
  rw [e1, Int.mul_add, Int.add_mul, show X k * (Y j * 2 ^ (32 * j)) * 2 ^ (32 * k) = X k * Y j * 2 ^ (32 * t) by
    rw [← ht, show 32 * (k + j) = 32 * j + 32 * k by omega, Int.pow_add, ← Int.mul_assoc, ← Int.mul_assoc]]
  omega
theorem row_end (X Y o : Nat → Int) (k t : Nat) (ht : k + 8 = t) (c B : Int) (h0 : o t = 0) (h16 : t < 16) (hB : sum32 Y 8 = B) (h : sum32 o 16 + c * 2 ^ (32 * (k + 8)) = sum32 X k * B + X k * sum32 Y 8 * 2 ^ (32 * k)) :
    sum32 (fun i => if i = t then c else o i) 16 = sum32 X (k + 1) * B := by
  rw [sum32_put o t _ 16 h16, h0, Int.sub_zero, ← ht, h, hB]
  rw [show sum32 X (k + 1) = sum32 X k + X k * 2 ^ (32 * k) from rfl]
  rw [Int.add_mul, Int.mul_assoc (X k), Int.mul_comm B, ← Int.mul_assoc]
theorem size_a16 : (Try.prog.info? 53).map (·.size) = some 16 := by kernel_rfl

/-- The memory of a product. -/
structure QS (n g h : Nat) (X Y o : Nat → Int) (W : World) : Prop where
  Z : Fw (n + 1 + 1) 16 (fun _ => .int .u64 0) W
  O : Fw (n + 1 + 1 + 1) 16 (fun j => .int .u64 (o j)) W
  X : Fw g 8 (fun j => .int .u64 (X j)) W
  Y : Fw h 8 (fun j => .int .u64 (Y j)) W
  hg : n + 1 + 1 + 1 < g
  hh : g < h
theorem QS.below {n g h : Nat} {X Y o : Nat → Int} {W W' : World} (k : QS n g h X Y o W) (hb : Below W.heap.size W W') : QS n g h X Y o W' := ⟨Fw.below k.1 hb, Fw.below k.2 hb, Fw.below k.3 hb, Fw.below k.4 hb, k.hg, k.hh⟩
theorem QS.drew {n g h : Nat} {X Y o : Nat → Int} {W : World} (k : QS n g h X Y o W) : QS n g h X Y o W.drew := ⟨Fw.drew k.1, Fw.drew k.2, Fw.drew k.3, Fw.drew k.4, k.hg, k.hh⟩
theorem QS.put {n g h : Nat} {X Y o : Nat → Int} {W : World} (k : QS n g h X Y o W) (i : Nat) (hi : i < 16) (v : Int) : QS n g h X Y (fun j => if j = i then v else o j) (W.setCell ⟨n + 1 + 1 + 1, i, none⟩ (.int .u64 v)) := by
  have h1 := k.hg
  have h2 := k.hh
  exact ⟨Fw.setCell k.1 _ (by dsimp only; omega) _, Fw.put k.2 i hi _ (fun j _ => by by_cases e : j = i <;> simp [e]), Fw.setCell k.3 _ (by dsimp only; omega) _, Fw.setCell k.4 _ (by dsimp only; omega) _, h1, h2⟩

theorem thirds_lit (a0 a1 a2 a3 : Int) (ha : Ws a0 a1 a2 a3) (X : Nat → Int) (hX : third (val a0 a1 a2 a3) = X) (w : World) :
    Calls Try.prog 79 #[.agg #[.int .u64 a0, .int .u64 a1, .int .u64 a2, .int .u64 a3]] w fun e w' => e = .returned (.agg #[.int .u64 (X 0), .int .u64 (X 1), .int .u64 (X 2), .int .u64 (X 3), .int .u64 (X 4), .int .u64 (X 5), .int .u64 (X 6), .int .u64 (X 7)]) ∧ Below w.heap.size w w' := by
  have h := rthirds_any a0 a1 a2 a3 ha w
  rw [hX] at h
  exact h

set_option maxRecDepth 20000 in
set_option maxHeartbeats 4000000 in
theorem rproduct_any (a0 a1 a2 a3 b0 b1 b2 b3 : Int) (ha : Ws a0 a1 a2 a3) (hb : Ws b0 b1 b2 b3) (w : World) :
    Calls Try.prog 66 #[.agg #[.int .u64 a0, .int .u64 a1, .int .u64 a2, .int .u64 a3], .agg #[.int .u64 b0, .int .u64 b1, .int .u64 b2, .int .u64 b3]] w fun e w' => ∃ o : Nat → Int, e = .returned (.agg (fl 16 fun j => .int .u64 (o j)).toArray) ∧ (∀ j, j < 16 → 0 ≤ o j ∧ o j < 4294967296) ∧ Hid (sum32 o 16 = val a0 a1 a2 a3 * val b0 b1 b2 b3) ∧ Below w.heap.size w w' := by
  obtain ⟨X, hX⟩ : ∃ X, third (val a0 a1 a2 a3) = X := ⟨_, rfl⟩
  obtain ⟨Y, hY⟩ : ∃ Y, third (val b0 b1 b2 b3) = Y := ⟨_, rfl⟩
  have cX := thirds_lit a0 a1 a2 a3 ha X hX
  have cY := thirds_lit b0 b1 b2 b3 hb Y hY
  have sX := sum32_word a0 a1 a2 a3 ha
  have sY := sum32_word b0 b1 b2 b3 hb
  have bX : ∀ j, 0 ≤ X j ∧ X j < 4294967296 := fun j => by rw [← hX]; exact third_bd _ j
  have bY : ∀ j, 0 ≤ Y j ∧ Y j < 4294967296 := fun j => by rw [← hY]; exact third_bd _ j
  rw [hX] at sX
  rw [hY] at sY
  have SX : Hid (_ ∧ _) := ⟨sX, sY⟩
  have BX : Hid (∀ j, _) := bX
  have BY : Hid (∀ j, _) := bY
  have CX : Hid (∀ w : World, _) := cX
  have CY : Hid (∀ w : World, _) := cY
  clear cX cY sX sY bX bY hX hY
  go_enter Try.func66, Try.ntmps66
  go_wp2_with fail
  refine (CX.out _).mono ?_
  rintro e w1 ⟨rfl, hb1⟩
  have Z1 : Fw (w.heap.size + 1 + 1) 16 (fun _ => .int .u64 0) w1 := Fw.below (Fw.alloc (Fw.lit _ _ (by simp) rfl) _) hb1
  have O1 : Fw (w.heap.size + 1 + 1 + 1) 16 (fun _ => .int .u64 0) w1 := Fw.below (Fw.lit _ _ (by simp) rfl) hb1
  have B1 : Cw (w.heap.size + 1) b0 b1 b2 b3 w1 := Cw.below (by repeat' (first | (simpa using Cw.new (w.alloc _) b0 b1 b2 b3 _) | apply Cw.alloc | apply Cw.drew)) hb1
  have E1 := belowStep (n := w.heap.size) (w := w) (by go_grown) (by (try simp) <;> omega) hb1
  clear hb1
  have z1 := O1.z
  obtain ⟨zb, cb0, cb1, cb2, cb3⟩ := id B1
  go_wp2_with fail
  refine (CY.out _).mono ?_
  rintro e w2 ⟨rfl, hb2⟩
  have Z2 := (Fw.alloc Z1 _).below hb2
  have O2 := (Fw.alloc O1 _).below hb2
  have X2 : Fw w1.heap.size 8 (fun j => .int .u64 (X j)) w2 := Fw.below (Fw.lit _ _ rfl rfl) hb2
  have E2 := belowStep (E1.alloc E1.size _) (by have := E1.size; simp; omega) hb2
  have z2 := X2.z
  clear hb2 Z1 O1 B1 E1 zb cb0 cb1 cb2 cb3
  go_wp2_with fail
  refine wpOf (fun W => Below w.heap.size w W ∧ QS w.heap.size w1.heap.size w2.heap.size X Y (fun _ => 0) W) ⟨E2.alloc E2.size _, ⟨Fw.alloc Z2 _, Fw.alloc O2 _, Fw.alloc X2 _, Fw.lit _ _ rfl rfl, z1, z2⟩⟩ ?_
  rintro V ⟨EV, HV⟩
  clear Z2 O2 X2 E2 z1 z2
  generalize w1.heap.size = g at HV ⊢
  generalize w2.heap.size = h at HV ⊢
  clear w1 w2
  go_loopg [8] 8 (fun gk i wr => ∃ k : Nat, ∃ o : Nat → Int, k + gk = 8 ∧ i = .int .i64 k ∧ Below w.heap.size w wr ∧ QS w.heap.size g h X Y o wr ∧ Hid ((∀ j, 0 ≤ o j ∧ o j < 4294967296) ∧ (∀ j, k + 8 ≤ j → o j = 0) ∧ sum32 o 16 = sum32 X k * val b0 b1 b2 b3))
  case atStart => exact ⟨0, fun _ => 0, rfl, rfl, EV, HV, fun _ => ⟨Int.le_refl 0, (by decide : (0 : Int) < 4294967296)⟩, fun _ _ => rfl, by rw [sum32_zero]; simp only [sum32, Int.zero_mul]⟩
  case round =>
    obtain ⟨k, o, hk, rfl, EW, HW, hH⟩ := hrel
    by_cases hlt : k < 8
    · go_wp2
      go_loopg [9, 10] 8 (fun gm v m wr => ∃ j : Nat, ∃ o : Nat → Int, ∃ c : Int, j + gm = 8 ∧ v = .int .u64 c ∧ m = .int .i64 j ∧ Below w.heap.size w wr ∧ QS w.heap.size g h X Y o wr ∧ 0 ≤ c ∧ c < 4294967296 ∧ Hid ((∀ j, 0 ≤ o j ∧ o j < 4294967296) ∧ (∀ j, k + 8 ≤ j → o j = 0) ∧ sum32 o 16 + c * 2 ^ (32 * (k + j)) = sum32 X k * val b0 b1 b2 b3 + X k * sum32 Y j * 2 ^ (32 * k)))
      case atStart =>
        obtain ⟨h1, h2, h3⟩ := hH.out
        exact ⟨0, o, 0, rfl, rfl, rfl, EW, HW, by decide, by decide, h1, h2, by rw [h3]; simp only [sum32]; omega⟩
      case round =>
        obtain ⟨j, o, c, hj, rfl, rfl, EW, HW, hc0, hc1, hH⟩ := hrel
        have gz := HW.hg
        have hz := HW.hh
        have zf := Fw.f HW.2
        have zz := Fw.z HW.2
        by_cases hlj : j < 8
        · obtain ⟨t, ht⟩ : ∃ t : Nat, k + j = t := ⟨_, rfl⟩
          have ht16 : t < 16 := by omega
          have hkj : IntKind.i64.wrap ((k : Int) + (j : Int)) = (t : Int) := by rw [IntKind.wrap_i64]; omega
          have oc := Fw.c HW.2 t ht16
          have xc := Fw.c HW.3 k hlt
          have yc := Fw.c HW.4 j hlj
          obtain ⟨ob0, ob1⟩ := hH.out.1 t
          obtain ⟨xb0, xb1⟩ := BX.out k
          obtain ⟨yb0, yb1⟩ := BY.out j
          obtain ⟨ot, hot⟩ : ∃ x, o t = x := ⟨_, rfl⟩
          obtain ⟨xk, hxk⟩ : ∃ x, X k = x := ⟨_, rfl⟩
          obtain ⟨yj, hyj⟩ : ∃ x, Y j = x := ⟨_, rfl⟩
          rw [hot] at oc ob0 ob1
          rw [hxk] at xc xb0 xb1
          rw [hyj] at yc yb0 yb1
          obtain ⟨p, hp, hp0, hp1, hpv⟩ := half_mul xk yj xb0 (by omega) yb0 (by omega)
          have hs1 : IntKind.u64.wrap (ot + p) = ot + p := by rw [IntKind.wrap_u64]; omega
          obtain ⟨s, hs⟩ : ∃ s, ot + p + c = s := ⟨_, rfl⟩
          have hs2 : IntKind.u64.wrap (ot + p + c) = s := by rw [IntKind.wrap_u64]; omega
          have hsb : Pt s := ⟨by omega, by omega⟩
          have hlo := and_low s hsb
          obtain ⟨lo, hlo'⟩ : ∃ x, s % 4294967296 = x := ⟨_, rfl⟩
          rw [hlo'] at hlo
          obtain ⟨hi, hhi⟩ : ∃ x, s / 4294967296 = x := ⟨_, rfl⟩
          have hhb : 0 ≤ hi ∧ hi < 4294967296 := by have := hsb.1; have := hsb.2; omega
          have hlb : 0 ≤ lo ∧ lo < 4294967296 := by omega
          have HS : Hid (_ ∧ _ ∧ _ ∧ _ ∧ _ ∧ _ ∧ _) := ⟨hs, hlo', hhi, hpv.out, hot, hxk, hyj⟩
          clear hs hlo' hpv hot hxk hyj ob0 ob1 xb0 xb1 yb0 yb1
          go_wp2
          go_region
          go_wp2
          go_roundg (gk - 1)
          case measure => omega
          case rel =>
            obtain ⟨g1, g2, g3, g4, g5, g6, g7⟩ := HS.out
            obtain ⟨h1, h2, h3⟩ := hH.out
            have e := row_next X Y o k j t ht c s _ (by rw [g5, g6, g7, ← g4, ← g1]) ht16 h3
            rw [g2, g3] at e
            refine ⟨j + 1, fun i => if i = t then lo else o i, hi, by omega, rfl, rfl, by go_grown, QS.put HW.drew t ht16 lo, hhb.1, hhb.2, ?_, ?_, e⟩
            · intro i
              by_cases e : i = t
              · simp [e]; exact hlb
              · simp [e]; exact h1 i
            · intro i hi8
              show (if i = t then lo else o i) = 0
              rw [if_neg (by omega)]
              exact h2 i hi8
        · have hj8 : j = 8 := by omega
          subst hj8
          obtain ⟨t, ht⟩ : ∃ t : Nat, k + 8 = t := ⟨_, rfl⟩
          have ht16 : t < 16 := by omega
          have hkj : IntKind.i64.wrap ((k : Int) + 8) = (t : Int) := by rw [IntKind.wrap_i64]; omega
          have oc := Fw.c HW.2 t ht16
          clear hlj
          go_wp2
          go_roundg (8 - (k + 1))
          case measure => omega
          case rel =>
            obtain ⟨h1, h2, h3⟩ := hH.out
            have e := row_end X Y o k t ht c (val b0 b1 b2 b3) (h2 t (by omega)) ht16 SX.out.2 h3
            refine ⟨k + 1, fun i => if i = t then c else o i, by omega, rfl, by go_grown, QS.put HW t ht16 c, ?_, ?_, e⟩
            · intro i
              by_cases e : i = t
              · simp [e]; exact ⟨hc0, hc1⟩
              · simp [e]; exact h1 i
            · intro i hi8
              show (if i = t then c else o i) = 0
              rw [if_neg (by omega)]
              exact h2 i (by omega)
    · have hk2 : k = 8 := by omega
      subst hk2
      clear hlt
      have zf := Fw.f HW.1
      have zz := Fw.z HW.1
      have u0_ := Fw.c HW.2 0 (by decide)
      have z0_ := Fw.c HW.1 0 (by decide)
      have u1_ := Fw.c HW.2 1 (by decide)
      have z1_ := Fw.c HW.1 1 (by decide)
      have u2_ := Fw.c HW.2 2 (by decide)
      have z2_ := Fw.c HW.1 2 (by decide)
      have u3_ := Fw.c HW.2 3 (by decide)
      have z3_ := Fw.c HW.1 3 (by decide)
      have u4_ := Fw.c HW.2 4 (by decide)
      have z4_ := Fw.c HW.1 4 (by decide)
      have u5_ := Fw.c HW.2 5 (by decide)
      have z5_ := Fw.c HW.1 5 (by decide)
      have u6_ := Fw.c HW.2 6 (by decide)
      have z6_ := Fw.c HW.1 6 (by decide)
      have u7_ := Fw.c HW.2 7 (by decide)
      have z7_ := Fw.c HW.1 7 (by decide)
      have u8_ := Fw.c HW.2 8 (by decide)
      have z8_ := Fw.c HW.1 8 (by decide)
      have u9_ := Fw.c HW.2 9 (by decide)
      have z9_ := Fw.c HW.1 9 (by decide)
      have u10_ := Fw.c HW.2 10 (by decide)
      have z10_ := Fw.c HW.1 10 (by decide)
      have u11_ := Fw.c HW.2 11 (by decide)
      have z11_ := Fw.c HW.1 11 (by decide)
      have u12_ := Fw.c HW.2 12 (by decide)
      have z12_ := Fw.c HW.1 12 (by decide)
      have u13_ := Fw.c HW.2 13 (by decide)
      have z13_ := Fw.c HW.1 13 (by decide)
      have u14_ := Fw.c HW.2 14 (by decide)
      have z14_ := Fw.c HW.1 14 (by decide)
      have u15_ := Fw.c HW.2 15 (by decide)
      have z15_ := Fw.c HW.1 15 (by decide)
      go_wp2
      refine bodyPost_ret (v := .agg (fl 16 fun j => .int .u64 (o j)).toArray) (by simp [results, Try.results66, go_sem, *]; rfl) rfl ⟨o, rfl, fun j _ => hH.out.1 j, ?_, ?_⟩
      · show _ = _
        rw [hH.out.2.2, SX.out.1]
      · go_grown
end Go.Proofs.Ytgapcjdgakamoaa
