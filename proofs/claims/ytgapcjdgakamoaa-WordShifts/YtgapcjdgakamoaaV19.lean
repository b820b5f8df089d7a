/- What From does at this translation, the program's and the reference's: for all texts, whatever the memory. -/
import Derived.Test.YtgapcjdgakamoaaV18
import Derived.Test.YtgapcjdgakamoaaTail
namespace Go.Proofs.Ytgapcjdgakamoaa
open Go.RowKit Go.Shelf Go.Sort

/-- A text's byte at a place. -/
def bt (s : ByteArray) (i : Nat) : Int := ((s.data.getD i 0).toNat : Int)
theorem bt_get (s : ByteArray) (d : Nat) (h : d < s.size) : ((s[d]'h).toNat : Int) = bt s d := by
  have : s.data.getD d 0 = s[d]'h := by
    simp [Array.getD, h]
    rfl
  unfold bt
  rw [this]
theorem bt_bd (s : ByteArray) (d : Nat) : 0 ≤ bt s d ∧ bt s d < 256 := by
  unfold bt
  have := (s.data.getD d 0).toNat_lt
  omega
/-- The bytes of a text from its end on. -/
def be (s : ByteArray) (i : Nat) : Int := bt s (s.size - 1 - i)
/-- The number of bytes, the lowest first. -/
def sum8 (f : Nat → Int) : Nat → Int
  | 0 => 0
  | k + 1 => sum8 f k + f k * 2 ^ (8 * k)
theorem sum8_bd (f : Nat → Int) (hf : ∀ j, 0 ≤ f j ∧ f j < 256) : ∀ n, 0 ≤ sum8 f n ∧ sum8 f n < 2 ^ (8 * n)
  | 0 => by simp [sum8]
  | n + 1 => by
    have h1 := sum8_bd f hf n
    obtain ⟨h2, h3⟩ := hf n
    have hp : (0 : Int) < 2 ^ (8 * n) := Int.pow_pos (by decide)
    simp only [sum8]
    rw [show 8 * (n + 1) = 8 * n + 8 by omega, Int.pow_add, show ((2 : Int) ^ 8) = 256 from rfl]
    have h4 : f n * 2 ^ (8 * n) ≤ 255 * 2 ^ (8 * n) := Int.mul_le_mul_of_nonneg_right (by omega) (Int.le_of_lt hp)
    have h5 : 0 ≤ f n * 2 ^ (8 * n) := Int.mul_nonneg h2 (Int.le_of_lt hp)
    omega
theorem sum8_ext (f g : Nat → Int) : ∀ n, (∀ j, j < n → f j = g j) → sum8 f n = sum8 g n
  | 0, _ => rfl
  | n + 1, h => by
    simp only [sum8]
    rw [sum8_ext f g n (fun j hj => h j (by omega)), h n (by omega)]
theorem sum8_byte (x : Int) : ∀ n, sum8 (byteAt x) n = x % 2 ^ (8 * n)
  | 0 => by simp [sum8]
  | n + 1 => by
    simp only [sum8]
    rw [sum8_byte x n]
    unfold byteAt
    rw [show 8 * (n + 1) = 8 * n + 8 by omega, Int.pow_add, show ((2 : Int) ^ 8) = 256 from rfl]
    rw [emod_two x (2 ^ (8 * n)) 256 (Int.pow_pos (by decide)) (by decide)]

theorem shl_byte (y : Int) (e : Nat) (hy : 0 ≤ y ∧ y < 256) (he : e ≤ 56) : 0 ≤ y * 2 ^ e ∧ y * 2 ^ e < 18446744073709551616 := by
  have hp : (0 : Int) < 2 ^ e := Int.pow_pos (by decide)
  have h1 : y * 2 ^ e < 256 * 2 ^ e := Int.mul_lt_mul_of_pos_right hy.2 hp
  have h2 : (256 : Int) * 2 ^ e * 2 ^ (56 - e) = 18446744073709551616 := by
    rw [show (256 : Int) = 2 ^ 8 from rfl, ← Int.pow_add, ← Int.pow_add, show 8 + e + (56 - e) = 64 by omega]; rfl
  have h3 : (256 : Int) * 2 ^ e * 1 ≤ 256 * 2 ^ e * 2 ^ (56 - e) := Int.mul_le_mul_of_nonneg_left (by have : (0 : Int) < 2 ^ (56 - e) := Int.pow_pos (by decide); omega) (by omega)
  exact ⟨Int.mul_nonneg hy.1 (Int.le_of_lt hp), by omega⟩
theorem or_up (x y : Int) (e : Nat) (hx : 0 ≤ x ∧ x < 2 ^ e) (hy : 0 ≤ y ∧ y < 256) (he : e ≤ 56) : bits .or .u64 x (y * 2 ^ e) = x + y * 2 ^ e ∧ Pt (x + y * 2 ^ e) := by
  have hz := shl_byte y e hy he
  have hp : (0 : Int) < 2 ^ e := Int.pow_pos (by decide)
  have h4 : y * 2 ^ e ≤ 255 * 2 ^ e := Int.mul_le_mul_of_nonneg_right (by omega) (Int.le_of_lt hp)
  have h5 := shl_byte 255 e (by decide) he
  have h6 : (256 : Int) * 2 ^ e * 2 ^ (56 - e) = 18446744073709551616 := by
    rw [show (256 : Int) = 2 ^ 8 from rfl, ← Int.pow_add, ← Int.pow_add, show 8 + e + (56 - e) = 64 by omega]; rfl
  have h7 : (256 : Int) * 2 ^ e * 1 ≤ 256 * 2 ^ e * 2 ^ (56 - e) := Int.mul_le_mul_of_nonneg_left (by have : (0 : Int) < 2 ^ (56 - e) := Int.pow_pos (by decide); omega) (by omega)
  have hxb : x < 18446744073709551616 := by omega
  obtain ⟨X, rfl⟩ := Int.eq_ofNat_of_zero_le hx.1
  obtain ⟨Y, rfl⟩ := Int.eq_ofNat_of_zero_le hy.1
  have e1 : ((Y : Int) * 2 ^ e) = ((Y * 2 ^ e : Nat) : Int) := by rw [pw_cast, ← Int.natCast_mul]
  have hX : X < 2 ^ e := by have := hx.2; rw [pw_cast] at this; omega
  refine ⟨?_, ⟨by omega, by omega⟩⟩
  rw [e1] at hz ⊢
  rw [u64_or_nat _ _ (by omega) (by omega), Nat.or_comm, nat_join e _ _ (Nat.mul_mod_left _ _) hX]
  omega
theorem or_dn (x y : Int) (e : Nat) (hx : Pt x) (hd : x % 2 ^ (e + 8) = 0) (hy : 0 ≤ y ∧ y < 256) (he : e ≤ 56) : bits .or .u64 x (y * 2 ^ e) = x + y * 2 ^ e ∧ Pt (x + y * 2 ^ e) := by
  have hz := shl_byte y e hy he
  have hp : (0 : Int) < 2 ^ e := Int.pow_pos (by decide)
  have h4 : y * 2 ^ e < 256 * 2 ^ e := Int.mul_lt_mul_of_pos_right hy.2 hp
  have e8 : (2 : Int) ^ (e + 8) = 256 * 2 ^ e := by rw [Int.pow_add, Int.mul_comm]; rfl
  have h6 : (2 : Int) ^ (e + 8) * 2 ^ (56 - e) = 18446744073709551616 := by
    rw [← Int.pow_add, show e + 8 + (56 - e) = 64 by omega]; rfl
  have h7 : x + 2 ^ (e + 8) ≤ 18446744073709551616 := by
    have k1 := Int.mul_ediv_add_emod x (2 ^ (e + 8))
    rw [hd, Int.add_zero] at k1
    have hpp : (0 : Int) < 2 ^ (e + 8) := Int.pow_pos (by decide)
    have k2 : x / 2 ^ (e + 8) < 2 ^ (56 - e) := Int.ediv_lt_of_lt_mul hpp (by rw [Int.mul_comm, h6]; exact hx.2)
    have k3 : 2 ^ (e + 8) * (x / 2 ^ (e + 8)) ≤ 2 ^ (e + 8) * (2 ^ (56 - e) - 1) := Int.mul_le_mul_of_nonneg_left (by omega) (Int.le_of_lt hpp)
    rw [Int.mul_sub, h6, Int.mul_one] at k3
    omega
  obtain ⟨X, rfl⟩ := Int.eq_ofNat_of_zero_le hx.1
  obtain ⟨Y, rfl⟩ := Int.eq_ofNat_of_zero_le hy.1
  have e1 : ((Y : Int) * 2 ^ e) = ((Y * 2 ^ e : Nat) : Int) := by rw [pw_cast, ← Int.natCast_mul]
  have hx2 := hx.2
  have hd2 : X % 2 ^ (e + 8) = 0 := by rw [pw_cast] at hd; omega
  have hy2 : Y * 2 ^ e < 2 ^ (e + 8) := by
    rw [e8.symm, e1, pw_cast] at h4; omega
  refine ⟨?_, ⟨by omega, by omega⟩⟩
  rw [e1] at hz ⊢
  rw [u64_or_nat _ _ (by omega) (by omega), nat_join (e + 8) _ _ hd2 hy2]
  omega

theorem part_low (o0 o1 o2 o3 : Int) (hO : Ws o0 o1 o2 o3) (q e : Nat) (hq : q < 4) (h : val o0 o1 o2 o3 < 2 ^ (64 * q + e)) : nth o0 o1 o2 o3 q < 2 ^ e := by
  obtain ⟨⟨_, _⟩, ⟨_, _⟩, ⟨_, _⟩, ⟨_, _⟩⟩ := hO
  have hp : (0 : Int) < 2 ^ e := Int.pow_pos (by decide)
  rw [Int.pow_add] at h
  match q, hq with
  | 0, _ => rw [show ((2 : Int) ^ (64 * 0)) = 1 from rfl] at h; show o0 < _; unfold val at h; omega
  | 1, _ => rw [show ((2 : Int) ^ (64 * 1)) = 18446744073709551616 from rfl] at h; show o1 < _; unfold val at h; omega
  | 2, _ => rw [show ((2 : Int) ^ (64 * 2)) = 340282366920938463463374607431768211456 from rfl] at h; show o2 < _; unfold val at h; omega
  | 3, _ => rw [show ((2 : Int) ^ (64 * 3)) = 6277101735386680763835789423207666416102355444464034512896 from rfl] at h; show o3 < _; unfold val at h; omega
theorem part_div (o0 o1 o2 o3 : Int) (hO : Ws o0 o1 o2 o3) (q f : Nat) (hq : q < 4) (hf : f ≤ 64) (h : val o0 o1 o2 o3 % 2 ^ (64 * q + f) = 0) : nth o0 o1 o2 o3 q % 2 ^ f = 0 := by
  obtain ⟨⟨_, _⟩, ⟨_, _⟩, ⟨_, _⟩, ⟨_, _⟩⟩ := hO
  obtain ⟨t, ht⟩ := Int.dvd_of_emod_eq_zero h
  rw [Int.pow_add, Int.mul_assoc] at ht
  have e : (18446744073709551616 : Int) = 2 ^ f * 2 ^ (64 - f) := by rw [← Int.pow_add, show f + (64 - f) = 64 by omega]; rfl
  have key : ∀ x H : Int, x + 18446744073709551616 * H = 2 ^ f * t → x % 2 ^ f = 0 := by
    intro x H hx
    have : x = 2 ^ f * (t - 2 ^ (64 - f) * H) := by rw [Int.mul_sub, ← Int.mul_assoc, ← e]; omega
    rw [this]; exact Int.mul_emod_right _ _
  generalize 2 ^ f * t = T at *
  match q, hq with
  | 0, _ => exact key o0 (val o1 o2 o3 0) (by rw [show ((2 : Int) ^ (64 * 0)) = 1 from rfl] at ht; unfold val at ht ⊢; omega)
  | 1, _ => exact key o1 (val o2 o3 0 0) (by rw [show ((2 : Int) ^ (64 * 1)) = 18446744073709551616 from rfl] at ht; unfold val at ht ⊢; omega)
  | 2, _ => exact key o2 (val o3 0 0 0) (by rw [show ((2 : Int) ^ (64 * 2)) = 340282366920938463463374607431768211456 from rfl] at ht; unfold val at ht ⊢; omega)
  | 3, _ => exact key o3 0 (by rw [show ((2 : Int) ^ (64 * 3)) = 6277101735386680763835789423207666416102355444464034512896 from rfl] at ht; unfold val at ht; omega)

/-- A word with one part turned, as it lies in memory. -/
theorem put_part {n : Nat} {o0 o1 o2 o3 : Int} {W : World} (h : Rw n o0 o1 o2 o3 W) (hO : Ws o0 o1 o2 o3) (q : Nat) (hq : q < 4) (d : Int) (hd : Pt (nth o0 o1 o2 o3 q + d)) :
    ∃ t0 t1 t2 t3 : Int, Rw n t0 t1 t2 t3 (W.setCell ⟨n, q, none⟩ (.int .u64 (nth o0 o1 o2 o3 q + d))) ∧ Ws t0 t1 t2 t3 ∧ val t0 t1 t2 t3 = val o0 o1 o2 o3 + d * 2 ^ (64 * q) := by
  obtain ⟨h0, h1, h2, h3⟩ := hO
  match q, hq with
  | 0, _ => exact ⟨_, _, _, _, h.put0 _, ⟨hd, h1, h2, h3⟩, by rw [show ((2 : Int) ^ (64 * 0)) = 1 from rfl]; show val (o0 + d) o1 o2 o3 = _; unfold val; omega⟩
  | 1, _ => exact ⟨_, _, _, _, h.put1 _, ⟨h0, hd, h2, h3⟩, by rw [show ((2 : Int) ^ (64 * 1)) = 18446744073709551616 from rfl]; show val o0 (o1 + d) o2 o3 = _; unfold val; omega⟩
  | 2, _ => exact ⟨_, _, _, _, h.put2 _, ⟨h0, h1, hd, h3⟩, by rw [show ((2 : Int) ^ (64 * 2)) = 340282366920938463463374607431768211456 from rfl]; show val o0 o1 (o2 + d) o3 = _; unfold val; omega⟩
  | 3, _ => exact ⟨_, _, _, _, h.put3 _, ⟨h0, h1, h2, hd⟩, by rw [show ((2 : Int) ^ (64 * 3)) = 6277101735386680763835789423207666416102355444464034512896 from rfl]; show val o0 o1 o2 (o3 + d) = _; unfold val; omega⟩

/-- The last 32 bytes of a text, or all of them. -/
def last32 (s : ByteArray) : ByteArray := if s.size ≤ 32 then s else s.extract (s.size - 32) s.size
theorem last32_size (s : ByteArray) : (last32 s).size ≤ 32 := by
  unfold last32
  split
  · assumption
  · simp [ByteArray.size_extract]; omega

theorem sum8_dvd (f : Nat → Int) (n : Nat) : ∀ c, c ≤ n → (sum8 f n - sum8 f c) % 2 ^ (8 * c) = 0 := by
  intro c hc
  induction n with
  | zero => rw [show c = 0 by omega]; simp [sum8]
  | succ n ih =>
    by_cases e : c = n + 1
    · rw [e, Int.sub_self]; simp
    · have h1 := ih (by omega)
      simp only [sum8]
      obtain ⟨t, ht⟩ := Int.dvd_of_emod_eq_zero h1
      apply Int.emod_eq_zero_of_dvd
      refine ⟨t + f n * 2 ^ (8 * (n - c)), ?_⟩
      rw [Int.mul_add, ← ht, show 8 * n = 8 * c + 8 * (n - c) by omega, Int.pow_add, Int.mul_left_comm (2 ^ (8 * c)) (f n)]
      omega

set_option maxRecDepth 20000 in
set_option maxHeartbeats 2000000 in
theorem from_short (s t : ByteArray) (ht : t = s) (h32 : s.size ≤ 32) (w : World) :
    Calls Try.prog 48 #[.string s] w fun e w' => ∃ r0 r1 r2 r3 : Int, e = .returned (.agg #[.int .u64 r0, .int .u64 r1, .int .u64 r2, .int .u64 r3]) ∧ Ws r0 r1 r2 r3 ∧ Hid (val r0 r1 r2 r3 = sum8 (be t) t.size) ∧ Below w.heap.size w w' := by
  have ho : Pt 0 := ⟨by decide, by decide⟩
  subst ht
  have hmx : IntKind.i64.wrap ((t.size : Int) - 32) = (t.size : Int) - 32 := by rw [IntKind.wrap_i64]; omega
  go_enter Try.func48, Try.ntmps48
  go_wp2
  obtain ⟨m, hm⟩ : ∃ m, t.size = m := ⟨_, rfl⟩
  have hm32 : m ≤ 32 := by rw [← hm]; exact h32
  (try rw [hm])
  go_loopg [13] m (fun gk i wr => ∃ k : Nat, ∃ o0 o1 o2 o3 : Int, k + gk = m ∧ i = .int .i64 k ∧ Below w.heap.size w wr ∧ Rw w.heap.size 0 0 0 0 wr ∧ Rw (w.heap.size + 1) o0 o1 o2 o3 wr ∧ Ws o0 o1 o2 o3 ∧ Hid (val o0 o1 o2 o3 = sum8 (be t) k))
  case atStart =>
    refine ⟨0, 0, 0, 0, 0, by omega, rfl, by go_grown, ?_, ?_, ⟨ho, ho, ho, ho⟩, ?_⟩
    · exact ⟨⟨by (try simp) <;> omega, by simp [go_sem], by simp [go_sem], by simp [go_sem], by simp [go_sem]⟩, fun o => by simp [go_sem]⟩
    · exact ⟨⟨by simp, by simp [go_sem], by simp [go_sem], by simp [go_sem], by simp [go_sem]⟩, fun o => by simp [go_sem]⟩
    · show _ = _
      rfl
  case round =>
    obtain ⟨k, o0, o1, o2, o3, hk, rfl, EW, CZ, CO, hO, hH⟩ := hrel
    by_cases hlt : k < m
    · obtain ⟨q, hqk, hq4⟩ : ∃ q : Nat, k / 8 = q ∧ q < 4 := ⟨k / 8, rfl, by omega⟩
      obtain ⟨r, hrk, hr4⟩ : ∃ r : Nat, k % 8 = r ∧ r < 8 := ⟨k % 8, rfl, by omega⟩
      have hq : (k : Int).tdiv 8 = q := by rw [Int.tdiv_eq_ediv_of_nonneg (by omega)]; omega
      have hr : (k : Int).tmod 8 = r := by rw [Int.tmod_eq_emod_of_nonneg (by omega)]; omega
      obtain ⟨d, hd, hd32⟩ : ∃ d : Nat, d + 1 + k = m ∧ d < m := ⟨m - 1 - k, by omega, by omega⟩
      have hw1 : IntKind.i64.wrap ((m : Int) - 1) = (m : Int) - 1 := by rw [IntKind.wrap_i64]; omega
      have hw2 : IntKind.i64.wrap ((m : Int) - 1 - k) = d := by rw [IntKind.wrap_i64]; omega
      obtain ⟨e, he⟩ : ∃ e : Nat, 8 * r = e := ⟨_, rfl⟩
      have hme : IntKind.i64.wrap ((r : Int) * 8) = e := by rw [IntKind.wrap_i64]; omega
      have hwq : IntKind.i64.wrap (q : Int) = q := by rw [IntKind.wrap_i64]; omega
      have hwr : IntKind.i64.wrap (r : Int) = r := by rw [IntKind.wrap_i64]; omega
      have hwe : IntKind.i64.wrap (e : Int) = e := by rw [IntKind.wrap_i64]; omega
      have hwd : IntKind.i64.wrap (d : Int) = d := by rw [IntKind.wrap_i64]; omega
      have q4 : (q : Int) < 4 := by omega
      have q0 : (0 : Int) ≤ q := by omega
      have dm : (d : Int) < m := by omega
      have d0 : (0 : Int) ≤ d := by omega
      have e64 : (e : Int) < 64 := by omega
      have e0 : (0 : Int) ≤ e := by omega
      have hds : d < t.size := by omega
      have oc := CO.w.nth q hq4
      obtain ⟨y, hy⟩ : ∃ y, bt t d = y := ⟨_, rfl⟩
      have hyb := bt_bd t d
      rw [hy] at hyb
      have hu1 : IntKind.u64.wrap (((t[d]'hds).toNat : Nat) : Int) = y := by rw [bt_get, hy, IntKind.wrap_u64]; omega
      have hz := shl_byte y e hyb (by omega)
      have hu2 : IntKind.u64.wrap (y * 2 ^ e) = y * 2 ^ e := by rw [IntKind.wrap_u64]; omega
      have hvk : val o0 o1 o2 o3 < 2 ^ (64 * q + e) := by
        rw [hH.out, show 64 * q + e = 8 * k by omega]
        exact (sum8_bd (be t) (fun j => bt_bd t _) k).2
      have hor := or_up (nth o0 o1 o2 o3 q) y e ⟨(nth_pt o0 o1 o2 o3 hO q).1, part_low o0 o1 o2 o3 hO q e hq4 hvk⟩ hyb (by omega)
      obtain ⟨x, hx⟩ : ∃ x, nth o0 o1 o2 o3 q = x := ⟨_, rfl⟩
      rw [hx] at oc hor
      obtain ⟨hor1, hor2⟩ := hor
      have HY : Hid (bt t d = y) := hy
      have HE : Hid (e + 64 * q = 8 * k) := (show e + 64 * q = 8 * k by omega)
      clear hy hqk hrk
      go_wp2
      have kc := cell_regrown oc
      refine region_tail 18 (by kernel_rfl) (by kernel_rfl) ?_
      simp only [List.take_succ_cons, List.take_zero, List.drop_succ_cons, List.drop_zero]
      iterate 18 (quiet_step (fail))
      refine wpQuiet_nil ?_
      intro w8 hw8
      have hb8 : Below wr.heap.size wr w8 := by
        obtain ⟨p, rfl⟩ := hw8
        exact below_regrown _ _ _
      have CO8 := CO.below hb8
      have CZ8 := CZ.below hb8
      have E8 := belowStep EW EW.size hb8
      have oc8 := CO8.w.nth q hq4
      rw [hx] at oc8
      have uf := CO8.f
      have uz := CO8.w.z
      clear hw8 hb8 kc oc CO CZ EW
      obtain ⟨t0, t1, t2, t3, hv1, hv3, hv4⟩ := put_part CO8 hO q hq4 (y * 2 ^ e) (by rw [hx]; exact hor2)
      rw [hx] at hv1
      have HV : Hid (Rw _ _ _ _ _ _) := hv1
      clear hv1
      go_wp2
      go_roundg (gk - 1)
      case measure => omega
      case rel =>
        refine ⟨k + 1, t0, t1, t2, t3, by omega, rfl, by go_grown, CZ8.setCell _ (by dsimp only; omega) _, HV.out, hv3, ?_⟩
        show _ = _
        have hbe : be t k = y := by
          unfold be
          rw [show t.size - 1 - k = d by omega]; exact HY.out
        rw [hv4, hH.out, show sum8 (be t) (k + 1) = sum8 (be t) k + be t k * 2 ^ (8 * k) from rfl, hbe, Int.mul_assoc, ← Int.pow_add, HE.out]
    · have hkm : k = m := by omega
      subst hkm
      obtain ⟨⟨z, c0, c1, c2, c3⟩, cf⟩ := id CZ
      obtain ⟨⟨oz, p0, p1, p2, p3⟩, pf⟩ := id CO
      clear hlt
      go_wp2
      refine bodyPost_ret (v := .agg #[.int .u64 o0, .int .u64 o1, .int .u64 o2, .int .u64 o3]) (by simp [results, Try.results48, go_sem, *]) rfl ⟨o0, o1, o2, o3, rfl, hO, ?_, ?_⟩
      · show _ = _
        rw [hH.out, hm]
      · go_grown

set_option maxRecDepth 20000 in
set_option maxHeartbeats 2000000 in
theorem from_long (s t : ByteArray) (ht : s.extract (s.size - 32) s.size = t) (hlong : ¬ s.size ≤ 32) (hmax : s.size ≤ 9223372036854775807) (w : World) :
    Calls Try.prog 48 #[.string s] w fun e w' => ∃ r0 r1 r2 r3 : Int, e = .returned (.agg #[.int .u64 r0, .int .u64 r1, .int .u64 r2, .int .u64 r3]) ∧ Ws r0 r1 r2 r3 ∧ Hid (val r0 r1 r2 r3 = sum8 (be t) t.size) ∧ Below w.heap.size w w' := by
  have ho : Pt 0 := ⟨by decide, by decide⟩
  have hmx : IntKind.i64.wrap ((s.size : Int) - 32) = (s.size : Int) - 32 := by rw [IntKind.wrap_i64]; omega
  have hts : t.size = 32 := by rw [← ht]; simp [ByteArray.size_extract]; omega
  have hsz : s.size - (s.size - 32) = t.size := by omega
  have HT : Hid (_ = _) := hts
  clear hts
  go_enter Try.func48, Try.ntmps48
  go_wp2
  obtain ⟨m, hm⟩ : ∃ m, t.size = m := ⟨_, rfl⟩
  have hm32 : m ≤ 32 := by rw [← hm]; exact Nat.le_of_eq HT.out
  (try rw [ht])
  (try rw [hm])
  go_loopg [13] m (fun gk i wr => ∃ k : Nat, ∃ o0 o1 o2 o3 : Int, k + gk = m ∧ i = .int .i64 k ∧ Below w.heap.size w wr ∧ Rw w.heap.size 0 0 0 0 wr ∧ Rw (w.heap.size + 1) o0 o1 o2 o3 wr ∧ Ws o0 o1 o2 o3 ∧ Hid (val o0 o1 o2 o3 = sum8 (be t) k))
  case atStart =>
    refine ⟨0, 0, 0, 0, 0, by omega, rfl, by go_grown, ?_, ?_, ⟨ho, ho, ho, ho⟩, ?_⟩
    · exact ⟨⟨by (try simp) <;> omega, by simp [go_sem], by simp [go_sem], by simp [go_sem], by simp [go_sem]⟩, fun o => by simp [go_sem]⟩
    · exact ⟨⟨by simp, by simp [go_sem], by simp [go_sem], by simp [go_sem], by simp [go_sem]⟩, fun o => by simp [go_sem]⟩
    · show _ = _
      rfl
  case round =>
    obtain ⟨k, o0, o1, o2, o3, hk, rfl, EW, CZ, CO, hO, hH⟩ := hrel
    by_cases hlt : k < m
    · obtain ⟨q, hqk, hq4⟩ : ∃ q : Nat, k / 8 = q ∧ q < 4 := ⟨k / 8, rfl, by omega⟩
      obtain ⟨r, hrk, hr4⟩ : ∃ r : Nat, k % 8 = r ∧ r < 8 := ⟨k % 8, rfl, by omega⟩
      have hq : (k : Int).tdiv 8 = q := by rw [Int.tdiv_eq_ediv_of_nonneg (by omega)]; omega
      have hr : (k : Int).tmod 8 = r := by rw [Int.tmod_eq_emod_of_nonneg (by omega)]; omega
      obtain ⟨d, hd, hd32⟩ : ∃ d : Nat, d + 1 + k = m ∧ d < m := ⟨m - 1 - k, by omega, by omega⟩
      have hw1 : IntKind.i64.wrap ((m : Int) - 1) = (m : Int) - 1 := by rw [IntKind.wrap_i64]; omega
      have hw2 : IntKind.i64.wrap ((m : Int) - 1 - k) = d := by rw [IntKind.wrap_i64]; omega
      obtain ⟨e, he⟩ : ∃ e : Nat, 8 * r = e := ⟨_, rfl⟩
      have hme : IntKind.i64.wrap ((r : Int) * 8) = e := by rw [IntKind.wrap_i64]; omega
      have hwq : IntKind.i64.wrap (q : Int) = q := by rw [IntKind.wrap_i64]; omega
      have hwr : IntKind.i64.wrap (r : Int) = r := by rw [IntKind.wrap_i64]; omega
      have hwe : IntKind.i64.wrap (e : Int) = e := by rw [IntKind.wrap_i64]; omega
      have hwd : IntKind.i64.wrap (d : Int) = d := by rw [IntKind.wrap_i64]; omega
      have q4 : (q : Int) < 4 := by omega
      have q0 : (0 : Int) ≤ q := by omega
      have dm : (d : Int) < m := by omega
      have d0 : (0 : Int) ≤ d := by omega
      have e64 : (e : Int) < 64 := by omega
      have e0 : (0 : Int) ≤ e := by omega
      have hds : d < t.size := by omega
      have oc := CO.w.nth q hq4
      obtain ⟨y, hy⟩ : ∃ y, bt t d = y := ⟨_, rfl⟩
      have hyb := bt_bd t d
      rw [hy] at hyb
      have hu1 : IntKind.u64.wrap (((t[d]'hds).toNat : Nat) : Int) = y := by rw [bt_get, hy, IntKind.wrap_u64]; omega
      have hz := shl_byte y e hyb (by omega)
      have hu2 : IntKind.u64.wrap (y * 2 ^ e) = y * 2 ^ e := by rw [IntKind.wrap_u64]; omega
      have hvk : val o0 o1 o2 o3 < 2 ^ (64 * q + e) := by
        rw [hH.out, show 64 * q + e = 8 * k by omega]
        exact (sum8_bd (be t) (fun j => bt_bd t _) k).2
      have hor := or_up (nth o0 o1 o2 o3 q) y e ⟨(nth_pt o0 o1 o2 o3 hO q).1, part_low o0 o1 o2 o3 hO q e hq4 hvk⟩ hyb (by omega)
      obtain ⟨x, hx⟩ : ∃ x, nth o0 o1 o2 o3 q = x := ⟨_, rfl⟩
      rw [hx] at oc hor
      obtain ⟨hor1, hor2⟩ := hor
      have HY : Hid (bt t d = y) := hy
      have HE : Hid (e + 64 * q = 8 * k) := (show e + 64 * q = 8 * k by omega)
      clear hy hqk hrk
      go_wp2
      have kc := cell_regrown oc
      refine region_tail 18 (by kernel_rfl) (by kernel_rfl) ?_
      simp only [List.take_succ_cons, List.take_zero, List.drop_succ_cons, List.drop_zero]
      iterate 18 (quiet_step (fail))
      refine wpQuiet_nil ?_
      intro w8 hw8
      have hb8 : Below wr.heap.size wr w8 := by
        obtain ⟨p, rfl⟩ := hw8
        exact below_regrown _ _ _
      have CO8 := CO.below hb8
      have CZ8 := CZ.below hb8
      have E8 := belowStep EW EW.size hb8
      have oc8 := CO8.w.nth q hq4
      rw [hx] at oc8
      have uf := CO8.f
      have uz := CO8.w.z
      clear hw8 hb8 kc oc CO CZ EW
      obtain ⟨t0, t1, t2, t3, hv1, hv3, hv4⟩ := put_part CO8 hO q hq4 (y * 2 ^ e) (by rw [hx]; exact hor2)
      rw [hx] at hv1
      have HV : Hid (Rw _ _ _ _ _ _) := hv1
      clear hv1
      go_wp2
      go_roundg (gk - 1)
      case measure => omega
      case rel =>
        refine ⟨k + 1, t0, t1, t2, t3, by omega, rfl, by go_grown, CZ8.setCell _ (by dsimp only; omega) _, HV.out, hv3, ?_⟩
        show _ = _
        have hbe : be t k = y := by
          unfold be
          rw [show t.size - 1 - k = d by omega]; exact HY.out
        rw [hv4, hH.out, show sum8 (be t) (k + 1) = sum8 (be t) k + be t k * 2 ^ (8 * k) from rfl, hbe, Int.mul_assoc, ← Int.pow_add, HE.out]
    · have hkm : k = m := by omega
      subst hkm
      obtain ⟨⟨z, c0, c1, c2, c3⟩, cf⟩ := id CZ
      obtain ⟨⟨oz, p0, p1, p2, p3⟩, pf⟩ := id CO
      clear hlt
      go_wp2
      refine bodyPost_ret (v := .agg #[.int .u64 o0, .int .u64 o1, .int .u64 o2, .int .u64 o3]) (by simp [results, Try.results48, go_sem, *]) rfl ⟨o0, o1, o2, o3, rfl, hO, ?_, ?_⟩
      · show _ = _
        rw [hH.out, hm]
      · go_grown


theorem from_any (s : ByteArray) (hmax : s.size ≤ 9223372036854775807) (w : World) :
    Calls Try.prog 48 #[.string s] w fun e w' => ∃ r0 r1 r2 r3 : Int, e = .returned (.agg #[.int .u64 r0, .int .u64 r1, .int .u64 r2, .int .u64 r3]) ∧ Ws r0 r1 r2 r3 ∧ Hid (val r0 r1 r2 r3 = sum8 (be (last32 s)) (last32 s).size) ∧ Below w.heap.size w w' := by
  by_cases h : s.size ≤ 32
  · exact from_short s (last32 s) (by unfold last32; rw [if_pos h]) h w
  · exact from_long s (last32 s) (by unfold last32; rw [if_neg h]) h hmax w

set_option maxRecDepth 20000 in
set_option maxHeartbeats 2000000 in
theorem rfrom_short (s t : ByteArray) (ht : t = s) (h32 : s.size ≤ 32) (w : World) :
    Calls Try.prog 49 #[.string s] w fun e w' => ∃ r0 r1 r2 r3 : Int, e = .returned (.agg #[.int .u64 r0, .int .u64 r1, .int .u64 r2, .int .u64 r3]) ∧ Ws r0 r1 r2 r3 ∧ Hid (val r0 r1 r2 r3 = sum8 (be t) t.size) ∧ Below w.heap.size w w' := by
  have ho : Pt 0 := ⟨by decide, by decide⟩
  subst ht
  have hmx : IntKind.i64.wrap ((t.size : Int) - 32) = (t.size : Int) - 32 := by rw [IntKind.wrap_i64]; omega
  go_enter Try.func49, Try.ntmps49
  go_wp2
  obtain ⟨m, hm⟩ : ∃ m, t.size = m := ⟨_, rfl⟩
  have hm32 : m ≤ 32 := by rw [← hm]; exact h32
  (try rw [hm])
  go_loopg [4] m (fun gk i wr => ∃ k : Nat, ∃ o0 o1 o2 o3 : Int, k + gk = m ∧ i = .int .i64 k ∧ Below w.heap.size w wr ∧ Rw w.heap.size 0 0 0 0 wr ∧ Rw (w.heap.size + 1) o0 o1 o2 o3 wr ∧ Ws o0 o1 o2 o3 ∧ Hid (val o0 o1 o2 o3 = sum8 (be t) m - sum8 (be t) (m - k)))
  case atStart =>
    refine ⟨0, 0, 0, 0, 0, by omega, rfl, by go_grown, ?_, ?_, ⟨ho, ho, ho, ho⟩, ?_⟩
    · exact ⟨⟨by (try simp) <;> omega, by simp [go_sem], by simp [go_sem], by simp [go_sem], by simp [go_sem]⟩, fun o => by simp [go_sem]⟩
    · exact ⟨⟨by simp, by simp [go_sem], by simp [go_sem], by simp [go_sem], by simp [go_sem]⟩, fun o => by simp [go_sem]⟩
    · show _ = _
      rw [Nat.sub_zero, Int.sub_self]; rfl
  case round =>
    obtain ⟨k, o0, o1, o2, o3, hk, rfl, EW, CZ, CO, hO, hH⟩ := hrel
    by_cases hlt : k < m
    · obtain ⟨c, hc⟩ : ∃ c : Nat, c + 1 + k = m := ⟨m - 1 - k, by omega⟩
      obtain ⟨q, hqk, hq4⟩ : ∃ q : Nat, c / 8 = q ∧ q < 4 := ⟨c / 8, rfl, by omega⟩
      obtain ⟨r, hrk, hr4⟩ : ∃ r : Nat, c % 8 = r ∧ r < 8 := ⟨c % 8, rfl, by omega⟩
      have hq : (c : Int).tdiv 8 = q := by rw [Int.tdiv_eq_ediv_of_nonneg (by omega)]; omega
      have hr : (c : Int).tmod 8 = r := by rw [Int.tmod_eq_emod_of_nonneg (by omega)]; omega
      have hw1 : IntKind.i64.wrap ((m : Int) - 1) = (m : Int) - 1 := by rw [IntKind.wrap_i64]; omega
      have hw2 : IntKind.i64.wrap ((m : Int) - 1 - k) = c := by rw [IntKind.wrap_i64]; omega
      obtain ⟨e, he⟩ : ∃ e : Nat, 8 * r = e := ⟨_, rfl⟩
      have hme : IntKind.i64.wrap (8 * (r : Int)) = e := by rw [IntKind.wrap_i64]; omega
      have hwq : IntKind.i64.wrap (q : Int) = q := by rw [IntKind.wrap_i64]; omega
      have hwr : IntKind.i64.wrap (r : Int) = r := by rw [IntKind.wrap_i64]; omega
      have hwe : IntKind.i64.wrap (e : Int) = e := by rw [IntKind.wrap_i64]; omega
      have hwd : IntKind.i64.wrap (k : Int) = k := by rw [IntKind.wrap_i64]; omega
      have q4 : (q : Int) < 4 := by omega
      have q0 : (0 : Int) ≤ q := by omega
      have dm : (k : Int) < m := by omega
      have d0 : (0 : Int) ≤ k := by omega
      have e64 : (e : Int) < 64 := by omega
      have e0 : (0 : Int) ≤ e := by omega
      have hds : k < t.size := by omega
      have oc := CO.w.nth q hq4
      obtain ⟨y, hy⟩ : ∃ y, bt t k = y := ⟨_, rfl⟩
      have hyb := bt_bd t k
      rw [hy] at hyb
      have hu1 : IntKind.u64.wrap (((t[k]'hds).toNat : Nat) : Int) = y := by rw [bt_get, hy, IntKind.wrap_u64]; omega
      have hz := shl_byte y e hyb (by omega)
      have hu2 : IntKind.u64.wrap (y * 2 ^ e) = y * 2 ^ e := by rw [IntKind.wrap_u64]; omega
      have hdv : val o0 o1 o2 o3 % 2 ^ (64 * q + (e + 8)) = 0 := by
        rw [hH.out, show 64 * q + (e + 8) = 8 * (m - k) by omega]
        exact sum8_dvd (be t) m (m - k) (by omega)
      have hor := or_dn (nth o0 o1 o2 o3 q) y e (nth_pt o0 o1 o2 o3 hO q) (part_div o0 o1 o2 o3 hO q (e + 8) hq4 (by omega) hdv) hyb (by omega)
      obtain ⟨x, hx⟩ : ∃ x, nth o0 o1 o2 o3 q = x := ⟨_, rfl⟩
      rw [hx] at oc hor
      obtain ⟨hor1, hor2⟩ := hor
      have HY : Hid (bt t k = y) := hy
      have HE : Hid (e + 64 * q = 8 * c) := (show e + 64 * q = 8 * c by omega)
      clear hy hqk hrk
      go_wp2
      have kc := cell_regrown oc
      refine region_tail 16 (by kernel_rfl) (by kernel_rfl) ?_
      simp only [List.take_succ_cons, List.take_zero, List.drop_succ_cons, List.drop_zero]
      iterate 16 (quiet_step (fail))
      refine wpQuiet_nil ?_
      intro w8 hw8
      have hb8 : Below wr.heap.size wr w8 := by
        obtain ⟨p, rfl⟩ := hw8
        exact below_regrown _ _ _
      have CO8 := CO.below hb8
      have CZ8 := CZ.below hb8
      have E8 := belowStep EW EW.size hb8
      have oc8 := CO8.w.nth q hq4
      rw [hx] at oc8
      have uf := CO8.f
      have uz := CO8.w.z
      clear hw8 hb8 kc oc CO CZ EW
      obtain ⟨t0, t1, t2, t3, hv1, hv3, hv4⟩ := put_part CO8 hO q hq4 (y * 2 ^ e) (by rw [hx]; exact hor2)
      rw [hx] at hv1
      have HV : Hid (Rw _ _ _ _ _ _) := hv1
      clear hv1
      go_wp2
      go_roundg (gk - 1)
      case measure => omega
      case rel =>
        refine ⟨k + 1, t0, t1, t2, t3, by omega, rfl, by go_grown, CZ8.setCell _ (by dsimp only; omega) _, HV.out, hv3, ?_⟩
        show _ = _
        have hbe : be t c = y := by
          unfold be
          rw [show t.size - 1 - c = k by omega]; exact HY.out
        rw [hv4, hH.out, show m - k = c + 1 by omega, show m - (k + 1) = c by omega, show sum8 (be t) (c + 1) = sum8 (be t) c + be t c * 2 ^ (8 * c) from rfl, hbe, Int.mul_assoc, ← Int.pow_add, HE.out]
        omega
    · have hkm : k = m := by omega
      subst hkm
      obtain ⟨⟨z, c0, c1, c2, c3⟩, cf⟩ := id CZ
      obtain ⟨⟨oz, p0, p1, p2, p3⟩, pf⟩ := id CO
      clear hlt
      go_wp2
      refine bodyPost_ret (v := .agg #[.int .u64 o0, .int .u64 o1, .int .u64 o2, .int .u64 o3]) (by simp [results, Try.results49, go_sem, *]) rfl ⟨o0, o1, o2, o3, rfl, hO, ?_, ?_⟩
      · show _ = _
        rw [hH.out, hm]
        rw [Nat.sub_self]; simp only [sum8]; omega
      · go_grown

set_option maxRecDepth 20000 in
set_option maxHeartbeats 2000000 in
theorem rfrom_long (s t : ByteArray) (ht : s.extract (s.size - 32) s.size = t) (hlong : ¬ s.size ≤ 32) (hmax : s.size ≤ 9223372036854775807) (w : World) :
    Calls Try.prog 49 #[.string s] w fun e w' => ∃ r0 r1 r2 r3 : Int, e = .returned (.agg #[.int .u64 r0, .int .u64 r1, .int .u64 r2, .int .u64 r3]) ∧ Ws r0 r1 r2 r3 ∧ Hid (val r0 r1 r2 r3 = sum8 (be t) t.size) ∧ Below w.heap.size w w' := by
  have ho : Pt 0 := ⟨by decide, by decide⟩
  have hmx : IntKind.i64.wrap ((s.size : Int) - 32) = (s.size : Int) - 32 := by rw [IntKind.wrap_i64]; omega
  have hts : t.size = 32 := by rw [← ht]; simp [ByteArray.size_extract]; omega
  have hsz : s.size - (s.size - 32) = t.size := by omega
  have HT : Hid (_ = _) := hts
  clear hts
  go_enter Try.func49, Try.ntmps49
  go_wp2
  obtain ⟨m, hm⟩ : ∃ m, t.size = m := ⟨_, rfl⟩
  have hm32 : m ≤ 32 := by rw [← hm]; exact Nat.le_of_eq HT.out
  (try rw [ht])
  (try rw [hm])
  go_loopg [4] m (fun gk i wr => ∃ k : Nat, ∃ o0 o1 o2 o3 : Int, k + gk = m ∧ i = .int .i64 k ∧ Below w.heap.size w wr ∧ Rw w.heap.size 0 0 0 0 wr ∧ Rw (w.heap.size + 1) o0 o1 o2 o3 wr ∧ Ws o0 o1 o2 o3 ∧ Hid (val o0 o1 o2 o3 = sum8 (be t) m - sum8 (be t) (m - k)))
  case atStart =>
    refine ⟨0, 0, 0, 0, 0, by omega, rfl, by go_grown, ?_, ?_, ⟨ho, ho, ho, ho⟩, ?_⟩
    · exact ⟨⟨by (try simp) <;> omega, by simp [go_sem], by simp [go_sem], by simp [go_sem], by simp [go_sem]⟩, fun o => by simp [go_sem]⟩
    · exact ⟨⟨by simp, by simp [go_sem], by simp [go_sem], by simp [go_sem], by simp [go_sem]⟩, fun o => by simp [go_sem]⟩
    · show _ = _
      rw [Nat.sub_zero, Int.sub_self]; rfl
  case round =>
    obtain ⟨k, o0, o1, o2, o3, hk, rfl, EW, CZ, CO, hO, hH⟩ := hrel
    by_cases hlt : k < m
    · obtain ⟨c, hc⟩ : ∃ c : Nat, c + 1 + k = m := ⟨m - 1 - k, by omega⟩
      obtain ⟨q, hqk, hq4⟩ : ∃ q : Nat, c / 8 = q ∧ q < 4 := ⟨c / 8, rfl, by omega⟩
      obtain ⟨r, hrk, hr4⟩ : ∃ r : Nat, c % 8 = r ∧ r < 8 := ⟨c % 8, rfl, by omega⟩
      have hq : (c : Int).tdiv 8 = q := by rw [Int.tdiv_eq_ediv_of_nonneg (by omega)]; omega
      have hr : (c : Int).tmod 8 = r := by rw [Int.tmod_eq_emod_of_nonneg (by omega)]; omega
      have hw1 : IntKind.i64.wrap ((m : Int) - 1) = (m : Int) - 1 := by rw [IntKind.wrap_i64]; omega
      have hw2 : IntKind.i64.wrap ((m : Int) - 1 - k) = c := by rw [IntKind.wrap_i64]; omega
      obtain ⟨e, he⟩ : ∃ e : Nat, 8 * r = e := ⟨_, rfl⟩
      have hme : IntKind.i64.wrap (8 * (r : Int)) = e := by rw [IntKind.wrap_i64]; omega
      have hwq : IntKind.i64.wrap (q : Int) = q := by rw [IntKind.wrap_i64]; omega
      have hwr : IntKind.i64.wrap (r : Int) = r := by rw [IntKind.wrap_i64]; omega
      have hwe : IntKind.i64.wrap (e : Int) = e := by rw [IntKind.wrap_i64]; omega
      have hwd : IntKind.i64.wrap (k : Int) = k := by rw [IntKind.wrap_i64]; omega
      have q4 : (q : Int) < 4 := by omega
      have q0 : (0 : Int) ≤ q := by omega
      have dm : (k : Int) < m := by omega
      have d0 : (0 : Int) ≤ k := by omega
      have e64 : (e : Int) < 64 := by omega
      have e0 : (0 : Int) ≤ e := by omega
      have hds : k < t.size := by omega
      have oc := CO.w.nth q hq4
      obtain ⟨y, hy⟩ : ∃ y, bt t k = y := ⟨_, rfl⟩
      have hyb := bt_bd t k
      rw [hy] at hyb
      have hu1 : IntKind.u64.wrap (((t[k]'hds).toNat : Nat) : Int) = y := by rw [bt_get, hy, IntKind.wrap_u64]; omega
      have hz := shl_byte y e hyb (by omega)
      have hu2 : IntKind.u64.wrap (y * 2 ^ e) = y * 2 ^ e := by rw [IntKind.wrap_u64]; omega
      have hdv : val o0 o1 o2 o3 % 2 ^ (64 * q + (e + 8)) = 0 := by
        rw [hH.out, show 64 * q + (e + 8) = 8 * (m - k) by omega]
        exact sum8_dvd (be t) m (m - k) (by omega)
      have hor := or_dn (nth o0 o1 o2 o3 q) y e (nth_pt o0 o1 o2 o3 hO q) (part_div o0 o1 o2 o3 hO q (e + 8) hq4 (by omega) hdv) hyb (by omega)
      obtain ⟨x, hx⟩ : ∃ x, nth o0 o1 o2 o3 q = x := ⟨_, rfl⟩
      rw [hx] at oc hor
      obtain ⟨hor1, hor2⟩ := hor
      have HY : Hid (bt t k = y) := hy
      have HE : Hid (e + 64 * q = 8 * c) := (show e + 64 * q = 8 * c by omega)
      clear hy hqk hrk
      go_wp2
      have kc := cell_regrown oc
      refine region_tail 16 (by kernel_rfl) (by kernel_rfl) ?_
      simp only [List.take_succ_cons, List.take_zero, List.drop_succ_cons, List.drop_zero]
      iterate 16 (quiet_step (fail))
      refine wpQuiet_nil ?_
      intro w8 hw8
      have hb8 : Below wr.heap.size wr w8 := by
        obtain ⟨p, rfl⟩ := hw8
        exact below_regrown _ _ _
      have CO8 := CO.below hb8
      have CZ8 := CZ.below hb8
      have E8 := belowStep EW EW.size hb8
      have oc8 := CO8.w.nth q hq4
      rw [hx] at oc8
      have uf := CO8.f
      have uz := CO8.w.z
      clear hw8 hb8 kc oc CO CZ EW
      obtain ⟨t0, t1, t2, t3, hv1, hv3, hv4⟩ := put_part CO8 hO q hq4 (y * 2 ^ e) (by rw [hx]; exact hor2)
      rw [hx] at hv1
      have HV : Hid (Rw _ _ _ _ _ _) := hv1
      clear hv1
      go_wp2
      go_roundg (gk - 1)
      case measure => omega
      case rel =>
        refine ⟨k + 1, t0, t1, t2, t3, by omega, rfl, by go_grown, CZ8.setCell _ (by dsimp only; omega) _, HV.out, hv3, ?_⟩
        show _ = _
        have hbe : be t c = y := by
          unfold be
          rw [show t.size - 1 - c = k by omega]; exact HY.out
        rw [hv4, hH.out, show m - k = c + 1 by omega, show m - (k + 1) = c by omega, show sum8 (be t) (c + 1) = sum8 (be t) c + be t c * 2 ^ (8 * c) from rfl, hbe, Int.mul_assoc, ← Int.pow_add, HE.out]
        omega
    · have hkm : k = m := by omega
      subst hkm
      obtain ⟨⟨z, c0, c1, c2, c3⟩, cf⟩ := id CZ
      obtain ⟨⟨oz, p0, p1, p2, p3⟩, pf⟩ := id CO
      clear hlt
      go_wp2
      refine bodyPost_ret (v := .agg #[.int .u64 o0, .int .u64 o1, .int .u64 o2, .int .u64 o3]) (by simp [results, Try.results49, go_sem, *]) rfl ⟨o0, o1, o2, o3, rfl, hO, ?_, ?_⟩
      · show _ = _
        rw [hH.out, hm]
        rw [Nat.sub_self]; simp only [sum8]; omega
      · go_grown


theorem rfrom_any (s : ByteArray) (hmax : s.size ≤ 9223372036854775807) (w : World) :
    Calls Try.prog 49 #[.string s] w fun e w' => ∃ r0 r1 r2 r3 : Int, e = .returned (.agg #[.int .u64 r0, .int .u64 r1, .int .u64 r2, .int .u64 r3]) ∧ Ws r0 r1 r2 r3 ∧ Hid (val r0 r1 r2 r3 = sum8 (be (last32 s)) (last32 s).size) ∧ Below w.heap.size w w' := by
  by_cases h : s.size ≤ 32
  · exact rfrom_short s (last32 s) (by unfold last32; rw [if_pos h]) h w
  · exact rfrom_long s (last32 s) (by unfold last32; rw [if_neg h]) h hmax w
end Go.Proofs.Ytgapcjdgakamoaa
