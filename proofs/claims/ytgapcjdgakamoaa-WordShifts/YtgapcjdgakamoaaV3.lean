/- What the reference's Bits does at this translation: for all words, whatever the memory. -/
import Derived.Test.YtgapcjdgakamoaaV1
import Derived.Test.YtgapcjdgakamoaaArr
namespace Go.Proofs.Ytgapcjdgakamoaa
open Go.RowKit Go.Shelf Go.Sort

/-- The bit of a number at a place. -/
def bitAt (x : Int) (j : Nat) : Bool := decide (x / 2 ^ j % 2 = 1)
/-- 256 bits, told by a function. -/
abbrev row (f : Nat → Bool) : List Value := fl 256 fun j => Value.bool (f j)
theorem row_len (f : Nat → Bool) : (row f).length = 256 := fl_len _ _
theorem row_ext (f g : Nat → Bool) (e : ∀ j, j < 256 → f j = g j) : row f = row g := fl_ext _ _ _ fun j hj => by rw [e j hj]
theorem row_one (f : Nat → Bool) : (row f).toArray.all (·.oneCell') = true := all_oneCell_toArray fun v hv => by
  unfold row fl at hv
  obtain ⟨j, _, rfl⟩ := List.mem_map.1 hv
  rfl

theorem zero_bits : (∀ w, (zeroValue 43).run Try.prog w = .ok (.agg (row fun _ => false).toArray) w) ∧ (Try.prog.info? 43).map (·.size) = some 256 :=
  zero_of_info (by kernel_rfl)

/-- The part of a word at a place. -/
def nth (a0 a1 a2 a3 : Int) (q : Nat) : Int := match q with | 0 => a0 | 1 => a1 | 2 => a2 | _ => a3
theorem nth_pt (a0 a1 a2 a3 : Int) (ha : Ws a0 a1 a2 a3) (q : Nat) : Pt (nth a0 a1 a2 a3 q) := by
  unfold nth
  split
  · exact ha.1
  · exact ha.2.1
  · exact ha.2.2.1
  · exact ha.2.2.2
theorem Cw.nth {n : Nat} {a0 a1 a2 a3 : Int} {W : World} (h : Cw n a0 a1 a2 a3 W) (q : Nat) (hq : q < 4) : W.cell? ⟨n, q, none⟩ = some (.int .u64 (nth a0 a1 a2 a3 q)) := by
  match q, hq with
  | 0, _ => exact h.c0
  | 1, _ => exact h.c1
  | 2, _ => exact h.c2
  | 3, _ => exact h.c3
theorem pw_big (r : Nat) (hr : r < 64) : ∃ e : Int, (18446744073709551616 : Int) = 2 ^ r * (2 * e) := by
  refine ⟨2 ^ (63 - r), ?_⟩
  rw [show (2 : Int) * 2 ^ (63 - r) = 2 ^ (64 - r) by rw [show 64 - r = 63 - r + 1 by omega, Int.pow_succ, Int.mul_comm], ← Int.pow_add, show r + (64 - r) = 64 by omega]
  rfl
theorem bit_low (x y : Int) (r : Nat) (hr : r < 64) : (x + 18446744073709551616 * y) / 2 ^ r % 2 = x / 2 ^ r % 2 := by
  obtain ⟨e, he⟩ := pw_big r hr
  have hp : (2 : Int) ^ r ≠ 0 := Int.ne_of_gt (Int.pow_pos (by decide))
  rw [he, Int.mul_assoc, Int.add_mul_ediv_left _ _ hp, Int.mul_assoc, Int.add_mul_emod_self_left]
theorem bit_part (a0 a1 a2 a3 : Int) (ha : Ws a0 a1 a2 a3) (k : Nat) (hk : k < 256) : val a0 a1 a2 a3 / 2 ^ k % 2 = nth a0 a1 a2 a3 (k / 64) / 2 ^ (k % 64) % 2 := by
  obtain ⟨⟨_, _⟩, ⟨_, _⟩, ⟨_, _⟩, ⟨_, _⟩⟩ := ha
  have hr : k % 64 < 64 := Nat.mod_lt _ (by decide)
  generalize hrr : k % 64 = r at *
  have hq : k / 64 = 0 ∨ k / 64 = 1 ∨ k / 64 = 2 ∨ k / 64 = 3 := by omega
  rcases hq with h | h | h | h <;> rw [h]
  · have e : k = r := by omega
    rw [e, show val a0 a1 a2 a3 = a0 + 18446744073709551616 * (val a1 a2 a3 0) by unfold val; omega]
    exact bit_low _ _ _ hr
  · have e : k = 64 + r := by omega
    rw [e, Int.pow_add, ← Int.ediv_ediv_of_nonneg (by decide), show val a0 a1 a2 a3 / 2 ^ 64 = a1 + 18446744073709551616 * (val a2 a3 0 0) by rw [show ((2 : Int) ^ 64) = 18446744073709551616 from rfl]; unfold val; omega]
    exact bit_low _ _ _ hr
  · have e : k = 128 + r := by omega
    rw [e, Int.pow_add, ← Int.ediv_ediv_of_nonneg (by decide), show val a0 a1 a2 a3 / 2 ^ 128 = a2 + 18446744073709551616 * (val a3 0 0 0) by rw [show ((2 : Int) ^ 128) = 340282366920938463463374607431768211456 from rfl]; unfold val; omega]
    exact bit_low _ _ _ hr
  · have e : k = 192 + r := by omega
    rw [e, Int.pow_add, ← Int.ediv_ediv_of_nonneg (by decide), show val a0 a1 a2 a3 / 2 ^ 192 = a3 + 18446744073709551616 * 0 by rw [show ((2 : Int) ^ 192) = 6277101735386680763835789423207666416102355444464034512896 from rfl]; unfold val; omega]
    exact bit_low _ _ _ hr

theorem and_bit (x : Int) (h : Pt x) : bits .and .u64 x 1 = x % 2 := by
  obtain ⟨h0, h1⟩ := h
  obtain ⟨k, rfl⟩ := Int.eq_ofNat_of_zero_le h0
  have e : (BitVec.ofInt 64 (k : Int) &&& BitVec.ofInt 64 1).toNat = k % 2 := by
    rw [BitVec.toNat_and]
    have a1 : (BitVec.ofInt 64 (k : Int)).toNat = k := by
      rw [BitVec.toNat_ofInt]; omega
    have a2 : (BitVec.ofInt 64 1).toNat = 1 := by decide
    rw [a1, a2, Nat.and_one_is_mod]
  show IntKind.u64.wrap ((BitVec.ofInt 64 (k : Int) &&& BitVec.ofInt 64 1).toNat : Int) = _
  rw [e, IntKind.wrap_u64]
  omega

theorem bit_eq (a0 a1 a2 a3 : Int) (ha : Ws a0 a1 a2 a3) (k : Nat) (hk : k < 256) : (bits .and .u64 (nth a0 a1 a2 a3 (k / 64) / 2 ^ (k % 64)) 1 == 1) = bitAt (val a0 a1 a2 a3) k := by
  have hp := nth_pt a0 a1 a2 a3 ha (k / 64)
  have hpos : (0 : Int) < 2 ^ (k % 64) := Int.pow_pos (by decide)
  rw [and_bit _ ⟨Int.ediv_nonneg hp.1 (Int.le_of_lt hpos), Int.lt_of_le_of_lt (Int.ediv_le_self _ hp.1) hp.2⟩]
  unfold bitAt
  rw [bit_part a0 a1 a2 a3 ha k hk]
  rfl

set_option maxRecDepth 20000 in
set_option maxHeartbeats 1000000 in
theorem rbits_any (a0 a1 a2 a3 : Int) (ha : Ws a0 a1 a2 a3) (w : World) :
    Calls Try.prog 56 #[.agg #[.int .u64 a0, .int .u64 a1, .int .u64 a2, .int .u64 a3]] w fun e w' => e = .returned (.agg (row (bitAt (val a0 a1 a2 a3))).toArray) ∧ Below w.heap.size w w' := by
  have z0 := zero_bits.1
  obtain ⟨Z, hZ⟩ : ∃ Z, (row fun _ => false) = Z := ⟨_, rfl⟩
  rw [hZ] at z0
  go_enter Try.func56, Try.ntmps56
  go_wp2
  go_loopg [4] 256 (fun gk i wr => ∃ k : Nat, ∃ f : Nat → Bool, k + gk = 256 ∧ i = .int .i64 k ∧ Below w.heap.size w wr ∧ Cw w.heap.size a0 a1 a2 a3 wr ∧ Fw (w.heap.size + 1) 256 (fun _ => .bool false) wr ∧ Fw (w.heap.size + 1 + 1) 256 (fun j => .bool (f j)) wr ∧ Hid (∀ j, j < 256 → f j = if j < k then bitAt (val a0 a1 a2 a3) j else false))
  case atStart =>
    subst hZ
    refine ⟨0, fun _ => false, rfl, rfl, by go_grown, ?_, ?_, ?_, fun j _ => by simp⟩
    · repeat' (first | exact Cw.new _ _ _ _ _ _ | apply Cw.alloc)
    · have := (Fw.new (w.alloc (.cells #[.int .u64 a0, .int .u64 a1, .int .u64 a2, .int .u64 a3] 24)) 256 (fun _ => .bool false) 43).alloc (.cells (row fun _ => false).toArray 43)
      simpa using this
    · have := Fw.new ((w.alloc (.cells #[.int .u64 a0, .int .u64 a1, .int .u64 a2, .int .u64 a3] 24)).alloc (.cells (row fun _ => false).toArray 43)) 256 (fun _ => .bool false) 43
      simpa using this
  case round =>
    obtain ⟨k, f, hk, rfl, EW, CA, CZ, CU, hH⟩ := hrel
    have zu := CU.z
    have uf := CU.f
    by_cases hlt : k < 256
    · obtain ⟨q, hqk, hq4⟩ : ∃ q : Nat, k / 64 = q ∧ q < 4 := ⟨k / 64, rfl, by omega⟩
      obtain ⟨r, hrk, hr4⟩ : ∃ r : Nat, k % 64 = r ∧ r < 64 := ⟨k % 64, rfl, by omega⟩
      have hq : (k : Int).tdiv 64 = q := by rw [Int.tdiv_eq_ediv_of_nonneg (by omega)]; omega
      have hr : (k : Int).tmod 64 = r := by rw [Int.tmod_eq_emod_of_nonneg (by omega)]; omega
      obtain ⟨p, hpp⟩ : ∃ p : Int, nth a0 a1 a2 a3 q = p := ⟨_, rfl⟩
      have hp := CA.nth q hq4
      have hbit := bit_eq a0 a1 a2 a3 ha k hlt
      rw [hqk, hrk, hpp] at hbit
      rw [hpp] at hp
      have uc := CU.c k hlt
      have HB : Hid (bitAt (val a0 a1 a2 a3) k = _) := rfl
      obtain ⟨b, hb⟩ : ∃ b, bitAt (val a0 a1 a2 a3) k = b := ⟨_, rfl⟩
      rw [hb] at hbit
      have HB : Hid (_ = b) := hb
      clear hqk hrk hpp hb
      go_wp2
      go_roundg (gk - 1)
      case measure => omega
      case rel =>
        refine ⟨k + 1, fun j => if j = k then b else f j, by omega, rfl, by go_grown, CA.setCell _ (by dsimp only; omega) _, CZ.setCell _ (by dsimp only; omega) _, CU.put k hlt (.bool b) (fun j _ => by by_cases e : j = k <;> simp [e]), ?_⟩
        intro j hj
        by_cases e : j = k
        · subst e; simp [HB.out]
        · have := hH.out j hj
          simp only [e, if_false, this]
          by_cases h1 : j < k
          · rw [if_pos h1, if_pos (by omega)]
          · rw [if_neg h1, if_neg (by omega)]
    · have hk2 : k = 256 := by omega
      subst hk2
      have e : Hid (row f = row (bitAt (val a0 a1 a2 a3))) := row_ext _ _ fun j hj => by rw [hH.out j hj, if_pos hj]
      clear hlt
      have hst := CZ.run (P := Try.prog) (fun j => .bool (f j)) (fun _ => rfl)
      go_wp2_with (refine wpList_load_mid rfl 43 _ rfl (w.heap.size + 1 + 1) 0 rfl (row f) _ CU.range Try.underlying43 rfl (by rw [row_len]; exact zero_bits.2) ?_)
      refine bodyPost_ret (v := .agg (row f).toArray) (results_mid Try.results56 _ _ (w.heap.size + 1) (row f) _ rfl (CZ.store _).range Try.underlying43 rfl (by rw [row_len]; exact zero_bits.2)) rfl ⟨by rw [e.out], ?_⟩
      exact below_setCells' (by omega) _ _ _ EW
end Go.Proofs.Ytgapcjdgakamoaa
