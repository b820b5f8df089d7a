/- What the reference's thirds does at this translation: for all words, whatever the memory. -/
import Derived.Test.YtgapcjdgakamoaaV3
namespace Go.Proofs.Ytgapcjdgakamoaa
open Go.RowKit Go.Shelf Go.Sort

/-- A number's part of 32 bits at a place. -/
def third (x : Int) (j : Nat) : Int := x / 2 ^ (32 * j) % 4294967296
theorem third_bd (x : Int) (j : Nat) : 0 ≤ third x j ∧ third x j < 4294967296 := by unfold third; omega

theorem and_low (x : Int) (h : Pt x) : bits .and .u64 x 4294967295 = x % 4294967296 := by
  obtain ⟨h0, h1⟩ := h
  obtain ⟨k, rfl⟩ := Int.eq_ofNat_of_zero_le h0
  have e : (BitVec.ofInt 64 (k : Int) &&& BitVec.ofInt 64 4294967295).toNat = k % 4294967296 := by
    rw [BitVec.toNat_and]
    have a1 : (BitVec.ofInt 64 (k : Int)).toNat = k := by
      rw [BitVec.toNat_ofInt]; omega
    have a2 : (BitVec.ofInt 64 4294967295).toNat = 2 ^ 32 - 1 := by decide
    rw [a1, a2, Nat.and_two_pow_sub_one_eq_mod]
  show IntKind.u64.wrap ((BitVec.ofInt 64 (k : Int) &&& BitVec.ofInt 64 4294967295).toNat : Int) = _
  rw [e, IntKind.wrap_u64]
  omega

theorem third_part (a0 a1 a2 a3 : Int) (ha : Ws a0 a1 a2 a3) (k : Nat) (hk : k < 8) : nth a0 a1 a2 a3 (k / 2) / 2 ^ (32 * (k % 2)) % 4294967296 = third (val a0 a1 a2 a3) k := by
  obtain ⟨⟨_, _⟩, ⟨_, _⟩, ⟨_, _⟩, ⟨_, _⟩⟩ := ha
  unfold third
  match k, hk with
  | 0, _ => show a0 / 1 % 4294967296 = val a0 a1 a2 a3 / 1 % 4294967296; unfold val; omega
  | 1, _ => show a0 / 4294967296 % 4294967296 = val a0 a1 a2 a3 / 4294967296 % 4294967296; unfold val; omega
  | 2, _ => show a1 / 1 % 4294967296 = val a0 a1 a2 a3 / 18446744073709551616 % 4294967296; unfold val; omega
  | 3, _ => show a1 / 4294967296 % 4294967296 = val a0 a1 a2 a3 / 79228162514264337593543950336 % 4294967296; unfold val; omega
  | 4, _ => show a2 / 1 % 4294967296 = val a0 a1 a2 a3 / 340282366920938463463374607431768211456 % 4294967296; unfold val; omega
  | 5, _ => show a2 / 4294967296 % 4294967296 = val a0 a1 a2 a3 / 1461501637330902918203684832716283019655932542976 % 4294967296; unfold val; omega
  | 6, _ => show a3 / 1 % 4294967296 = val a0 a1 a2 a3 / 6277101735386680763835789423207666416102355444464034512896 % 4294967296; unfold val; omega
  | 7, _ => show a3 / 4294967296 % 4294967296 = val a0 a1 a2 a3 / 26959946667150639794667015087019630673637144422540572481103610249216 % 4294967296; unfold val; omega

theorem size_a8 : (Try.prog.info? 73).map (·.size) = some 8 := by kernel_rfl

set_option maxRecDepth 20000 in
set_option maxHeartbeats 1000000 in
theorem rthirds_any (a0 a1 a2 a3 : Int) (ha : Ws a0 a1 a2 a3) (w : World) :
    Calls Try.prog 79 #[.agg #[.int .u64 a0, .int .u64 a1, .int .u64 a2, .int .u64 a3]] w fun e w' => e = .returned (.agg (fl 8 fun j => .int .u64 (third (val a0 a1 a2 a3) j)).toArray) ∧ Below w.heap.size w w' := by
  go_enter Try.func79, Try.ntmps79
  go_wp2
  go_loopg [4] 8 (fun gk i wr => ∃ k : Nat, ∃ f : Nat → Int, k + gk = 8 ∧ i = .int .i64 k ∧ Below w.heap.size w wr ∧ Cw w.heap.size a0 a1 a2 a3 wr ∧ Fw (w.heap.size + 1) 8 (fun _ => .int .u64 0) wr ∧ Fw (w.heap.size + 1 + 1) 8 (fun j => .int .u64 (f j)) wr ∧ Hid (∀ j, j < 8 → f j = if j < k then third (val a0 a1 a2 a3) j else 0))
  case atStart =>
    refine ⟨0, fun _ => 0, rfl, rfl, by go_grown, ?_, ?_, ?_, fun j _ => by simp⟩
    · repeat' (first | exact Cw.new _ _ _ _ _ _ | apply Cw.alloc)
    · have := (Fw.new (w.alloc (.cells #[.int .u64 a0, .int .u64 a1, .int .u64 a2, .int .u64 a3] 24)) 8 (fun _ => .int .u64 0) 73).alloc (.cells (fl 8 fun _ => .int .u64 0).toArray 73)
      rw [show (w.alloc (.cells #[.int .u64 a0, .int .u64 a1, .int .u64 a2, .int .u64 a3] 24)).heap.size = w.heap.size + 1 by simp] at this
      exact this
    · have := Fw.new ((w.alloc (.cells #[.int .u64 a0, .int .u64 a1, .int .u64 a2, .int .u64 a3] 24)).alloc (.cells (fl 8 fun _ => .int .u64 0).toArray 73)) 8 (fun _ => .int .u64 0) 73
      rw [show ((w.alloc (.cells #[.int .u64 a0, .int .u64 a1, .int .u64 a2, .int .u64 a3] 24)).alloc (.cells (fl 8 fun _ => .int .u64 0).toArray 73)).heap.size = w.heap.size + 1 + 1 by simp] at this
      exact this
  case round =>
    obtain ⟨k, f, hk, rfl, EW, CA, CZ, CU, hH⟩ := hrel
    have zu := CU.z
    have uf := CU.f
    by_cases hlt : k < 8
    · obtain ⟨q, hqk, hq4⟩ : ∃ q : Nat, k / 2 = q ∧ q < 4 := ⟨k / 2, rfl, by omega⟩
      obtain ⟨r, hrk, hr4⟩ : ∃ r : Nat, k % 2 = r ∧ r < 2 := ⟨k % 2, rfl, by omega⟩
      have hq : (k : Int).tdiv 2 = q := by rw [Int.tdiv_eq_ediv_of_nonneg (by omega)]; omega
      have hr : (k : Int).tmod 2 = r := by rw [Int.tmod_eq_emod_of_nonneg (by omega)]; omega
      obtain ⟨s, hs⟩ : ∃ s : Nat, 32 * r = s := ⟨_, rfl⟩
      have hs64 : s < 64 := by omega
      have hm : IntKind.i64.wrap (32 * (r : Int)) = s := by rw [IntKind.wrap_i64]; omega
      have hm' : IntKind.i64.wrap ((s : Nat) : Int) = s := by rw [IntKind.wrap_i64]; omega
      obtain ⟨p, hpp⟩ : ∃ p : Int, nth a0 a1 a2 a3 q = p := ⟨_, rfl⟩
      have hp := CA.nth q hq4
      have hpt := nth_pt a0 a1 a2 a3 ha q
      rw [hpp] at hp hpt
      have hpos : (0 : Int) < 2 ^ s := Int.pow_pos (by decide)
      have h3 := third_part a0 a1 a2 a3 ha k hlt
      rw [hqk, hrk, hpp, hs] at h3
      obtain ⟨t, ht⟩ : ∃ t, third (val a0 a1 a2 a3) k = t := ⟨_, rfl⟩
      have hand := and_low (p / 2 ^ s) ⟨Int.ediv_nonneg hpt.1 (Int.le_of_lt hpos), Int.lt_of_le_of_lt (Int.ediv_le_self _ hpt.1) hpt.2⟩
      rw [h3, ht] at hand
      have uc := CU.c k hlt
      have HB : Hid (_ = t) := ht
      clear hqk hrk hpp ht h3 hpos hpt
      go_wp2
      go_roundg (gk - 1)
      case measure => omega
      case rel =>
        refine ⟨k + 1, fun j => if j = k then t else f j, by omega, rfl, by go_grown, CA.setCell _ (by dsimp only; omega) _, CZ.setCell _ (by dsimp only; omega) _, CU.put k hlt (.int .u64 t) (fun j _ => by by_cases e : j = k <;> simp [e]), ?_⟩
        intro j hj
        by_cases e : j = k
        · subst e; simp [HB.out]
        · have := hH.out j hj
          simp only [e, if_false, this]
          by_cases h1 : j < k
          · rw [if_pos h1, if_pos (by omega)]
          · rw [if_neg h1, if_neg (by omega)]
    · have hk2 : k = 8 := by omega
      subst hk2
      have e : Hid ((fl 8 fun j => .int .u64 (f j)) = fl 8 fun j => .int .u64 (third (val a0 a1 a2 a3) j)) := fl_ext _ _ _ fun j hj => by rw [hH.out j hj, if_pos hj]
      clear hlt
      have zf := CZ.f
      have zz := CZ.z
      have u0_ := CU.c 0 (by decide)
      have z0_ := CZ.c 0 (by decide)
      have u1_ := CU.c 1 (by decide)
      have z1_ := CZ.c 1 (by decide)
      have u2_ := CU.c 2 (by decide)
      have z2_ := CZ.c 2 (by decide)
      have u3_ := CU.c 3 (by decide)
      have z3_ := CZ.c 3 (by decide)
      have u4_ := CU.c 4 (by decide)
      have z4_ := CZ.c 4 (by decide)
      have u5_ := CU.c 5 (by decide)
      have z5_ := CZ.c 5 (by decide)
      have u6_ := CU.c 6 (by decide)
      have z6_ := CZ.c 6 (by decide)
      have u7_ := CU.c 7 (by decide)
      have z7_ := CZ.c 7 (by decide)
      go_wp2
      refine bodyPost_ret (v := .agg (fl 8 fun j => .int .u64 (f j)).toArray) (by simp [results, Try.results79, go_sem, *]; rfl) rfl ⟨by rw [e.out], ?_⟩
      go_grown
end Go.Proofs.Ytgapcjdgakamoaa
