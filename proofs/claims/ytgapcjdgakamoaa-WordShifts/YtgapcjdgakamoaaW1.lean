/- What plus and minus, and the small functions of words, do at this translation: for all words, whatever the memory. -/
import Derived.Test.YtgapcjdgakamoaaBase
import Derived.BigRegion
namespace Go.Proofs.Ytgapcjdgakamoaa
open Go.RowKit

/-- What lay ahead of a call lies behind it: its cells, and what may be written of it. -/
theorem oldKept {A C : World} (k : Below A.heap.size A C) : (∀ n i, n < A.heap.size → C.cell? ⟨n, i, none⟩ = A.cell? ⟨n, i, none⟩) ∧ ∀ n i, n < A.heap.size → C.frozen? ⟨n, i, none⟩ = A.frozen? ⟨n, i, none⟩ := by
  constructor
  · intro n i h; exact k.cell (p := ⟨n, i, none⟩) h
  · intro n i h; exact k.frozen (p := ⟨n, i, none⟩) h

theorem belowStep {n : Nat} {w W w1 : World} (h : Below n w W) (hle : n ≤ W.heap.size) (hb : Below W.heap.size W w1) : Below n w w1 := h.trans (hb.mono hle)

set_option maxHeartbeats 1000000 in
theorem plus_any (a0 a1 a2 a3 b0 b1 b2 b3 : Int) (ha : Ws a0 a1 a2 a3) (hb : Ws b0 b1 b2 b3) (w : World) :
    Calls Try.prog 50 #[.agg #[.int .u64 a0, .int .u64 a1, .int .u64 a2, .int .u64 a3], .agg #[.int .u64 b0, .int .u64 b1, .int .u64 b2, .int .u64 b3]] w fun e w' =>
      ∃ r0 r1 r2 r3 c : Int, e = .returned (.tuple #[.agg #[.int .u64 r0, .int .u64 r1, .int .u64 r2, .int .u64 r3], .int .u64 c]) ∧ Ws r0 r1 r2 r3 ∧
        Hid (0 ≤ c ∧ c ≤ 1 ∧ val r0 r1 r2 r3 + 115792089237316195423570985008687907853269984665640564039457584007913129639936 * c = val a0 a1 a2 a3 + val b0 b1 b2 b3) ∧ Below w.heap.size w w' := by
  obtain ⟨ha0, ha1, ha2, ha3⟩ := ha
  obtain ⟨hb0, hb1, hb2, hb3⟩ := hb
  obtain ⟨s0, c0, q0, f0⟩ := add64v a0 b0 0 ha0 hb0 (by decide) (by decide)
  obtain ⟨s1, c1, q1, f1⟩ := add64v a1 b1 c0 ha1 hb1 f0.out.2.1 f0.out.2.2.1
  obtain ⟨s2, c2, q2, f2⟩ := add64v a2 b2 c1 ha2 hb2 f1.out.2.1 f1.out.2.2.1
  obtain ⟨s3, c3, q3, f3⟩ := add64v a3 b3 c2 ha3 hb3 f2.out.2.1 f2.out.2.2.1
  go_enter Try.func50, Try.ntmps50
  go_wp2
  refine wp_loop_rounds 5 ?_
  rw [rounds_succ]; go_wp2
  go_region
  go_wp2
  rw [rounds_succ]; go_wp2
  go_region
  go_wp2
  rw [rounds_succ]; go_wp2
  go_region
  go_wp2
  rw [rounds_succ]; go_wp2
  go_region
  go_wp2
  rw [rounds_succ]; go_wp2
  refine bodyPost_ret (v := .tuple #[.agg #[.int .u64 s0, .int .u64 s1, .int .u64 s2, .int .u64 s3], .int .u64 c3]) (by simp [results, Try.results50, go_sem]) rfl ⟨s0, s1, s2, s3, c3, rfl, ⟨f0.out.1, f1.out.1, f2.out.1, f3.out.1⟩, ?_, ?_⟩
  · have := f0.out; have := f1.out; have := f2.out; have := f3.out
    exact ⟨by omega, by omega, by unfold val; omega⟩
  · go_grown

set_option maxHeartbeats 1000000 in
theorem minus_any (a0 a1 a2 a3 b0 b1 b2 b3 : Int) (ha : Ws a0 a1 a2 a3) (hb : Ws b0 b1 b2 b3) (w : World) :
    Calls Try.prog 52 #[.agg #[.int .u64 a0, .int .u64 a1, .int .u64 a2, .int .u64 a3], .agg #[.int .u64 b0, .int .u64 b1, .int .u64 b2, .int .u64 b3]] w fun e w' =>
      ∃ r0 r1 r2 r3 c : Int, e = .returned (.tuple #[.agg #[.int .u64 r0, .int .u64 r1, .int .u64 r2, .int .u64 r3], .int .u64 c]) ∧ Ws r0 r1 r2 r3 ∧
        Hid (0 ≤ c ∧ c ≤ 1 ∧ val r0 r1 r2 r3 - 115792089237316195423570985008687907853269984665640564039457584007913129639936 * c = val a0 a1 a2 a3 - val b0 b1 b2 b3) ∧ Below w.heap.size w w' := by
  obtain ⟨ha0, ha1, ha2, ha3⟩ := ha
  obtain ⟨hb0, hb1, hb2, hb3⟩ := hb
  obtain ⟨s0, c0, q0, f0⟩ := sub64v a0 b0 0 ha0 hb0 (by decide) (by decide)
  obtain ⟨s1, c1, q1, f1⟩ := sub64v a1 b1 c0 ha1 hb1 f0.out.2.1 f0.out.2.2.1
  obtain ⟨s2, c2, q2, f2⟩ := sub64v a2 b2 c1 ha2 hb2 f1.out.2.1 f1.out.2.2.1
  obtain ⟨s3, c3, q3, f3⟩ := sub64v a3 b3 c2 ha3 hb3 f2.out.2.1 f2.out.2.2.1
  go_enter Try.func52, Try.ntmps52
  go_wp2
  refine wp_loop_rounds 5 ?_
  rw [rounds_succ]; go_wp2
  go_region
  go_wp2
  rw [rounds_succ]; go_wp2
  go_region
  go_wp2
  rw [rounds_succ]; go_wp2
  go_region
  go_wp2
  rw [rounds_succ]; go_wp2
  go_region
  go_wp2
  rw [rounds_succ]; go_wp2
  refine bodyPost_ret (v := .tuple #[.agg #[.int .u64 s0, .int .u64 s1, .int .u64 s2, .int .u64 s3], .int .u64 c3]) (by simp [results, Try.results52, go_sem]) rfl ⟨s0, s1, s2, s3, c3, rfl, ⟨f0.out.1, f1.out.1, f2.out.1, f3.out.1⟩, ?_, ?_⟩
  · have := f0.out; have := f1.out; have := f2.out; have := f3.out
    exact ⟨by omega, by omega, by unfold val; omega⟩
  · go_grown

theorem of_any (n : Int) (w : World) :
    Calls Try.prog 16 #[.int .u64 n] w fun e w' => e = .returned (.agg #[.int .u64 n, .int .u64 0, .int .u64 0, .int .u64 0]) ∧ Below w.heap.size w w' := by
  go_enter Try.func16, Try.ntmps16
  go_wp2
  refine bodyPost_ret (v := .agg #[.int .u64 n, .int .u64 0, .int .u64 0, .int .u64 0]) (by simp [results, Try.results16, go_sem]) rfl ⟨rfl, ?_⟩
  go_grown

theorem lengthen_any (a0 a1 a2 a3 : Int) (w : World) :
    Calls Try.prog 58 #[.agg #[.int .u64 a0, .int .u64 a1, .int .u64 a2, .int .u64 a3]] w fun e w' => e = .returned (.agg #[.int .u64 a0, .int .u64 a1, .int .u64 a2, .int .u64 a3, .int .u64 0, .int .u64 0, .int .u64 0, .int .u64 0, .int .u64 0, .int .u64 0, .int .u64 0, .int .u64 0]) ∧ Below w.heap.size w w' := by
  go_enter Try.func58, Try.ntmps58
  go_wp2
  refine bodyPost_ret (v := .agg #[.int .u64 a0, .int .u64 a1, .int .u64 a2, .int .u64 a3, .int .u64 0, .int .u64 0, .int .u64 0, .int .u64 0, .int .u64 0, .int .u64 0, .int .u64 0, .int .u64 0]) (by simp [results, Try.results58, go_sem]) rfl ⟨rfl, ?_⟩
  go_grown

theorem lowest_any (n0 n1 n2 n3 n4 n5 n6 n7 n8 n9 n10 n11 : Int) (w : World) :
    Calls Try.prog 54 #[.agg #[.int .u64 n0, .int .u64 n1, .int .u64 n2, .int .u64 n3, .int .u64 n4, .int .u64 n5, .int .u64 n6, .int .u64 n7, .int .u64 n8, .int .u64 n9, .int .u64 n10, .int .u64 n11]] w fun e w' => e = .returned (.agg #[.int .u64 n0, .int .u64 n1, .int .u64 n2, .int .u64 n3]) ∧ Below w.heap.size w w' := by
  go_enter Try.func54, Try.ntmps54
  go_wp2
  refine bodyPost_ret (v := .agg #[.int .u64 n0, .int .u64 n1, .int .u64 n2, .int .u64 n3]) (by simp [results, Try.results54, go_sem]) rfl ⟨rfl, ?_⟩
  go_grown

/-- Is a word below 0, with its sign? By its highest part. -/
def neg (x : Int) : Bool := decide (9223372036854775808 ≤ x)

theorem negative_any (a0 a1 a2 a3 : Int) (ha : Ws a0 a1 a2 a3) (w : World) :
    Calls Try.prog 62 #[.agg #[.int .u64 a0, .int .u64 a1, .int .u64 a2, .int .u64 a3]] w fun e w' => e = .returned (.bool (neg a3)) ∧ Below w.heap.size w w' := by
  obtain ⟨ha0, ha1, ha2, ⟨ha3, ha3'⟩⟩ := ha
  have h : ∀ x : Int, 0 ≤ x → x < 18446744073709551616 → (x / 9223372036854775808 == 1) = neg x := by
    intro x h1 h2; unfold neg; rw [Bool.eq_iff_iff]; simp; omega
  go_enter Try.func62, Try.ntmps62
  go_wp2
  go_ret
  refine ⟨rfl, ?_⟩
  go_grown
end Go.Proofs.Ytgapcjdgakamoaa
