/- What lower does at this translation: the whole quotient by a power of two, for all words, whatever the memory. -/
import Derived.Test.YtgapcjdgakamoaaW2
import Derived.Test.YtgapcjdgakamoaaPlain
namespace Go.Proofs.Ytgapcjdgakamoaa
open Go.RowKit

set_option maxHeartbeats 1000000 in
theorem lower_0 (a0 a1 a2 a3 z r : Int) (ha : Ws a0 a1 a2 a3) (hz0 : 0 ≤ z) (hr0 : 0 ≤ r) (hr : r < 64) (h1 : z / 64 = 0) (h2 : z % 64 = r) (w : World) :
    Calls Try.prog 67 #[.agg #[.int .u64 a0, .int .u64 a1, .int .u64 a2, .int .u64 a3], .int .u64 z] w fun e w' =>
      ∃ r0 r1 r2 r3 : Int, e = .returned (.agg #[.int .u64 r0, .int .u64 r1, .int .u64 r2, .int .u64 r3]) ∧ Ws r0 r1 r2 r3 ∧ Hid (val r0 r1 r2 r3 = val a0 a1 a2 a3 / 2 ^ z.toNat) ∧ Below w.heap.size w w' := by
  obtain ⟨ha0, ha1, ha2, ha3⟩ := ha
  obtain ⟨s0, q0, f0⟩ := low_v a0 a1 r ha0 ha1 hr0 hr
  obtain ⟨s1, q1, f1⟩ := low_v a1 a2 r ha1 ha2 hr0 hr
  obtain ⟨s2, q2, f2⟩ := low_v a2 a3 r ha2 ha3 hr0 hr
  have ht : Pt (a3 / 2 ^ r.toNat) := ⟨Int.ediv_nonneg ha3.1 (Int.le_of_lt (pw_pos _)), Int.lt_of_le_of_lt (Int.ediv_le_self _ ha3.1) ha3.2⟩
  have hn : Pt 0 := ⟨by decide, by decide⟩
  go_enter Try.func67, Try.ntmps67
  go_wp2
  refine wp_loop_rounds 5 ?_
  rw [rounds_succ]; go_wp2
  go_region
  go_wp2
  rw [rounds_succ]; go_wp2
  go_region
  go_wp2
  rw [rounds_succ]; go_wp2
  go_region
  go_wp2
  rw [rounds_succ]; go_wp2
  rw [rounds_succ]; go_wp2
  refine bodyPost_ret (v := .agg #[.int .u64 s0, .int .u64 s1, .int .u64 s2, .int .u64 (a3 / 2 ^ r.toNat)]) (by simp [results, Try.results67, go_sem]) rfl ⟨s0, s1, s2, a3 / 2 ^ r.toNat, rfl, ⟨f0.out.2, f1.out.2, f2.out.2, ht⟩, ?_, ?_⟩
  · show _ = _
    have e := low_val a0 a1 a2 a3 (2 ^ r.toNat) (2 ^ (64 - r).toNat) s0 s1 s2 (pw_pos _) (pw_split r hr0 hr) f0.out.1 f1.out.1 f2.out.1
    rw [pw_parts z r 0 hz0 h1 h2, e]
    simp
  · go_grown

set_option maxHeartbeats 1000000 in
theorem lower_1 (a0 a1 a2 a3 z r : Int) (ha : Ws a0 a1 a2 a3) (hz0 : 0 ≤ z) (hr0 : 0 ≤ r) (hr : r < 64) (h1 : z / 64 = 1) (h2 : z % 64 = r) (w : World) :
    Calls Try.prog 67 #[.agg #[.int .u64 a0, .int .u64 a1, .int .u64 a2, .int .u64 a3], .int .u64 z] w fun e w' =>
      ∃ r0 r1 r2 r3 : Int, e = .returned (.agg #[.int .u64 r0, .int .u64 r1, .int .u64 r2, .int .u64 r3]) ∧ Ws r0 r1 r2 r3 ∧ Hid (val r0 r1 r2 r3 = val a0 a1 a2 a3 / 2 ^ z.toNat) ∧ Below w.heap.size w w' := by
  obtain ⟨ha0, ha1, ha2, ha3⟩ := ha
  obtain ⟨s0, q0, f0⟩ := low_v a1 a2 r ha1 ha2 hr0 hr
  obtain ⟨s1, q1, f1⟩ := low_v a2 a3 r ha2 ha3 hr0 hr
  have ht : Pt (a3 / 2 ^ r.toNat) := ⟨Int.ediv_nonneg ha3.1 (Int.le_of_lt (pw_pos _)), Int.lt_of_le_of_lt (Int.ediv_le_self _ ha3.1) ha3.2⟩
  have hn : Pt 0 := ⟨by decide, by decide⟩
  go_enter Try.func67, Try.ntmps67
  go_wp2
  refine wp_loop_rounds 5 ?_
  rw [rounds_succ]; go_wp2
  go_region
  go_wp2
  rw [rounds_succ]; go_wp2
  go_region
  go_wp2
  rw [rounds_succ]; go_wp2
  rw [rounds_succ]; go_wp2
  refine bodyPost_ret (v := .agg #[.int .u64 s0, .int .u64 s1, .int .u64 (a3 / 2 ^ r.toNat), .int .u64 0]) (by simp [results, Try.results67, go_sem]) rfl ⟨s0, s1, a3 / 2 ^ r.toNat, 0, rfl, ⟨f0.out.2, f1.out.2, ht, hn⟩, ?_, ?_⟩
  · show _ = _
    have e := low_val a1 a2 a3 0 (2 ^ r.toNat) (2 ^ (64 - r).toNat) s0 s1 (a3 / 2 ^ r.toNat) (pw_pos _) (pw_split r hr0 hr) f0.out.1 f1.out.1 (by simp)
    have e2 : val a0 a1 a2 a3 / 18446744073709551616 = val a1 a2 a3 0 := by obtain ⟨_, _⟩ := ha0; obtain ⟨_, _⟩ := ha1; obtain ⟨_, _⟩ := ha2; unfold val; omega
    rw [pw_parts z r 1 hz0 h1 h2, show ((2 : Int) ^ (64 * 1)) = 18446744073709551616 from by decide, ← Int.ediv_ediv_of_nonneg (by decide), e2, ← e]
    simp
  · go_grown

set_option maxHeartbeats 1000000 in
theorem lower_2 (a0 a1 a2 a3 z r : Int) (ha : Ws a0 a1 a2 a3) (hz0 : 0 ≤ z) (hr0 : 0 ≤ r) (hr : r < 64) (h1 : z / 64 = 2) (h2 : z % 64 = r) (w : World) :
    Calls Try.prog 67 #[.agg #[.int .u64 a0, .int .u64 a1, .int .u64 a2, .int .u64 a3], .int .u64 z] w fun e w' =>
      ∃ r0 r1 r2 r3 : Int, e = .returned (.agg #[.int .u64 r0, .int .u64 r1, .int .u64 r2, .int .u64 r3]) ∧ Ws r0 r1 r2 r3 ∧ Hid (val r0 r1 r2 r3 = val a0 a1 a2 a3 / 2 ^ z.toNat) ∧ Below w.heap.size w w' := by
  obtain ⟨ha0, ha1, ha2, ha3⟩ := ha
  obtain ⟨s0, q0, f0⟩ := low_v a2 a3 r ha2 ha3 hr0 hr
  have ht : Pt (a3 / 2 ^ r.toNat) := ⟨Int.ediv_nonneg ha3.1 (Int.le_of_lt (pw_pos _)), Int.lt_of_le_of_lt (Int.ediv_le_self _ ha3.1) ha3.2⟩
  have hn : Pt 0 := ⟨by decide, by decide⟩
  go_enter Try.func67, Try.ntmps67
  go_wp2
  refine wp_loop_rounds 5 ?_
  rw [rounds_succ]; go_wp2
  go_region
  go_wp2
  rw [rounds_succ]; go_wp2
  rw [rounds_succ]; go_wp2
  refine bodyPost_ret (v := .agg #[.int .u64 s0, .int .u64 (a3 / 2 ^ r.toNat), .int .u64 0, .int .u64 0]) (by simp [results, Try.results67, go_sem]) rfl ⟨s0, a3 / 2 ^ r.toNat, 0, 0, rfl, ⟨f0.out.2, ht, hn, hn⟩, ?_, ?_⟩
  · show _ = _
    have e := low_val a2 a3 0 0 (2 ^ r.toNat) (2 ^ (64 - r).toNat) s0 (a3 / 2 ^ r.toNat) 0 (pw_pos _) (pw_split r hr0 hr) f0.out.1 (by simp) (by simp)
    have e2 : val a0 a1 a2 a3 / 340282366920938463463374607431768211456 = val a2 a3 0 0 := by obtain ⟨_, _⟩ := ha0; obtain ⟨_, _⟩ := ha1; obtain ⟨_, _⟩ := ha2; unfold val; omega
    rw [pw_parts z r 2 hz0 h1 h2, show ((2 : Int) ^ (64 * 2)) = 340282366920938463463374607431768211456 from by decide, ← Int.ediv_ediv_of_nonneg (by decide), e2, ← e]
    simp
  · go_grown

set_option maxHeartbeats 1000000 in
theorem lower_3 (a0 a1 a2 a3 z r : Int) (ha : Ws a0 a1 a2 a3) (hz0 : 0 ≤ z) (hr0 : 0 ≤ r) (hr : r < 64) (h1 : z / 64 = 3) (h2 : z % 64 = r) (w : World) :
    Calls Try.prog 67 #[.agg #[.int .u64 a0, .int .u64 a1, .int .u64 a2, .int .u64 a3], .int .u64 z] w fun e w' =>
      ∃ r0 r1 r2 r3 : Int, e = .returned (.agg #[.int .u64 r0, .int .u64 r1, .int .u64 r2, .int .u64 r3]) ∧ Ws r0 r1 r2 r3 ∧ Hid (val r0 r1 r2 r3 = val a0 a1 a2 a3 / 2 ^ z.toNat) ∧ Below w.heap.size w w' := by
  obtain ⟨ha0, ha1, ha2, ha3⟩ := ha
  have ht : Pt (a3 / 2 ^ r.toNat) := ⟨Int.ediv_nonneg ha3.1 (Int.le_of_lt (pw_pos _)), Int.lt_of_le_of_lt (Int.ediv_le_self _ ha3.1) ha3.2⟩
  have hn : Pt 0 := ⟨by decide, by decide⟩
  go_enter Try.func67, Try.ntmps67
  go_wp2
  refine wp_loop_rounds 5 ?_
  rw [rounds_succ]; go_wp2
  rw [rounds_succ]; go_wp2
  refine bodyPost_ret (v := .agg #[.int .u64 (a3 / 2 ^ r.toNat), .int .u64 0, .int .u64 0, .int .u64 0]) (by simp [results, Try.results67, go_sem]) rfl ⟨a3 / 2 ^ r.toNat, 0, 0, 0, rfl, ⟨ht, hn, hn, hn⟩, ?_, ?_⟩
  · show _ = _
    have e := low_val a3 0 0 0 (2 ^ r.toNat) (2 ^ (64 - r).toNat) (a3 / 2 ^ r.toNat) 0 0 (pw_pos _) (pw_split r hr0 hr) (by simp) (by simp) (by simp)
    have e2 : val a0 a1 a2 a3 / 6277101735386680763835789423207666416102355444464034512896 = val a3 0 0 0 := by obtain ⟨_, _⟩ := ha0; obtain ⟨_, _⟩ := ha1; obtain ⟨_, _⟩ := ha2; unfold val; omega
    rw [pw_parts z r 3 hz0 h1 h2, show ((2 : Int) ^ (64 * 3)) = 6277101735386680763835789423207666416102355444464034512896 from by decide, ← Int.ediv_ediv_of_nonneg (by decide), e2, ← e]
    simp
  · go_grown

theorem lower_any (a0 a1 a2 a3 z : Int) (ha : Ws a0 a1 a2 a3) (hz0 : 0 ≤ z) (hz : z < 256) (w : World) :
    Calls Try.prog 67 #[.agg #[.int .u64 a0, .int .u64 a1, .int .u64 a2, .int .u64 a3], .int .u64 z] w fun e w' =>
      ∃ r0 r1 r2 r3 : Int, e = .returned (.agg #[.int .u64 r0, .int .u64 r1, .int .u64 r2, .int .u64 r3]) ∧ Ws r0 r1 r2 r3 ∧ Hid (val r0 r1 r2 r3 = val a0 a1 a2 a3 / 2 ^ z.toNat) ∧ Below w.heap.size w w' := by
  have hc : z / 64 = 0 ∨ z / 64 = 1 ∨ z / 64 = 2 ∨ z / 64 = 3 := by omega
  rcases hc with h | h | h | h
  · exact lower_0 a0 a1 a2 a3 z (z % 64) ha hz0 (by omega) (by omega) h rfl w
  · exact lower_1 a0 a1 a2 a3 z (z % 64) ha hz0 (by omega) (by omega) h rfl w
  · exact lower_2 a0 a1 a2 a3 z (z % 64) ha hz0 (by omega) (by omega) h rfl w
  · exact lower_3 a0 a1 a2 a3 z (z % 64) ha hz0 (by omega) (by omega) h rfl w
end Go.Proofs.Ytgapcjdgakamoaa
