/- What raise does at this translation: a number of twelve parts times a power of two, for all such numbers, whatever the memory. -/
import Derived.Test.YtgapcjdgakamoaaW2
import Derived.Test.YtgapcjdgakamoaaPlain
namespace Go.Proofs.Ytgapcjdgakamoaa
open Go.RowKit

set_option maxHeartbeats 4000000 in
theorem raise_0 (n0 n1 n2 n3 n4 n5 n6 n7 n8 n9 n10 n11 z r : Int) (hn : Wl n0 n1 n2 n3 n4 n5 n6 n7 n8 n9 n10 n11) (hz0 : 0 ≤ z) (hr0 : 0 ≤ r) (hr : r < 64) (h1 : z / 64 = 0) (h2 : z % 64 = r) (w : World) :
    Calls Try.prog 68 #[.agg #[.int .u64 n0, .int .u64 n1, .int .u64 n2, .int .u64 n3, .int .u64 n4, .int .u64 n5, .int .u64 n6, .int .u64 n7, .int .u64 n8, .int .u64 n9, .int .u64 n10, .int .u64 n11], .int .u64 z] w fun e w' =>
      ∃ t0 t1 t2 t3 t4 t5 t6 t7 t8 t9 t10 t11 : Int, e = .returned (.agg #[.int .u64 t0, .int .u64 t1, .int .u64 t2, .int .u64 t3, .int .u64 t4, .int .u64 t5, .int .u64 t6, .int .u64 t7, .int .u64 t8, .int .u64 t9, .int .u64 t10, .int .u64 t11]) ∧ Wl t0 t1 t2 t3 t4 t5 t6 t7 t8 t9 t10 t11 ∧ Hid (∃ k : Int, vlong t0 t1 t2 t3 t4 t5 t6 t7 t8 t9 t10 t11 + 1552518092300708935148979488462502555256886017116696611139052038026050952686376886330878408828646477950487730697131073206171580044114814391444287275041181139204454976020849905550265285631598444825262999193716468750892846853816057856 * k = vlong n0 n1 n2 n3 n4 n5 n6 n7 n8 n9 n10 n11 * 2 ^ z.toNat) ∧ Below w.heap.size w w' := by
  obtain ⟨hn0, hn1, hn2, hn3, hn4, hn5, hn6, hn7, hn8, hn9, hn10, hn11⟩ := hn
  obtain ⟨s0, q0, f0⟩ := wrap_high n0 r hr0 hr
  obtain ⟨s1, q1, f1⟩ := high_v n1 n0 r hn1 hn0 hr0 hr
  obtain ⟨s2, q2, f2⟩ := high_v n2 n1 r hn2 hn1 hr0 hr
  obtain ⟨s3, q3, f3⟩ := high_v n3 n2 r hn3 hn2 hr0 hr
  obtain ⟨s4, q4, f4⟩ := high_v n4 n3 r hn4 hn3 hr0 hr
  obtain ⟨s5, q5, f5⟩ := high_v n5 n4 r hn5 hn4 hr0 hr
  obtain ⟨s6, q6, f6⟩ := high_v n6 n5 r hn6 hn5 hr0 hr
  obtain ⟨s7, q7, f7⟩ := high_v n7 n6 r hn7 hn6 hr0 hr
  obtain ⟨s8, q8, f8⟩ := high_v n8 n7 r hn8 hn7 hr0 hr
  obtain ⟨s9, q9, f9⟩ := high_v n9 n8 r hn9 hn8 hr0 hr
  obtain ⟨s10, q10, f10⟩ := high_v n10 n9 r hn10 hn9 hr0 hr
  obtain ⟨s11, q11, f11⟩ := high_v n11 n10 r hn11 hn10 hr0 hr
  have ho : Pt 0 := ⟨by decide, by decide⟩
  go_enter Try.func68, Try.ntmps68
  go_wp2
  refine wp_loop_rounds 13 ?_
  rw [rounds_succ]; go_wp2
  rw [rounds_succ]; go_wp2
  go_region
  go_wp2
  rw [rounds_succ]; go_wp2
  go_region
  go_wp2
  rw [rounds_succ]; go_wp2
  go_region
  go_wp2
  rw [rounds_succ]; go_wp2
  go_region
  go_wp2
  rw [rounds_succ]; go_wp2
  go_region
  go_wp2
  rw [rounds_succ]; go_wp2
  go_region
  go_wp2
  rw [rounds_succ]; go_wp2
  go_region
  go_wp2
  rw [rounds_succ]; go_wp2
  go_region
  go_wp2
  rw [rounds_succ]; go_wp2
  go_region
  go_wp2
  rw [rounds_succ]; go_wp2
  go_region
  go_wp2
  rw [rounds_succ]; go_wp2
  go_region
  go_wp2
  rw [rounds_succ]; go_wp2
  refine bodyPost_ret (v := .agg #[.int .u64 s0, .int .u64 s1, .int .u64 s2, .int .u64 s3, .int .u64 s4, .int .u64 s5, .int .u64 s6, .int .u64 s7, .int .u64 s8, .int .u64 s9, .int .u64 s10, .int .u64 s11]) (by simp [results, Try.results68, go_sem]) rfl ⟨s0, s1, s2, s3, s4, s5, s6, s7, s8, s9, s10, s11, rfl, ⟨f0.out.2, f1.out.2, f2.out.2, f3.out.2, f4.out.2, f5.out.2, f6.out.2, f7.out.2, f8.out.2, f9.out.2, f10.out.2, f11.out.2⟩, ?_, ?_⟩
  · refine ⟨n11 / 2 ^ (64 - r).toNat, ?_⟩
    rw [pw_parts z r 0 hz0 h1 h2, show ((2 : Int) ^ (64 * 0)) = 1 from by decide]
    exact high_val0 n0 n1 n2 n3 n4 n5 n6 n7 n8 n9 n10 n11 s0 s1 s2 s3 s4 s5 s6 s7 s8 s9 s10 s11 _ _ (pw_split r hr0 hr) f0.out.1 f1.out.1 f2.out.1 f3.out.1 f4.out.1 f5.out.1 f6.out.1 f7.out.1 f8.out.1 f9.out.1 f10.out.1 f11.out.1
  · go_grown

set_option maxHeartbeats 4000000 in
theorem raise_1 (n0 n1 n2 n3 n4 n5 n6 n7 n8 n9 n10 n11 z r : Int) (hn : Wl n0 n1 n2 n3 n4 n5 n6 n7 n8 n9 n10 n11) (hz0 : 0 ≤ z) (hr0 : 0 ≤ r) (hr : r < 64) (h1 : z / 64 = 1) (h2 : z % 64 = r) (w : World) :
    Calls Try.prog 68 #[.agg #[.int .u64 n0, .int .u64 n1, .int .u64 n2, .int .u64 n3, .int .u64 n4, .int .u64 n5, .int .u64 n6, .int .u64 n7, .int .u64 n8, .int .u64 n9, .int .u64 n10, .int .u64 n11], .int .u64 z] w fun e w' =>
      ∃ t0 t1 t2 t3 t4 t5 t6 t7 t8 t9 t10 t11 : Int, e = .returned (.agg #[.int .u64 t0, .int .u64 t1, .int .u64 t2, .int .u64 t3, .int .u64 t4, .int .u64 t5, .int .u64 t6, .int .u64 t7, .int .u64 t8, .int .u64 t9, .int .u64 t10, .int .u64 t11]) ∧ Wl t0 t1 t2 t3 t4 t5 t6 t7 t8 t9 t10 t11 ∧ Hid (∃ k : Int, vlong t0 t1 t2 t3 t4 t5 t6 t7 t8 t9 t10 t11 + 1552518092300708935148979488462502555256886017116696611139052038026050952686376886330878408828646477950487730697131073206171580044114814391444287275041181139204454976020849905550265285631598444825262999193716468750892846853816057856 * k = vlong n0 n1 n2 n3 n4 n5 n6 n7 n8 n9 n10 n11 * 2 ^ z.toNat) ∧ Below w.heap.size w w' := by
  obtain ⟨hn0, hn1, hn2, hn3, hn4, hn5, hn6, hn7, hn8, hn9, hn10, hn11⟩ := hn
  obtain ⟨s0, q0, f0⟩ := wrap_high n0 r hr0 hr
  obtain ⟨s1, q1, f1⟩ := high_v n1 n0 r hn1 hn0 hr0 hr
  obtain ⟨s2, q2, f2⟩ := high_v n2 n1 r hn2 hn1 hr0 hr
  obtain ⟨s3, q3, f3⟩ := high_v n3 n2 r hn3 hn2 hr0 hr
  obtain ⟨s4, q4, f4⟩ := high_v n4 n3 r hn4 hn3 hr0 hr
  obtain ⟨s5, q5, f5⟩ := high_v n5 n4 r hn5 hn4 hr0 hr
  obtain ⟨s6, q6, f6⟩ := high_v n6 n5 r hn6 hn5 hr0 hr
  obtain ⟨s7, q7, f7⟩ := high_v n7 n6 r hn7 hn6 hr0 hr
  obtain ⟨s8, q8, f8⟩ := high_v n8 n7 r hn8 hn7 hr0 hr
  obtain ⟨s9, q9, f9⟩ := high_v n9 n8 r hn9 hn8 hr0 hr
  obtain ⟨s10, q10, f10⟩ := high_v n10 n9 r hn10 hn9 hr0 hr
  have ho : Pt 0 := ⟨by decide, by decide⟩
  go_enter Try.func68, Try.ntmps68
  go_wp2
  refine wp_loop_rounds 13 ?_
  rw [rounds_succ]; go_wp2
  rw [rounds_succ]; go_wp2
  go_region
  go_wp2
  rw [rounds_succ]; go_wp2
  go_region
  go_wp2
  rw [rounds_succ]; go_wp2
  go_region
  go_wp2
  rw [rounds_succ]; go_wp2
  go_region
  go_wp2
  rw [rounds_succ]; go_wp2
  go_region
  go_wp2
  rw [rounds_succ]; go_wp2
  go_region
  go_wp2
  rw [rounds_succ]; go_wp2
  go_region
  go_wp2
  rw [rounds_succ]; go_wp2
  go_region
  go_wp2
  rw [rounds_succ]; go_wp2
  go_region
  go_wp2
  rw [rounds_succ]; go_wp2
  go_region
  go_wp2
  rw [rounds_succ]; go_wp2
  refine bodyPost_ret (v := .agg #[.int .u64 0, .int .u64 s0, .int .u64 s1, .int .u64 s2, .int .u64 s3, .int .u64 s4, .int .u64 s5, .int .u64 s6, .int .u64 s7, .int .u64 s8, .int .u64 s9, .int .u64 s10]) (by simp [results, Try.results68, go_sem]) rfl ⟨0, s0, s1, s2, s3, s4, s5, s6, s7, s8, s9, s10, rfl, ⟨ho, f0.out.2, f1.out.2, f2.out.2, f3.out.2, f4.out.2, f5.out.2, f6.out.2, f7.out.2, f8.out.2, f9.out.2, f10.out.2⟩, ?_, ?_⟩
  · refine ⟨n10 / 2 ^ (64 - r).toNat + n11 * 2 ^ r.toNat, ?_⟩
    rw [pw_parts z r 1 hz0 h1 h2, show ((2 : Int) ^ (64 * 1)) = 18446744073709551616 from by decide]
    exact high_val1 n0 n1 n2 n3 n4 n5 n6 n7 n8 n9 n10 n11 s0 s1 s2 s3 s4 s5 s6 s7 s8 s9 s10 _ _ (pw_split r hr0 hr) f0.out.1 f1.out.1 f2.out.1 f3.out.1 f4.out.1 f5.out.1 f6.out.1 f7.out.1 f8.out.1 f9.out.1 f10.out.1
  · go_grown

set_option maxHeartbeats 4000000 in
theorem raise_2 (n0 n1 n2 n3 n4 n5 n6 n7 n8 n9 n10 n11 z r : Int) (hn : Wl n0 n1 n2 n3 n4 n5 n6 n7 n8 n9 n10 n11) (hz0 : 0 ≤ z) (hr0 : 0 ≤ r) (hr : r < 64) (h1 : z / 64 = 2) (h2 : z % 64 = r) (w : World) :
    Calls Try.prog 68 #[.agg #[.int .u64 n0, .int .u64 n1, .int .u64 n2, .int .u64 n3, .int .u64 n4, .int .u64 n5, .int .u64 n6, .int .u64 n7, .int .u64 n8, .int .u64 n9, .int .u64 n10, .int .u64 n11], .int .u64 z] w fun e w' =>
      ∃ t0 t1 t2 t3 t4 t5 t6 t7 t8 t9 t10 t11 : Int, e = .returned (.agg #[.int .u64 t0, .int .u64 t1, .int .u64 t2, .int .u64 t3, .int .u64 t4, .int .u64 t5, .int .u64 t6, .int .u64 t7, .int .u64 t8, .int .u64 t9, .int .u64 t10, .int .u64 t11]) ∧ Wl t0 t1 t2 t3 t4 t5 t6 t7 t8 t9 t10 t11 ∧ Hid (∃ k : Int, vlong t0 t1 t2 t3 t4 t5 t6 t7 t8 t9 t10 t11 + 1552518092300708935148979488462502555256886017116696611139052038026050952686376886330878408828646477950487730697131073206171580044114814391444287275041181139204454976020849905550265285631598444825262999193716468750892846853816057856 * k = vlong n0 n1 n2 n3 n4 n5 n6 n7 n8 n9 n10 n11 * 2 ^ z.toNat) ∧ Below w.heap.size w w' := by
  obtain ⟨hn0, hn1, hn2, hn3, hn4, hn5, hn6, hn7, hn8, hn9, hn10, hn11⟩ := hn
  obtain ⟨s0, q0, f0⟩ := wrap_high n0 r hr0 hr
  obtain ⟨s1, q1, f1⟩ := high_v n1 n0 r hn1 hn0 hr0 hr
  obtain ⟨s2, q2, f2⟩ := high_v n2 n1 r hn2 hn1 hr0 hr
  obtain ⟨s3, q3, f3⟩ := high_v n3 n2 r hn3 hn2 hr0 hr
  obtain ⟨s4, q4, f4⟩ := high_v n4 n3 r hn4 hn3 hr0 hr
  obtain ⟨s5, q5, f5⟩ := high_v n5 n4 r hn5 hn4 hr0 hr
  obtain ⟨s6, q6, f6⟩ := high_v n6 n5 r hn6 hn5 hr0 hr
  obtain ⟨s7, q7, f7⟩ := high_v n7 n6 r hn7 hn6 hr0 hr
  obtain ⟨s8, q8, f8⟩ := high_v n8 n7 r hn8 hn7 hr0 hr
  obtain ⟨s9, q9, f9⟩ := high_v n9 n8 r hn9 hn8 hr0 hr
  have ho : Pt 0 := ⟨by decide, by decide⟩
  go_enter Try.func68, Try.ntmps68
  go_wp2
  refine wp_loop_rounds 13 ?_
  rw [rounds_succ]; go_wp2
  rw [rounds_succ]; go_wp2
  go_region
  go_wp2
  rw [rounds_succ]; go_wp2
  go_region
  go_wp2
  rw [rounds_succ]; go_wp2
  go_region
  go_wp2
  rw [rounds_succ]; go_wp2
  go_region
  go_wp2
  rw [rounds_succ]; go_wp2
  go_region
  go_wp2
  rw [rounds_succ]; go_wp2
  go_region
  go_wp2
  rw [rounds_succ]; go_wp2
  go_region
  go_wp2
  rw [rounds_succ]; go_wp2
  go_region
  go_wp2
  rw [rounds_succ]; go_wp2
  go_region
  go_wp2
  rw [rounds_succ]; go_wp2
  refine bodyPost_ret (v := .agg #[.int .u64 0, .int .u64 0, .int .u64 s0, .int .u64 s1, .int .u64 s2, .int .u64 s3, .int .u64 s4, .int .u64 s5, .int .u64 s6, .int .u64 s7, .int .u64 s8, .int .u64 s9]) (by simp [results, Try.results68, go_sem]) rfl ⟨0, 0, s0, s1, s2, s3, s4, s5, s6, s7, s8, s9, rfl, ⟨ho, ho, f0.out.2, f1.out.2, f2.out.2, f3.out.2, f4.out.2, f5.out.2, f6.out.2, f7.out.2, f8.out.2, f9.out.2⟩, ?_, ?_⟩
  · refine ⟨n9 / 2 ^ (64 - r).toNat + n10 * 2 ^ r.toNat + 18446744073709551616 * (n11 * 2 ^ r.toNat), ?_⟩
    rw [pw_parts z r 2 hz0 h1 h2, show ((2 : Int) ^ (64 * 2)) = 340282366920938463463374607431768211456 from by decide]
    exact high_val2 n0 n1 n2 n3 n4 n5 n6 n7 n8 n9 n10 n11 s0 s1 s2 s3 s4 s5 s6 s7 s8 s9 _ _ (pw_split r hr0 hr) f0.out.1 f1.out.1 f2.out.1 f3.out.1 f4.out.1 f5.out.1 f6.out.1 f7.out.1 f8.out.1 f9.out.1
  · go_grown

set_option maxHeartbeats 4000000 in
theorem raise_3 (n0 n1 n2 n3 n4 n5 n6 n7 n8 n9 n10 n11 z r : Int) (hn : Wl n0 n1 n2 n3 n4 n5 n6 n7 n8 n9 n10 n11) (hz0 : 0 ≤ z) (hr0 : 0 ≤ r) (hr : r < 64) (h1 : z / 64 = 3) (h2 : z % 64 = r) (w : World) :
    Calls Try.prog 68 #[.agg #[.int .u64 n0, .int .u64 n1, .int .u64 n2, .int .u64 n3, .int .u64 n4, .int .u64 n5, .int .u64 n6, .int .u64 n7, .int .u64 n8, .int .u64 n9, .int .u64 n10, .int .u64 n11], .int .u64 z] w fun e w' =>
      ∃ t0 t1 t2 t3 t4 t5 t6 t7 t8 t9 t10 t11 : Int, e = .returned (.agg #[.int .u64 t0, .int .u64 t1, .int .u64 t2, .int .u64 t3, .int .u64 t4, .int .u64 t5, .int .u64 t6, .int .u64 t7, .int .u64 t8, .int .u64 t9, .int .u64 t10, .int .u64 t11]) ∧ Wl t0 t1 t2 t3 t4 t5 t6 t7 t8 t9 t10 t11 ∧ Hid (∃ k : Int, vlong t0 t1 t2 t3 t4 t5 t6 t7 t8 t9 t10 t11 + 1552518092300708935148979488462502555256886017116696611139052038026050952686376886330878408828646477950487730697131073206171580044114814391444287275041181139204454976020849905550265285631598444825262999193716468750892846853816057856 * k = vlong n0 n1 n2 n3 n4 n5 n6 n7 n8 n9 n10 n11 * 2 ^ z.toNat) ∧ Below w.heap.size w w' := by
  obtain ⟨hn0, hn1, hn2, hn3, hn4, hn5, hn6, hn7, hn8, hn9, hn10, hn11⟩ := hn
  obtain ⟨s0, q0, f0⟩ := wrap_high n0 r hr0 hr
  obtain ⟨s1, q1, f1⟩ := high_v n1 n0 r hn1 hn0 hr0 hr
  obtain ⟨s2, q2, f2⟩ := high_v n2 n1 r hn2 hn1 hr0 hr
  obtain ⟨s3, q3, f3⟩ := high_v n3 n2 r hn3 hn2 hr0 hr
  obtain ⟨s4, q4, f4⟩ := high_v n4 n3 r hn4 hn3 hr0 hr
  obtain ⟨s5, q5, f5⟩ := high_v n5 n4 r hn5 hn4 hr0 hr
  obtain ⟨s6, q6, f6⟩ := high_v n6 n5 r hn6 hn5 hr0 hr
  obtain ⟨s7, q7, f7⟩ := high_v n7 n6 r hn7 hn6 hr0 hr
  obtain ⟨s8, q8, f8⟩ := high_v n8 n7 r hn8 hn7 hr0 hr
  have ho : Pt 0 := ⟨by decide, by decide⟩
  go_enter Try.func68, Try.ntmps68
  go_wp2
  refine wp_loop_rounds 13 ?_
  rw [rounds_succ]; go_wp2
  rw [rounds_succ]; go_wp2
  go_region
  go_wp2
  rw [rounds_succ]; go_wp2
  go_region
  go_wp2
  rw [rounds_succ]; go_wp2
  go_region
  go_wp2
  rw [rounds_succ]; go_wp2
  go_region
  go_wp2
  rw [rounds_succ]; go_wp2
  go_region
  go_wp2
  rw [rounds_succ]; go_wp2
  go_region
  go_wp2
  rw [rounds_succ]; go_wp2
  go_region
  go_wp2
  rw [rounds_succ]; go_wp2
  go_region
  go_wp2
  rw [rounds_succ]; go_wp2
  refine bodyPost_ret (v := .agg #[.int .u64 0, .int .u64 0, .int .u64 0, .int .u64 s0, .int .u64 s1, .int .u64 s2, .int .u64 s3, .int .u64 s4, .int .u64 s5, .int .u64 s6, .int .u64 s7, .int .u64 s8]) (by simp [results, Try.results68, go_sem]) rfl ⟨0, 0, 0, s0, s1, s2, s3, s4, s5, s6, s7, s8, rfl, ⟨ho, ho, ho, f0.out.2, f1.out.2, f2.out.2, f3.out.2, f4.out.2, f5.out.2, f6.out.2, f7.out.2, f8.out.2⟩, ?_, ?_⟩
  · refine ⟨n8 / 2 ^ (64 - r).toNat + n9 * 2 ^ r.toNat + 18446744073709551616 * (n10 * 2 ^ r.toNat) + 340282366920938463463374607431768211456 * (n11 * 2 ^ r.toNat), ?_⟩
    rw [pw_parts z r 3 hz0 h1 h2, show ((2 : Int) ^ (64 * 3)) = 6277101735386680763835789423207666416102355444464034512896 from by decide]
    exact high_val3 n0 n1 n2 n3 n4 n5 n6 n7 n8 n9 n10 n11 s0 s1 s2 s3 s4 s5 s6 s7 s8 _ _ (pw_split r hr0 hr) f0.out.1 f1.out.1 f2.out.1 f3.out.1 f4.out.1 f5.out.1 f6.out.1 f7.out.1 f8.out.1
  · go_grown

theorem raise_any (n0 n1 n2 n3 n4 n5 n6 n7 n8 n9 n10 n11 z : Int) (hn : Wl n0 n1 n2 n3 n4 n5 n6 n7 n8 n9 n10 n11) (hz0 : 0 ≤ z) (hz : z < 256) (w : World) :
    Calls Try.prog 68 #[.agg #[.int .u64 n0, .int .u64 n1, .int .u64 n2, .int .u64 n3, .int .u64 n4, .int .u64 n5, .int .u64 n6, .int .u64 n7, .int .u64 n8, .int .u64 n9, .int .u64 n10, .int .u64 n11], .int .u64 z] w fun e w' =>
      ∃ t0 t1 t2 t3 t4 t5 t6 t7 t8 t9 t10 t11 : Int, e = .returned (.agg #[.int .u64 t0, .int .u64 t1, .int .u64 t2, .int .u64 t3, .int .u64 t4, .int .u64 t5, .int .u64 t6, .int .u64 t7, .int .u64 t8, .int .u64 t9, .int .u64 t10, .int .u64 t11]) ∧ Wl t0 t1 t2 t3 t4 t5 t6 t7 t8 t9 t10 t11 ∧ Hid (∃ k : Int, vlong t0 t1 t2 t3 t4 t5 t6 t7 t8 t9 t10 t11 + 1552518092300708935148979488462502555256886017116696611139052038026050952686376886330878408828646477950487730697131073206171580044114814391444287275041181139204454976020849905550265285631598444825262999193716468750892846853816057856 * k = vlong n0 n1 n2 n3 n4 n5 n6 n7 n8 n9 n10 n11 * 2 ^ z.toNat) ∧ Below w.heap.size w w' := by
  have hc : z / 64 = 0 ∨ z / 64 = 1 ∨ z / 64 = 2 ∨ z / 64 = 3 := by omega
  rcases hc with h | h | h | h
  · exact raise_0 n0 n1 n2 n3 n4 n5 n6 n7 n8 n9 n10 n11 z (z % 64) hn hz0 (by omega) (by omega) h rfl w
  · exact raise_1 n0 n1 n2 n3 n4 n5 n6 n7 n8 n9 n10 n11 z (z % 64) hn hz0 (by omega) (by omega) h rfl w
  · exact raise_2 n0 n1 n2 n3 n4 n5 n6 n7 n8 n9 n10 n11 z (z % 64) hn hz0 (by omega) (by omega) h rfl w
  · exact raise_3 n0 n1 n2 n3 n4 n5 n6 n7 n8 n9 n10 n11 z (z % 64) hn hz0 (by omega) (by omega) h rfl w
end Go.Proofs.Ytgapcjdgakamoaa
