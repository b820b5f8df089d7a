/- WordOrders' own statements, walked: for any two words the law returns true. No condition. -/
import Derived.Test.YtnmloambdpkbaaaLaw
namespace Go.Proofs.Ytnmloambdpkbaaa
open Go.RowKit Go.Shelf Go.Sort

theorem neg_iff (a0 a1 a2 a3 : Int) (ha : Ws a0 a1 a2 a3) : neg a3 = decide (57896044618658097711785492504343953926634992332820282019728792003956564819968 ≤ val a0 a1 a2 a3) := by
  obtain ⟨⟨_, _⟩, ⟨_, _⟩, ⟨_, _⟩, ⟨_, _⟩⟩ := ha
  unfold neg val
  rw [Bool.eq_iff_iff]; simp; omega

/-- A number moved by half of all. -/
def mov (x : Int) : Int := (x + 57896044618658097711785492504343953926634992332820282019728792003956564819968) % 115792089237316195423570985008687907853269984665640564039457584007913129639936

theorem sbl_mov (a0 a1 a2 a3 b0 b1 b2 b3 : Int) (ha : Ws a0 a1 a2 a3) (hb : Ws b0 b1 b2 b3) : sbl a3 b3 (val a0 a1 a2 a3) (val b0 b1 b2 b3) = blw (mov (val a0 a1 a2 a3)) (mov (val b0 b1 b2 b3)) := by
  have ea := val_bd _ _ _ _ ha
  have eb := val_bd _ _ _ _ hb
  unfold sbl blw mov
  rw [neg_iff a0 a1 a2 a3 ha, neg_iff b0 b1 b2 b3 hb]
  generalize val a0 a1 a2 a3 = x at *
  generalize val b0 b1 b2 b3 = y at *
  by_cases hx : 57896044618658097711785492504343953926634992332820282019728792003956564819968 ≤ x <;> by_cases hy : 57896044618658097711785492504343953926634992332820282019728792003956564819968 ≤ y <;> simp [hx, hy] <;> omega

theorem mov_inj (x y : Int) (hx : 0 ≤ x ∧ x < 115792089237316195423570985008687907853269984665640564039457584007913129639936) (hy : 0 ≤ y ∧ y < 115792089237316195423570985008687907853269984665640564039457584007913129639936) : mov x = mov y → x = y := by
  unfold mov; intro h; omega

theorem half_less (a0 a1 a2 a3 b0 b1 b2 b3 u0 u1 u2 u3 v0 v1 v2 v3 : Int) (ha : Ws a0 a1 a2 a3) (hb : Ws b0 b1 b2 b3) (hu : val u0 u1 u2 u3 = (val a0 a1 a2 a3 + val 0 0 0 9223372036854775808) % 115792089237316195423570985008687907853269984665640564039457584007913129639936) (hv : val v0 v1 v2 v3 = (val b0 b1 b2 b3 + val 0 0 0 9223372036854775808) % 115792089237316195423570985008687907853269984665640564039457584007913129639936) :
    blw (val u0 u1 u2 u3) (val v0 v1 v2 v3) = sbl a3 b3 (val a0 a1 a2 a3) (val b0 b1 b2 b3) := by
  rw [sbl_mov a0 a1 a2 a3 b0 b1 b2 b3 ha hb, hu, hv]
  rfl

set_option maxHeartbeats 4000000 in
theorem orders_core (a0 a1 a2 a3 b0 b1 b2 b3 : Int) (ha : Ws a0 a1 a2 a3) (hb : Ws b0 b1 b2 b3) (x y s t : Bool)
    (hx : blw (val a0 a1 a2 a3) (val b0 b1 b2 b3) = x) (hy : blw (val b0 b1 b2 b3) (val a0 a1 a2 a3) = y) (hs : sbl a3 b3 (val a0 a1 a2 a3) (val b0 b1 b2 b3) = s) (ht : sbl b3 a3 (val b0 b1 b2 b3) (val a0 a1 a2 a3) = t)
    (hc : (x = true ∧ y = false ∨ x = false ∧ y = true) ∧ (s = true ∧ t = false ∨ s = false ∧ t = true) ∧ val a0 a1 a2 a3 ≠ val b0 b1 b2 b3 ∨ x = false ∧ y = false ∧ s = false ∧ t = false ∧ val a0 a1 a2 a3 = val b0 b1 b2 b3) (w : World) :
    Calls Try.prog 5 #[.agg #[.int .u64 a0, .int .u64 a1, .int .u64 a2, .int .u64 a3], .agg #[.int .u64 b0, .int .u64 b1, .int .u64 b2, .int .u64 b3]] w fun e w' => e = .returned (.bool true) ∧ Below w.heap.size w w' := by
  have hh : Ws 0 0 0 9223372036854775808 := ⟨⟨by decide, by decide⟩, ⟨by decide, by decide⟩, ⟨by decide, by decide⟩, ⟨by decide, by decide⟩⟩
  have lx := less_any a0 a1 a2 a3 b0 b1 b2 b3 ha hb
  have ly := less_any b0 b1 b2 b3 a0 a1 a2 a3 hb ha
  have ls := sless_any a0 a1 a2 a3 b0 b1 b2 b3 ha hb
  have lt := sless_any b0 b1 b2 b3 a0 a1 a2 a3 hb ha
  rw [hx] at lx
  rw [hy] at ly
  rw [hs] at ls
  rw [ht] at lt
  obtain ⟨u0, u1, u2, u3, hu, huv, cu⟩ := exact4 (emod_bd _) (add_any a0 a1 a2 a3 0 0 0 9223372036854775808 ha hh)
  obtain ⟨v0, v1, v2, v3, hv, hvv, cv⟩ := exact4 (emod_bd _) (add_any b0 b1 b2 b3 0 0 0 9223372036854775808 hb hh)
  have cl := less_any u0 u1 u2 u3 v0 v1 v2 v3 hu hv
  rw [half_less a0 a1 a2 a3 b0 b1 b2 b3 u0 u1 u2 u3 v0 v1 v2 v3 ha hb huv.out hvv.out, hs] at cl
  have LX : Hid (∀ w : World, _) := lx
  have LY : Hid (∀ w : World, _) := ly
  have LS : Hid (∀ w : World, _) := ls
  have LT : Hid (∀ w : World, _) := lt
  have CU : Hid (∀ w : World, _) := cu
  have CV : Hid (∀ w : World, _) := cv
  have CL : Hid (∀ w : World, _) := cl
  have HC : Hid (_ ∨ _) := hc
  clear lx ly ls lt cu cv cl hx hy hs ht hc
  go_enter Try.func5, Try.ntmps5
  go_wp2_with fail
  refine (shown_any _).mono ?_
  rintro e w1 ⟨rfl, hb1⟩
  have A1 : Cw w.heap.size a0 a1 a2 a3 w1 := Cw.below (by repeat' (first | exact Cw.new _ _ _ _ _ _ | apply Cw.alloc | apply Cw.drew)) hb1
  have B1 : Cw (w.heap.size + 1) b0 b1 b2 b3 w1 := Cw.below (by repeat' (first | (simpa using Cw.new (w.alloc _) b0 b1 b2 b3 _) | apply Cw.alloc | apply Cw.drew)) hb1
  have E1 := belowStep (n := w.heap.size) (w := w) (by go_grown) (by (try simp) <;> omega) hb1
  clear hb1
  obtain ⟨za, ca0, ca1, ca2, ca3⟩ := id A1
  obtain ⟨zb, cb0, cb1, cb2, cb3⟩ := id B1
  go_wp2_with fail
  refine (LX.out _).mono ?_
  rintro e w2 ⟨rfl, hb2⟩
  have A2 : Cw w.heap.size a0 a1 a2 a3 w2 := Cw.below (by repeat' (first | exact A1 | apply Cw.alloc | apply Cw.drew)) hb2
  have B2 : Cw (w.heap.size + 1) b0 b1 b2 b3 w2 := Cw.below (by repeat' (first | exact B1 | apply Cw.alloc | apply Cw.drew)) hb2
  have H2 : Cw w1.heap.size 0 0 0 9223372036854775808 w2 := Cw.below (by repeat' (first | exact Cw.new _ _ _ _ _ _ | apply Cw.alloc | apply Cw.drew)) hb2
  have zw := E1.size
  have E2 := belowStep (n := w.heap.size) (w := w) (by go_grown) (by (try simp) <;> omega) hb2
  clear hb2 za ca0 ca1 ca2 ca3 zb cb0 cb1 cb2 cb3 A1 B1
  obtain ⟨za, ca0, ca1, ca2, ca3⟩ := id A2
  obtain ⟨zb, cb0, cb1, cb2, cb3⟩ := id B2
  go_wp2_with fail
  refine (LY.out _).mono ?_
  rintro e w3 ⟨rfl, hb3⟩
  have A3 := Cw.below A2 hb3
  have B3 := Cw.below B2 hb3
  have H3 := Cw.below H2 hb3
  have E3 := belowStep E2 E2.size hb3
  clear hb3 za ca0 ca1 ca2 ca3 zb cb0 cb1 cb2 cb3 A2 B2 H2
  obtain ⟨za, ca0, ca1, ca2, ca3⟩ := id A3
  obtain ⟨zb, cb0, cb1, cb2, cb3⟩ := id B3
  go_wp2_with fail
  refine (LS.out _).mono ?_
  rintro e w4 ⟨rfl, hb4⟩
  have A4 := Cw.below A3 hb4
  have B4 := Cw.below B3 hb4
  have H4 := Cw.below H3 hb4
  have E4 := belowStep E3 E3.size hb4
  clear hb4 za ca0 ca1 ca2 ca3 zb cb0 cb1 cb2 cb3 A3 B3 H3
  obtain ⟨za, ca0, ca1, ca2, ca3⟩ := id A4
  obtain ⟨zb, cb0, cb1, cb2, cb3⟩ := id B4
  go_wp2_with fail
  refine (LT.out _).mono ?_
  rintro e w5 ⟨rfl, hb5⟩
  have A5 := Cw.below A4 hb5
  have B5 := Cw.below B4 hb5
  have H5 := Cw.below H4 hb5
  have E5 := belowStep E4 E4.size hb5
  clear hb5 za ca0 ca1 ca2 ca3 zb cb0 cb1 cb2 cb3 A4 B4 H4 E1 E2 E3 E4
  go_wp2
  have k0 := cell_regrown A5.c0
  have k1 := cell_regrown A5.c1
  have k2 := cell_regrown A5.c2
  have k3 := cell_regrown A5.c3
  have l0 := cell_regrown B5.c0
  have l1 := cell_regrown B5.c1
  have l2 := cell_regrown B5.c2
  have l3 := cell_regrown B5.c3
  have h0 := cell_regrown H5.c0
  have h1 := cell_regrown H5.c1
  have h2 := cell_regrown H5.c2
  have h3 := cell_regrown H5.c3
  have qu := inClass (w := w5) CU.out
  have qv := inClass (w := w5) CV.out
  have ql := inClass (w := w5) CL.out
  rcases HC.out with ⟨hxy, hst, hne⟩ | ⟨rfl, rfl, rfl, rfl, he⟩
  · have hq : ∀ w : World, (Op.equalIn 10000 24 (.agg #[.int .u64 a0, .int .u64 a1, .int .u64 a2, .int .u64 a3]) (.agg #[.int .u64 b0, .int .u64 b1, .int .u64 b2, .int .u64 b3])).run Try.prog w = .ok false w := eq_word_no a0 a1 a2 a3 b0 b1 b2 b3 ha hb hne
    rcases hxy with ⟨rfl, rfl⟩ | ⟨rfl, rfl⟩ <;> rcases hst with ⟨rfl, rfl⟩ | ⟨rfl, rfl⟩
    all_goals
      refine wp_region_quiet_below (by kernel_rfl) (by kernel_rfl) ?_
      repeat (quiet_step (first | (go_at_call_of 14 a0; exact qu _ _) | (go_at_call_of 14 b0; exact qv _ _) | (go_at_call 13; exact ql _ _)))
      refine wpQuiet_nil ?_
      intro _ hw'
      obtain ⟨⟨dq, osq⟩, hw''⟩ := hw'
      subst hw''
      go_wp2
      go_ret
      exact ⟨rfl, belowStep E5 E5.size (below_regrown w5 dq osq)⟩
  · have hq : ∀ w : World, (Op.equalIn 10000 24 (.agg #[.int .u64 a0, .int .u64 a1, .int .u64 a2, .int .u64 a3]) (.agg #[.int .u64 b0, .int .u64 b1, .int .u64 b2, .int .u64 b3])).run Try.prog w = .ok true w := eq_word_yes a0 a1 a2 a3 b0 b1 b2 b3 ha hb he
    refine wp_region_quiet_below (by kernel_rfl) (by kernel_rfl) ?_
    repeat (quiet_step (first | (go_at_call_of 14 a0; exact qu _ _) | (go_at_call_of 14 b0; exact qv _ _) | (go_at_call 13; exact ql _ _)))
    refine wpQuiet_nil ?_
    intro _ hw'
    obtain ⟨⟨dq, osq⟩, hw''⟩ := hw'
    subst hw''
    go_wp2
    go_ret
    exact ⟨rfl, belowStep E5 E5.size (below_regrown w5 dq osq)⟩

theorem orders_any (a0 a1 a2 a3 b0 b1 b2 b3 : Int) (ha : Ws a0 a1 a2 a3) (hb : Ws b0 b1 b2 b3) (w : World) :
    Calls Try.prog 5 #[.agg #[.int .u64 a0, .int .u64 a1, .int .u64 a2, .int .u64 a3], .agg #[.int .u64 b0, .int .u64 b1, .int .u64 b2, .int .u64 b3]] w fun e w' => e = .returned (.bool true) ∧ Below w.heap.size w w' := by
  refine orders_core a0 a1 a2 a3 b0 b1 b2 b3 ha hb _ _ _ _ rfl rfl rfl rfl ?_ w
  have ea := val_bd _ _ _ _ ha
  have eb := val_bd _ _ _ _ hb
  have hi := mov_inj _ _ ea eb
  rw [sbl_mov a0 a1 a2 a3 b0 b1 b2 b3 ha hb, sbl_mov b0 b1 b2 b3 a0 a1 a2 a3 hb ha]
  unfold blw
  simp only [decide_eq_true_eq, decide_eq_false_iff_not]
  by_cases h : val a0 a1 a2 a3 = val b0 b1 b2 b3
  · right
    rw [h]
    exact ⟨by omega, by omega, by omega, by omega, rfl⟩
  · left
    have hm : mov (val a0 a1 a2 a3) ≠ mov (val b0 b1 b2 b3) := fun e => h (hi e)
    refine ⟨?_, ?_, h⟩ <;> omega
end Go.Proofs.Ytnmloambdpkbaaa
