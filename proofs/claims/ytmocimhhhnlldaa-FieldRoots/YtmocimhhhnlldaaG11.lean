/- What shown does, and the laws' walks. No condition. -/
import Derived.Test.YtmocimhhhnlldaaG10
namespace Go.Proofs.Ytmocimhhhnlldaa
open Go.RowKit Go.Shelf Go.Sort

set_option maxRecDepth 20000 in
set_option maxHeartbeats 4000000 in
theorem shown9_any (w : World) :
    Calls Try.prog 9 #[] w fun e w' => e = .returned (.bool true) ∧ Below w.heap.size w w' := by
  have C1 := sub_any 0 1 (by unfold U64; omega) (by unfold U64; omega)
  rw [show sbN 0 1 = 2147482866 from by decide +kernel] at C1
  have C2 := mul_any 2147482866 2147482866 (by unfold U64; omega) (by unfold U64; omega)
  rw [show muN 2147482866 2147482866 = 1 from by decide +kernel] at C2
  have C3 := mul2_any ⟨0, 1⟩ ⟨0, 1⟩ ⟨(by show (_ : Nat) < 18446744073709551616; decide), (by show (_ : Nat) < 18446744073709551616; decide)⟩ ⟨(by show (_ : Nat) < 18446744073709551616; decide), (by show (_ : Nat) < 18446744073709551616; decide)⟩
  rw [show m2 ⟨0, 1⟩ ⟨0, 1⟩ = ⟨2147482866, 0⟩ from (by have h1 : sbN (muN 0 0) (muN 1 1) = 2147482866 := (by decide +kernel); have h2 : adN (muN 0 1) (muN 1 0) = 0 := (by decide +kernel); show P2.mk (sbN (muN 0 0) (muN 1 1)) (adN (muN 0 1) (muN 1 0)) = _; rw [h1, h2])] at C3
  go_enter Try.func9, Try.ntmps9
  go_wp2_with fail
  refine (C1 _).mono ?_
  rintro e w1 ⟨rfl, B1⟩
  have BW := belowStep (n := w.heap.size) (w := w) (by go_grown) (by first | exact Nat.le_refl _ | simp | (simp; omega)) B1
  clear B1
  go_wp2_with fail
  refine (C2 _).mono ?_
  rintro e w2 ⟨rfl, B2⟩
  replace BW := belowStep BW BW.size B2
  clear B2
  go_wp2_with fail
  refine (C3 _).mono ?_
  rintro e w3 ⟨rfl, B3⟩
  replace BW := belowStep BW BW.size B3
  clear B3
  go_wp2_with fail
  go_ret
  exact ⟨rfl, BW⟩

set_option maxRecDepth 20000 in
set_option maxHeartbeats 4000000 in
theorem reckons_any (a b : Nat) (ha : U64 a) (hb : U64 b) (w : World) :
    Calls Try.prog 3 #[.int .u64 a, .int .u64 b] w fun e w' => e = .returned (.bool true) ∧ Below w.heap.size w w' := by
  go_enter Try.func3, Try.ntmps3
  go_wp2_with fail
  refine (shown9_any _).mono ?_
  rintro e w1 ⟨rfl, B1⟩
  have BW := belowStep (n := w.heap.size) (w := w) (by go_grown) (by first | exact Nat.le_refl _ | simp | (simp; omega)) B1
  clear B1
  go_wp2_with fail
  refine (root_any a ha _).mono ?_
  rintro e w2 ⟨rfl, B2⟩
  replace BW := belowStep BW BW.size B2
  clear B2
  go_wp2_with fail
  refine (rroot_any a ha _).mono ?_
  rintro e w3 ⟨rfl, B3⟩
  replace BW := belowStep BW BW.size B3
  clear B3
  go_wp2_with fail
  refine (add_any a b ha hb _).mono ?_
  rintro e w4 ⟨rfl, B4⟩
  replace BW := belowStep BW BW.size B4
  clear B4
  go_wp2_with fail
  refine (radd_any a b ha hb _).mono ?_
  rintro e w5 ⟨rfl, B5⟩
  replace BW := belowStep BW BW.size B5
  clear B5
  go_wp2_with fail
  refine (sub_any a b ha hb _).mono ?_
  rintro e w6 ⟨rfl, B6⟩
  replace BW := belowStep BW BW.size B6
  clear B6
  go_wp2_with fail
  refine (rsub_any a b ha hb _).mono ?_
  rintro e w7 ⟨rfl, B7⟩
  replace BW := belowStep BW BW.size B7
  clear B7
  go_wp2_with fail
  refine (mul_any a b ha hb _).mono ?_
  rintro e w8 ⟨rfl, B8⟩
  replace BW := belowStep BW BW.size B8
  clear B8
  go_wp2_with fail
  refine (rmul_any a b ha hb _).mono ?_
  rintro e w9 ⟨rfl, B9⟩
  replace BW := belowStep BW BW.size B9
  clear B9
  go_wp2_with fail
  refine (pow_any a b ha hb _).mono ?_
  rintro e w10 ⟨rfl, B10⟩
  replace BW := belowStep BW BW.size B10
  clear B10
  go_wp2_with fail
  refine (rpow_any a b ha hb _).mono ?_
  rintro e w11 ⟨rfl, B11⟩
  replace BW := belowStep BW BW.size B11
  clear B11
  go_wp2_with fail
  refine (inv_any a ha _).mono ?_
  rintro e w12 ⟨rfl, B12⟩
  replace BW := belowStep BW BW.size B12
  clear B12
  go_wp2_with fail
  refine (rinv_any a ha _).mono ?_
  rintro e w13 ⟨rfl, B13⟩
  replace BW := belowStep BW BW.size B13
  clear B13
  go_wp2_with fail
  go_ret
  exact ⟨rfl, BW⟩

set_option maxRecDepth 20000 in
set_option maxHeartbeats 4000000 in
theorem laws_any (a b c : Nat) (ha : U64 a) (hb : U64 b) (hc : U64 c) (w : World) :
    Calls Try.prog 5 #[.int .u64 a, .int .u64 b, .int .u64 c] w fun e w' => e = .returned (.bool true) ∧ Below w.heap.size w w' := by
  obtain ⟨n, hn⟩ : ∃ n, a % 1000 = n := ⟨_, rfl⟩
  obtain ⟨m, hm⟩ : ∃ n, b % 1000 = n := ⟨_, rfl⟩
  have en : (a : Int) % 1000 = n := by omega
  have em : (b : Int) % 1000 = m := by omega
  have un : U64 n := by unfold U64; omega
  have um : U64 m := by unfold U64; omega
  obtain ⟨q, hq⟩ : ∃ q, n + m = q := ⟨_, rfl⟩
  have ew : IntKind.u64.wrap ((n : Int) + m) = q := by rw [IntKind.wrap_u64]; omega
  have uq : U64 q := by unfold U64; omega
  have um1 : ∀ x y, U64 (muN x y) := fun x y => pm_u _ (mu_lt x y)
  have ua1 : ∀ x y, U64 (adN x y) := fun x y => pm_u _ (ad_lt x y)
  have us1 : ∀ x y, U64 (sbN x y) := fun x y => pm_u _ (sb_lt x y)
  have up1 : ∀ x y, U64 (pwN x y) := fun x y => pm_u _ (pw_lt x y)
  have C1 := mul_any a b ha hb
  have C2 := mul_any b a hb ha
  rw [mu_comm b a] at C2
  have C3 := add_any a b ha hb
  have C4 := add_any b a hb ha
  rw [ad_comm b a] at C4
  have C5 := add_any b c hb hc
  have C6 := mul_any a (adN b c) ha (ua1 _ _)
  have C7 := mul_any a c ha hc
  have C8 := add_any (muN a b) (muN a c) (um1 _ _) (um1 _ _)
  rw [← mu_ad] at C8
  have C9 := sub_any a b ha hb
  have C10 := add_any (sbN a b) b (us1 _ _) hb
  rw [sb_ad] at C10
  have C11 := add_any a 0 ha (by unfold U64; omega)
  have C12 := pow_any c q hc uq
  have C13 := pow_any c n hc un
  have C14 := pow_any c m hc um
  have C15 := mul_any (pwN c n) (pwN c m) (up1 _ _) (up1 _ _)
  rw [← pw_add, hq] at C15
  have C16 := mul_any b c hb hc
  have C17 := mul_any a (muN b c) ha (um1 _ _)
  have C18 := mul_any (muN a b) c (um1 _ _) hc
  rw [← mu_assoc] at C18
  clear hn hm hq
  go_enter Try.func5, Try.ntmps5
  go_wp2_with fail
  refine (shown9_any _).mono ?_
  rintro e w1 ⟨rfl, B1⟩
  have BW := belowStep (n := w.heap.size) (w := w) (by go_grown) (by first | exact Nat.le_refl _ | simp | (simp; omega)) B1
  clear B1
  go_wp2_with fail
  refine (C1 _).mono ?_
  rintro e w2 ⟨rfl, B2⟩
  replace BW := belowStep BW BW.size B2
  clear B2
  go_wp2_with fail
  refine (C2 _).mono ?_
  rintro e w3 ⟨rfl, B3⟩
  replace BW := belowStep BW BW.size B3
  clear B3
  go_wp2_with fail
  refine (C3 _).mono ?_
  rintro e w4 ⟨rfl, B4⟩
  replace BW := belowStep BW BW.size B4
  clear B4
  go_wp2_with fail
  refine (C4 _).mono ?_
  rintro e w5 ⟨rfl, B5⟩
  replace BW := belowStep BW BW.size B5
  clear B5
  go_wp2_with fail
  refine (C5 _).mono ?_
  rintro e w6 ⟨rfl, B6⟩
  replace BW := belowStep BW BW.size B6
  clear B6
  go_wp2_with fail
  refine (C6 _).mono ?_
  rintro e w7 ⟨rfl, B7⟩
  replace BW := belowStep BW BW.size B7
  clear B7
  go_wp2_with fail
  refine (C1 _).mono ?_
  rintro e w8 ⟨rfl, B8⟩
  replace BW := belowStep BW BW.size B8
  clear B8
  go_wp2_with fail
  refine (C7 _).mono ?_
  rintro e w9 ⟨rfl, B9⟩
  replace BW := belowStep BW BW.size B9
  clear B9
  go_wp2_with fail
  refine (C8 _).mono ?_
  rintro e w10 ⟨rfl, B10⟩
  replace BW := belowStep BW BW.size B10
  clear B10
  go_wp2_with fail
  refine (C9 _).mono ?_
  rintro e w11 ⟨rfl, B11⟩
  replace BW := belowStep BW BW.size B11
  clear B11
  go_wp2_with fail
  refine (C10 _).mono ?_
  rintro e w12 ⟨rfl, B12⟩
  replace BW := belowStep BW BW.size B12
  clear B12
  go_wp2_with fail
  refine (C11 _).mono ?_
  rintro e w13 ⟨rfl, B13⟩
  replace BW := belowStep BW BW.size B13
  clear B13
  go_wp2_with fail
  refine (C12 _).mono ?_
  rintro e w14 ⟨rfl, B14⟩
  replace BW := belowStep BW BW.size B14
  clear B14
  go_wp2_with fail
  refine (C13 _).mono ?_
  rintro e w15 ⟨rfl, B15⟩
  replace BW := belowStep BW BW.size B15
  clear B15
  go_wp2_with fail
  refine (C14 _).mono ?_
  rintro e w16 ⟨rfl, B16⟩
  replace BW := belowStep BW BW.size B16
  clear B16
  go_wp2_with fail
  refine (C15 _).mono ?_
  rintro e w17 ⟨rfl, B17⟩
  replace BW := belowStep BW BW.size B17
  clear B17
  go_wp2_with fail
  refine (C16 _).mono ?_
  rintro e w18 ⟨rfl, B18⟩
  replace BW := belowStep BW BW.size B18
  clear B18
  go_wp2_with fail
  refine (C17 _).mono ?_
  rintro e w19 ⟨rfl, B19⟩
  replace BW := belowStep BW BW.size B19
  clear B19
  go_wp2_with fail
  refine (C1 _).mono ?_
  rintro e w20 ⟨rfl, B20⟩
  replace BW := belowStep BW BW.size B20
  clear B20
  go_wp2_with fail
  refine (C18 _).mono ?_
  rintro e w21 ⟨rfl, B21⟩
  replace BW := belowStep BW BW.size B21
  clear B21
  go_wp2_with fail
  go_ret
  exact ⟨rfl, BW⟩

set_option maxRecDepth 20000 in
set_option maxHeartbeats 4000000 in
theorem roots_any (a : Nat) (ha : U64 a) (w : World) :
    Calls Try.prog 6 #[.int .u64 a] w fun e w' => e = .returned (.bool true) ∧ Below w.heap.size w w' := by
  have C0 := root_any a ha
  have C2 := add_any a 0 ha (by unfold U64; omega)
  cases hb : roB a with
  | false =>
    rw [hb, ro_none a hb] at C0
    go_enter Try.func6, Try.ntmps6
    go_wp2_with fail
    refine (shown9_any _).mono ?_
    rintro e w1 ⟨rfl, B1⟩
    have BW := belowStep (n := w.heap.size) (w := w) (by go_grown) (by first | exact Nat.le_refl _ | simp | (simp; omega)) B1
    clear B1
    go_wp2_with fail
    refine (C0 _).mono ?_
    rintro e w2 ⟨rfl, B2⟩
    replace BW := belowStep BW BW.size B2
    clear B2
    go_wp2_with fail
    go_ret
    exact ⟨rfl, BW⟩
  | true =>
    rw [hb] at C0
    obtain ⟨h1, h2⟩ := ro_even a hb
    obtain ⟨x, hx⟩ : ∃ x, roN a = x := ⟨_, rfl⟩
    have ux : U64 x := by rw [← hx]; exact pm_u _ (ro_lt a)
    rw [hx] at C0 h1 h2
    have C1 := mul_any x x ux ux
    rw [h1] at C1
    have e2 : (x : Int) % 2 = 0 := by omega
    go_enter Try.func6, Try.ntmps6
    go_wp2_with fail
    refine (shown9_any _).mono ?_
    rintro e w1 ⟨rfl, B1⟩
    have BW := belowStep (n := w.heap.size) (w := w) (by go_grown) (by first | exact Nat.le_refl _ | simp | (simp; omega)) B1
    clear B1
    go_wp2_with fail
    refine (C0 _).mono ?_
    rintro e w2 ⟨rfl, B2⟩
    replace BW := belowStep BW BW.size B2
    clear B2
    go_wp2_with fail
    refine (C1 _).mono ?_
    rintro e w3 ⟨rfl, B3⟩
    replace BW := belowStep BW BW.size B3
    clear B3
    go_wp2_with fail
    refine (C2 _).mono ?_
    rintro e w4 ⟨rfl, B4⟩
    replace BW := belowStep BW BW.size B4
    clear B4
    go_wp2_with fail
    go_ret
    exact ⟨rfl, BW⟩
end Go.Proofs.Ytmocimhhhnlldaa
