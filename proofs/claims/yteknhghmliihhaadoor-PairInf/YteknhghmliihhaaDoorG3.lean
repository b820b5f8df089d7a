/- What the reference's Pow does. No condition. -/
import Derived.Test.YteknhghmliihhaaDoorG2
namespace Go.Proofs.YteknhghmliihhaaDoor
open Go.RowKit Go.Sort

theorem and_one (k : Nat) (h : U64 k) : bits .and .u64 (k : Int) 1 = ((k % 2 : Nat) : Int) := by
  unfold U64 at h
  have e : (BitVec.ofInt 64 (k : Int) &&& BitVec.ofInt 64 1).toNat = k % 2 := by
    rw [BitVec.toNat_and]
    have a1 : (BitVec.ofInt 64 (k : Int)).toNat = k := by
      rw [BitVec.toNat_ofInt]; omega
    have a2 : (BitVec.ofInt 64 1).toNat = 1 := by decide
    rw [a1, a2, Nat.and_one_is_mod]
  show IntKind.u64.wrap ((BitVec.ofInt 64 (k : Int) &&& BitVec.ofInt 64 1).toNat : Int) = _
  rw [e]
  rw [IntKind.wrap_u64]
  omega
theorem pw_step (a n q : Nat) : pwN a (n / 2 ^ q) = if n / 2 ^ q % 2 = 1 then muN (muN (pwN a (n / 2 ^ (q + 1))) (pwN a (n / 2 ^ (q + 1)))) a else muN (pwN a (n / 2 ^ (q + 1))) (pwN a (n / 2 ^ (q + 1))) := by
  have e : n / 2 ^ (q + 1) = n / 2 ^ q / 2 := by rw [Nat.pow_succ, ← Nat.div_div_eq_div_mul]
  rw [e]
  split
  · next h => exact pw_odd a _ h
  · next h => exact pw_even a _ (by omega)
theorem q2_step (a : P2) (n q : Nat) : q2 a (n / 2 ^ q) = if n / 2 ^ q % 2 = 1 then m2 (m2 (q2 a (n / 2 ^ (q + 1))) (q2 a (n / 2 ^ (q + 1)))) a else m2 (q2 a (n / 2 ^ (q + 1))) (q2 a (n / 2 ^ (q + 1))) := by
  have e : n / 2 ^ (q + 1) = n / 2 ^ q / 2 := by rw [Nat.pow_succ, ← Nat.div_div_eq_div_mul]
  rw [e]
  split
  · next h => exact q2_odd a _ h
  · next h => exact q2_even a _ (by omega)

set_option maxRecDepth 20000 in
set_option maxHeartbeats 2000000 in
theorem rpow_any (a n : Nat) (ha : U64 a) (hn : U64 n) (w : World) :
    Calls Tryd.prog 60 #[.int .u64 a, .int .u64 n] w fun e w' => e = .returned (.int .u64 (pwN a n : Nat)) ∧ Below w.heap.size w w' := by
  go_enter Tryd.func60, Tryd.ntmps60
  go_wp2
  go_loopg [5, 6] 64 (fun gk o i wr => i = .int .i64 ((gk : Int) - 1) ∧ o = .int .u64 (pwN a (n / 2 ^ gk) : Nat) ∧ gk ≤ 64 ∧ Below w.heap.size w wr)
  case atStart =>
    refine ⟨rfl, ?_, by omega, Below.refl _ _⟩
    have : n / 2 ^ 64 = 0 := Nat.div_eq_of_lt hn
    rw [this, pw_0]
    rfl
  case round =>
    obtain ⟨rfl, rfl, hg, BW⟩ := hrel
    cases gk with
    | zero =>
      have e0 : pwN a (n / 2 ^ 0) = pwN a n := by rw [Nat.pow_zero, Nat.div_one]
      rw [e0]
      go_wp2
      go_ret
      exact ⟨rfl, BW⟩
    | succ q =>
      obtain ⟨x, hx⟩ : ∃ x, pwN a (n / 2 ^ (q + 1)) = x := ⟨_, rfl⟩
      obtain ⟨y, hy⟩ : ∃ y, n / 2 ^ q = y := ⟨_, rfl⟩
      have hxU : U64 x := by rw [← hx]; exact pm_u _ (pw_lt _ _)
      have hyU : U64 y := by rw [← hy]; exact Nat.lt_of_le_of_lt (Nat.div_le_self _ _) hn
      have st := pw_step a n q
      rw [hx, hy] at st
      obtain ⟨s, hs⟩ : ∃ s, muN x x = s := ⟨_, rfl⟩
      have hsU : U64 s := by rw [← hs]; exact pm_u _ (mu_lt _ _)
      rw [hs] at st
      have hd : (n : Int) / 2 ^ q = y := by rw [← hy]; simp [Int.natCast_ediv, Int.natCast_pow]
      have ha1 := and_one y hyU
      have C1 := rmul_any x x hxU hxU
      rw [hs] at C1
      have HH : Hid (_ ∧ _) := ⟨hy, st⟩
      rw [hx]
      clear hx hy st hs
      by_cases hb : y % 2 = 1
      · rw [hb] at ha1
        go_wp2_with fail
        refine (C1 _).mono ?_
        rintro e w1 ⟨rfl, B1⟩
        go_wp2_with fail
        refine (rmul_any s a hsU ha _).mono ?_
        rintro e w2 ⟨rfl, B2⟩
        go_wp2_with fail
        go_roundg q
        case measure => omega
        case rel =>
          refine ⟨by congr 1, ?_, by omega, (belowStep (belowStep BW BW.size B1) (Nat.le_trans BW.size B1.size) B2)⟩
          rw [HH.out.1, HH.out.2, if_pos hb]
      · rw [show y % 2 = 0 by omega] at ha1
        go_wp2_with fail
        refine (C1 _).mono ?_
        rintro e w1 ⟨rfl, B1⟩
        go_wp2_with fail
        go_roundg q
        case measure => omega
        case rel =>
          refine ⟨by congr 1, ?_, by omega, (belowStep BW BW.size B1)⟩
          rw [HH.out.1, HH.out.2, if_neg hb]
end Go.Proofs.YteknhghmliihhaaDoor
