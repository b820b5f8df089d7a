/- The prime is one; powers modulo a prime (Fermat); of a square there is one even root. Pure. No condition. -/
import Derived.Test.YteknhghmliihhaaDoorC7
namespace Go.Proofs.YteknhghmliihhaaDoor
open Go.RowKit

def chkD : Nat → Nat → Bool
  | 0, _ => true
  | n + 1, d => (PM % d != 0) && strictN (d + 1) (chkD n)
theorem chkD_spec : ∀ (n d : Nat), chkD n d = true → ∀ k, k < n → PM % (d + k) ≠ 0
  | 0, _, _, k, hk => absurd hk (Nat.not_lt_zero k)
  | n + 1, d, h, k, hk => by
    rw [chkD, strict_eq, Bool.and_eq_true, bne_iff_ne] at h
    cases k with
    | zero => exact h.1
    | succ k =>
      have := chkD_spec n (d + 1) h.2 k (by omega)
      rw [show d + (k + 1) = d + 1 + k by omega]
      exact this
set_option maxRecDepth 100000 in
theorem chk_all : (List.range 47).all (fun i => chkD 1000 (2 + 1000 * i)) = true := by decide +kernel
theorem no_small (d : Nat) (h2 : 2 ≤ d) (h : d < 47000) : ¬ d ∣ PM := by
  intro hd
  have h1 := List.all_eq_true.1 chk_all ((d - 2) / 1000) (List.mem_range.2 (by omega))
  have h3 := chkD_spec 1000 _ h1 ((d - 2) % 1000) (by omega)
  rw [show 2 + 1000 * ((d - 2) / 1000) + (d - 2) % 1000 = d by omega] at h3
  exact h3 (Nat.mod_eq_zero_of_dvd hd)
def IsP (p : Nat) : Prop := 2 ≤ p ∧ ∀ d, d ∣ p → d = 1 ∨ d = p
theorem pm_prime : IsP PM := by
  refine ⟨by decide, fun d hd => ?_⟩
  obtain ⟨e, he⟩ := hd
  obtain ⟨q, hq⟩ : ∃ q, PM = q := ⟨_, rfl⟩
  have hq2 : q = 2147482867 := by rw [← hq]
  by_cases h1 : d = 1
  · exact .inl h1
  · by_cases h0 : d = 0
    · subst h0
      rw [Nat.zero_mul] at he
      exact absurd he (by decide)
    · by_cases hs : d < 47000
      · exact absurd ⟨e, he⟩ (no_small d (by omega) hs)
      · by_cases e1 : e = 1
        · subst e1; rw [Nat.mul_one] at he; exact .inr he.symm
        · by_cases e0 : e = 0
          · subst e0; rw [Nat.mul_zero] at he; exact absurd he (by decide)
          · have hes : e < 47000 := by
              apply Nat.lt_of_not_le
              intro hle
              have := Nat.mul_le_mul (Nat.le_of_not_lt hs) hle
              rw [← he] at this
              exact absurd this (by decide)
            exact absurd ⟨d, by rw [Nat.mul_comm]; exact he⟩ (no_small e (by omega) hes)
theorem IsP.cop {p : Nat} (hp : IsP p) {a : Nat} (h : ¬ p ∣ a) : Nat.Coprime p a := by
  rcases hp.2 (Nat.gcd p a) (Nat.gcd_dvd_left p a) with h1 | h1
  · exact h1
  · exact absurd (h1 ▸ Nat.gcd_dvd_right p a) h
theorem IsP.split {p : Nat} (hp : IsP p) {a b : Nat} (h : p ∣ a * b) : p ∣ a ∨ p ∣ b := by
  by_cases ha : p ∣ a
  · exact .inl ha
  · exact .inr ((hp.cop ha).dvd_of_dvd_mul_left h)
/-- How many ways. -/
def chN : Nat → Nat → Nat
  | _, 0 => 1
  | 0, _ + 1 => 0
  | n + 1, k + 1 => chN n k + chN n (k + 1)
theorem ch_0 (n : Nat) : chN n 0 = 1 := by cases n <;> rfl
theorem ch_gt : ∀ (n k : Nat), n < k → chN n k = 0
  | 0, k + 1, _ => rfl
  | n + 1, k + 1, h => by rw [chN, ch_gt n k (by omega), ch_gt n (k + 1) (by omega)]
theorem ch_self : ∀ n, chN n n = 1
  | 0 => rfl
  | n + 1 => by rw [chN, ch_self n, ch_gt n (n + 1) (by omega)]
theorem ch_mul : ∀ (n k : Nat), (k + 1) * chN (n + 1) (k + 1) = (n + 1) * chN n k
  | 0, k => by
    rw [chN]
    cases k with
    | zero => rfl
    | succ k => simp [chN]
  | n + 1, k => by
    rw [chN, Nat.mul_add, ch_mul n k]
    cases k with
    | zero => rw [ch_0, ch_0]; omega
    | succ j =>
      have h1 := ch_mul n j
      have h2 : chN (n + 1) (j + 1) = chN n j + chN n (j + 1) := rfl
      have e1 : (j + 1 + 1) * chN (n + 1) (j + 1) = chN (n + 1) (j + 1) + (j + 1) * chN (n + 1) (j + 1) := by rw [Nat.add_mul (j + 1) 1, Nat.one_mul, Nat.add_comm]
      rw [e1, h1, Nat.add_assoc, ← Nat.mul_add, ← h2, Nat.add_mul (n + 1) 1, Nat.one_mul, Nat.add_comm]
theorem ch_dvd {p : Nat} (hp : IsP p) (k : Nat) (h0 : 0 < k) (hk : k < p) : p ∣ chN p k := by
  obtain ⟨q, rfl⟩ : ∃ q, p = q + 1 := ⟨p - 1, by have := hp.1; omega⟩
  obtain ⟨j, rfl⟩ : ∃ j, k = j + 1 := ⟨k - 1, by omega⟩
  have h : (q + 1) ∣ (j + 1) * chN (q + 1) (j + 1) := ⟨_, ch_mul q j⟩
  rcases hp.split h with h1 | h1
  · exact absurd (Nat.le_of_dvd (by omega) h1) (by omega)
  · exact h1
def bsN (n a : Nat) : Nat → Nat
  | 0 => 0
  | m + 1 => bsN n a m + chN n m * a ^ m
theorem bs_step (n a : Nat) : ∀ m, bsN (n + 1) a (m + 1) = a * bsN n a m + bsN n a (m + 1)
  | 0 => by simp [bsN, ch_0]
  | m + 1 => by
    rw [bsN, bs_step n a m]
    have e1 : chN (n + 1) (m + 1) = chN n m + chN n (m + 1) := rfl
    have e2 : bsN n a (m + 1) = bsN n a m + chN n m * a ^ m := rfl
    have e3 : bsN n a (m + 1 + 1) = bsN n a (m + 1) + chN n (m + 1) * a ^ (m + 1) := rfl
    have e4 : a * bsN n a (m + 1) = a * bsN n a m + chN n m * a ^ (m + 1) := by
      rw [e2, Nat.mul_add, Nat.pow_succ, Nat.mul_left_comm, Nat.mul_comm a (a ^ m)]
    rw [e3, e4, e1, Nat.add_mul]
    omega
theorem binom (a : Nat) : ∀ n, (a + 1) ^ n = bsN n a (n + 1)
  | 0 => by simp [bsN, ch_0]
  | n + 1 => by
    rw [bs_step, Nat.pow_succ, binom a n, Nat.mul_add, Nat.mul_one, Nat.mul_comm]
    have : bsN n a (n + 1 + 1) = bsN n a (n + 1) := by
      rw [bsN, ch_gt n (n + 1) (by omega), Nat.zero_mul, Nat.add_zero]
    rw [this]
theorem bs_mod {p : Nat} (hp : IsP p) (a : Nat) : ∀ m, m < p → bsN p a (m + 1) % p = 1 % p
  | 0, _ => by simp [bsN, ch_0]
  | m + 1, h => by
    rw [bsN, Nat.add_mod, bs_mod hp a m (by omega)]
    have : chN p (m + 1) * a ^ (m + 1) % p = 0 := by
      obtain ⟨c, hc⟩ := ch_dvd hp (m + 1) (by omega) h
      rw [hc, Nat.mul_assoc, Nat.mul_mod_right]
    rw [this, Nat.add_zero, Nat.mod_mod]
theorem fermat {p : Nat} (hp : IsP p) : ∀ a, a ^ p % p = a % p
  | 0 => by rw [Nat.zero_pow (by have := hp.1; omega)]
  | a + 1 => by
    have h2 := hp.1
    rw [binom, bsN, ch_self, Nat.one_mul, Nat.add_mod, fermat hp a]
    obtain ⟨q, rfl⟩ : ∃ q, p = q + 1 := ⟨p - 1, by omega⟩
    rw [bs_mod hp a q (by omega), ← Nat.add_mod, Nat.add_comm]
theorem sq_pow (y k : Nat) : muN (pwN (muN y y) k) (pwN (muN y y) k) = y ^ (2 * (k + k)) % PM := by
  rw [pw_pow, mu_eq, mu_eq, ← Nat.mul_mod, ← Nat.pow_add, ← Nat.pow_mod, ← Nat.pow_two, ← Nat.pow_mul]
/-- A square has a root. -/
theorem ro_sq (y : Nat) : roB (muN y y) = true := by
  unfold roB
  refine decide_eq_true ?_
  unfold rtN
  rw [Nat.mod_eq_of_lt (mu_lt y y), sq_pow, mu_eq]
  rw [show 2 * (536870717 + 536870717) = PM + 1 from rfl, Nat.pow_succ, Nat.mul_mod, fermat pm_prime, ← Nat.mul_mod]
theorem root_two (r y : Nat) (hr : r < PM) (hy : y < PM) (h : muN r r = muN y y) : r = y ∨ r + y = PM := by
  rw [mu_eq, mu_eq] at h
  have key : ∀ r y, r < PM → y < PM → y ≤ r → r * r % PM = y * y % PM → r = y ∨ r + y = PM := by
    intro r y hr hy hle h
    obtain ⟨d, rfl⟩ : ∃ d, r = y + d := ⟨r - y, by omega⟩
    have e : (y + d) * (y + d) = y * y + d * (y + d + y) := by
      simp only [Nat.add_mul, Nat.mul_add, Nat.mul_comm y d]; omega
    have h' : PM ∣ d * (y + d + y) := by
      have h1 := (Nat.sub_mod_eq_zero_of_mod_eq h)
      rw [e, Nat.add_sub_cancel_left] at h1
      exact Nat.dvd_of_mod_eq_zero h1
    rcases pm_prime.split h' with ⟨c, hc⟩ | ⟨c, hc⟩
    · left
      cases c with
      | zero => rw [Nat.mul_zero] at hc; omega
      | succ c => rw [Nat.mul_add, Nat.mul_one] at hc; omega
    · match c, hc with
      | 0, hc => left; rw [Nat.mul_zero] at hc; omega
      | 1, hc => right; rw [Nat.mul_one] at hc; exact hc
      | c + 2, hc => exfalso; rw [Nat.mul_add] at hc; omega
  by_cases hle : y ≤ r
  · exact key r y hr hy hle h
  · rcases key y r hy hr (by omega) h.symm with e | e
    · exact .inl e.symm
    · right; omega
/-- The root of a number that is a square: the even one. -/
theorem ro_of (y : Nat) (hy : y < PM) (a : Nat) (ha : muN y y = a) : roB a = true ∧ (y % 2 = 0 → roN a = y) ∧ (y % 2 = 1 → sbN 0 (roN a) = y) := by
  subst ha
  have hb := ro_sq y
  have he := ro_even _ hb
  have hl := ro_lt (muN y y)
  obtain ⟨r, hr⟩ : ∃ r, roN (muN y y) = r := ⟨_, rfl⟩
  rw [hr] at he hl ⊢
  have e1 : muN r r = muN y y := by
    rw [he.1, ad_eq, Nat.add_zero, Nat.mod_eq_of_lt (mu_lt y y)]
  refine ⟨hb, fun h0 => ?_, fun h1 => ?_⟩
  · rcases root_two r y hl hy e1 with e | e
    · exact e
    · have := he.2
      unfold PM at e
      omega
  · rcases root_two r y hl hy e1 with e | e
    · have := he.2
      omega
    · unfold sbN PM at *
      omega
end Go.Proofs.YteknhghmliihhaaDoor
