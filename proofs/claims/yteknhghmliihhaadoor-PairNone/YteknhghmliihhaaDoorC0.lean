/- Points of a curve, pure: which there are, negatives, sums, multiples. No condition. -/
import Derived.Test.YteknhghmliihhaaDoorG3
namespace Go.Proofs.YteknhghmliihhaaDoor
open Go.RowKit

structure Pt where
  X : Nat
  Y : Nat
  I : Bool
deriving DecidableEq
theorem Pt.ext' {p q : Pt} (h1 : p.X = q.X) (h2 : p.Y = q.Y) (h3 : p.I = q.I) : p = q := by
  cases p; cases q; simp only at h1 h2 h3; subst h1 h2 h3; rfl
def iN : Pt := ⟨0, 0, true⟩
def oP : Pt := ⟨0, 0, false⟩
def sqN (x : Nat) : Nat := adN (muN (muN x x) x) x
theorem sq_lt (x : Nat) : sqN x < PM := ad_lt _ _
def onN (p : Pt) : Bool := if p.I then decide (p = iN) else decide (p.X < PM) && decide (p.Y < PM) && decide (muN p.Y p.Y = sqN p.X)
def ngN (p : Pt) : Pt := ⟨p.X, sbN 0 p.Y, p.I⟩
def ovN (a b : Nat) : Nat := muN a (ivN b)
def slN (p q : Pt) : Nat := if p = q then ovN (adN (muN 3 (muN p.X p.X)) 1) (adN p.Y p.Y) else ovN (sbN q.Y p.Y) (sbN q.X p.X)
theorem sl_lt (p q : Pt) : slN p q < PM := by unfold slN ovN; split <;> exact mu_lt _ _
def lnX (l : Nat) (p q : Pt) : Nat := sbN (sbN (muN l l) p.X) q.X
def lnY (l x : Nat) (p : Pt) : Nat := sbN (muN l (sbN p.X x)) p.Y
def lnN (l : Nat) (p q : Pt) : Pt := ⟨lnX l p q, lnY l (lnX l p q) p, false⟩
def smN (p q : Pt) : Pt := if p = iN then q else if q = iN then p else if q = ngN p then iN else lnN (slN p q) p q
/-- Numbers below the prime, and Inf told in one way alone. -/
def Wl (p : Pt) : Prop := p.X < PM ∧ p.Y < PM ∧ (p.I = true → p = iN)
theorem wl_inf : Wl iN := ⟨by decide, by decide, fun _ => rfl⟩
theorem wl_on {p : Pt} (h : onN p = true) : Wl p := by
  unfold onN at h
  split at h
  · have e : p = iN := of_decide_eq_true h
    rw [e]; exact wl_inf
  · next hi =>
    simp only [Bool.and_eq_true, decide_eq_true_eq] at h
    exact ⟨h.1.1, h.1.2, fun e => absurd e hi⟩
theorem wl_ng {p : Pt} (h : Wl p) : Wl (ngN p) := by
  refine ⟨h.1, sb_lt _ _, fun e => ?_⟩
  have : p = iN := h.2.2 e
  subst this
  rfl
theorem wl_sm {p q : Pt} (hp : Wl p) (hq : Wl q) : Wl (smN p q) := by
  unfold smN
  split
  · exact hq
  · split
    · exact hp
    · split
      · exact wl_inf
      · exact ⟨sb_lt _ _, sb_lt _ _, fun e => by cases e⟩
theorem wl_i {p : Pt} (h : Wl p) (hn : p ≠ iN) : p.I = false := by
  cases e : p.I
  · rfl
  · exact absurd (h.2.2 e) hn
theorem sm_inf (q : Pt) : smN iN q = q := by unfold smN; rw [if_pos rfl]
theorem inf_sm (p : Pt) : smN p iN = p := by
  unfold smN
  split
  · next h => exact h.symm
  · rw [if_pos rfl]
/-- N times, bit by bit. -/
def tmN (p : Pt) (n : Nat) : Pt := if h : n = 0 then iN else if n % 2 = 1 then smN (smN (tmN p (n / 2)) (tmN p (n / 2))) p else smN (tmN p (n / 2)) (tmN p (n / 2))
termination_by n
decreasing_by all_goals omega
theorem tm_0 (p : Pt) : tmN p 0 = iN := by rw [tmN, dif_pos rfl]
theorem tm_odd (p : Pt) (n : Nat) (h : n % 2 = 1) : tmN p n = smN (smN (tmN p (n / 2)) (tmN p (n / 2))) p := by rw [tmN, dif_neg (by omega), if_pos h]
theorem tm_even (p : Pt) (n : Nat) (h : n % 2 = 0) : tmN p n = smN (tmN p (n / 2)) (tmN p (n / 2)) := by
  by_cases h0 : n = 0
  · subst h0; rw [show 0 / 2 = 0 from rfl, tm_0, sm_inf]
  · rw [tmN, dif_neg h0, if_neg (by omega)]
theorem tm_step (p : Pt) (n q : Nat) : tmN p (n / 2 ^ q) = if n / 2 ^ q % 2 = 1 then smN (smN (tmN p (n / 2 ^ (q + 1))) (tmN p (n / 2 ^ (q + 1)))) p else smN (tmN p (n / 2 ^ (q + 1))) (tmN p (n / 2 ^ (q + 1))) := by
  have e : n / 2 ^ (q + 1) = n / 2 ^ q / 2 := by rw [Nat.pow_succ, ← Nat.div_div_eq_div_mul]
  rw [e]
  split
  · next h => exact tm_odd p _ h
  · next h => exact tm_even p _ (by omega)
theorem wl_tm (p : Pt) (h : Wl p) (n : Nat) : Wl (tmN p n) := by
  induction n using Nat.strongRecOn with
  | ind n ih =>
    by_cases h0 : n = 0
    · subst h0; rw [tm_0]; exact wl_inf
    · have e := ih (n / 2) (by omega)
      by_cases h1 : n % 2 = 1
      · rw [tm_odd p n h1]; exact wl_sm (wl_sm e e) h
      · rw [tm_even p n (by omega)]; exact wl_sm e e
theorem tm_inf (n : Nat) : tmN iN n = iN := by
  induction n using Nat.strongRecOn with
  | ind n ih =>
    by_cases h0 : n = 0
    · subst h0; rw [tm_0]
    · have e := ih (n / 2) (by omega)
      by_cases h1 : n % 2 = 1
      · rw [tm_odd _ n h1, e, sm_inf, sm_inf]
      · rw [tm_even _ n (by omega), e, sm_inf]
theorem tm_1 (p : Pt) : tmN p 1 = p := by rw [tm_odd p 1 rfl, show 1 / 2 = 0 from rfl, tm_0, sm_inf, sm_inf]
theorem tm_2 (p : Pt) : tmN p 2 = smN p p := by rw [tm_even p 2 rfl, show 2 / 2 = 1 from rfl, tm_1]
theorem tm_3 (p : Pt) : tmN p 3 = smN (smN p p) p := by rw [tm_odd p 3 rfl, show 3 / 2 = 1 from rfl, tm_1]
def orN : Nat := 536870717
def grN (p : Pt) : Bool := onN p && decide (tmN p orN = iN)

/- The reference's, on points told so. -/
theorem r_ng {p : Pt} (h : Wl p) : (if p.I = true then p else ⟨p.X, sbN 0 p.Y, false⟩) = ngN p := by
  split
  · next hi => rw [h.2.2 hi]; rfl
  · next hi => unfold ngN; rw [show p.I = false by simpa using hi]
theorem r_on (p : Pt) : (if p.I = true then decide (p.X = 0) && decide (p.Y = 0) else decide (p.X < PM) && decide (p.Y < PM) && decide (muN p.Y p.Y = adN (muN p.X (muN p.X p.X)) p.X)) = onN p := by
  unfold onN sqN
  rw [mu_comm p.X (muN p.X p.X)]
  by_cases hi : p.I = true
  · rw [if_pos hi, if_pos hi]
    by_cases e : p = iN
    · subst e; rfl
    · rw [decide_eq_false e]
      simp only [Bool.and_eq_false_iff, decide_eq_false_iff_not]
      by_cases h0 : p.X = 0
      · right
        intro h1
        exact e (Pt.ext' h0 h1 hi)
      · exact .inl h0
  · rw [if_neg hi, if_neg hi]
theorem dbl (y : Nat) : muN 2 y = adN y y := by rw [mu_eq, ad_eq, Nat.two_mul]
/-- The negative of a point is one, and its negative the point. -/
theorem ng_ng {p : Pt} (h : Wl p) : ngN (ngN p) = p := by
  refine Pt.ext' rfl ?_ rfl
  have := h.2.1
  show sbN 0 (sbN 0 p.Y) = p.Y
  unfold sbN PM at *
  omega
theorem on_ng {p : Pt} (h : onN p = true) : onN (ngN p) = true := by
  have w := wl_on h
  by_cases hi : p = iN
  · subst hi; exact h
  · have hf := wl_i w hi
    unfold onN at h ⊢
    rw [if_neg (by rw [hf]; simp)] at h
    rw [if_neg (by show ¬ p.I = true; rw [hf]; simp)]
    simp only [Bool.and_eq_true, decide_eq_true_eq] at h ⊢
    refine ⟨⟨h.1.1, sb_lt _ _⟩, ?_⟩
    show muN (sbN 0 p.Y) (sbN 0 p.Y) = sqN p.X
    rw [← h.2]
    by_cases y0 : p.Y = 0
    · rw [y0]; rfl
    · have : sbN 0 p.Y = PM - p.Y := by
        have := w.2.1
        unfold sbN PM at *; omega
      rw [this, sq_neg _ w.2.1]
theorem sm_ng {p : Pt} (h : Wl p) : smN p (ngN p) = iN := by
  unfold smN
  split
  · next e => subst e; rfl
  · next e =>
    split
    · next e2 =>
      have := ng_ng h
      rw [e2] at this
      exact absurd this.symm e
    · rw [if_pos rfl]
end Go.Proofs.YteknhghmliihhaaDoor
