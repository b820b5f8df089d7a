/- The sum of two points is one: pure, by whole numbers modulo the prime. No condition. -/
import Derived.Test.YteknhghmliihhaaDoorC13
namespace Go.Proofs.YteknhghmliihhaaDoor
open Go.RowKit

abbrev PI : Int := 2147482867
/-- What the prime divides. -/
def Dv (x : Int) : Prop := ∃ k, x = PI * k
theorem Dv.zero : Dv 0 := ⟨0, by simp⟩
theorem Dv.add {x y : Int} (hx : Dv x) (hy : Dv y) : Dv (x + y) := by
  obtain ⟨a, rfl⟩ := hx
  obtain ⟨b, rfl⟩ := hy
  exact ⟨a + b, by rw [Int.mul_add]⟩
theorem Dv.neg {x : Int} (hx : Dv x) : Dv (-x) := by
  obtain ⟨a, rfl⟩ := hx
  exact ⟨-a, by rw [Int.mul_neg]⟩
theorem Dv.sub {x y : Int} (hx : Dv x) (hy : Dv y) : Dv (x - y) := by
  rw [Int.sub_eq_add_neg]; exact hx.add hy.neg
theorem Dv.mul {x : Int} (hx : Dv x) (y : Int) : Dv (x * y) := by
  obtain ⟨a, rfl⟩ := hx
  exact ⟨a * y, by rw [Int.mul_assoc]⟩
theorem Dv.lmul {x : Int} (hx : Dv x) (y : Int) : Dv (y * x) := by rw [Int.mul_comm]; exact hx.mul y
theorem Dv.of_eq {x y : Int} (hx : Dv x) (e : y = x) : Dv y := e ▸ hx
theorem dv_nat {a b : Nat} (h : Dv ((a : Int) - b)) : a % PM = b % PM := by
  obtain ⟨k, hk⟩ := h
  unfold PM PI at *
  omega
theorem nat_dv {a b : Nat} (h : a % PM = b % PM) : Dv ((a : Int) - b) := by
  refine ⟨(a / PM : Nat) - (b / PM : Nat), ?_⟩
  unfold PM PI at *
  omega
theorem dv_lt {a b : Nat} (ha : a < PM) (hb : b < PM) (h : Dv ((a : Int) - b)) : a = b := by
  have := dv_nat h
  rw [Nat.mod_eq_of_lt ha, Nat.mod_eq_of_lt hb] at this
  exact this
theorem dv_mu (a b : Nat) : Dv ((muN a b : Nat) - (a : Int) * b) := by
  have := nat_dv (a := muN a b) (b := a * b) (by rw [mu_eq, Nat.mod_mod])
  rw [Int.natCast_mul] at this
  exact this
theorem dv_ad (a b : Nat) : Dv ((adN a b : Nat) - ((a : Int) + b)) := by
  have := nat_dv (a := adN a b) (b := a + b) (by rw [ad_eq, Nat.mod_mod])
  rw [Int.natCast_add] at this
  exact this
theorem dv_sb (a b : Nat) : Dv ((sbN a b : Nat) - ((a : Int) - b)) := by
  refine ⟨-((a / PM : Nat) : Int) + 1 + (b / PM : Nat) - ((a % PM + PM - b % PM) / PM : Nat), ?_⟩
  unfold sbN PM PI
  omega
/-- The prime divides one of both. -/
theorem dv_split {x y : Int} (h : Dv (x * y)) : Dv x ∨ Dv y := by
  obtain ⟨k, hk⟩ := h
  have h1 : PM ∣ x.natAbs * y.natAbs := by
    rw [← Int.natAbs_mul, hk, Int.natAbs_mul]
    exact ⟨k.natAbs, rfl⟩
  have back : ∀ z : Int, PM ∣ z.natAbs → Dv z := by
    intro z hz
    obtain ⟨c, hc⟩ := hz
    rcases Int.natAbs_eq z with e | e
    · exact ⟨c, by rw [e, hc, Int.natCast_mul]; rfl⟩
    · exact ⟨-c, by rw [e, hc, Int.natCast_mul, Int.mul_neg]; rfl⟩
  rcases pm_prime.split h1 with h2 | h2
  · exact .inl (back _ h2)
  · exact .inr (back _ h2)
theorem pow_s (b n m : Nat) (h : m = n + 1) : ((b ^ m : Nat) : Int) = ((b ^ n : Nat) : Int) * b := by rw [h, Nat.pow_succ, Int.natCast_mul]
theorem pw_dv (b n : Nat) : Dv (((pwN b n : Nat) : Int) - (b ^ n : Nat)) := nat_dv (by rw [pw_pow, Nat.mod_mod])
theorem dv_fermat (b n : Nat) (hn : n + 1 = PM) : Dv ((b : Int) * (((b ^ n : Nat) : Int) - 1)) := by
  have e := fermat pm_prime b
  rw [← hn, Nat.pow_succ, hn] at e
  refine (nat_dv e).of_eq ?_
  rw [Int.natCast_mul, Int.mul_sub, Int.mul_one, Int.mul_comm]
/-- What is divided, times what it is divided by. -/
theorem dv_ov (a b : Nat) (h : ¬ Dv (b : Int)) : Dv ((ovN a b : Nat) * (b : Int) - a) := by
  have h1 := dv_fermat b 2147482866 rfl
  have h2 : Dv (((b ^ 2147482866 : Nat) : Int) - 1) := (dv_split h1).resolve_left h
  have h3 : Dv (((ivN b : Nat) : Int) - (b ^ 2147482865 : Nat)) := pw_dv b 2147482865
  have h4 := dv_mu a (ivN b)
  have e5 : ((b ^ 2147482866 : Nat) : Int) = ((b ^ 2147482865 : Nat) : Int) * b := pow_s b 2147482865 2147482866 rfl
  rw [e5] at h2
  have e6 : ovN a b = muN a (ivN b) := rfl
  rw [e6]
  generalize ((b ^ 2147482865 : Nat) : Int) = u at *
  generalize ((muN a (ivN b) : Nat) : Int) = m at *
  generalize ((ivN b : Nat) : Int) = v at *
  generalize (b : Int) = c at *
  generalize (a : Int) = d at *
  exact (((h4.mul c).add (h3.lmul (d * c))).add (h2.lmul d)).of_eq (by grind)
/-- The line through two points of the curve meets it once more. -/
theorem third (x1 y1 x2 l X Y g : Int) (h1 : Dv (y1 * y1 - (x1 * x1 * x1 + x1))) (hg : g = x2 * x2 + x1 * x2 + x1 * x1 + 1 - l * l * (x2 - x1) - 2 * l * y1) (dg : Dv g)
    (hX : Dv (X - (l * l - x1 - x2))) (hY : Dv (Y - (l * (x1 - X) - y1))) : Dv (Y * Y - (X * X * X + X)) := by
  have e1 : Dv (Y * Y - (l * (x1 - X) - y1) * (l * (x1 - X) - y1)) := (hY.mul (Y + (l * (x1 - X) - y1))).of_eq (by grind)
  have e2 : Dv ((l * (x1 - X) - y1) * (l * (x1 - X) - y1) - (X * X * X + X)) := by
    refine (((h1.sub (dg.mul (X - x1))).sub (hX.mul ((X - x1) * (X - x2)))).of_eq ?_)
    subst hg
    grind
  exact (e1.add e2).of_eq (by grind)
theorem on_iff {p : Pt} (hp : Wl p) (hi : p ≠ iN) : onN p = true ↔ Dv ((p.Y : Int) * p.Y - ((p.X : Int) * p.X * p.X + p.X)) := by
  have hf := wl_i hp hi
  have e : Dv ((muN p.Y p.Y : Nat) - (sqN p.X : Nat)) ↔ Dv ((p.Y : Int) * p.Y - ((p.X : Int) * p.X * p.X + p.X)) := by
    have a1 := dv_mu p.Y p.Y
    have a2 := dv_mu p.X p.X
    have a3 := dv_mu (muN p.X p.X) p.X
    have a4 := dv_ad (muN (muN p.X p.X) p.X) p.X
    have e4 : sqN p.X = adN (muN (muN p.X p.X) p.X) p.X := rfl
    rw [e4]
    generalize ((adN (muN (muN p.X p.X) p.X) p.X : Nat) : Int) = s at *
    generalize ((muN (muN p.X p.X) p.X : Nat) : Int) = c at *
    generalize ((muN p.X p.X : Nat) : Int) = d at *
    generalize ((muN p.Y p.Y : Nat) : Int) = r at *
    generalize (p.X : Int) = x at *
    generalize (p.Y : Int) = y at *
    have t := ((a1.sub a4).sub a3).sub (a2.mul x)
    constructor
    · intro h; exact (h.sub t).of_eq (by grind)
    · intro h; exact (h.add t).of_eq (by grind)
  rw [← e]
  unfold onN
  rw [if_neg (by rw [hf]; simp)]
  simp only [Bool.and_eq_true, decide_eq_true_eq]
  constructor
  · intro h
    rw [h.2]
    exact Dv.zero.of_eq (by omega)
  · intro h
    exact ⟨⟨hp.1, hp.2.1⟩, dv_lt (mu_lt _ _) (sq_lt _) h⟩
theorem on_sm {p q : Pt} (hp : onN p = true) (hq : onN q = true) : onN (smN p q) = true := by
  have wp := wl_on hp
  have wq := wl_on hq
  unfold smN
  split
  · exact hq
  next i1 =>
  split
  · exact hp
  next i2 =>
  split
  · decide
  next i3 =>
  have f1 := wl_i wp i1
  have f2 := wl_i wq i2
  have hP := (on_iff wp i1).1 hp
  have hQ := (on_iff wq i2).1 hq
  obtain ⟨l, hl⟩ : ∃ l, slN p q = l := ⟨_, rfl⟩
  have wr : Wl (lnN l p q) := ⟨sb_lt _ _, sb_lt _ _, fun e => by cases e⟩
  rw [hl]
  refine (on_iff wr (fun e => by have := congrArg Pt.I e; cases this)).2 ?_
  have hX : Dv (((lnN l p q).X : Int) - ((l : Int) * l - p.X - q.X)) := by
    have a1 := dv_mu l l
    have a2 := dv_sb (muN l l) p.X
    have a3 := dv_sb (sbN (muN l l) p.X) q.X
    exact (((a3.add a2).add a1).of_eq (by show ((sbN (sbN (muN l l) p.X) q.X : Nat) : Int) - _ = _; omega))
  have hY : Dv (((lnN l p q).Y : Int) - ((l : Int) * ((p.X : Int) - (lnN l p q).X) - p.Y)) := by
    obtain ⟨x, hx⟩ : ∃ x, (lnN l p q).X = x := ⟨_, rfl⟩
    have eY : (lnN l p q).Y = sbN (muN l (sbN p.X x)) p.Y := by rw [← hx]; rfl
    rw [hx, eY]
    have a1 := dv_sb p.X x
    have a2 := dv_mu l (sbN p.X x)
    have a3 := dv_sb (muN l (sbN p.X x)) p.Y
    generalize ((sbN (muN l (sbN p.X x)) p.Y : Nat) : Int) = s at *
    generalize ((muN l (sbN p.X x) : Nat) : Int) = m at *
    generalize ((sbN p.X x : Nat) : Int) = d at *
    exact (((a3.add a2).add (a1.lmul l)).of_eq (by grind))
  refine third p.X p.Y q.X l _ _ _ hP rfl ?_ hX hY
  by_cases he : p = q
  · -- the tangent
    have hy : ¬ Dv ((adN p.Y p.Y : Nat) : Int) := by
      intro h
      have a1 := dv_ad p.Y p.Y
      have h2 : Dv ((2 : Int) * p.Y) := (h.sub a1).of_eq (by omega)
      rcases dv_split h2 with h3 | h3
      · obtain ⟨k, hk⟩ := h3
        unfold PI at hk; omega
      · have : p.Y = 0 := dv_lt wp.2.1 (by decide) (h3.of_eq (by omega))
        apply i3
        rw [← he]
        refine Pt.ext' rfl ?_ rfl
        show p.Y = sbN 0 p.Y
        rw [this]; rfl
    have e : slN p q = ovN (adN (muN 3 (muN p.X p.X)) 1) (adN p.Y p.Y) := by unfold slN; rw [if_pos he]
    have a0 := dv_ov (adN (muN 3 (muN p.X p.X)) 1) (adN p.Y p.Y) hy
    rw [← e, hl] at a0
    have a1 := dv_ad p.Y p.Y
    have a2 := dv_mu p.X p.X
    have a3 := dv_mu 3 (muN p.X p.X)
    have a4 := dv_ad (muN 3 (muN p.X p.X)) 1
    rw [← he]
    generalize ((adN (muN 3 (muN p.X p.X)) 1 : Nat) : Int) = s at *
    generalize ((muN 3 (muN p.X p.X) : Nat) : Int) = t at *
    generalize ((muN p.X p.X : Nat) : Int) = d at *
    generalize ((adN p.Y p.Y : Nat) : Int) = r at *
    have t := (((a0.sub (a1.lmul l)).add a4).add a3).add (a2.lmul 3)
    exact t.neg.of_eq (by grind)
  · have hx : ¬ Dv ((sbN q.X p.X : Nat) : Int) := by
      intro h
      have a1 := dv_sb q.X p.X
      have ex : q.X = p.X := dv_lt wq.1 wp.1 ((h.sub a1).of_eq (by omega))
      have ey : Dv ((p.Y : Int) * p.Y - (q.Y : Int) * q.Y) := by
        rw [ex] at hQ
        exact (hP.sub hQ).of_eq (by omega)
      have em : muN p.Y p.Y = muN q.Y q.Y := by
        rw [mu_eq, mu_eq]
        refine dv_nat ?_
        rw [Int.natCast_mul, Int.natCast_mul]
        exact ey
      rcases root_two p.Y q.Y wp.2.1 wq.2.1 em with e | e
      · exact he (Pt.ext' ex.symm e (by rw [f1, f2]))
      · apply i3
        refine Pt.ext' ex ?_ (by show q.I = p.I; rw [f1, f2])
        show q.Y = sbN 0 p.Y
        have h3 := wp.2.1
        have h4 := wq.2.1
        unfold sbN PM at *
        omega
    have e : slN p q = ovN (sbN q.Y p.Y) (sbN q.X p.X) := by unfold slN; rw [if_neg he]
    have a0 := dv_ov (sbN q.Y p.Y) (sbN q.X p.X) hx
    rw [← e, hl] at a0
    have a1 := dv_sb q.X p.X
    have a2 := dv_sb q.Y p.Y
    have hd : ¬ Dv ((q.X : Int) - p.X) := fun h => hx ((h.add a1).of_eq (by omega))
    generalize ((sbN q.X p.X : Nat) : Int) = s at *
    generalize ((sbN q.Y p.Y : Nat) : Int) = t at *
    have e1 : Dv ((l : Int) * ((q.X : Int) - p.X) - (q.Y - p.Y)) := ((a0.sub (a1.lmul l)).add a2).of_eq (by grind)
    refine (dv_split (x := (q.X : Int) - p.X) ?_).resolve_left hd
    refine ((hP.sub hQ).sub (e1.mul ((l : Int) * ((q.X : Int) - p.X) + (q.Y : Int) + p.Y))).of_eq ?_
    grind
theorem on_tm {p : Pt} (hp : onN p = true) (n : Nat) : onN (tmN p n) = true := by
  induction n using Nat.strongRecOn with
  | ind n ih =>
    by_cases h0 : n = 0
    · subst h0; rw [tm_0]; decide
    · have e := ih (n / 2) (by omega)
      by_cases h1 : n % 2 = 1
      · rw [tm_odd p n h1]; exact on_sm (on_sm e e) hp
      · rw [tm_even p n (by omega)]; exact on_sm e e
end Go.Proofs.YteknhghmliihhaaDoor
