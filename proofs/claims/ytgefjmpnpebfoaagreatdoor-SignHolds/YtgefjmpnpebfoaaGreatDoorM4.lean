/- Lemmas: The sum of two points is one: pure, by whole numbers modulo the prime. No condition. Points of a line, and of a parabola, of the curve: what associativity wants, pure, over numbers modulo the prime. No condition. Sums of points of the curve do not hang on the order, nor on which are summed up first: pure. No condition. -/
import Derived.Test.YtgefjmpnpebfoaaGreatDoorM1
import Derived.Test.YtgefjmpnpebfoaaGreatDoorM2
import Derived.Test.YtgefjmpnpebfoaaGreatDoorM3
import Derived.Test.YtgefjmpnpebfoaaGreatDoorRows
namespace Go.Proofs.YtgefjmpnpebfoaaGreatDoor
open Go.RowKit

abbrev PI : Int := 2147482867
/-- What the prime divides. -/
def Dv (x : Int) : Prop := ∃ k, x = PI * k
theorem Dv.zero : Dv 0 := ⟨0, by simp⟩
theorem Dv.add {x y : Int} (hx : Dv x) (hy : Dv y) : Dv (x + y) := by
  obtain ⟨a, rfl⟩ := hx
  obtain ⟨b, rfl⟩ := hy
  exact ⟨a + b, by rw [Int.mul_add]⟩
theorem Dv.neg {x : Int} (hx : Dv x) : Dv (-x) := by
  obtain ⟨a, rfl⟩ := hx
  exact ⟨-a, by rw [Int.mul_neg]⟩
theorem Dv.sub {x y : Int} (hx : Dv x) (hy : Dv y) : Dv (x - y) := by
  rw [Int.sub_eq_add_neg]; exact hx.add hy.neg
theorem Dv.mul {x : Int} (hx : Dv x) (y : Int) : Dv (x * y) := by
  obtain ⟨a, rfl⟩ := hx
  exact ⟨a * y, by rw [Int.mul_assoc]⟩
theorem Dv.lmul {x : Int} (hx : Dv x) (y : Int) : Dv (y * x) := by rw [Int.mul_comm]; exact hx.mul y
theorem Dv.of_eq {x y : Int} (hx : Dv x) (e : y = x) : Dv y := e ▸ hx
theorem dv_nat {a b : Nat} (h : Dv ((a : Int) - b)) : a % PM = b % PM := by
  obtain ⟨k, hk⟩ := h
  unfold PM PI at *
  omega
theorem nat_dv {a b : Nat} (h : a % PM = b % PM) : Dv ((a : Int) - b) := by
  refine ⟨(a / PM : Nat) - (b / PM : Nat), ?_⟩
  unfold PM PI at *
  omega
theorem dv_lt {a b : Nat} (ha : a < PM) (hb : b < PM) (h : Dv ((a : Int) - b)) : a = b := by
  have := dv_nat h
  rw [Nat.mod_eq_of_lt ha, Nat.mod_eq_of_lt hb] at this
  exact this
theorem dv_mu (a b : Nat) : Dv ((muN a b : Nat) - (a : Int) * b) := by
  have := nat_dv (a := muN a b) (b := a * b) (by rw [mu_eq, Nat.mod_mod])
  rw [Int.natCast_mul] at this
  exact this
theorem dv_ad (a b : Nat) : Dv ((adN a b : Nat) - ((a : Int) + b)) := by
  have := nat_dv (a := adN a b) (b := a + b) (by rw [ad_eq, Nat.mod_mod])
  rw [Int.natCast_add] at this
  exact this
theorem dv_sb (a b : Nat) : Dv ((sbN a b : Nat) - ((a : Int) - b)) := by
  refine ⟨-((a / PM : Nat) : Int) + 1 + (b / PM : Nat) - ((a % PM + PM - b % PM) / PM : Nat), ?_⟩
  unfold sbN PM PI
  omega
/-- The prime divides one of both. -/
theorem dv_split {x y : Int} (h : Dv (x * y)) : Dv x ∨ Dv y := by
  obtain ⟨k, hk⟩ := h
  have h1 : PM ∣ x.natAbs * y.natAbs := by
    rw [← Int.natAbs_mul, hk, Int.natAbs_mul]
    exact ⟨k.natAbs, rfl⟩
  have back : ∀ z : Int, PM ∣ z.natAbs → Dv z := by
    intro z hz
    obtain ⟨c, hc⟩ := hz
    rcases Int.natAbs_eq z with e | e
    · exact ⟨c, by rw [e, hc, Int.natCast_mul]; rfl⟩
    · exact ⟨-c, by rw [e, hc, Int.natCast_mul, Int.mul_neg]; rfl⟩
  rcases pm_prime.split h1 with h2 | h2
  · exact .inl (back _ h2)
  · exact .inr (back _ h2)
theorem pow_s (b n m : Nat) (h : m = n + 1) : ((b ^ m : Nat) : Int) = ((b ^ n : Nat) : Int) * b := by rw [h, Nat.pow_succ, Int.natCast_mul]
theorem pw_dv (b n : Nat) : Dv (((pwN b n : Nat) : Int) - (b ^ n : Nat)) := nat_dv (by rw [pw_pow, Nat.mod_mod])
theorem dv_fermat (b n : Nat) (hn : n + 1 = PM) : Dv ((b : Int) * (((b ^ n : Nat) : Int) - 1)) := by
  have e := fermat pm_prime b
  rw [← hn, Nat.pow_succ, hn] at e
  refine (nat_dv e).of_eq ?_
  rw [Int.natCast_mul, Int.mul_sub, Int.mul_one, Int.mul_comm]
/-- What is divided, times what it is divided by. -/
theorem dv_ov (a b : Nat) (h : ¬ Dv (b : Int)) : Dv ((ovN a b : Nat) * (b : Int) - a) := by
  have h1 := dv_fermat b 2147482866 rfl
  have h2 : Dv (((b ^ 2147482866 : Nat) : Int) - 1) := (dv_split h1).resolve_left h
  have h3 : Dv (((ivN b : Nat) : Int) - (b ^ 2147482865 : Nat)) := pw_dv b 2147482865
  have h4 := dv_mu a (ivN b)
  have e5 : ((b ^ 2147482866 : Nat) : Int) = ((b ^ 2147482865 : Nat) : Int) * b := pow_s b 2147482865 2147482866 rfl
  rw [e5] at h2
  have e6 : ovN a b = muN a (ivN b) := rfl
  rw [e6]
  generalize ((b ^ 2147482865 : Nat) : Int) = u at *
  generalize ((muN a (ivN b) : Nat) : Int) = m at *
  generalize ((ivN b : Nat) : Int) = v at *
  generalize (b : Int) = c at *
  generalize (a : Int) = d at *
  exact (((h4.mul c).add (h3.lmul (d * c))).add (h2.lmul d)).of_eq (by grind)
/-- The line through two points of the curve meets it once more. -/
theorem third (x1 y1 x2 l X Y g : Int) (h1 : Dv (y1 * y1 - (x1 * x1 * x1 + x1))) (hg : g = x2 * x2 + x1 * x2 + x1 * x1 + 1 - l * l * (x2 - x1) - 2 * l * y1) (dg : Dv g)
    (hX : Dv (X - (l * l - x1 - x2))) (hY : Dv (Y - (l * (x1 - X) - y1))) : Dv (Y * Y - (X * X * X + X)) := by
  have e1 : Dv (Y * Y - (l * (x1 - X) - y1) * (l * (x1 - X) - y1)) := (hY.mul (Y + (l * (x1 - X) - y1))).of_eq (by grind)
  have e2 : Dv ((l * (x1 - X) - y1) * (l * (x1 - X) - y1) - (X * X * X + X)) := by
    refine (((h1.sub (dg.mul (X - x1))).sub (hX.mul ((X - x1) * (X - x2)))).of_eq ?_)
    subst hg
    grind
  exact (e1.add e2).of_eq (by grind)
theorem on_iff {p : Pt} (hp : Wl p) (hi : p ≠ iN) : onN p = true ↔ Dv ((p.Y : Int) * p.Y - ((p.X : Int) * p.X * p.X + p.X)) := by
  have hf := wl_i hp hi
  have e : Dv ((muN p.Y p.Y : Nat) - (sqN p.X : Nat)) ↔ Dv ((p.Y : Int) * p.Y - ((p.X : Int) * p.X * p.X + p.X)) := by
    have a1 := dv_mu p.Y p.Y
    have a2 := dv_mu p.X p.X
    have a3 := dv_mu (muN p.X p.X) p.X
    have a4 := dv_ad (muN (muN p.X p.X) p.X) p.X
    have e4 : sqN p.X = adN (muN (muN p.X p.X) p.X) p.X := rfl
    rw [e4]
    generalize ((adN (muN (muN p.X p.X) p.X) p.X : Nat) : Int) = s at *
    generalize ((muN (muN p.X p.X) p.X : Nat) : Int) = c at *
    generalize ((muN p.X p.X : Nat) : Int) = d at *
    generalize ((muN p.Y p.Y : Nat) : Int) = r at *
    generalize (p.X : Int) = x at *
    generalize (p.Y : Int) = y at *
    have t := ((a1.sub a4).sub a3).sub (a2.mul x)
    constructor
    · intro h; exact (h.sub t).of_eq (by grind)
    · intro h; exact (h.add t).of_eq (by grind)
  rw [← e]
  unfold onN
  rw [if_neg (by rw [hf]; simp)]
  simp only [Bool.and_eq_true, decide_eq_true_eq]
  constructor
  · intro h
    rw [h.2]
    exact Dv.zero.of_eq (by omega)
  · intro h
    exact ⟨⟨hp.1, hp.2.1⟩, dv_lt (mu_lt _ _) (sq_lt _) h⟩
theorem on_sm {p q : Pt} (hp : onN p = true) (hq : onN q = true) : onN (smN p q) = true := by
  have wp := wl_on hp
  have wq := wl_on hq
  unfold smN
  split
  · exact hq
  next i1 =>
  split
  · exact hp
  next i2 =>
  split
  · decide
  next i3 =>
  have f1 := wl_i wp i1
  have f2 := wl_i wq i2
  have hP := (on_iff wp i1).1 hp
  have hQ := (on_iff wq i2).1 hq
  obtain ⟨l, hl⟩ : ∃ l, slN p q = l := ⟨_, rfl⟩
  have wr : Wl (lnN l p q) := ⟨sb_lt _ _, sb_lt _ _, fun e => by cases e⟩
  rw [hl]
  refine (on_iff wr (fun e => by have := congrArg Pt.I e; cases this)).2 ?_
  have hX : Dv (((lnN l p q).X : Int) - ((l : Int) * l - p.X - q.X)) := by
    have a1 := dv_mu l l
    have a2 := dv_sb (muN l l) p.X
    have a3 := dv_sb (sbN (muN l l) p.X) q.X
    exact (((a3.add a2).add a1).of_eq (by show ((sbN (sbN (muN l l) p.X) q.X : Nat) : Int) - _ = _; omega))
  have hY : Dv (((lnN l p q).Y : Int) - ((l : Int) * ((p.X : Int) - (lnN l p q).X) - p.Y)) := by
    obtain ⟨x, hx⟩ : ∃ x, (lnN l p q).X = x := ⟨_, rfl⟩
    have eY : (lnN l p q).Y = sbN (muN l (sbN p.X x)) p.Y := by rw [← hx]; rfl
    rw [hx, eY]
    have a1 := dv_sb p.X x
    have a2 := dv_mu l (sbN p.X x)
    have a3 := dv_sb (muN l (sbN p.X x)) p.Y
    generalize ((sbN (muN l (sbN p.X x)) p.Y : Nat) : Int) = s at *
    generalize ((muN l (sbN p.X x) : Nat) : Int) = m at *
    generalize ((sbN p.X x : Nat) : Int) = d at *
    exact (((a3.add a2).add (a1.lmul l)).of_eq (by grind))
  refine third p.X p.Y q.X l _ _ _ hP rfl ?_ hX hY
  by_cases he : p = q
  · -- the tangent
    have hy : ¬ Dv ((adN p.Y p.Y : Nat) : Int) := by
      intro h
      have a1 := dv_ad p.Y p.Y
      have h2 : Dv ((2 : Int) * p.Y) := (h.sub a1).of_eq (by omega)
      rcases dv_split h2 with h3 | h3
      · obtain ⟨k, hk⟩ := h3
        unfold PI at hk; omega
      · have : p.Y = 0 := dv_lt wp.2.1 (by decide) (h3.of_eq (by omega))
        apply i3
        rw [← he]
        refine Pt.ext' rfl ?_ rfl
        show p.Y = sbN 0 p.Y
        rw [this]; rfl
    have e : slN p q = ovN (adN (muN 3 (muN p.X p.X)) 1) (adN p.Y p.Y) := by unfold slN; rw [if_pos he]
    have a0 := dv_ov (adN (muN 3 (muN p.X p.X)) 1) (adN p.Y p.Y) hy
    rw [← e, hl] at a0
    have a1 := dv_ad p.Y p.Y
    have a2 := dv_mu p.X p.X
    have a3 := dv_mu 3 (muN p.X p.X)
    have a4 := dv_ad (muN 3 (muN p.X p.X)) 1
    rw [← he]
    generalize ((adN (muN 3 (muN p.X p.X)) 1 : Nat) : Int) = s at *
    generalize ((muN 3 (muN p.X p.X) : Nat) : Int) = t at *
    generalize ((muN p.X p.X : Nat) : Int) = d at *
    generalize ((adN p.Y p.Y : Nat) : Int) = r at *
    have t := (((a0.sub (a1.lmul l)).add a4).add a3).add (a2.lmul 3)
    exact t.neg.of_eq (by grind)
  · have hx : ¬ Dv ((sbN q.X p.X : Nat) : Int) := by
      intro h
      have a1 := dv_sb q.X p.X
      have ex : q.X = p.X := dv_lt wq.1 wp.1 ((h.sub a1).of_eq (by omega))
      have ey : Dv ((p.Y : Int) * p.Y - (q.Y : Int) * q.Y) := by
        rw [ex] at hQ
        exact (hP.sub hQ).of_eq (by omega)
      have em : muN p.Y p.Y = muN q.Y q.Y := by
        rw [mu_eq, mu_eq]
        refine dv_nat ?_
        rw [Int.natCast_mul, Int.natCast_mul]
        exact ey
      rcases root_two p.Y q.Y wp.2.1 wq.2.1 em with e | e
      · exact he (Pt.ext' ex.symm e (by rw [f1, f2]))
      · apply i3
        refine Pt.ext' ex ?_ (by show q.I = p.I; rw [f1, f2])
        show q.Y = sbN 0 p.Y
        have h3 := wp.2.1
        have h4 := wq.2.1
        unfold sbN PM at *
        omega
    have e : slN p q = ovN (sbN q.Y p.Y) (sbN q.X p.X) := by unfold slN; rw [if_neg he]
    have a0 := dv_ov (sbN q.Y p.Y) (sbN q.X p.X) hx
    rw [← e, hl] at a0
    have a1 := dv_sb q.X p.X
    have a2 := dv_sb q.Y p.Y
    have hd : ¬ Dv ((q.X : Int) - p.X) := fun h => hx ((h.add a1).of_eq (by omega))
    generalize ((sbN q.X p.X : Nat) : Int) = s at *
    generalize ((sbN q.Y p.Y : Nat) : Int) = t at *
    have e1 : Dv ((l : Int) * ((q.X : Int) - p.X) - (q.Y - p.Y)) := ((a0.sub (a1.lmul l)).add a2).of_eq (by grind)
    refine (dv_split (x := (q.X : Int) - p.X) ?_).resolve_left hd
    refine ((hP.sub hQ).sub (e1.mul ((l : Int) * ((q.X : Int) - p.X) + (q.Y : Int) + p.Y))).of_eq ?_
    grind
theorem on_tm {p : Pt} (hp : onN p = true) (n : Nat) : onN (tmN p n) = true := by
  induction n using Nat.strongRecOn with
  | ind n ih =>
    by_cases h0 : n = 0
    · subst h0; rw [tm_0]; decide
    · have e := ih (n / 2) (by omega)
      by_cases h1 : n % 2 = 1
      · rw [tm_odd p n h1]; exact on_sm (on_sm e e) hp
      · rw [tm_even p n (by omega)]; exact on_sm e e
end Go.Proofs.YtgefjmpnpebfoaaGreatDoor
namespace Go.Proofs.YtgefjmpnpebfoaaGreatDoor
open Go.RowKit

abbrev Fq := Fin PM
theorem nz {a b : Fq} (h : a * b = 0) : a = 0 ∨ b = 0 := by
  have h1 : a.val * b.val % PM = 0 := by
    have := congrArg Fin.val h
    rw [Fin.val_mul] at this
    exact this
  rcases pm_prime.split (Nat.dvd_of_mod_eq_zero h1) with h2 | h2
  · exact .inl (Fin.ext (Nat.eq_zero_of_dvd_of_lt h2 a.isLt))
  · exact .inr (Fin.ext (Nat.eq_zero_of_dvd_of_lt h2 b.isLt))
def fq (n : Nat) : Fq := Fin.ofNat PM n
theorem fq_val (n : Nat) : (fq n).val = n % PM := rfl
theorem fq_mu (a b : Nat) : fq (muN a b) = fq a * fq b := by
  refine Fin.ext ?_
  rw [Fin.val_mul, fq_val, fq_val, fq_val, mu_eq, Nat.mod_mod, Nat.mul_mod]
theorem fq_ad (a b : Nat) : fq (adN a b) = fq a + fq b := by
  refine Fin.ext ?_
  rw [Fin.val_add, fq_val, fq_val, fq_val, ad_eq, Nat.mod_mod, Nat.add_mod]
theorem fq_sb (a b : Nat) : fq (sbN a b) = fq a - fq b := by
  refine Fin.ext ?_
  rw [Fin.sub_def, fq_val]
  show sbN a b % PM = (PM - b % PM + a % PM) % PM
  unfold sbN
  have : b % PM < PM := Nat.mod_lt _ (by decide)
  rw [Nat.mod_mod, show a % PM + PM - b % PM = PM - b % PM + a % PM by omega]
theorem fq_inj {a b : Nat} (ha : a < PM) (hb : b < PM) (h : fq a = fq b) : a = b := by
  have := congrArg Fin.val h
  rw [fq_val, fq_val, Nat.mod_eq_of_lt ha, Nat.mod_eq_of_lt hb] at this
  exact this
theorem fq_self (a : Fq) : fq a.val = a := Fin.ext (Nat.mod_eq_of_lt a.isLt)
theorem fq_0 : fq 0 = 0 := rfl
theorem fq_1 : fq 1 = 1 := rfl
theorem fq_3 : fq 3 = 3 := rfl
theorem fq_z {b : Nat} (h : fq b ≠ 0) : ¬ Dv (b : Int) := by
  intro ⟨k, hk⟩
  apply h
  refine Fin.ext ?_
  rw [fq_val]
  show b % 2147482867 = 0
  unfold PI at hk
  omega
theorem fq_ov (a b : Nat) (h : fq b ≠ 0) : fq (ovN a b) * fq b = fq a := by
  have := dv_ov a b (fq_z h)
  refine Fin.ext ?_
  rw [Fin.val_mul, fq_val, fq_val, fq_val, ← Nat.mul_mod]
  refine dv_nat ?_
  rw [Int.natCast_mul]
  exact this
theorem inv_ex {a : Fq} (h : a ≠ 0) : ∃ b, a * b = 1 := by
  refine ⟨fq (ovN 1 a.val), ?_⟩
  have := fq_ov 1 a.val (by rw [fq_self]; exact h)
  rw [fq_self, fq_1] at this
  rw [Fin.mul_comm]
  exact this
theorem two_nz : (2 : Fq) ≠ 0 := by decide
theorem one_nz : (1 : Fq) ≠ 0 := by decide
theorem cancel {a b c : Fq} (h : a ≠ 0) (e : a * b = a * c) : b = c := by
  have h1 : a * (b - c) = 0 := by grobner
  rcases nz h1 with h2 | h2
  · exact absurd h2 h
  · clear e h1; grobner
theorem lc1 {a b u v : Fq} (c : Fq) (h : u = v) (e : a - b = c * (u - v)) : a = b := by subst h; grobner
theorem lc2 {a b u v u2 v2 : Fq} (c c2 : Fq) (h : u = v) (h2 : u2 = v2) (e : a - b = c * (u - v) + c2 * (u2 - v2)) : a = b := by subst h h2; grobner
theorem lc3 {a b u v u2 v2 u3 v3 : Fq} (c c2 c3 : Fq) (h : u = v) (h2 : u2 = v2) (h3 : u3 = v3) (e : a - b = c * (u - v) + c2 * (u2 - v2) + c3 * (u3 - v3)) : a = b := by subst h h2 h3; grobner
theorem lc4 {a b u v u2 v2 u3 v3 u4 v4 : Fq} (c c2 c3 c4 : Fq) (h : u = v) (h2 : u2 = v2) (h3 : u3 = v3) (h4 : u4 = v4) (e : a - b = c * (u - v) + c2 * (u2 - v2) + c3 * (u3 - v3) + c4 * (u4 - v4)) : a = b := by subst h h2 h3 h4; grobner
/-- Three points of a line, told by the cubic's three roots. -/
structure Col (x1 y1 x2 y2 x3 y3 l c : Fq) : Prop where
  a1 : y1 = l * x1 + c
  a2 : y2 = l * x2 + c
  a3 : y3 = l * x3 + c
  e1 : x1 + x2 + x3 = l * l
  e2 : x1 * x2 + x1 * x3 + x2 * x3 = 1 - 2 * l * c
  e3 : x1 * x2 * x3 = c * c
theorem Col.on1 {x1 y1 x2 y2 x3 y3 l c : Fq} (h : Col x1 y1 x2 y2 x3 y3 l c) : y1 * y1 = x1 * x1 * x1 + x1 := by
  obtain ⟨a1, a2, a3, e1, e2, e3⟩ := h
  subst a1 a2 a3
  exact lc3 (-(x1 * x1)) x1 (-1) e1 e2 e3 (by clear e1 e2 e3; grobner)
theorem Col.s12 {x1 y1 x2 y2 x3 y3 l c : Fq} (h : Col x1 y1 x2 y2 x3 y3 l c) : Col x2 y2 x1 y1 x3 y3 l c := by
  obtain ⟨a1, a2, a3, e1, e2, e3⟩ := h
  exact ⟨a2, a1, a3, lc1 1 e1 (by clear e1 e2 e3 a1 a2 a3; grobner), lc1 1 e2 (by clear e1 e2 e3 a1 a2 a3; grobner), lc1 1 e3 (by clear e1 e2 e3 a1 a2 a3; grobner)⟩
theorem Col.s23 {x1 y1 x2 y2 x3 y3 l c : Fq} (h : Col x1 y1 x2 y2 x3 y3 l c) : Col x1 y1 x3 y3 x2 y2 l c := by
  obtain ⟨a1, a2, a3, e1, e2, e3⟩ := h
  exact ⟨a1, a3, a2, lc1 1 e1 (by clear e1 e2 e3 a1 a2 a3; grobner), lc1 1 e2 (by clear e1 e2 e3 a1 a2 a3; grobner), lc1 1 e3 (by clear e1 e2 e3 a1 a2 a3; grobner)⟩
theorem Col.neg {x1 y1 x2 y2 x3 y3 l c : Fq} (h : Col x1 y1 x2 y2 x3 y3 l c) : Col x1 (-y1) x2 (-y2) x3 (-y3) (-l) (-c) := by
  obtain ⟨a1, a2, a3, e1, e2, e3⟩ := h
  exact ⟨lc1 (-1) a1 (by clear e1 e2 e3 a1 a2 a3; grobner), lc1 (-1) a2 (by clear e1 e2 e3 a1 a2 a3; grobner), lc1 (-1) a3 (by clear e1 e2 e3 a1 a2 a3; grobner), lc1 1 e1 (by clear e1 e2 e3 a1 a2 a3; grobner), lc1 1 e2 (by clear e1 e2 e3 a1 a2 a3; grobner), lc1 1 e3 (by clear e1 e2 e3 a1 a2 a3; grobner)⟩
/-- No point is its tangent's nought. -/
theorem smooth {x : Fq} (h1 : x * x * x + x = 0) (h2 : 3 * (x * x) + 1 = 0) : False := by
  have h : (2 : Fq) = 0 := by grobner
  exact two_nz h
theorem col_make {x1 y1 x2 y2 l : Fq} (o1 : y1 * y1 = x1 * x1 * x1 + x1) (o2 : y2 * y2 = x2 * x2 * x2 + x2)
    (h : x1 ≠ x2 ∧ l * (x2 - x1) = y2 - y1 ∨ x1 = x2 ∧ y1 = y2 ∧ l * (y1 + y1) = 3 * (x1 * x1) + 1) :
    Col x1 y1 x2 y2 (l * l - x1 - x2) (l * (l * l - x1 - x2 - x1) + y1) l (y1 - l * x1) := by
  have dg : x2 * x2 + x1 * x2 + x1 * x1 + 1 = l * l * (x2 - x1) + 2 * l * y1 := by
    rcases h with ⟨hn, hl⟩ | ⟨e1, e2, hl⟩
    · refine cancel (a := x2 - x1) (fun e => hn (lc1 (-1) e (by clear e o1 o2 hl hn; grobner))) ?_
      exact lc3 1 (-1) (-(l * (x2 - x1) + y2 + y1)) o1 o2 hl (by clear o1 o2 hl hn; grobner)
    · subst e1 e2; exact lc1 (-1) hl (by clear o1 o2 hl; grobner)
  have ey : y2 = l * x2 + (y1 - l * x1) := by
    rcases h with ⟨hn, hl⟩ | ⟨e1, e2, hl⟩
    · exact lc1 (-1) hl (by clear o1 o2 hl hn dg; grobner)
    · subst e1 e2; clear o1 o2 hl dg; grobner
  exact ⟨by clear o1 o2 dg ey h; grobner, ey, by clear o1 o2 dg ey h; grobner, by clear o1 o2 dg ey h; grobner, lc1 (-1) dg (by clear o1 o2 dg ey h; grobner), lc2 (-x1) (-1) dg o1 (by clear o1 o2 dg ey h; grobner)⟩
theorem col_tan {x y x3 y3 l c : Fq} (h : Col x y x y x3 y3 l c) : y ≠ 0 ∧ l * (y + y) = 3 * (x * x) + 1 := by
  have o := h.on1
  obtain ⟨a1, a2, a3, e1, e2, e3⟩ := h
  have hl : l * (y + y) = 3 * (x * x) + 1 := lc3 (2 * l) 1 (-(2 * x)) a1 e2 e1 (by clear o a1 a2 a3 e1 e2 e3; grobner)
  refine ⟨fun e => ?_, hl⟩
  subst e
  exact smooth (x := x) (lc1 (-1) o (by clear o hl a1 a2 a3 e1 e2 e3; grobner)) (lc1 (-1) hl (by clear o hl a1 a2 a3 e1 e2 e3; grobner))
theorem dbl_nz {y : Fq} (h : y ≠ 0) : y + y ≠ 0 := by
  intro e
  have e : 2 * y = 0 := lc1 1 e (by clear e h; grobner)
  rcases nz e with e | e
  · exact two_nz e
  · exact h e
theorem col_uniq {x1 y1 x2 y2 x3 y3 l c x3' y3' l' c' : Fq} (h : Col x1 y1 x2 y2 x3 y3 l c) (h' : Col x1 y1 x2 y2 x3' y3' l' c') :
    l = l' ∧ c = c' ∧ x3 = x3' ∧ y3 = y3' := by
  have el : l = l' := by
    by_cases ex : x1 = x2
    · have ey : y1 = y2 := by
        have a := h.a1; have b := h.a2; subst ex; rw [a, b]
      subst ex ey
      obtain ⟨n1, t1⟩ := col_tan h
      obtain ⟨n2, t2⟩ := col_tan h'
      clear h h'
      exact cancel (a := y1 + y1) (dbl_nz n1) (lc2 1 (-1) t1 t2 (by clear t1 t2 n1 n2; grobner))
    · have a := h.a1; have b := h.a2; have a' := h'.a1; have b' := h'.a2
      clear h h'
      refine cancel (a := x2 - x1) (fun e => ex (lc1 (-1) e (by clear e a b a' b' ex; grobner))) ?_
      exact lc4 1 (-1) (-1) 1 a b a' b' (by clear a b a' b' ex; grobner)
  subst el
  have ec : c = c' := by
    have a := h.a1; have b := h'.a1; clear h h'
    exact lc2 (-1) 1 a b (by clear a b; grobner)
  subst ec
  have ex : x3 = x3' := by
    have a := h.e1; have b := h'.e1; clear h h'
    exact lc2 1 (-1) a b (by clear a b; grobner)
  subst ex
  exact ⟨rfl, rfl, rfl, by rw [h.a3, h'.a3]⟩
theorem neg_z : (-0 : Fq) = 0 := by grobner
theorem neg_same {y : Fq} (e : y = -y) : y = 0 := by
  have e : 2 * y = 0 := lc1 1 e (by clear e; grobner)
  rcases nz e with e | e
  · exact absurd e two_nz
  · exact e
theorem col_no {x y x3 y3 l c : Fq} (h : Col x y x (-y) x3 y3 l c) : False := by
  have e : y = -y := by rw [h.a2, ← h.a1]
  have e := neg_same e
  subst e
  rw [neg_z] at h
  exact (col_tan h).1 rfl
/-- Four points of a parabola. -/
structure Qd (x1 y1 x2 y2 x3 y3 x4 y4 a b c : Fq) : Prop where
  n : a ≠ 0
  b1 : y1 = a * x1 * x1 + b * x1 + c
  b2 : y2 = a * x2 * x2 + b * x2 + c
  b3 : y3 = a * x3 * x3 + b * x3 + c
  b4 : y4 = a * x4 * x4 + b * x4 + c
  e1 : 2 * a * b - 1 = - (a * a * (x1 + x2 + x3 + x4))
  e2 : b * b + 2 * a * c = a * a * (x1 * x2 + x3 * x4 + (x1 + x2) * (x3 + x4))
  e3 : 2 * b * c - 1 = - (a * a * (x1 * x2 * (x3 + x4) + x3 * x4 * (x1 + x2)))
  e4 : c * c = a * a * (x1 * x2 * (x3 * x4))
theorem Qd.rot {x1 y1 x2 y2 x3 y3 x4 y4 a b c : Fq} (h : Qd x1 y1 x2 y2 x3 y3 x4 y4 a b c) : Qd x2 y2 x3 y3 x1 y1 x4 y4 a b c := by
  obtain ⟨n, b1, b2, b3, b4, e1, e2, e3, e4⟩ := h
  refine ⟨n, b2, b3, b1, b4, lc1 1 e1 ?_, lc1 1 e2 ?_, lc1 1 e3 ?_, lc1 1 e4 ?_⟩ <;> (clear n b1 b2 b3 b4 e1 e2 e3 e4; grobner)
/-- Two lines that meet in negatives make a parabola. -/
theorem col_qd {x1 y1 x2 y2 s t x3 y3 x4 y4 l c v d : Fq} (h : Col x1 y1 x2 y2 s (-t) l c) (g : Col s t x3 y3 x4 y4 v d) (hn : v + l ≠ 0) :
    ∃ a b e, Qd x1 y1 x2 y2 x3 y3 x4 y4 a b e := by
  obtain ⟨a, ha⟩ := inv_ex hn
  obtain ⟨a1, a2, a3, e1, e2, e3⟩ := h
  obtain ⟨c1, c2, c3, f1, f2, f3⟩ := g
  have K : (v + l) * s = -(c + d) := lc2 (-1) (-1) a3 c1 (by clear a1 a2 a3 e1 e2 e3 c1 c2 c3 f1 f2 f3 ha hn; grobner)
  have G1 : (v + l) * (v - l) = x3 + x4 - x1 - x2 := lc2 1 (-1) e1 f1 (by clear a1 a2 a3 e1 e2 e3 c1 c2 c3 f1 f2 f3 ha hn K; grobner)
  have G0 : (v + l) * (d - c) = x1 * x2 - x3 * x4 := by
    exact lc4 (-1) 1 s (-(v - l)) e2 f2 G1 K (by clear a1 a2 a3 e1 e2 e3 c1 c2 c3 f1 f2 f3 ha hn K G1; grobner)
  have V : v - l = a * (x3 + x4 - x1 - x2) := lc2 a (-(v - l)) G1 ha (by clear a1 a2 a3 e1 e2 e3 c1 c2 c3 f1 f2 f3 ha hn K G1 G0; grobner)
  have D : d - c = a * (x1 * x2 - x3 * x4) := lc2 a (-(d - c)) G0 ha (by clear a1 a2 a3 e1 e2 e3 c1 c2 c3 f1 f2 f3 ha hn K G1 G0 V; grobner)
  have S : s = -(a * (c + d)) := lc2 a (-s) K ha (by clear a1 a2 a3 e1 e2 e3 c1 c2 c3 f1 f2 f3 ha hn K G1 G0 V D; grobner)
  clear K G1 G0
  refine ⟨a, l - a * (x1 + x2), c + a * x1 * x2, ?_, ?_, ?_, ?_, ?_, ?_, ?_, ?_, ?_⟩
  · intro e; subst e
    exact one_nz (lc1 (-1) ha (by clear a1 a2 a3 e1 e2 e3 c1 c2 c3 f1 f2 f3 ha hn V D S; grobner))
  · exact lc1 1 a1 (by clear a1 a2 a3 e1 e2 e3 c1 c2 c3 f1 f2 f3 ha hn V D S; grobner)
  · exact lc1 1 a2 (by clear a1 a2 a3 e1 e2 e3 c1 c2 c3 f1 f2 f3 ha hn V D S; grobner)
  · exact lc3 1 x3 1 c2 V D (by clear a1 a2 a3 e1 e2 e3 c1 c2 c3 f1 f2 f3 ha hn V D S; grobner)
  · exact lc3 1 x4 1 c3 V D (by clear a1 a2 a3 e1 e2 e3 c1 c2 c3 f1 f2 f3 ha hn V D S; grobner)
  · exact lc2 1 (-a) ha V (by clear a1 a2 a3 e1 e2 e3 c1 c2 c3 f1 f2 f3 ha hn V D S; grobner)
  · have q1 : (l - a * (x1 + x2)) * (l - a * (x1 + x2)) + 2 * a * (c + a * x1 * x2) - a * a * (x1 * x2 + x3 * x4 + (x1 + x2) * (x3 + x4)) = l * l - a * (x1 + x2) * (v + l) + a * (c + d) :=
      lc2 (a * (x1 + x2)) (-a) V D (by clear a1 a2 a3 e1 e2 e3 c1 c2 c3 f1 f2 f3 ha hn V D S; grobner)
    exact lc4 1 (-(x1 + x2)) (-1) 1 q1 ha e1 S (by clear a1 a2 a3 e1 e2 e3 c1 c2 c3 f1 f2 f3 ha hn V D S q1; grobner)
  · have q1 : 2 * (l - a * (x1 + x2)) * (c + a * x1 * x2) - 1 + a * a * (x1 * x2 * (x3 + x4) + x3 * x4 * (x1 + x2)) = 2 * l * c - 1 + x1 * x2 * (a * (v + l)) - (x1 + x2) * (a * (c + d)) :=
      lc2 (-(a * (x1 * x2))) (a * (x1 + x2)) V D (by clear a1 a2 a3 e1 e2 e3 c1 c2 c3 f1 f2 f3 ha hn V D S; grobner)
    exact lc4 1 (x1 * x2) (1) (-(x1 + x2)) q1 ha e2 S (by clear a1 a2 a3 e1 e2 e3 c1 c2 c3 f1 f2 f3 ha hn V D S q1; grobner)
  · exact lc3 (-1) (x1 * x2) (-(a * (x1 * x2))) e3 S D (by clear a1 a2 a3 e1 e2 e3 c1 c2 c3 f1 f2 f3 ha hn V D S; grobner)
theorem qd_tan {x y x3 y3 x4 y4 a b e y' : Fq} (h : Qd x y x y' x3 y3 x4 y4 a b e) : 2 * y * (2 * a * x + b) = 3 * (x * x) + 1 := by
  obtain ⟨n, b1, b2, b3, b4, e1, e2, e3, e4⟩ := h
  exact lc4 (2 * (2 * a * x + b)) (3 * (x * x)) (2 * x) 1 b1 e1 e2 e3 (by clear n b1 b2 b3 b4 e1 e2 e3 e4; grobner)
theorem qd_no {x y x3 y3 x4 y4 a b e : Fq} (o : y * y = x * x * x + x) (h : Qd x y x (-y) x3 y3 x4 y4 a b e) : False := by
  have t := qd_tan h
  have e : y = -y := by rw [h.b2, ← h.b1]
  have e := neg_same e
  clear h
  subst e
  exact smooth (x := x) (lc1 (-1) o (by clear o t; grobner)) (lc1 (-1) t (by clear o t; grobner))
/-- A parabola through two points, and their line: a second line. -/
theorem qd_col {x1 y1 x2 y2 s t x3 y3 x4 y4 l c a b e : Fq} (h : Col x1 y1 x2 y2 s (-t) l c) (g : Qd x1 y1 x2 y2 x3 y3 x4 y4 a b e) :
    ∃ v d, Col s t x3 y3 x4 y4 v d := by
  have hb : b = l - a * (x1 + x2) := by
    by_cases ex : x1 = x2
    · have ey : y1 = y2 := by
        have a := h.a1; have b := h.a2; subst ex; rw [a, b]
      subst ex ey
      obtain ⟨n1, t1⟩ := col_tan h
      have t2 := qd_tan g
      clear h g
      exact cancel (a := y1 + y1) (dbl_nz n1) (lc2 1 (-1) t2 t1 (by clear t1 t2 n1; grobner))
    · have a1 := h.a1; have a2 := h.a2; have b1 := g.b1; have b2 := g.b2
      clear h g
      refine cancel (a := x2 - x1) (fun e => ex (lc1 (-1) e (by clear e a1 a2 b1 b2 ex; grobner))) ?_
      exact lc4 (-1) 1 1 (-1) a1 a2 b1 b2 (by clear a1 a2 b1 b2 ex; grobner)
  have he : e = c + a * x1 * x2 := by
    have a1 := h.a1; have b1 := g.b1
    clear h g
    exact lc3 1 (-1) (-x1) a1 b1 hb (by clear a1 b1 hb; grobner)
  obtain ⟨i, hi⟩ := inv_ex g.n
  obtain ⟨n, b1, b2, b3, b4, g1, g2, g3, g4⟩ := g
  obtain ⟨a1, a2, a3, e1, e2, e3⟩ := h
  subst hb he
  have H1 : a * a * (x3 + x4) = a * a * (x1 + x2) - 2 * a * l + 1 := lc1 1 g1 (by clear n b1 b2 b3 b4 g1 g2 g3 g4 a1 a2 a3 e1 e2 e3 hi; grobner)
  have H0 : a * a * (x3 * x4) = a * a * (x1 * x2) + 2 * a * c + s := lc3 (-1) (-(x1 + x2)) (-1) g2 H1 e1 (by clear n b1 b2 b3 b4 g1 g2 g3 g4 a1 a2 a3 e1 e2 e3 hi H1; grobner)
  have T1 : x3 + x4 = x1 + x2 - 2 * i * l + i * i := by
    refine cancel (a := a * a) (fun e => ?_) ?_
    · rcases nz e with e | e <;> exact n e
    · exact lc2 1 (2 * a * l - (a * i + 1)) H1 hi (by clear n b1 b2 b3 b4 g1 g2 g3 g4 a1 a2 a3 e1 e2 e3 hi H1 H0; grobner)
  have T0 : x3 * x4 = x1 * x2 + 2 * i * c + i * i * s := by
    refine cancel (a := a * a) (fun e => ?_) ?_
    · rcases nz e with e | e <;> exact n e
    · exact lc2 1 (-(2 * a * c) - s * (a * i + 1)) H0 hi (by clear n b1 b2 b3 b4 g1 g2 g3 g4 a1 a2 a3 e1 e2 e3 hi H1 H0 T1; grobner)
  clear g1 g2 g3 g4
  refine ⟨i - l, -(i * s) - c, ?_, ?_, ?_, ?_, ?_, ?_⟩
  · exact lc1 (-1) a3 (by clear n b1 b2 b3 b4 a1 a2 a3 e1 e2 e3 hi H1 H0 T1 T0; grobner)
  · refine cancel (a := a) n ?_
    exact lc4 a x3 (-1) (-(x3 - s)) b3 H1 H0 hi (by clear n b1 b2 b3 b4 a1 a2 a3 e1 e2 e3 hi H1 H0 T1 T0; grobner)
  · refine cancel (a := a) n ?_
    exact lc4 a x4 (-1) (-(x4 - s)) b4 H1 H0 hi (by clear n b1 b2 b3 b4 a1 a2 a3 e1 e2 e3 hi H1 H0 T1 T0; grobner)
  · exact lc2 1 1 T1 e1 (by clear n b1 b2 b3 b4 a1 a2 a3 e1 e2 e3 hi H1 H0 T1 T0; grobner)
  · exact lc3 s 1 1 T1 T0 e2 (by clear n b1 b2 b3 b4 a1 a2 a3 e1 e2 e3 hi H1 H0 T1 T0; grobner)
  · exact lc2 s 1 T0 e3 (by clear n b1 b2 b3 b4 a1 a2 a3 e1 e2 e3 hi H1 H0 T1 T0; grobner)
/-- One line with another one turned round that meets it in a negative: the same points. -/
theorem col_same {x1 y1 x2 y2 s t x3 y3 x4 y4 l c d : Fq} (h : Col x1 y1 x2 y2 s (-t) l c) (g : Col s t x3 y3 x4 y4 (-l) d) :
    (x3 = x1 ∧ y3 = -y1 ∧ x4 = x2 ∧ y4 = -y2) ∨ (x3 = x2 ∧ y3 = -y2 ∧ x4 = x1 ∧ y4 = -y1) := by
  obtain ⟨a1, a2, a3, e1, e2, e3⟩ := h
  obtain ⟨c1, c2, c3, f1, f2, f3⟩ := g
  have hd : d = -c := lc2 (-1) (-1) a3 c1 (by clear a1 a2 a3 e1 e2 e3 c1 c2 c3 f1 f2 f3; grobner)
  subst hd
  have hs : x3 + x4 = x1 + x2 := lc2 1 (-1) f1 e1 (by clear a1 a2 a3 e1 e2 e3 c1 c2 c3 f1 f2 f3; grobner)
  have hp : x3 * x4 = x1 * x2 := lc3 1 (-1) (-s) f2 e2 hs (by clear a1 a2 a3 e1 e2 e3 c1 c2 c3 f1 f2 f3 hs; grobner)
  have hz : (x3 - x1) * (x3 - x2) = 0 := lc2 (x3) (-1) hs hp (by clear a1 a2 a3 e1 e2 e3 c1 c2 c3 f1 f2 f3 hs hp; grobner)
  have key : ∀ {u w z q : Fq}, w = l * u + c → z = -l * q + -c → q = u → z = -w := by
    intro u w z q h1 h2 h3
    subst h3
    rw [h1, h2]
    clear h1 h2 a1 a2 a3 e1 e2 e3 c1 c2 c3 f1 f2 f3 hs hp hz
    grobner
  rcases nz hz with e | e
  · left
    have x31 : x3 = x1 := lc1 1 e (by clear a1 a2 a3 e1 e2 e3 c1 c2 c3 f1 f2 f3 hs hp hz e key; grobner)
    have x42 : x4 = x2 := lc2 1 (-1) hs x31 (by clear a1 a2 a3 e1 e2 e3 c1 c2 c3 f1 f2 f3 hs hp hz e key x31; grobner)
    exact ⟨x31, key a1 c2 x31, x42, key a2 c3 x42⟩
  · right
    have x31 : x3 = x2 := lc1 1 e (by clear a1 a2 a3 e1 e2 e3 c1 c2 c3 f1 f2 f3 hs hp hz e key; grobner)
    have x42 : x4 = x1 := lc2 1 (-1) hs x31 (by clear a1 a2 a3 e1 e2 e3 c1 c2 c3 f1 f2 f3 hs hp hz e key x31; grobner)
    exact ⟨x31, key a2 c2 x31, x42, key a1 c3 x42⟩
end Go.Proofs.YtgefjmpnpebfoaaGreatDoor
namespace Go.Proofs.YtgefjmpnpebfoaaGreatDoor
open Go.RowKit

/-- A point of the curve, not Inf. -/
def Af (p : Pt) : Prop := onN p = true ∧ p ≠ iN
theorem Af.w {p : Pt} (h : Af p) : Wl p := wl_on h.1
theorem Af.i {p : Pt} (h : Af p) : p.I = false := wl_i h.w h.2
theorem Af.c {p : Pt} (h : Af p) : fq p.Y * fq p.Y = fq p.X * fq p.X * fq p.X + fq p.X := by
  have h1 := h.1
  unfold onN at h1
  rw [if_neg (by rw [h.i]; simp)] at h1
  simp only [Bool.and_eq_true, decide_eq_true_eq] at h1
  have h2 := congrArg fq h1.2
  unfold sqN at h2
  rw [fq_mu, fq_ad, fq_mu, fq_mu] at h2
  exact h2
theorem af_ext {p q : Pt} (hp : Af p) (hq : Af q) (hx : fq p.X = fq q.X) (hy : fq p.Y = fq q.Y) : p = q :=
  Pt.ext' (fq_inj hp.w.1 hq.w.1 hx) (fq_inj hp.w.2.1 hq.w.2.1 hy) (by rw [hp.i, hq.i])
theorem fq_ng (p : Pt) : fq (ngN p).Y = - fq p.Y := by
  show fq (sbN 0 p.Y) = - fq p.Y
  rw [fq_sb, fq_0]
  grobner
theorem af_ng {p : Pt} (h : Af p) : Af (ngN p) := by
  refine ⟨on_ng h.1, fun e => h.2 ?_⟩
  have := ng_ng h.w
  rw [e] at this
  exact this.symm
/-- Three points of a line. -/
def Cl (p q r : Pt) (l c : Fq) : Prop := Col (fq p.X) (fq p.Y) (fq q.X) (fq q.Y) (fq r.X) (fq r.Y) l c
theorem af_apart {p q : Pt} (hp : Af p) (hq : Af q) (hn : q ≠ ngN p) : fq p.X ≠ fq q.X ∨ p = q := by
  by_cases ex : fq p.X = fq q.X
  · right
    have h1 := hp.c
    have h2 := hq.c
    rw [← ex] at h2
    have h3 : (fq p.Y - fq q.Y) * (fq p.Y + fq q.Y) = 0 := lc2 1 (-1) h1 h2 (by clear h1 h2; grobner)
    rcases nz h3 with e | e
    · exact af_ext hp hq ex (lc1 1 e (by clear h1 h2 h3 e; grobner))
    · refine absurd (af_ext hq (af_ng hp) ex.symm ?_) hn
      rw [fq_ng]
      exact lc1 1 e (by clear h1 h2 h3 e; grobner)
  · exact .inl ex
theorem cl_sm {p q : Pt} (hp : Af p) (hq : Af q) (hn : q ≠ ngN p) : Af (smN p q) ∧ ∃ l c, Cl p q (ngN (smN p q)) l c := by
  have e : smN p q = lnN (slN p q) p q := by unfold smN; rw [if_neg hp.2, if_neg hq.2, if_neg hn]
  refine ⟨⟨on_sm hp.1 hq.1, by rw [e]; intro h; have := congrArg Pt.I h; cases this⟩, fq (slN p q), fq p.Y - fq (slN p q) * fq p.X, ?_⟩
  have hs : fq p.X ≠ fq q.X ∧ fq (slN p q) * (fq q.X - fq p.X) = fq q.Y - fq p.Y ∨ fq p.X = fq q.X ∧ fq p.Y = fq q.Y ∧ fq (slN p q) * (fq p.Y + fq p.Y) = 3 * (fq p.X * fq p.X) + 1 := by
    rcases af_apart hp hq hn with hx | he
    · left
      refine ⟨hx, ?_⟩
      have hpq : p ≠ q := fun h => hx (by rw [h])
      have es : slN p q = ovN (sbN q.Y p.Y) (sbN q.X p.X) := by unfold slN; rw [if_neg hpq]
      rw [es, ← fq_sb, ← fq_sb]
      refine fq_ov _ _ ?_
      rw [fq_sb]
      intro h
      exact hx (lc1 (-1) h (by clear h; grobner))
    · right
      subst he
      refine ⟨rfl, rfl, ?_⟩
      have es : slN p p = ovN (adN (muN 3 (muN p.X p.X)) 1) (adN p.Y p.Y) := by unfold slN; rw [if_pos rfl]
      rw [es, ← fq_ad]
      have : fq (adN (muN 3 (muN p.X p.X)) 1) = 3 * (fq p.X * fq p.X) + 1 := by rw [fq_ad, fq_mu, fq_mu, fq_1, fq_3]
      rw [← this]
      refine fq_ov _ _ ?_
      rw [fq_ad]
      intro h
      have h0 : fq p.Y = -fq p.Y := lc1 1 h (by clear h; grobner)
      exact hn (af_ext hp (af_ng hp) rfl (by rw [fq_ng]; exact h0))
  have hc := col_make hp.c hq.c hs
  unfold Cl
  rw [fq_ng]
  have eX : fq (ngN (smN p q)).X = fq (slN p q) * fq (slN p q) - fq p.X - fq q.X := by
    rw [e]
    show fq (sbN (sbN (muN (slN p q) (slN p q)) p.X) q.X) = _
    rw [fq_sb, fq_sb, fq_mu]
  have eX' : fq (smN p q).X = fq (slN p q) * fq (slN p q) - fq p.X - fq q.X := eX
  have eY : - fq (smN p q).Y = fq (slN p q) * (fq (slN p q) * fq (slN p q) - fq p.X - fq q.X - fq p.X) + fq p.Y := by
    rw [← eX', e]
    obtain ⟨x, hx⟩ : ∃ x, (lnN (slN p q) p q).X = x := ⟨_, rfl⟩
    have eY : (lnN (slN p q) p q).Y = sbN (muN (slN p q) (sbN p.X x)) p.Y := by rw [← hx]; rfl
    rw [hx, eY, fq_sb, fq_mu, fq_sb]
    clear eX eX' e hs hc eY
    grobner
  rw [eX, eY]
  exact hc
theorem sm_cl {p q r : Pt} {l c : Fq} (hp : Af p) (hq : Af q) (hr : Af r) (h : Cl p q r l c) : smN p q = ngN r := by
  have hn : q ≠ ngN p := by
    intro e
    subst e
    unfold Cl at h
    rw [fq_ng] at h
    exact col_no h
  obtain ⟨ha, l', c', h'⟩ := cl_sm hp hq hn
  obtain ⟨_, _, ex, ey⟩ := col_uniq h h'
  have : r = ngN (smN p q) := af_ext hr (af_ng ha) ex ey
  rw [this, ng_ng ha.w]
theorem sm_comm {p q : Pt} (hp : onN p = true) (hq : onN q = true) : smN p q = smN q p := by
  by_cases h1 : p = iN
  · subst h1; rw [sm_inf, inf_sm]
  by_cases h2 : q = iN
  · subst h2; rw [sm_inf, inf_sm]
  have hp : Af p := ⟨hp, h1⟩
  have hq : Af q := ⟨hq, h2⟩
  by_cases hn : q = ngN p
  · subst hn
    rw [sm_ng hp.w]
    have := sm_ng hq.w
    rw [ng_ng hp.w] at this
    exact this.symm
  · obtain ⟨ha, l, c, h⟩ := cl_sm hp hq hn
    rw [sm_cl hq hp (af_ng ha) (Col.s12 h), ng_ng ha.w]
theorem ng_sm {p : Pt} (h : onN p = true) : smN (ngN p) p = iN := by
  rw [sm_comm (on_ng h) h, sm_ng (wl_on h)]
/-- What was added is taken away. -/
theorem sm_back {p q : Pt} (hp : onN p = true) (hq : onN q = true) : smN (ngN p) (smN p q) = q := by
  by_cases h1 : p = iN
  · subst h1; rw [sm_inf]; exact sm_inf q
  by_cases h2 : q = iN
  · subst h2; rw [inf_sm]; exact ng_sm hp
  have hp : Af p := ⟨hp, h1⟩
  have hq : Af q := ⟨hq, h2⟩
  by_cases hn : q = ngN p
  · subst hn; rw [sm_ng hp.w, inf_sm]
  · obtain ⟨ha, l, c, h⟩ := cl_sm hp hq hn
    have h' : Cl (ngN p) (smN p q) (ngN q) (-l) (-c) := by
      have := Col.s23 (Col.neg h)
      unfold Cl
      rw [fq_ng, fq_ng]
      rw [show - fq (ngN (smN p q)).Y = fq (smN p q).Y by rw [fq_ng]; grobner] at this
      exact this
    rw [sm_cl (af_ng hp) ha (af_ng hq) h', ng_ng hq.w]
theorem ng_two {p q : Pt} (hp : onN p = true) (hq : onN q = true) : ngN (smN p q) = smN (ngN p) (ngN q) := by
  by_cases h1 : p = iN
  · subst h1; rw [sm_inf]; exact (sm_inf _).symm
  by_cases h2 : q = iN
  · subst h2; rw [inf_sm]; exact (inf_sm _).symm
  have hp : Af p := ⟨hp, h1⟩
  have hq : Af q := ⟨hq, h2⟩
  by_cases hn : q = ngN p
  · subst hn; rw [sm_ng hp.w, sm_ng (af_ng hp).w]; rfl
  · obtain ⟨ha, l, c, h⟩ := cl_sm hp hq hn
    have h' : Cl (ngN p) (ngN q) (smN p q) (-l) (-c) := by
      have := Col.neg h
      unfold Cl
      rw [fq_ng, fq_ng]
      rw [show - fq (ngN (smN p q)).Y = fq (smN p q).Y by rw [fq_ng]; grobner] at this
      exact this
    exact (sm_cl (af_ng hp) (af_ng hq) ha h').symm
/-- In whichever order three points are summed up. -/
theorem sm_assoc {p q r : Pt} (hp : onN p = true) (hq : onN q = true) (hr : onN r = true) : smN (smN p q) r = smN p (smN q r) := by
  by_cases h1 : p = iN
  · subst h1; rw [sm_inf, sm_inf]
  by_cases h2 : q = iN
  · subst h2; rw [sm_inf, inf_sm]
  by_cases h3 : r = iN
  · subst h3; rw [inf_sm, inf_sm]
  have ap : Af p := ⟨hp, h1⟩
  have aq : Af q := ⟨hq, h2⟩
  have ar : Af r := ⟨hr, h3⟩
  by_cases n1 : q = ngN p
  · subst n1
    rw [sm_ng ap.w, sm_inf]
    have := sm_back hq hr
    rw [ng_ng ap.w] at this
    exact this.symm
  by_cases n2 : r = ngN q
  · subst n2
    rw [sm_ng aq.w, inf_sm, sm_comm (on_sm hp hq) hr, sm_comm hp hq, sm_back hq hp]
  obtain ⟨aS, l, c, cs⟩ := cl_sm ap aq n1
  obtain ⟨at', l', c', ct⟩ := cl_sm aq ar n2
  by_cases n3 : r = ngN (smN p q)
  · rw [n3, sm_ng aS.w, ng_two hp hq, sm_comm (on_ng hp) (on_ng hq)]
    have := sm_back (on_ng hq) (on_ng hp)
    rw [ng_ng aq.w] at this
    rw [this, sm_ng ap.w]
  obtain ⟨ad, v, d, cd⟩ := cl_sm aS ar n3
  unfold Cl at cs cd
  rw [fq_ng] at cs
  by_cases hv : v + l = 0
  · have ev : v = -l := lc1 1 hv (by clear hv; grobner)
    subst ev
    rcases col_same cs cd with ⟨x1, y1, x2, y2⟩ | ⟨x1, y1, x2, y2⟩
    · have e1 : r = ngN p := af_ext ar (af_ng ap) x1 (by rw [fq_ng]; exact y1)
      have e2 : ngN (smN (smN p q) r) = ngN q := af_ext (af_ng ad) (af_ng aq) x2 (by rw [fq_ng (p := q)]; exact y2)
      have e3 : smN (smN p q) r = q := by rw [← ng_ng ad.w, e2, ng_ng aq.w]
      rw [e3, e1, sm_comm hq (on_ng hp)]
      have := sm_back (on_ng hp) hq
      rw [ng_ng ap.w] at this
      exact this.symm
    · exact absurd (af_ext ar (af_ng aq) x1 (by rw [fq_ng]; exact y1)) n2
  · obtain ⟨a, b, e, hq1⟩ := col_qd cs cd hv
    have hq2 := hq1.rot
    unfold Cl at ct
    rw [fq_ng] at ct
    obtain ⟨v2, d2, c2⟩ := qd_col ct hq2
    have := sm_cl at' ap (af_ng ad) c2
    rw [ng_ng ad.w] at this
    rw [← this, sm_comm (on_sm hq hr) hp]
end Go.Proofs.YtgefjmpnpebfoaaGreatDoor
