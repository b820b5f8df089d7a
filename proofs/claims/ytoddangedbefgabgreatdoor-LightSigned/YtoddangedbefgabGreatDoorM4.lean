/- Lemmas: Points of a line, and of a parabola, of the curve: what associativity wants, pure, over numbers modulo the prime. No condition. Sums of points of the curve do not hang on the order, nor on which are summed up first: pure. No condition. Multiples of points of the curve: of a sum, of a multiple; the group's points together. Pure. No condition. How many points the curve has: one more than the prime; so four times the order of the group, times a point, is Inf. Pure. No condition. -/
import Derived.Test.YtoddangedbefgabGreatDoorM3
namespace Go.Proofs.YtoddangedbefgabGreatDoor
open Go.RowKit
abbrev Fq := Fin PM
theorem nz {a b : Fq} (h : a * b = 0) : a = 0 ∨ b = 0 := by
 have h1 : a.val * b.val % PM = 0 := by
  have := congrArg Fin.val h
  rw [Fin.val_mul] at this
  exact this
 rcases pm_prime.split (Nat.dvd_of_mod_eq_zero h1) with h2 | h2
 ·exact .inl (Fin.ext (Nat.eq_zero_of_dvd_of_lt h2 a.isLt))
 ·exact .inr (Fin.ext (Nat.eq_zero_of_dvd_of_lt h2 b.isLt))
def fq (n : Nat) : Fq := Fin.ofNat PM n
theorem jcn (n : Nat) : (fq n).val = n % PM := rfl
theorem jfr (a b : Nat) : fq (muN a b) = fq a * fq b := by
 refine Fin.ext ?_
 rw [Fin.val_mul, jcn, jcn, jcn, jes, Nat.mod_mod, Nat.mul_mod]
theorem fq_ad (a b : Nat) : fq (adN a b) = fq a + fq b := by
 refine Fin.ext ?_
 rw [Fin.val_add, jcn, jcn, jcn, ad_eq, Nat.mod_mod, Nat.add_mod]
theorem jgy (a b : Nat) : fq (sbN a b) = fq a - fq b := by
 refine Fin.ext ?_
 rw [Fin.sub_def, jcn]
 show sbN a b % PM = (PM - b % PM + a % PM) % PM
 unfold sbN
 have : b % PM < PM := Nat.mod_lt _ (by decide)
 rw [Nat.mod_mod, show a % PM + PM - b % PM = PM - b % PM + a % PM by omega]
theorem fq_inj {a b : Nat} (ha : a < PM) (hb : b < PM) (h : fq a = fq b) : a = b := by
 have := congrArg Fin.val h
 rw [jcn, jcn, Nat.mod_eq_of_lt ha, Nat.mod_eq_of_lt hb] at this
 exact this
theorem fq_self (a : Fq) : fq a.val = a := Fin.ext (Nat.mod_eq_of_lt a.isLt)
theorem fq_0 : fq 0 = 0 := rfl
theorem fq_1 : fq 1 = 1 := rfl
theorem fq_3 : fq 3 = 3 := rfl
theorem fq_z {b : Nat} (h : fq b ≠ 0) : ¬ Dv (b : Int) := by
 intro ⟨k, hk⟩
 apply h
 refine Fin.ext ?_
 rw [jcn]
 show b % 2147482867 = 0
 unfold PI at hk
 omega
theorem fq_ov (a b : Nat) (h : fq b ≠ 0) : fq (ovN a b) * fq b = fq a := by
 have := dv_ov a b (fq_z h)
 refine Fin.ext ?_
 rw [Fin.val_mul, jcn, jcn, jcn, ← Nat.mul_mod]
 refine dv_nat ?_
 rw [Int.natCast_mul]
 exact this
theorem inv_ex {a : Fq} (h : a ≠ 0) : ∃ b, a * b = 1 := by
 refine ⟨fq (ovN 1 a.val), ?_⟩
 have := fq_ov 1 a.val (by rw [fq_self]; exact h)
 rw [fq_self, fq_1] at this
 rw [Fin.mul_comm]
 exact this
theorem two_nz : (2 : Fq) ≠ 0 := by decide
theorem one_nz : (1 : Fq) ≠ 0 := by decide
theorem jgf {a b c : Fq} (h : a ≠ 0) (e : a * b = a * c) : b = c := by
 have h1 : a * (b - c) = 0 := by grobner
 rcases nz h1 with h2 | h2
 ·exact absurd h2 h
 ·clear e h1; grobner
theorem lc1 {a b u v : Fq} (c : Fq) (h : u = v) (e : a - b = c * (u - v)) : a = b := by subst h; grobner
theorem lc2 {a b u v u2 v2 : Fq} (c c2 : Fq) (h : u = v) (h2 : u2 = v2) (e : a - b = c * (u - v) + c2 * (u2 - v2)) : a = b := by subst h h2; grobner
theorem lc3 {a b u v u2 v2 u3 v3 : Fq} (c c2 c3 : Fq) (h : u = v) (h2 : u2 = v2) (h3 : u3 = v3) (e : a - b = c * (u - v) + c2 * (u2 - v2) + c3 * (u3 - v3)) : a = b := by subst h h2 h3; grobner
theorem lc4 {a b u v u2 v2 u3 v3 u4 v4 : Fq} (c c2 c3 c4 : Fq) (h : u = v) (h2 : u2 = v2) (h3 : u3 = v3) (h4 : u4 = v4) (e : a - b = c * (u - v) + c2 * (u2 - v2) + c3 * (u3 - v3) + c4 * (u4 - v4)) : a = b := by subst h h2 h3 h4; grobner
structure Col (x1 y1 x2 y2 x3 y3 l c : Fq) : Prop where
 a1 : y1 = l * x1 + c
 a2 : y2 = l * x2 + c
 a3 : y3 = l * x3 + c
 e1 : x1 + x2 + x3 = l * l
 e2 : x1 * x2 + x1 * x3 + x2 * x3 = 1 - 2 * l * c
 e3 : x1 * x2 * x3 = c * c
theorem Col.on1 {x1 y1 x2 y2 x3 y3 l c : Fq} (h : Col x1 y1 x2 y2 x3 y3 l c) : y1 * y1 = x1 * x1 * x1 + x1 := by
 obtain ⟨a1, a2, a3, e1, e2, e3⟩ := h
 subst a1 a2 a3
 exact lc3 (-(x1 * x1)) x1 (-1) e1 e2 e3 (by clear e1 e2 e3; grobner)
theorem Col.s12 {x1 y1 x2 y2 x3 y3 l c : Fq} (h : Col x1 y1 x2 y2 x3 y3 l c) : Col x2 y2 x1 y1 x3 y3 l c := by
 obtain ⟨a1, a2, a3, e1, e2, e3⟩ := h
 exact ⟨a2, a1, a3, lc1 1 e1 (by clear e1 e2 e3 a1 a2 a3; grobner), lc1 1 e2 (by clear e1 e2 e3 a1 a2 a3; grobner), lc1 1 e3 (by clear e1 e2 e3 a1 a2 a3; grobner)⟩
theorem Col.s23 {x1 y1 x2 y2 x3 y3 l c : Fq} (h : Col x1 y1 x2 y2 x3 y3 l c) : Col x1 y1 x3 y3 x2 y2 l c := by
 obtain ⟨a1, a2, a3, e1, e2, e3⟩ := h
 exact ⟨a1, a3, a2, lc1 1 e1 (by clear e1 e2 e3 a1 a2 a3; grobner), lc1 1 e2 (by clear e1 e2 e3 a1 a2 a3; grobner), lc1 1 e3 (by clear e1 e2 e3 a1 a2 a3; grobner)⟩
theorem Col.neg {x1 y1 x2 y2 x3 y3 l c : Fq} (h : Col x1 y1 x2 y2 x3 y3 l c) : Col x1 (-y1) x2 (-y2) x3 (-y3) (-l) (-c) := by
 obtain ⟨a1, a2, a3, e1, e2, e3⟩ := h
 exact ⟨lc1 (-1) a1 (by clear e1 e2 e3 a1 a2 a3; grobner), lc1 (-1) a2 (by clear e1 e2 e3 a1 a2 a3; grobner), lc1 (-1) a3 (by clear e1 e2 e3 a1 a2 a3; grobner), lc1 1 e1 (by clear e1 e2 e3 a1 a2 a3; grobner), lc1 1 e2 (by clear e1 e2 e3 a1 a2 a3; grobner), lc1 1 e3 (by clear e1 e2 e3 a1 a2 a3; grobner)⟩
theorem smooth {x : Fq} (h1 : x * x * x + x = 0) (h2 : 3 * (x * x) + 1 = 0) : False := by
 have h : (2 : Fq) = 0 := by grobner
 exact two_nz h
theorem col_make {x1 y1 x2 y2 l : Fq} (o1 : y1 * y1 = x1 * x1 * x1 + x1) (o2 : y2 * y2 = x2 * x2 * x2 + x2)
  (h : x1 ≠ x2 ∧ l * (x2 - x1) = y2 - y1 ∨ x1 = x2 ∧ y1 = y2 ∧ l * (y1 + y1) = 3 * (x1 * x1) + 1) :
  Col x1 y1 x2 y2 (l * l - x1 - x2) (l * (l * l - x1 - x2 - x1) + y1) l (y1 - l * x1) := by
 have dg : x2 * x2 + x1 * x2 + x1 * x1 + 1 = l * l * (x2 - x1) + 2 * l * y1 := by
  rcases h with ⟨hn, hl⟩ | ⟨e1, e2, hl⟩
  ·refine jgf (a := x2 - x1) (fun e => hn (lc1 (-1) e (by clear e o1 o2 hl hn; grobner))) ?_
   exact lc3 1 (-1) (-(l * (x2 - x1) + y2 + y1)) o1 o2 hl (by clear o1 o2 hl hn; grobner)
  ·subst e1 e2; exact lc1 (-1) hl (by clear o1 o2 hl; grobner)
 have ey : y2 = l * x2 + (y1 - l * x1) := by
  rcases h with ⟨hn, hl⟩ | ⟨e1, e2, hl⟩
  ·exact lc1 (-1) hl (by clear o1 o2 hl hn dg; grobner)
  ·subst e1 e2; clear o1 o2 hl dg; grobner
 exact ⟨by clear o1 o2 dg ey h; grobner, ey, by clear o1 o2 dg ey h; grobner, by clear o1 o2 dg ey h; grobner, lc1 (-1) dg (by clear o1 o2 dg ey h; grobner), lc2 (-x1) (-1) dg o1 (by clear o1 o2 dg ey h; grobner)⟩
theorem col_tan {x y x3 y3 l c : Fq} (h : Col x y x y x3 y3 l c) : y ≠ 0 ∧ l * (y + y) = 3 * (x * x) + 1 := by
 have o := h.on1
 obtain ⟨a1, a2, a3, e1, e2, e3⟩ := h
 have hl : l * (y + y) = 3 * (x * x) + 1 := lc3 (2 * l) 1 (-(2 * x)) a1 e2 e1 (by clear o a1 a2 a3 e1 e2 e3; grobner)
 refine ⟨fun e => ?_, hl⟩
 subst e
 exact smooth (x := x) (lc1 (-1) o (by clear o hl a1 a2 a3 e1 e2 e3; grobner)) (lc1 (-1) hl (by clear o hl a1 a2 a3 e1 e2 e3; grobner))
theorem dbl_nz {y : Fq} (h : y ≠ 0) : y + y ≠ 0 := by
 intro e
 have e : 2 * y = 0 := lc1 1 e (by clear e h; grobner)
 rcases nz e with e | e
 ·exact two_nz e
 ·exact h e
theorem col_uniq {x1 y1 x2 y2 x3 y3 l c x3' y3' l' c' : Fq} (h : Col x1 y1 x2 y2 x3 y3 l c) (h' : Col x1 y1 x2 y2 x3' y3' l' c') :
  l = l' ∧ c = c' ∧ x3 = x3' ∧ y3 = y3' := by
 have el : l = l' := by
  by_cases ex : x1 = x2
  ·have ey : y1 = y2 := by
    have a := h.a1; have b := h.a2; subst ex; rw [a, b]
   subst ex ey
   obtain ⟨n1, t1⟩ := col_tan h
   obtain ⟨n2, t2⟩ := col_tan h'
   clear h h'
   exact jgf (a := y1 + y1) (dbl_nz n1) (lc2 1 (-1) t1 t2 (by clear t1 t2 n1 n2; grobner))
  ·have a := h.a1; have b := h.a2; have a' := h'.a1; have b' := h'.a2
   clear h h'
   refine jgf (a := x2 - x1) (fun e => ex (lc1 (-1) e (by clear e a b a' b' ex; grobner))) ?_
   exact lc4 1 (-1) (-1) 1 a b a' b' (by clear a b a' b' ex; grobner)
 subst el
 have ec : c = c' := by
  have a := h.a1; have b := h'.a1; clear h h'
  exact lc2 (-1) 1 a b (by clear a b; grobner)
 subst ec
 have ex : x3 = x3' := by
  have a := h.e1; have b := h'.e1; clear h h'
  exact lc2 1 (-1) a b (by clear a b; grobner)
 subst ex
 exact ⟨rfl, rfl, rfl, by rw [h.a3, h'.a3]⟩
theorem neg_z : (-0 : Fq) = 0 := by grobner
theorem neg_same {y : Fq} (e : y = -y) : y = 0 := by
 have e : 2 * y = 0 := lc1 1 e (by clear e; grobner)
 rcases nz e with e | e
 ·exact absurd e two_nz
 ·exact e
theorem col_no {x y x3 y3 l c : Fq} (h : Col x y x (-y) x3 y3 l c) : False := by
 have e : y = -y := by rw [h.a2, ← h.a1]
 have e := neg_same e
 subst e
 rw [neg_z] at h
 exact (col_tan h).1 rfl
structure Qd (x1 y1 x2 y2 x3 y3 x4 y4 a b c : Fq) : Prop where
 n : a ≠ 0
 b1 : y1 = a * x1 * x1 + b * x1 + c
 b2 : y2 = a * x2 * x2 + b * x2 + c
 b3 : y3 = a * x3 * x3 + b * x3 + c
 b4 : y4 = a * x4 * x4 + b * x4 + c
 e1 : 2 * a * b - 1 = - (a * a * (x1 + x2 + x3 + x4))
 e2 : b * b + 2 * a * c = a * a * (x1 * x2 + x3 * x4 + (x1 + x2) * (x3 + x4))
 e3 : 2 * b * c - 1 = - (a * a * (x1 * x2 * (x3 + x4) + x3 * x4 * (x1 + x2)))
 e4 : c * c = a * a * (x1 * x2 * (x3 * x4))
theorem Qd.rot {x1 y1 x2 y2 x3 y3 x4 y4 a b c : Fq} (h : Qd x1 y1 x2 y2 x3 y3 x4 y4 a b c) : Qd x2 y2 x3 y3 x1 y1 x4 y4 a b c := by
 obtain ⟨n, b1, b2, b3, b4, e1, e2, e3, e4⟩ := h
 refine ⟨n, b2, b3, b1, b4, lc1 1 e1 ?_, lc1 1 e2 ?_, lc1 1 e3 ?_, lc1 1 e4 ?_⟩ <;> (clear n b1 b2 b3 b4 e1 e2 e3 e4; grobner)
theorem col_qd {x1 y1 x2 y2 s t x3 y3 x4 y4 l c v d : Fq} (h : Col x1 y1 x2 y2 s (-t) l c) (g : Col s t x3 y3 x4 y4 v d) (hn : v + l ≠ 0) :
  ∃ a b e, Qd x1 y1 x2 y2 x3 y3 x4 y4 a b e := by
 obtain ⟨a, ha⟩ := inv_ex hn
 obtain ⟨a1, a2, a3, e1, e2, e3⟩ := h
 obtain ⟨c1, c2, c3, f1, f2, f3⟩ := g
 have K : (v + l) * s = -(c + d) := lc2 (-1) (-1) a3 c1 (by clear a1 a2 a3 e1 e2 e3 c1 c2 c3 f1 f2 f3 ha hn; grobner)
 have G1 : (v + l) * (v - l) = x3 + x4 - x1 - x2 := lc2 1 (-1) e1 f1 (by clear a1 a2 a3 e1 e2 e3 c1 c2 c3 f1 f2 f3 ha hn K; grobner)
 have G0 : (v + l) * (d - c) = x1 * x2 - x3 * x4 := by
  exact lc4 (-1) 1 s (-(v - l)) e2 f2 G1 K (by clear a1 a2 a3 e1 e2 e3 c1 c2 c3 f1 f2 f3 ha hn K G1; grobner)
 have V : v - l = a * (x3 + x4 - x1 - x2) := lc2 a (-(v - l)) G1 ha (by clear a1 a2 a3 e1 e2 e3 c1 c2 c3 f1 f2 f3 ha hn K G1 G0; grobner)
 have D : d - c = a * (x1 * x2 - x3 * x4) := lc2 a (-(d - c)) G0 ha (by clear a1 a2 a3 e1 e2 e3 c1 c2 c3 f1 f2 f3 ha hn K G1 G0 V; grobner)
 have S : s = -(a * (c + d)) := lc2 a (-s) K ha (by clear a1 a2 a3 e1 e2 e3 c1 c2 c3 f1 f2 f3 ha hn K G1 G0 V D; grobner)
 clear K G1 G0
 refine ⟨a, l - a * (x1 + x2), c + a * x1 * x2, ?_, ?_, ?_, ?_, ?_, ?_, ?_, ?_, ?_⟩
 ·intro e; subst e
  exact one_nz (lc1 (-1) ha (by clear a1 a2 a3 e1 e2 e3 c1 c2 c3 f1 f2 f3 ha hn V D S; grobner))
 ·exact lc1 1 a1 (by clear a1 a2 a3 e1 e2 e3 c1 c2 c3 f1 f2 f3 ha hn V D S; grobner)
 ·exact lc1 1 a2 (by clear a1 a2 a3 e1 e2 e3 c1 c2 c3 f1 f2 f3 ha hn V D S; grobner)
 ·exact lc3 1 x3 1 c2 V D (by clear a1 a2 a3 e1 e2 e3 c1 c2 c3 f1 f2 f3 ha hn V D S; grobner)
 ·exact lc3 1 x4 1 c3 V D (by clear a1 a2 a3 e1 e2 e3 c1 c2 c3 f1 f2 f3 ha hn V D S; grobner)
 ·exact lc2 1 (-a) ha V (by clear a1 a2 a3 e1 e2 e3 c1 c2 c3 f1 f2 f3 ha hn V D S; grobner)
 ·have q1 : (l - a * (x1 + x2)) * (l - a * (x1 + x2)) + 2 * a * (c + a * x1 * x2) - a * a * (x1 * x2 + x3 * x4 + (x1 + x2) * (x3 + x4)) = l * l - a * (x1 + x2) * (v + l) + a * (c + d) :=
   lc2 (a * (x1 + x2)) (-a) V D (by clear a1 a2 a3 e1 e2 e3 c1 c2 c3 f1 f2 f3 ha hn V D S; grobner)
  exact lc4 1 (-(x1 + x2)) (-1) 1 q1 ha e1 S (by clear a1 a2 a3 e1 e2 e3 c1 c2 c3 f1 f2 f3 ha hn V D S q1; grobner)
 ·have q1 : 2 * (l - a * (x1 + x2)) * (c + a * x1 * x2) - 1 + a * a * (x1 * x2 * (x3 + x4) + x3 * x4 * (x1 + x2)) = 2 * l * c - 1 + x1 * x2 * (a * (v + l)) - (x1 + x2) * (a * (c + d)) :=
   lc2 (-(a * (x1 * x2))) (a * (x1 + x2)) V D (by clear a1 a2 a3 e1 e2 e3 c1 c2 c3 f1 f2 f3 ha hn V D S; grobner)
  exact lc4 1 (x1 * x2) (1) (-(x1 + x2)) q1 ha e2 S (by clear a1 a2 a3 e1 e2 e3 c1 c2 c3 f1 f2 f3 ha hn V D S q1; grobner)
 ·exact lc3 (-1) (x1 * x2) (-(a * (x1 * x2))) e3 S D (by clear a1 a2 a3 e1 e2 e3 c1 c2 c3 f1 f2 f3 ha hn V D S; grobner)
theorem qd_tan {x y x3 y3 x4 y4 a b e y' : Fq} (h : Qd x y x y' x3 y3 x4 y4 a b e) : 2 * y * (2 * a * x + b) = 3 * (x * x) + 1 := by
 obtain ⟨n, b1, b2, b3, b4, e1, e2, e3, e4⟩ := h
 exact lc4 (2 * (2 * a * x + b)) (3 * (x * x)) (2 * x) 1 b1 e1 e2 e3 (by clear n b1 b2 b3 b4 e1 e2 e3 e4; grobner)
theorem qd_col {x1 y1 x2 y2 s t x3 y3 x4 y4 l c a b e : Fq} (h : Col x1 y1 x2 y2 s (-t) l c) (g : Qd x1 y1 x2 y2 x3 y3 x4 y4 a b e) :
  ∃ v d, Col s t x3 y3 x4 y4 v d := by
 have hb : b = l - a * (x1 + x2) := by
  by_cases ex : x1 = x2
  ·have ey : y1 = y2 := by
    have a := h.a1; have b := h.a2; subst ex; rw [a, b]
   subst ex ey
   obtain ⟨n1, t1⟩ := col_tan h
   have t2 := qd_tan g
   clear h g
   exact jgf (a := y1 + y1) (dbl_nz n1) (lc2 1 (-1) t2 t1 (by clear t1 t2 n1; grobner))
  ·have a1 := h.a1; have a2 := h.a2; have b1 := g.b1; have b2 := g.b2
   clear h g
   refine jgf (a := x2 - x1) (fun e => ex (lc1 (-1) e (by clear e a1 a2 b1 b2 ex; grobner))) ?_
   exact lc4 (-1) 1 1 (-1) a1 a2 b1 b2 (by clear a1 a2 b1 b2 ex; grobner)
 have he : e = c + a * x1 * x2 := by
  have a1 := h.a1; have b1 := g.b1
  clear h g
  exact lc3 1 (-1) (-x1) a1 b1 hb (by clear a1 b1 hb; grobner)
 obtain ⟨i, hi⟩ := inv_ex g.n
 obtain ⟨n, b1, b2, b3, b4, g1, g2, g3, g4⟩ := g
 obtain ⟨a1, a2, a3, e1, e2, e3⟩ := h
 subst hb he
 have H1 : a * a * (x3 + x4) = a * a * (x1 + x2) - 2 * a * l + 1 := lc1 1 g1 (by clear n b1 b2 b3 b4 g1 g2 g3 g4 a1 a2 a3 e1 e2 e3 hi; grobner)
 have H0 : a * a * (x3 * x4) = a * a * (x1 * x2) + 2 * a * c + s := lc3 (-1) (-(x1 + x2)) (-1) g2 H1 e1 (by clear n b1 b2 b3 b4 g1 g2 g3 g4 a1 a2 a3 e1 e2 e3 hi H1; grobner)
 have T1 : x3 + x4 = x1 + x2 - 2 * i * l + i * i := by
  refine jgf (a := a * a) (fun e => ?_) ?_
  ·rcases nz e with e | e <;> exact n e
  ·exact lc2 1 (2 * a * l - (a * i + 1)) H1 hi (by clear n b1 b2 b3 b4 g1 g2 g3 g4 a1 a2 a3 e1 e2 e3 hi H1 H0; grobner)
 have T0 : x3 * x4 = x1 * x2 + 2 * i * c + i * i * s := by
  refine jgf (a := a * a) (fun e => ?_) ?_
  ·rcases nz e with e | e <;> exact n e
  ·exact lc2 1 (-(2 * a * c) - s * (a * i + 1)) H0 hi (by clear n b1 b2 b3 b4 g1 g2 g3 g4 a1 a2 a3 e1 e2 e3 hi H1 H0 T1; grobner)
 clear g1 g2 g3 g4
 refine ⟨i - l, -(i * s) - c, ?_, ?_, ?_, ?_, ?_, ?_⟩
 ·exact lc1 (-1) a3 (by clear n b1 b2 b3 b4 a1 a2 a3 e1 e2 e3 hi H1 H0 T1 T0; grobner)
 ·refine jgf (a := a) n ?_
  exact lc4 a x3 (-1) (-(x3 - s)) b3 H1 H0 hi (by clear n b1 b2 b3 b4 a1 a2 a3 e1 e2 e3 hi H1 H0 T1 T0; grobner)
 ·refine jgf (a := a) n ?_
  exact lc4 a x4 (-1) (-(x4 - s)) b4 H1 H0 hi (by clear n b1 b2 b3 b4 a1 a2 a3 e1 e2 e3 hi H1 H0 T1 T0; grobner)
 ·exact lc2 1 1 T1 e1 (by clear n b1 b2 b3 b4 a1 a2 a3 e1 e2 e3 hi H1 H0 T1 T0; grobner)
 ·exact lc3 s 1 1 T1 T0 e2 (by clear n b1 b2 b3 b4 a1 a2 a3 e1 e2 e3 hi H1 H0 T1 T0; grobner)
 ·exact lc2 s 1 T0 e3 (by clear n b1 b2 b3 b4 a1 a2 a3 e1 e2 e3 hi H1 H0 T1 T0; grobner)
theorem col_same {x1 y1 x2 y2 s t x3 y3 x4 y4 l c d : Fq} (h : Col x1 y1 x2 y2 s (-t) l c) (g : Col s t x3 y3 x4 y4 (-l) d) :
  (x3 = x1 ∧ y3 = -y1 ∧ x4 = x2 ∧ y4 = -y2) ∨ (x3 = x2 ∧ y3 = -y2 ∧ x4 = x1 ∧ y4 = -y1) := by
 obtain ⟨a1, a2, a3, e1, e2, e3⟩ := h
 obtain ⟨c1, c2, c3, f1, f2, f3⟩ := g
 have hd : d = -c := lc2 (-1) (-1) a3 c1 (by clear a1 a2 a3 e1 e2 e3 c1 c2 c3 f1 f2 f3; grobner)
 subst hd
 have hs : x3 + x4 = x1 + x2 := lc2 1 (-1) f1 e1 (by clear a1 a2 a3 e1 e2 e3 c1 c2 c3 f1 f2 f3; grobner)
 have hp : x3 * x4 = x1 * x2 := lc3 1 (-1) (-s) f2 e2 hs (by clear a1 a2 a3 e1 e2 e3 c1 c2 c3 f1 f2 f3 hs; grobner)
 have hz : (x3 - x1) * (x3 - x2) = 0 := lc2 (x3) (-1) hs hp (by clear a1 a2 a3 e1 e2 e3 c1 c2 c3 f1 f2 f3 hs hp; grobner)
 have key : ∀ {u w z q : Fq}, w = l * u + c → z = -l * q + -c → q = u → z = -w := by
  intro u w z q h1 h2 h3
  subst h3
  rw [h1, h2]
  clear h1 h2 a1 a2 a3 e1 e2 e3 c1 c2 c3 f1 f2 f3 hs hp hz
  grobner
 rcases nz hz with e | e
 ·left
  have x31 : x3 = x1 := lc1 1 e (by clear a1 a2 a3 e1 e2 e3 c1 c2 c3 f1 f2 f3 hs hp hz e key; grobner)
  have x42 : x4 = x2 := lc2 1 (-1) hs x31 (by clear a1 a2 a3 e1 e2 e3 c1 c2 c3 f1 f2 f3 hs hp hz e key x31; grobner)
  exact ⟨x31, key a1 c2 x31, x42, key a2 c3 x42⟩
 ·right
  have x31 : x3 = x2 := lc1 1 e (by clear a1 a2 a3 e1 e2 e3 c1 c2 c3 f1 f2 f3 hs hp hz e key; grobner)
  have x42 : x4 = x1 := lc2 1 (-1) hs x31 (by clear a1 a2 a3 e1 e2 e3 c1 c2 c3 f1 f2 f3 hs hp hz e key x31; grobner)
  exact ⟨x31, key a2 c2 x31, x42, key a1 c3 x42⟩
def Af (p : Pt) : Prop := onN p = true ∧ p ≠ iN
theorem Af.w {p : Pt} (h : Af p) : Wl p := jbs h.1
theorem Af.i {p : Pt} (h : Af p) : p.I = false := wl_i h.w h.2
theorem Af.c {p : Pt} (h : Af p) : fq p.Y * fq p.Y = fq p.X * fq p.X * fq p.X + fq p.X := by
 have h1 := h.1
 unfold onN at h1
 rw [if_neg (by rw [h.i]; simp)] at h1
 simp only [Bool.and_eq_true, decide_eq_true_eq] at h1
 have h2 := congrArg fq h1.2
 unfold sqN at h2
 rw [jfr, fq_ad, jfr, jfr] at h2
 exact h2
theorem af_ext {p q : Pt} (hp : Af p) (hq : Af q) (hx : fq p.X = fq q.X) (hy : fq p.Y = fq q.Y) : p = q :=
 Pt.ext' (fq_inj hp.w.1 hq.w.1 hx) (fq_inj hp.w.2.1 hq.w.2.1 hy) (by rw [hp.i, hq.i])
theorem jfq (p : Pt) : fq (ngN p).Y = - fq p.Y := by
 show fq (sbN 0 p.Y) = - fq p.Y
 rw [jgy, fq_0]
 grobner
theorem jgl {p : Pt} (h : Af p) : Af (ngN p) := by
 refine ⟨on_ng h.1, fun e => h.2 ?_⟩
 have := jgt h.w
 rw [e] at this
 exact this.symm
def Cl (p q r : Pt) (l c : Fq) : Prop := Col (fq p.X) (fq p.Y) (fq q.X) (fq q.Y) (fq r.X) (fq r.Y) l c
theorem af_apart {p q : Pt} (hp : Af p) (hq : Af q) (hn : q ≠ ngN p) : fq p.X ≠ fq q.X ∨ p = q := by
 by_cases ex : fq p.X = fq q.X
 ·right
  have h1 := hp.c
  have h2 := hq.c
  rw [← ex] at h2
  have h3 : (fq p.Y - fq q.Y) * (fq p.Y + fq q.Y) = 0 := lc2 1 (-1) h1 h2 (by clear h1 h2; grobner)
  rcases nz h3 with e | e
  ·exact af_ext hp hq ex (lc1 1 e (by clear h1 h2 h3 e; grobner))
  ·refine absurd (af_ext hq (jgl hp) ex.symm ?_) hn
   rw [jfq]
   exact lc1 1 e (by clear h1 h2 h3 e; grobner)
 ·exact .inl ex
theorem cl_sm {p q : Pt} (hp : Af p) (hq : Af q) (hn : q ≠ ngN p) : Af (smN p q) ∧ ∃ l c, Cl p q (ngN (smN p q)) l c := by
 have e : smN p q = lnN (slN p q) p q := by unfold smN; rw [if_neg hp.2, if_neg hq.2, if_neg hn]
 refine ⟨⟨jee hp.1 hq.1, by rw [e]; intro h; have := congrArg Pt.I h; cases this⟩, fq (slN p q), fq p.Y - fq (slN p q) * fq p.X, ?_⟩
 have hs : fq p.X ≠ fq q.X ∧ fq (slN p q) * (fq q.X - fq p.X) = fq q.Y - fq p.Y ∨ fq p.X = fq q.X ∧ fq p.Y = fq q.Y ∧ fq (slN p q) * (fq p.Y + fq p.Y) = 3 * (fq p.X * fq p.X) + 1 := by
  rcases af_apart hp hq hn with hx | he
  ·left
   refine ⟨hx, ?_⟩
   have hpq : p ≠ q := fun h => hx (by rw [h])
   have es : slN p q = ovN (sbN q.Y p.Y) (sbN q.X p.X) := by unfold slN; rw [if_neg hpq]
   rw [es, ← jgy, ← jgy]
   refine fq_ov _ _ ?_
   rw [jgy]
   intro h
   exact hx (lc1 (-1) h (by clear h; grobner))
  ·right
   subst he
   refine ⟨rfl, rfl, ?_⟩
   have es : slN p p = ovN (adN (muN 3 (muN p.X p.X)) 1) (adN p.Y p.Y) := by unfold slN; rw [if_pos rfl]
   rw [es, ← fq_ad]
   have : fq (adN (muN 3 (muN p.X p.X)) 1) = 3 * (fq p.X * fq p.X) + 1 := by rw [fq_ad, jfr, jfr, fq_1, fq_3]
   rw [← this]
   refine fq_ov _ _ ?_
   rw [fq_ad]
   intro h
   have h0 : fq p.Y = -fq p.Y := lc1 1 h (by clear h; grobner)
   exact hn (af_ext hp (jgl hp) rfl (by rw [jfq]; exact h0))
 have hc := col_make hp.c hq.c hs
 unfold Cl
 rw [jfq]
 have eX : fq (ngN (smN p q)).X = fq (slN p q) * fq (slN p q) - fq p.X - fq q.X := by
  rw [e]
  show fq (sbN (sbN (muN (slN p q) (slN p q)) p.X) q.X) = _
  rw [jgy, jgy, jfr]
 have eX' : fq (smN p q).X = fq (slN p q) * fq (slN p q) - fq p.X - fq q.X := eX
 have eY : - fq (smN p q).Y = fq (slN p q) * (fq (slN p q) * fq (slN p q) - fq p.X - fq q.X - fq p.X) + fq p.Y := by
  rw [← eX', e]
  obtain ⟨x, hx⟩ : ∃ x, (lnN (slN p q) p q).X = x := ⟨_, rfl⟩
  have eY : (lnN (slN p q) p q).Y = sbN (muN (slN p q) (sbN p.X x)) p.Y := by rw [← hx]; rfl
  rw [hx, eY, jgy, jfr, jgy]
  clear eX eX' e hs hc eY
  grobner
 rw [eX, eY]
 exact hc
theorem sm_cl {p q r : Pt} {l c : Fq} (hp : Af p) (hq : Af q) (hr : Af r) (h : Cl p q r l c) : smN p q = ngN r := by
 have hn : q ≠ ngN p := by
  intro e
  subst e
  unfold Cl at h
  rw [jfq] at h
  exact col_no h
 obtain ⟨ha, l', c', h'⟩ := cl_sm hp hq hn
 obtain ⟨_, _, ex, ey⟩ := col_uniq h h'
 have : r = ngN (smN p q) := af_ext hr (jgl ha) ex ey
 rw [this, jgt ha.w]
theorem jds {p q : Pt} (hp : onN p = true) (hq : onN q = true) : smN p q = smN q p := by
 by_cases h1 : p = iN
 ·subst h1; rw [jcd, jdz]
 by_cases h2 : q = iN
 ·subst h2; rw [jcd, jdz]
 have hp : Af p := ⟨hp, h1⟩
 have hq : Af q := ⟨hq, h2⟩
 by_cases hn : q = ngN p
 ·subst hn
  rw [sm_ng hp.w]
  have := sm_ng hq.w
  rw [jgt hp.w] at this
  exact this.symm
 ·obtain ⟨ha, l, c, h⟩ := cl_sm hp hq hn
  rw [sm_cl hq hp (jgl ha) (Col.s12 h), jgt ha.w]
theorem ng_sm {p : Pt} (h : onN p = true) : smN (ngN p) p = iN := by
 rw [jds (on_ng h) h, sm_ng (jbs h)]
theorem jem {p q : Pt} (hp : onN p = true) (hq : onN q = true) : smN (ngN p) (smN p q) = q := by
 by_cases h1 : p = iN
 ·subst h1; rw [jcd]; exact jcd q
 by_cases h2 : q = iN
 ·subst h2; rw [jdz]; exact ng_sm hp
 have hp : Af p := ⟨hp, h1⟩
 have hq : Af q := ⟨hq, h2⟩
 by_cases hn : q = ngN p
 ·subst hn; rw [sm_ng hp.w, jdz]
 ·obtain ⟨ha, l, c, h⟩ := cl_sm hp hq hn
  have h' : Cl (ngN p) (smN p q) (ngN q) (-l) (-c) := by
   have := Col.s23 (Col.neg h)
   unfold Cl
   rw [jfq, jfq]
   rw [show - fq (ngN (smN p q)).Y = fq (smN p q).Y by rw [jfq]; grobner] at this
   exact this
  rw [sm_cl (jgl hp) ha (jgl hq) h', jgt hq.w]
theorem ng_two {p q : Pt} (hp : onN p = true) (hq : onN q = true) : ngN (smN p q) = smN (ngN p) (ngN q) := by
 by_cases h1 : p = iN
 ·subst h1; rw [jcd]; exact (jcd _).symm
 by_cases h2 : q = iN
 ·subst h2; rw [jdz]; exact (jdz _).symm
 have hp : Af p := ⟨hp, h1⟩
 have hq : Af q := ⟨hq, h2⟩
 by_cases hn : q = ngN p
 ·subst hn; rw [sm_ng hp.w, sm_ng (jgl hp).w]; rfl
 ·obtain ⟨ha, l, c, h⟩ := cl_sm hp hq hn
  have h' : Cl (ngN p) (ngN q) (smN p q) (-l) (-c) := by
   have := Col.neg h
   unfold Cl
   rw [jfq, jfq]
   rw [show - fq (ngN (smN p q)).Y = fq (smN p q).Y by rw [jfq]; grobner] at this
   exact this
  exact (sm_cl (jgl hp) (jgl hq) ha h').symm
theorem jdq {p q r : Pt} (hp : onN p = true) (hq : onN q = true) (hr : onN r = true) : smN (smN p q) r = smN p (smN q r) := by
 by_cases h1 : p = iN
 ·subst h1; rw [jcd, jcd]
 by_cases h2 : q = iN
 ·subst h2; rw [jcd, jdz]
 by_cases h3 : r = iN
 ·subst h3; rw [jdz, jdz]
 have ap : Af p := ⟨hp, h1⟩
 have aq : Af q := ⟨hq, h2⟩
 have ar : Af r := ⟨hr, h3⟩
 by_cases n1 : q = ngN p
 ·subst n1
  rw [sm_ng ap.w, jcd]
  have := jem hq hr
  rw [jgt ap.w] at this
  exact this.symm
 by_cases n2 : r = ngN q
 ·subst n2
  rw [sm_ng aq.w, jdz, jds (jee hp hq) hr, jds hp hq, jem hq hp]
 obtain ⟨aS, l, c, cs⟩ := cl_sm ap aq n1
 obtain ⟨at', l', c', ct⟩ := cl_sm aq ar n2
 by_cases n3 : r = ngN (smN p q)
 ·rw [n3, sm_ng aS.w, ng_two hp hq, jds (on_ng hp) (on_ng hq)]
  have := jem (on_ng hq) (on_ng hp)
  rw [jgt aq.w] at this
  rw [this, sm_ng ap.w]
 obtain ⟨ad, v, d, cd⟩ := cl_sm aS ar n3
 unfold Cl at cs cd
 rw [jfq] at cs
 by_cases hv : v + l = 0
 ·have ev : v = -l := lc1 1 hv (by clear hv; grobner)
  subst ev
  rcases col_same cs cd with ⟨x1, y1, x2, y2⟩ | ⟨x1, y1, x2, y2⟩
  ·have e1 : r = ngN p := af_ext ar (jgl ap) x1 (by rw [jfq]; exact y1)
   have e2 : ngN (smN (smN p q) r) = ngN q := af_ext (jgl ad) (jgl aq) x2 (by rw [jfq (p := q)]; exact y2)
   have e3 : smN (smN p q) r = q := by rw [← jgt ad.w, e2, jgt aq.w]
   rw [e3, e1, jds hq (on_ng hp)]
   have := jem (on_ng hp) hq
   rw [jgt ap.w] at this
   exact this.symm
  ·exact absurd (af_ext ar (jgl aq) x1 (by rw [jfq]; exact y1)) n2
 ·obtain ⟨a, b, e, hq1⟩ := col_qd cs cd hv
  have hq2 := hq1.rot
  unfold Cl at ct
  rw [jfq] at ct
  obtain ⟨v2, d2, c2⟩ := qd_col ct hq2
  have := sm_cl at' ap (jgl ad) c2
  rw [jgt ad.w] at this
  rw [← this, jds (jee hq hr) hp]
theorem sm_four {a b c d : Pt} (ha : onN a = true) (hb : onN b = true) (hc : onN c = true) (hd : onN d = true) : smN (smN a b) (smN c d) = smN (smN a c) (smN b d) := by
 rw [jdq ha hb (jee hc hd), ← jdq hb hc hd, jds hb hc, jdq hc hb hd, ← jdq ha hc (jee hb hd)]
theorem jfi {p : Pt} (hp : onN p = true) (n : Nat) : tmN p (n + 1) = smN (tmN p n) p := by
 induction n using Nat.strongRecOn with
 | ind n ih =>
  by_cases h : n % 2 = 0
  ·rw [tm_odd p (n + 1) (by omega), jgn p n h, show (n + 1) / 2 = n / 2 by omega]
  ·have ht := on_tm hp (n / 2)
   rw [jgn p (n + 1) (by omega), tm_odd p n (by omega), show (n + 1) / 2 = n / 2 + 1 by omega, ih (n / 2) (by omega)]
   generalize tmN p (n / 2) = t at *
   rw [sm_four ht hp ht hp, jdq (jee ht ht) hp hp]
theorem tm_add {p : Pt} (hp : onN p = true) (m : Nat) : ∀ n, tmN p (m + n) = smN (tmN p m) (tmN p n)
 | 0 => by rw [Nat.add_zero, tm_0, jdz]
 | n + 1 => by rw [← Nat.add_assoc, jfi hp, tm_add hp m n, jfi hp, jdq (on_tm hp m) (on_tm hp n) hp]
theorem tm_mul {p : Pt} (hp : onN p = true) (m : Nat) : ∀ n, tmN (tmN p m) n = tmN p (m * n)
 | 0 => by rw [Nat.mul_zero, tm_0, tm_0]
 | n + 1 => by rw [jfi (on_tm hp m), tm_mul hp m n, Nat.mul_succ, tm_add hp]
theorem tm_sm {p q : Pt} (hp : onN p = true) (hq : onN q = true) : ∀ n, tmN (smN p q) n = smN (tmN p n) (tmN q n)
 | 0 => by rw [tm_0, tm_0, tm_0, jcd]
 | n + 1 => by rw [jfi (jee hp hq), tm_sm hp hq n, jfi hp, jfi hq, sm_four (on_tm hp n) (on_tm hq n) hp hq]
theorem jdu {p : Pt} (h : grN p = true) : onN p = true := by
 unfold grN at h
 exact (Bool.and_eq_true _ _ ▸ h).1
theorem gr_or {p : Pt} (h : grN p = true) : tmN p orN = iN := by
 unfold grN at h
 exact of_decide_eq_true (Bool.and_eq_true _ _ ▸ h).2
theorem gr_of {p : Pt} (h : onN p = true) (e : tmN p orN = iN) : grN p = true := by
 unfold grN
 rw [h, e]; rfl
theorem gr_sm {p q : Pt} (hp : grN p = true) (hq : grN q = true) : grN (smN p q) = true := by
 refine gr_of (jee (jdu hp) (jdu hq)) ?_
 rw [tm_sm (jdu hp) (jdu hq), gr_or hp, gr_or hq, jcd]
theorem gr_inf : grN iN = true := gr_of (by decide) (tm_inf _)
/- Sums of lists. -/
def suL : List Pt → Pt
 | [] => iN
 | p :: l => smN p (suL l)
theorem on_su : ∀ l : List Pt, (∀ p ∈ l, onN p = true) → onN (suL l) = true
 | [], _ => by decide
 | p :: l, h => jee (h p (.head _)) (on_su l fun q hq => h q (.tail _ hq))
theorem su_perm {l m : List Pt} (h : l.Perm m) : (∀ p ∈ l, onN p = true) → suL l = suL m := by
 induction h with
 | nil => intro _; rfl
 | cons a h ih => intro hl; rw [suL, suL, ih fun q hq => hl q (.tail _ hq)]
 | swap a b l =>
  intro hl
  have ha := hl a (.tail _ (.head _))
  have hb := hl b (.head _)
  have ho := on_su l fun q hq => hl q (.tail _ (.tail _ hq))
  rw [suL, suL, suL, suL, ← jdq hb ha ho, jds hb ha, jdq ha hb ho]
 | trans h1 h2 ih1 ih2 => intro hl; rw [ih1 hl, ih2 fun q hq => hl q (h1.mem_iff.2 hq)]
theorem su_map {p : Pt} (hp : onN p = true) : ∀ l : List Pt, (∀ q ∈ l, onN q = true) → suL (l.map (smN p)) = smN (tmN p l.length) (suL l)
 | [], _ => by rw [List.map_nil, suL, List.length_nil, tm_0, jcd]
 | q :: l, h => by
  have hq := h q (.head _)
  have hl : ∀ q ∈ l, onN q = true := fun q hq => h q (.tail _ hq)
  rw [List.map_cons, suL, su_map hp l hl, List.length_cons, jfi hp, suL, jds (on_tm hp _) hp, sm_four hp hq (on_tm hp _) (on_su l hl)]
theorem count_one (a : Pt) : ∀ l : List Pt, l.Nodup → a ∈ l → l.count a = 1
 | b :: l, hn, h => by
  have h1 := List.nodup_cons.1 hn
  by_cases e : a = b
  ·subst e
   rw [List.count_cons_self, List.count_eq_zero.2 h1.1]
  ·have h2 : a ∈ l := (List.mem_cons.1 h).resolve_left e
   rw [List.count_cons_of_ne (fun q => e q.symm), count_one a l h1.2 h2]
theorem perm_of {l m : List Pt} (hl : l.Nodup) (hm : m.Nodup) (h : ∀ p, p ∈ l ↔ p ∈ m) : l.Perm m := by
 refine List.perm_iff_count.2 fun a => ?_
 by_cases ha : a ∈ l
 ·have := (h a).1 ha
  rw [count_one a l hl ha, count_one a m hm this]
 ·have h2 : a ∉ m := fun e => ha ((h a).2 e)
  rw [List.count_eq_zero.2 ha, List.count_eq_zero.2 h2]
theorem su_all {p : Pt} (hp : onN p = true) (l : List Pt) (hn : l.Nodup) (ho : ∀ q, q ∈ l ↔ onN q = true) : tmN p l.length = iN := by
 have hl : ∀ q ∈ l, onN q = true := fun q hq => (ho q).1 hq
 have inj : ∀ a b, onN a = true → onN b = true → smN p a = smN p b → a = b := by
  intro a b ha hb e
  rw [← jem hp ha, e, jem hp hb]
 have hm : (l.map (smN p)).Nodup := by
  unfold List.Nodup
  rw [List.pairwise_map]
  exact List.Pairwise.imp_of_mem (fun {a b} ha hb hab e => hab (inj a b (hl a ha) (hl b hb) e)) hn
 have hs : ∀ q, q ∈ l.map (smN p) ↔ q ∈ l := by
  intro q
  rw [List.mem_map, ho]
  constructor
  ·rintro ⟨a, ha, rfl⟩
   exact jee hp (hl a ha)
  ·intro hq
   refine ⟨smN (ngN p) q, (ho _).2 (jee (on_ng hp) hq), ?_⟩
   have := jem (on_ng hp) hq
   rw [jgt (jbs hp)] at this
   exact this
 have e := su_perm (perm_of hm hn hs) (fun q hq => hl q ((hs q).1 hq))
 rw [su_map hp l hl] at e
 have hS := on_su l hl
 have hT := on_tm hp l.length
 generalize suL l = s at *
 generalize tmN p l.length = t at *
 have h1 := jem hS hT
 rw [jds hS hT, e, ng_sm hS] at h1
 exact h1.symm
theorem fq_m (a b : Nat) : fq (a * b) = fq a * fq b := by
 refine Fin.ext ?_
 rw [Fin.val_mul, jcn, jcn, jcn, Nat.mul_mod]
theorem fq_mod (a : Nat) : fq (a % PM) = fq a := by
 refine Fin.ext ?_
 rw [jcn, jcn, Nat.mod_mod]
theorem rt_sq (a o k : Nat) (ho : 536870717 = o) (hk : k + 1 = o + o) : fq (muN (rtN a) (rtN a)) = fq a * fq (a ^ k) := by
 unfold rtN
 rw [ho, jfr, pw_pow, fq_mod, ← fq_m, ← fq_m, ← Nat.pow_add, ← hk, Nat.pow_succ, Nat.mul_comm a]
theorem hf_sq (a k p : Nat) (hp : p = PM) (hk : k + k + 1 = p) : fq a * (fq (a ^ k) * fq (a ^ k)) = fq a := by
 have e : a * (a ^ k * a ^ k) = a ^ p := by rw [← hk, Nat.pow_succ, Nat.pow_add, Nat.mul_comm]
 have h := fermat pm_prime a
 rw [← hp] at h
 rw [← fq_m, ← fq_m, e, ← fq_mod, ← fq_mod a, ← hp, h]
theorem roB_iff (a o k : Nat) (ho : 536870717 = o) (hk : k + 1 = o + o) : roB a = true ↔ fq a * fq (a ^ k) = fq a := by
 rw [← rt_sq a o k ho hk]
 unfold roB
 rw [decide_eq_true_eq]
 constructor
 ·intro h; rw [h, fq_mod]
 ·intro h
  have := congrArg Fin.val h
  rw [jcn, jcn, Nat.mod_eq_of_lt (jbq _ _)] at this
  exact this
theorem ng_pow {a b : Nat} (h : fq b = - fq a) : ∀ m, fq (b ^ (2 * m)) = fq (a ^ (2 * m)) ∧ fq (b ^ (2 * m + 1)) = - fq (a ^ (2 * m + 1))
 | 0 => by
  refine ⟨rfl, ?_⟩
  rw [Nat.mul_zero, Nat.zero_add, Nat.pow_one, Nat.pow_one, h]
 | m + 1 => by
  have ih := (ng_pow h m).2
  have p1 : ∀ c : Nat, c ^ (2 * (m + 1)) = c ^ (2 * m + 1) * c := fun c => by rw [show 2 * (m + 1) = 2 * m + 1 + 1 by omega, Nat.pow_succ]
  have p2 : ∀ c : Nat, c ^ (2 * (m + 1) + 1) = c ^ (2 * m + 1) * c * c := fun c => by rw [Nat.pow_succ, p1]
  rw [p1, p1, p2, p2, fq_m, fq_m, fq_m, fq_m, fq_m, fq_m, ih, h]
  generalize fq (a ^ (2 * m + 1)) = A
  generalize fq a = B
  clear ih h p1 p2
  exact ⟨by grobner, by grobner⟩
theorem hf_ng (a k m : Nat) (hm : k = 2 * m + 1) : fq (sbN 0 a ^ k) = - fq (a ^ k) := by
 have h : fq (sbN 0 a) = - fq a := by rw [jgy, fq_0]; grobner
 rw [hm]
 exact (ng_pow h m).2
theorem ro_by (a : Nat) : ∃ U : Fq, fq a * (U * U) = fq a ∧ (roB a = true ↔ fq a * U = fq a) ∧ (roB (sbN 0 a) = true ↔ - fq a * - U = - fq a) := by
 obtain ⟨o, ho⟩ : ∃ o, 536870717 = o := ⟨_, rfl⟩
 obtain ⟨p, hp⟩ : ∃ p, p = PM := ⟨_, rfl⟩
 have hp2 : p = 2147482867 := hp
 obtain ⟨k, hk⟩ : ∃ k, k + 1 = o + o := ⟨o + o - 1, by omega⟩
 obtain ⟨m, hm⟩ : ∃ m, k = 2 * m + 1 := ⟨o - 1, by omega⟩
 refine ⟨fq (a ^ k), hf_sq a k p hp (by omega), roB_iff a o k ho hk, ?_⟩
 rw [roB_iff (sbN 0 a) o k ho hk, hf_ng a k m hm, show fq (sbN 0 a) = - fq a by rw [jgy, fq_0]; grobner]
theorem ro_one {a : Nat} (h : roB a = false) : roB (sbN 0 a) = true := by
 obtain ⟨U, e2, r1, r2⟩ := ro_by a
 have h1 : ¬ fq a * U = fq a := fun e => by rw [r1.2 e] at h; cases h
 refine r2.2 ?_
 clear r1 r2 h
 generalize fq a = A at *
 have e3 : (A * U - A) * (U + 1) = 0 := lc1 1 e2 (by clear e2 h1; grobner)
 rcases nz e3 with e | e
 ·exact absurd (lc1 1 e (by clear e2 e3 h1 e; grobner)) h1
 ·exact lc1 A e (by clear e2 e3 h1 e; grobner)
theorem ro_both {a : Nat} (h1 : roB a = true) (h2 : roB (sbN 0 a) = true) : fq a = 0 := by
 obtain ⟨U, _, r1, r2⟩ := ro_by a
 have e1 := r1.1 h1
 have e2 := r2.1 h2
 clear r1 r2 h1 h2
 generalize fq a = A at *
 have e3 : 2 * A = 0 := lc2 (-1) 1 e1 e2 (by clear e1 e2; grobner)
 rcases nz e3 with e | e
 ·exact absurd e two_nz
 ·exact e
theorem ro_0 {a : Nat} (h : fq a = 0) : roB a = true := by
 obtain ⟨U, _, r1, r2⟩ := ro_by a
 refine r1.2 ?_
 rw [h]
 clear r1 r2 h
 grobner
theorem fqz {x : Nat} (h0 : 0 < x) (h : x < PM) : sbN 0 x = PM - x := by
 unfold sbN
 rw [Nat.mod_eq_of_lt h, Nat.zero_mod, Nat.zero_add]
 exact Nat.mod_eq_of_lt (by omega)
theorem sq_ng {x : Nat} (h0 : 0 < x) (h : x < PM) : sqN (PM - x) = sbN 0 (sqN x) := by
 refine fq_inj (sq_lt _) (jde _ _) ?_
 have e : fq (PM - x) = - fq x := by
  rw [← fqz h0 h, jgy, fq_0]; grobner
 unfold sqN
 rw [jgy, fq_0, fq_ad, fq_ad, jfr, jfr, jfr, jfr, e]
 grobner
def phN (x : Nat) : Pt := if roB (sqN x) = true then ⟨x, roN (sqN x), false⟩ else ⟨PM - x, sbN 0 (roN (sqN (PM - x))), false⟩
theorem sq0_ro : roB (sqN 0) = true := by
 exact ro_0 rfl
theorem not_zero {x : Nat} (h : roB (sqN x) = false) : 0 < x := by
 cases x with
 | zero => rw [sq0_ro] at h; cases h
 | succ x => omega
theorem on_mk {x y : Nat} (hx : x < PM) (hy : y < PM) (h : muN y y = sqN x) : onN ⟨x, y, false⟩ = true := by
 unfold onN
 rw [if_neg (by simp)]
 simp only [Bool.and_eq_true, decide_eq_true_eq]
 exact ⟨⟨hx, hy⟩, h⟩
theorem on_ro {x : Nat} (hx : x < PM) (h : roB (sqN x) = true) : onN ⟨x, roN (sqN x), false⟩ = true := by
 refine on_mk hx (ro_lt _) ?_
 rw [(jeo _ h).1, ad_eq, Nat.add_zero, Nat.mod_eq_of_lt (sq_lt _)]
theorem ro_other {x : Nat} (hx : x < PM) (h : roB (sqN x) = false) : roB (sqN (PM - x)) = true := by
 rw [sq_ng (not_zero h) hx]
 exact ro_one h
theorem ph_on {x : Nat} (hx : x < PM) : onN (phN x) = true := by
 unfold phN
 split
 ·next h => exact on_ro hx h
 ·next h =>
  have h : roB (sqN x) = false := by simpa using h
  have := not_zero h
  exact on_ng (on_ro (x := PM - x) (by omega) (ro_other hx h))
theorem ph_I (x : Nat) : (phN x).I = false := by unfold phN; split <;> rfl
theorem ro_pos {x : Nat} (hx : x < PM) (h : roB (sqN x) = false) : roN (sqN (PM - x)) ≠ 0 := by
 intro e
 have h1 := jeo _ (ro_other hx h)
 rw [e] at h1
 have h2 : fq (sqN (PM - x)) = 0 := by
  have := congrArg fq h1.1
  rw [jfr, fq_ad, fq_0] at this
  exact lc1 (-1) this (by clear this; grobner)
 rw [sq_ng (not_zero h) hx, jgy, fq_0] at h2
 have h3 : fq (sqN x) = 0 := lc1 (-1) h2 (by clear h2; grobner)
 have h4 : roB (sqN x) = true := ro_0 h3
 rw [h4] at h; cases h
theorem sb_0 {r : Nat} (h : r < PM) (h0 : r ≠ 0) : sbN 0 r = PM - r := by
 unfold sbN
 rw [Nat.mod_eq_of_lt h, Nat.zero_mod, Nat.zero_add]
 exact Nat.mod_eq_of_lt (by omega)
theorem ng_odd {r : Nat} (h : r < PM) (h0 : r ≠ 0) (he : r % 2 = 0) : sbN 0 r % 2 = 1 := by
 rw [sb_0 h h0]
 have h : r < 2147482867 := h
 show (2147482867 - r) % 2 = 1
 omega
theorem ph_inj {x z : Nat} (hx : x < PM) (hz : z < PM) (e : phN x = phN z) : x = z := by
 unfold phN at e
 by_cases h1 : roB (sqN x) = true
 ·by_cases h2 : roB (sqN z) = true
  ·rw [if_pos h1, if_pos h2] at e
   exact congrArg Pt.X e
  ·rw [if_pos h1, if_neg h2] at e
   have h2 : roB (sqN z) = false := by simpa using h2
   have ey : roN (sqN x) = sbN 0 (roN (sqN (PM - z))) := congrArg Pt.Y e
   have := (jeo _ h1).2
   have k := ng_odd (ro_lt _) (ro_pos hz h2) (jeo _ (ro_other hz h2)).2
   rw [← ey] at k
   omega
 ·by_cases h2 : roB (sqN z) = true
  ·rw [if_neg h1, if_pos h2] at e
   have h1 : roB (sqN x) = false := by simpa using h1
   have ey : sbN 0 (roN (sqN (PM - x))) = roN (sqN z) := congrArg Pt.Y e
   have := (jeo _ h2).2
   have k := ng_odd (ro_lt _) (ro_pos hx h1) (jeo _ (ro_other hx h1)).2
   rw [ey] at k
   omega
  ·rw [if_neg h1, if_neg h2] at e
   have : PM - x = PM - z := congrArg Pt.X e
   omega
theorem ph_all {p : Pt} (h : Af p) : ∃ x, x < PM ∧ phN x = p := by
 have hw := h.w
 have h1 := h.1
 unfold onN at h1
 rw [if_neg (by rw [h.i]; simp)] at h1
 simp only [Bool.and_eq_true, decide_eq_true_eq] at h1
 obtain ⟨hb, h0, ho⟩ := ro_of p.Y hw.2.1 (sqN p.X) h1.2
 by_cases hy : p.Y % 2 = 0
 ·refine ⟨p.X, hw.1, ?_⟩
  unfold phN
  rw [if_pos hb]
  exact Pt.ext' rfl (h0 hy) h.i.symm
 ·have hx0 : 0 < p.X := by
   apply Nat.pos_of_ne_zero
   intro e
   have e2 := h1.2
   rw [e] at e2
   have e3 := congrArg fq e2
   rw [jfr, show sqN 0 = 0 from rfl, fq_0] at e3
   have e4 : fq p.Y = fq 0 := by
    rcases nz e3 with e | e
    ·exact e
    ·exact e
   have := fq_inj hw.2.1 (by decide) e4
   rw [this] at hy
   exact hy rfl
  have hX := hw.1
  refine ⟨PM - p.X, by omega, ?_⟩
  have hn : ¬ roB (sqN (PM - p.X)) = true := by
   intro e
   rw [sq_ng hx0 hX] at e
   have e3 := ro_both hb e
   rw [← h1.2, jfr] at e3
   have e4 : fq p.Y = fq 0 := by
    rcases nz e3 with e | e
    ·exact e
    ·exact e
   have := fq_inj hw.2.1 (by decide) e4
   rw [this] at hy
   exact hy rfl
  unfold phN
  rw [if_neg hn, show PM - (PM - p.X) = p.X by omega]
  exact Pt.ext' rfl (ho (by omega)) h.i.symm
theorem all_points (n : Nat) (hn : n = PM) : ∃ l : List Pt, l.Nodup ∧ (∀ q, q ∈ l ↔ onN q = true) ∧ l.length = n + 1 := by
 refine ⟨iN :: (List.range n).map phN, ?_, ?_, ?_⟩
 ·refine List.nodup_cons.2 ⟨?_, ?_⟩
  ·intro h
   obtain ⟨x, _, e⟩ := List.mem_map.1 h
   have := ph_I x
   rw [e] at this
   cases this
  ·unfold List.Nodup
   rw [List.pairwise_map]
   refine List.Pairwise.imp_of_mem (fun {a b} ha hb hab e => ?_) (List.pairwise_lt_range (n := n))
   have ha := List.mem_range.1 ha
   have hb := List.mem_range.1 hb
   rw [hn] at ha hb
   have := ph_inj ha hb e
   omega
 ·intro q
  rw [List.mem_cons, List.mem_map]
  constructor
  ·rintro (rfl | ⟨x, hx, rfl⟩)
   ·decide
   ·have := List.mem_range.1 hx
    rw [hn] at this
    exact ph_on this
  ·intro h
   by_cases hi : q = iN
   ·exact .inl hi
   ·obtain ⟨x, hx, e⟩ := ph_all ⟨h, hi⟩
    exact .inr ⟨x, List.mem_range.2 (by rw [hn]; exact hx), e⟩
 ·rw [List.length_cons, List.length_map, List.length_range]
theorem gr_four {p : Pt} (hp : onN p = true) : grN (tmN p 4) = true := by
 refine gr_of (on_tm hp 4) ?_
 rw [tm_mul hp]
 obtain ⟨l, h1, h2, h3⟩ := all_points PM rfl
 have := su_all hp l h1 h2
 rw [h3] at this
 exact this
end Go.Proofs.YtoddangedbefgabGreatDoor
