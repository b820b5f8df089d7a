/- Lemmas: Lines and pairings, pure; those of a few multiples of the generator, in the kernel. No condition. -/
import Derived.Test.YtgefjmpnpebfoaaGreatDoorM1
import Derived.Test.YtgefjmpnpebfoaaGreatDoorM12
import Derived.Test.YtgefjmpnpebfoaaGreatDoorM2
import Derived.Test.YtgefjmpnpebfoaaGreatDoorM3
import Derived.Test.YtgefjmpnpebfoaaGreatDoorM4
import Derived.Test.YtgefjmpnpebfoaaGreatDoorM6
import Derived.Test.YtgefjmpnpebfoaaGreatDoorM7
import Derived.Test.YtgefjmpnpebfoaaGreatDoorM8
import Derived.Test.YtgefjmpnpebfoaaGreatDoorM9
import Derived.Test.YtgefjmpnpebfoaaGreatDoorRows
namespace Go.Proofs.YtgefjmpnpebfoaaGreatDoor
open Go.RowKit

/-- The line through two points, at a third one. -/
def lnA (s t q : Pt) : P2 := if s = iN ∨ t = iN ∨ t = ngN s then o2 else ⟨sbN (muN (slN s t) (adN s.X q.X)) s.Y, q.Y⟩
theorem lnA_u (s t q : Pt) (hq : U64 q.X ∧ U64 q.Y) : UP (lnA s t q) := by
  unfold lnA
  split
  · exact ⟨by decide, by decide⟩
  · exact ⟨pm_u _ (sb_lt _ _), hq.2⟩
/-- One bit more. -/
def gst (p q : Pt) (s : P2 × Pt) (b : Bool) : P2 × Pt :=
  if b then (m2 (m2 (m2 s.1 s.1) (lnA s.2 s.2 q)) (lnA (smN s.2 s.2) p q), smN (smN s.2 s.2) p) else (m2 (m2 s.1 s.1) (lnA s.2 s.2 q), smN s.2 s.2)
def stG (p q : Pt) (l : List Bool) : P2 × Pt := l.foldl (gst p q) (o2, p)
theorem stG_snoc (p q : Pt) (l : List Bool) (b : Bool) : stG p q (l ++ [b]) = gst p q (stG p q l) b := by unfold stG; rw [List.foldl_append]; rfl
theorem gst_on {p q : Pt} (hp : onN p = true) (s : P2 × Pt) (hs : onN s.2 = true) (b : Bool) : onN (gst p q s b).2 = true := by
  unfold gst
  cases b
  · exact on_sm hs hs
  · exact on_sm (on_sm hs hs) hp
theorem gst_u (p q : Pt) (s : P2 × Pt) (b : Bool) : UP (gst p q s b).1 := by
  unfold gst
  cases b
  · exact m2_u _ _
  · exact m2_u _ _
theorem stG_ok {p q : Pt} (hp : onN p = true) (l : List Bool) : onN (stG p q l).2 = true ∧ UP (stG p q l).1 := by
  have : ∀ (l : List Bool) (s : P2 × Pt), onN s.2 = true → UP s.1 → onN (l.foldl (gst p q) s).2 = true ∧ UP (l.foldl (gst p q) s).1 := by
    intro l
    induction l with
    | nil => intro s h1 h2; exact ⟨h1, h2⟩
    | cons b l ih => intro s h1 h2; rw [List.foldl_cons]; exact ih _ (gst_on hp s h1 b) (gst_u p q s b)
  exact this l (o2, p) hp (show UP o2 from ⟨by decide, by decide⟩)
def gaN (p q : Pt) : P2 := (stG p q (bitsTo 536870717 28 28)).1
/-- The pairing. -/
def prN (p q : Pt) : P2 := if p = iN ∨ q = iN then o2 else q2 (gaN p q) 8589931464
theorem pr_u (p q : Pt) : UP (prN p q) := by
  unfold prN
  split
  · exact ⟨by decide, by decide⟩
  · exact q2_u _ _

/- In the kernel: numbers are reckoned first. -/
def mkS (a b : Nat) : P2 := ⟨a, b⟩
def strict2 {A : Type} (x : P2) (f : P2 → A) : A := strictN x.A fun a => strictN x.B fun b => f ⟨a, b⟩
theorem strict2_eq {A : Type} (x : P2) (f : P2 → A) : strict2 x f = f x := by unfold strict2; rw [strict_eq, strict_eq]
def lnI (s t q : Pt) : P2 := if s = iN ∨ t = iN ∨ t = ngN s then o2 else strictN (slI s t) fun l => strictN (sbN (muN l (adN s.X q.X)) s.Y) fun a => ⟨a, q.Y⟩
theorem lnI_eq (s t q : Pt) : lnI s t q = lnA s t q := by unfold lnI lnA; rw [strict_eq, strict_eq, slI_eq]
def stI (p q : Pt) : List Bool → P2 → Pt → P2
  | [], f, _ => f
  | b :: l, f, t => strict2 (m2 (m2 f f) (lnI t t q)) fun f1 => (fun t1 => if b then strict2 (m2 f1 (lnI t1 p q)) fun f2 => stI p q l f2 (smI t1 p) else stI p q l f1 t1) (smI t t)
theorem stI_eq (p q : Pt) : ∀ (l : List Bool) (f : P2) (t : Pt), stI p q l f t = (l.foldl (gst p q) (f, t)).1
  | [], _, _ => rfl
  | b :: l, f, t => by
    rw [List.foldl_cons, stI, strict2_eq]
    simp only [strict2_eq, smI_eq, lnI_eq]
    cases b
    · rw [if_neg (by simp), stI_eq p q l]; rfl
    · rw [if_pos rfl, stI_eq p q l]; rfl
def gaI (p q : Pt) : P2 := stI p q (bitsTo 536870717 28 28) o2 p
theorem gaI_eq (p q : Pt) : gaI p q = gaN p q := by unfold gaI gaN stG; rw [stI_eq]
def q2I (a : P2) (n : Nat) : Nat → P2 → P2
  | 0, acc => acc
  | k + 1, acc => strict2 (if n / 2 ^ k % 2 = 1 then m2 (m2 acc acc) a else m2 acc acc) (q2I a n k)
theorem q2I_eq (a : P2) (n : Nat) : ∀ k, q2I a n k (q2 a (n / 2 ^ k)) = q2 a n
  | 0 => by rw [q2I, Nat.pow_zero, Nat.div_one]
  | k + 1 => by rw [q2I, strict2_eq, ← q2_step, q2I_eq a n k]
def prI (p q : Pt) : P2 := strict2 (gaI p q) fun g => q2I g 8589931464 33 o2
theorem prI_eq (p q : Pt) (hp : p ≠ iN) (hq : q ≠ iN) : prI p q = prN p q := by
  unfold prI prN
  rw [if_neg (by rintro (h | h); exact hp h; exact hq h), strict2_eq, gaI_eq]
  have := q2I_eq (gaN p q) 8589931464 33
  rw [show 8589931464 / 2 ^ 33 = 0 by decide, q2_0] at this
  exact this
def g3 : Pt := ⟨2114676381, 844318637, false⟩
def g5 : Pt := ⟨565207627, 966861326, false⟩
def g6 : Pt := ⟨10352346, 1614029091, false⟩
theorem tm_g2 : tmN gN 2 = dN := by rw [tm_2, dbl_gen]
theorem tm_g3 : tmN gN 3 = g3 := by rw [tm_3, dbl_gen, ← smI_eq]; decide +kernel
theorem tm_g6 : tmN gN 6 = g6 := by rw [tm_even gN 6 rfl, show 6 / 2 = 3 from rfl, tm_g3, ← smI_eq]; decide +kernel
theorem tm_g5 : tmN gN 5 = g5 := by rw [tm_odd gN 5 rfl, show 5 / 2 = 2 from rfl, tm_g2, ← smI_eq, ← smI_eq]; decide +kernel
theorem gr_at (p : Pt) (h1 : onN p = true) (h2 : tmI p 536870717 30 iN = iN) : grN p = true := by
  have := tmI_eq p 536870717 30
  rw [show 536870717 / 2 ^ 30 = 0 by decide, tm_0, h2] at this
  have e : grN p = (onN p && decide (tmN p 536870717 = iN)) := rfl
  rw [e, h1, ← this, decide_eq_true rfl]
  rfl
set_option maxRecDepth 100000 in
theorem gr_g2 : grN dN = true := gr_at _ (by decide +kernel) (by decide +kernel)
set_option maxRecDepth 100000 in
theorem gr_g3 : grN g3 = true := gr_at _ (by decide +kernel) (by decide +kernel)
set_option maxRecDepth 100000 in
theorem gr_g5 : grN g5 = true := gr_at _ (by decide +kernel) (by decide +kernel)
set_option maxRecDepth 100000 in
theorem gr_g6 : grN g6 = true := gr_at _ (by decide +kernel) (by decide +kernel)
def e6 : P2 := ⟨1717312821, 1682462398⟩
def e5 : P2 := ⟨1373980225, 479828967⟩
theorem p2_at (p q : Pt) (x : P2) (hp : p ≠ iN) (hq : q ≠ iN) (h : ((prI p q).A, (prI p q).B) = (x.A, x.B)) : prN p q = x := by
  rw [← prI_eq p q hp hq]
  injection h with h1 h2
  obtain ⟨a, b⟩ := x
  cases e : prI p q
  rw [e] at h1 h2
  simp only at h1 h2
  rw [h1, h2]
set_option maxRecDepth 100000 in
theorem pr_23 : prN dN g3 = e6 := p2_at _ _ _ (by decide) (by decide) (by decide +kernel)
set_option maxRecDepth 100000 in
theorem pr_61 : prN g6 gN = e6 := p2_at _ _ _ (by decide) (by decide) (by decide +kernel)
set_option maxRecDepth 100000 in
theorem pr_51 : prN g5 gN = e5 := p2_at _ _ _ (by decide) (by decide) (by decide +kernel)
end Go.Proofs.YtgefjmpnpebfoaaGreatDoor
