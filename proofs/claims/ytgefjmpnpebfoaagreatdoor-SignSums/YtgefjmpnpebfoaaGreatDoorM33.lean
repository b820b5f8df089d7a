/- Lemmas: The law's shown: a signature of a, with 5, holds of its key, and not of others. No condition. -/
import Derived.Test.YtgefjmpnpebfoaaGreatDoorM1
import Derived.Test.YtgefjmpnpebfoaaGreatDoorM10
import Derived.Test.YtgefjmpnpebfoaaGreatDoorM11
import Derived.Test.YtgefjmpnpebfoaaGreatDoorM12
import Derived.Test.YtgefjmpnpebfoaaGreatDoorM13
import Derived.Test.YtgefjmpnpebfoaaGreatDoorM14
import Derived.Test.YtgefjmpnpebfoaaGreatDoorM15
import Derived.Test.YtgefjmpnpebfoaaGreatDoorM16
import Derived.Test.YtgefjmpnpebfoaaGreatDoorM17
import Derived.Test.YtgefjmpnpebfoaaGreatDoorM18
import Derived.Test.YtgefjmpnpebfoaaGreatDoorM2
import Derived.Test.YtgefjmpnpebfoaaGreatDoorM21
import Derived.Test.YtgefjmpnpebfoaaGreatDoorM22
import Derived.Test.YtgefjmpnpebfoaaGreatDoorM23
import Derived.Test.YtgefjmpnpebfoaaGreatDoorM24
import Derived.Test.YtgefjmpnpebfoaaGreatDoorM25
import Derived.Test.YtgefjmpnpebfoaaGreatDoorM26
import Derived.Test.YtgefjmpnpebfoaaGreatDoorM27
import Derived.Test.YtgefjmpnpebfoaaGreatDoorM28
import Derived.Test.YtgefjmpnpebfoaaGreatDoorM29
import Derived.Test.YtgefjmpnpebfoaaGreatDoorM3
import Derived.Test.YtgefjmpnpebfoaaGreatDoorM30
import Derived.Test.YtgefjmpnpebfoaaGreatDoorM31
import Derived.Test.YtgefjmpnpebfoaaGreatDoorM32
import Derived.Test.YtgefjmpnpebfoaaGreatDoorM4
import Derived.Test.YtgefjmpnpebfoaaGreatDoorM5
import Derived.Test.YtgefjmpnpebfoaaGreatDoorM6
import Derived.Test.YtgefjmpnpebfoaaGreatDoorM7
import Derived.Test.YtgefjmpnpebfoaaGreatDoorM8
import Derived.Test.YtgefjmpnpebfoaaGreatDoorM9
import Derived.Test.YtgefjmpnpebfoaaGreatDoorRows
namespace Go.Proofs.YtgefjmpnpebfoaaGreatDoor
open Go.RowKit Go.Shelf Go.Sort

theorem rt_at (a r : Nat) (hr : pwI a 536870717 30 1 = r) : rtN a = r := by
  have := pwI_eq a 536870717 30
  rw [show 536870717 / 2 ^ 30 = 0 by decide, pw_0, hr] at this
  exact this.symm
theorem lf_no (x a r : Nat) (hq : sqN x = a) (hr : pwI a 536870717 30 1 = r) (hn : muN r r ≠ a % PM) : lfN x = iN := by
  unfold lfN
  rw [hq, if_neg]
  unfold roB
  rw [rt_at a r hr, decide_eq_true_eq]
  exact hn
theorem lf_yes (x a r y : Nat) (d q : Pt) (hq : sqN x = a) (hr : pwI a 536870717 30 1 = r) (hn : muN r r = a % PM) (hy : (if r % 2 = 1 then PM - r else r) = y) (h2 : smI ⟨x, y, false⟩ ⟨x, y, false⟩ = d) (h4 : smI d d = q) : lfN x = q := by
  have e : roN a = y := by unfold roN; rw [rt_at a r hr, if_pos hn, hy]
  have hb : roB a = true := by unfold roB; rw [rt_at a r hr]; exact decide_eq_true hn
  unfold lfN
  rw [hq, if_pos hb, e, tm_even _ 4 rfl, show 4 / 2 = 2 from rfl, tm_2, ← smI_eq, ← smI_eq, h2, h4]
theorem hs_at (t : ByteArray) (q : Nat) (hq : q + 1 ≤ 256) (h : ∀ n, n < q → lfN (trN t n) = iN) (p : Pt) (hp : lfN (trN t q) = p) (hn : p ≠ iN) : hsN t = p :=
  hit_all hq ⟨trsT t q, trT t q, trsT_succ t q, fun x hx => by
    obtain ⟨n, hn, rfl⟩ := List.mem_map.1 hx
    exact h n (List.mem_range.1 hn), by show lfN (trN t q) ≠ iN; rw [hp]; exact hn, hp⟩
def ta : ByteArray := ⟨#[97]⟩
def tb : ByteArray := ⟨#[98]⟩
theorem tr_a0 : trN ta 0 = 2146020855 := by
  unfold trN
  rw [show joinOf [ta, oneB 0] = ka0 from rfl, ka0_sum]
  decide +kernel
theorem lf_a0 : lfN (trN ta 0) = iN := by
  rw [tr_a0]
  exact lf_no 2146020855 64848927 1691874604 (by decide +kernel) (by decide +kernel) (by decide +kernel)
theorem tr_a1 : trN ta 1 = 1612965196 := by
  unfold trN
  rw [show joinOf [ta, oneB 1] = ka1 from rfl, ka1_sum]
  decide +kernel
theorem lf_a1 : lfN (trN ta 1) = iN := by
  rw [tr_a1]
  exact lf_no 1612965196 690600188 864230452 (by decide +kernel) (by decide +kernel) (by decide +kernel)
theorem tr_a2 : trN ta 2 = 2093595948 := by
  unfold trN
  rw [show joinOf [ta, oneB 2] = ka2 from rfl, ka2_sum]
  decide +kernel
theorem lf_a2 : lfN (trN ta 2) = iN := by
  rw [tr_a2]
  exact lf_no 2093595948 828755782 1287176272 (by decide +kernel) (by decide +kernel) (by decide +kernel)
theorem tr_a3 : trN ta 3 = 1169256508 := by
  unfold trN
  rw [show joinOf [ta, oneB 3] = ka3 from rfl, ka3_sum]
  decide +kernel
theorem lf_a3 : lfN (trN ta 3) = ⟨1873789658, 1035972051, false⟩ := by
  rw [tr_a3]
  exact lf_yes 1169256508 2074369335 1590939034 1590939034 ⟨116872621, 522304623, false⟩ _ (by decide +kernel) (by decide +kernel) (by decide +kernel) (by decide +kernel) (by decide +kernel) (by decide +kernel)
theorem tr_b0 : trN tb 0 = 509065523 := by
  unfold trN
  rw [show joinOf [tb, oneB 0] = kb0 from rfl, kb0_sum]
  decide +kernel
theorem lf_b0 : lfN (trN tb 0) = iN := by
  rw [tr_b0]
  exact lf_no 509065523 1594912638 1502706221 (by decide +kernel) (by decide +kernel) (by decide +kernel)
theorem tr_b1 : trN tb 1 = 268086281 := by
  unfold trN
  rw [show joinOf [tb, oneB 1] = kb1 from rfl, kb1_sum]
  decide +kernel
theorem lf_b1 : lfN (trN tb 1) = iN := by
  rw [tr_b1]
  exact lf_no 268086281 1877684555 1921672269 (by decide +kernel) (by decide +kernel) (by decide +kernel)
theorem tr_b2 : trN tb 2 = 930864738 := by
  unfold trN
  rw [show joinOf [tb, oneB 2] = kb2 from rfl, kb2_sum]
  decide +kernel
theorem lf_b2 : lfN (trN tb 2) = iN := by
  rw [tr_b2]
  exact lf_no 930864738 271409825 187377962 (by decide +kernel) (by decide +kernel) (by decide +kernel)
theorem tr_b3 : trN tb 3 = 1896809666 := by
  unfold trN
  rw [show joinOf [tb, oneB 3] = kb3 from rfl, kb3_sum]
  decide +kernel
theorem lf_b3 : lfN (trN tb 3) = iN := by
  rw [tr_b3]
  exact lf_no 1896809666 1033383115 1894109157 (by decide +kernel) (by decide +kernel) (by decide +kernel)
theorem tr_b4 : trN tb 4 = 352539797 := by
  unfold trN
  rw [show joinOf [tb, oneB 4] = kb4 from rfl, kb4_sum]
  decide +kernel
theorem lf_b4 : lfN (trN tb 4) = ⟨68660943, 1298277578, false⟩ := by
  rw [tr_b4]
  exact lf_yes 352539797 1573591582 795315232 795315232 ⟨1320263127, 375199671, false⟩ _ (by decide +kernel) (by decide +kernel) (by decide +kernel) (by decide +kernel) (by decide +kernel) (by decide +kernel)
def pA : Pt := ⟨1873789658, 1035972051, false⟩
def pA2 : Pt := ⟨1589505505, 246728137, false⟩
def pA3 : Pt := ⟨222891503, 1606901172, false⟩
def pA5 : Pt := ⟨1829002028, 1987423831, false⟩
def pA6 : Pt := ⟨259341691, 229114258, false⟩
def pB : Pt := ⟨68660943, 1298277578, false⟩
theorem hs_a : hsN ta = pA := hs_at ta 3 (by omega) (fun n hn => by
  match n, hn with
  | 0, _ => exact lf_a0
  | 1, _ => exact lf_a1
  | 2, _ => exact lf_a2) pA lf_a3 (by decide)
theorem hs_b : hsN tb = pB := hs_at tb 4 (by omega) (fun n hn => by
  match n, hn with
  | 0, _ => exact lf_b0
  | 1, _ => exact lf_b1
  | 2, _ => exact lf_b2
  | 3, _ => exact lf_b3) pB lf_b4 (by decide)
theorem gr_A : grN pA = true := by rw [← hs_a]; exact (hs_gr ta).1
theorem gr_B : grN pB = true := by rw [← hs_b]; exact (hs_gr tb).1
theorem tm_A2 : tmN pA 2 = pA2 := by rw [tm_2, ← smI_eq]; decide +kernel
theorem tm_A3 : tmN pA 3 = pA3 := by rw [tm_3, ← tm_2, tm_A2, ← smI_eq]; decide +kernel
theorem tm_A6 : tmN pA 6 = pA6 := by rw [tm_even pA 6 rfl, show 6 / 2 = 3 from rfl, tm_A3, ← smI_eq]; decide +kernel
theorem tm_A5 : tmN pA 5 = pA5 := by rw [tm_odd pA 5 rfl, show 5 / 2 = 2 from rfl, tm_A2, ← smI_eq, ← smI_eq]; decide +kernel
theorem gr_A5 : grN pA5 = true := by rw [← tm_A5]; exact gr_tm gr_A 5
theorem gr_A6 : grN pA6 = true := by rw [← tm_A6]; exact gr_tm gr_A 6
set_option maxRecDepth 100000 in
theorem eq_1 : eqP (prN pA5 gN) (prN pA g5) = true := by
  rw [← prI_eq _ _ (by decide) (by decide), ← prI_eq _ _ (by decide) (by decide)]
  decide +kernel
set_option maxRecDepth 100000 in
theorem eq_2 : eqP (prN pA6 gN) (prN pA g5) = false := by
  rw [← prI_eq _ _ (by decide) (by decide), ← prI_eq _ _ (by decide) (by decide)]
  decide +kernel
set_option maxRecDepth 100000 in
theorem eq_3 : eqP (prN pA5 gN) (prN pB g5) = false := by
  rw [← prI_eq _ _ (by decide) (by decide), ← prI_eq _ _ (by decide) (by decide)]
  decide +kernel
def txP (p : Pt) : ByteArray := txF (fsN p) p.X
theorem fr_point {p : Pt} (h : grN p = true) : frB (txP p) = true ∧ nmN (txP p) = p := by
  have e := fr_back p h
  have e' : frV (txP p) = okT p := e
  unfold frV at e'
  cases hf : frB (txP p)
  · rw [hf, if_neg (by simp)] at e'
    simp at e'
  · rw [hf, if_pos rfl] at e'
    refine ⟨rfl, ?_⟩
    obtain ⟨X, Y, I⟩ := p
    cases hn : nmN (txP ⟨X, Y, I⟩) with
    | mk a b c =>
      rw [hn] at e'
      simp at e'
      obtain ⟨h1, h2, h3⟩ := e'
      have h1 : a = X := by omega
      have h2 : b = Y := by omega
      subst h1 h2 h3
      rfl
theorem byt_gr {p : Pt} (h : grN p = true) : bytV p = .tuple #[.string (txP p), .int .i64 0] := by unfold bytV txP; rw [if_pos h]
theorem ky_5 : kyV 5 = .tuple #[.string (txP g5), .int .i64 0] := by
  unfold kyV
  rw [show scB 5 = true from rfl, if_pos rfl, tm_g5, byt_gr gr_g5]
theorem sg_5 : sgV 5 ta = .tuple #[.string (txP pA5), .int .i64 0] := by
  unfold sgV
  rw [show scB 5 = true from rfl, if_pos rfl, hs_a, tm_A5, byt_gr gr_A5]
theorem sg_6 : sgV 6 ta = .tuple #[.string (txP pA6), .int .i64 0] := by
  unfold sgV
  rw [show scB 6 = true from rfl, if_pos rfl, hs_a, tm_A6, byt_gr gr_A6]
theorem ve_pt {k s : Pt} (t : ByteArray) (hk : grN k = true) (hi : k ≠ iN) (hs : grN s = true) : veB (txP k) t (txP s) = eqP (prN s gN) (prN (hsN t) k) := by
  obtain ⟨h1, h2⟩ := fr_point hk
  obtain ⟨h3, h4⟩ := fr_point hs
  unfold veB hoB
  rw [h1, h2, h3, h4, decide_eq_false hi]
  rfl
theorem ve_1 : veB (txP g5) ta (txP pA5) = true := by rw [ve_pt ta gr_g5 (by decide) gr_A5, hs_a]; exact eq_1
theorem ve_2 : veB (txP g5) ta (txP pA6) = false := by rw [ve_pt ta gr_g5 (by decide) gr_A6, hs_a]; exact eq_2
theorem ve_3 : veB (txP g5) tb (txP pA5) = false := by rw [ve_pt tb gr_g5 (by decide) gr_A5, hs_b]; exact eq_3

set_option maxRecDepth 20000 in
set_option maxHeartbeats 4000000 in
theorem shown12_any (w : World) (hL : Ls w) :
    Calls Tryz.prog 8 #[] w fun e w' => e = .returned (.bool true) ∧ Below w.heap.size w w' := by
  have C1 := key_any 5 (by decide)
  have C2 := sign_any 5 (by decide) ta (by decide)
  have C3 := sign_any 6 (by decide) ta (by decide)
  rw [ky_5] at C1
  rw [sg_5] at C2
  rw [sg_6] at C3
  have C4 := verify_any (txP g5) ta (txP pA5) (by decide)
  have C5 := verify_any (txP g5) ta (txP pA6) (by decide)
  have C6 := verify_any (txP g5) tb (txP pA5) (by decide)
  rw [ve_1] at C4
  rw [ve_2] at C5
  rw [ve_3] at C6
  obtain ⟨k, hk⟩ : ∃ k, txP g5 = k := ⟨_, rfl⟩
  obtain ⟨s, hs⟩ : ∃ s, txP pA5 = s := ⟨_, rfl⟩
  obtain ⟨r, hr⟩ : ∃ r, txP pA6 = r := ⟨_, rfl⟩
  rw [hk] at C1 C4 C5 C6
  rw [hs] at C2 C4 C6
  rw [hr] at C3 C5
  clear hk hs hr
  simp only [ta, tb] at C2 C3 C4 C5 C6
  go_enter Tryz.func8, Tryz.ntmps8
  go_wp2_with fail
  refine (C1 _ hL).mono ?_
  rintro e w1 ⟨rfl, B1⟩
  have L1 := hL.below B1
  go_wp2_with fail
  refine (C2 _ L1).mono ?_
  rintro e w2 ⟨rfl, B2⟩
  have BW2 := belowStep B1 B1.size B2
  have L2' := L1.below B2
  go_wp2_with fail
  refine (C3 _ L2').mono ?_
  rintro e w3 ⟨rfl, B3⟩
  have BW3 := belowStep BW2 BW2.size B3
  have L3' := L2'.below B3
  clear B1 B2 B3 BW2 L1 L2' C1 C2 C3
  go_wp2_with fail
  refine (C4 _ L3').mono ?_
  rintro e w4 ⟨rfl, B4⟩
  have BW4 := belowStep BW3 BW3.size B4
  have L4' := L3'.below B4
  go_wp2_with fail
  refine (C5 _ L4').mono ?_
  rintro e w5 ⟨rfl, B5⟩
  have BW5 := belowStep BW4 BW4.size B5
  have L5' := L4'.below B5
  go_wp2_with fail
  refine (C6 _ L5').mono ?_
  rintro e w6 ⟨rfl, B6⟩
  have BW6 := belowStep BW5 BW5.size B6
  clear L3' L4' L5' BW3 BW4 BW5 B4 B5 B6 C4 C5 C6
  go_wp2_with fail
  go_ret
  exact ⟨rfl, BW6⟩
end Go.Proofs.YtgefjmpnpebfoaaGreatDoor
