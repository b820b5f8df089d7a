/- What is read out of five bytes, pure. No condition. -/
import Derived.Test.YtlcdlegdnibcaaaDoorC14
import Derived.Test.YtlcdlegdnibcaaaDoorC13
namespace Go.Proofs.YtlcdlegdnibcaaaDoor
open Go.RowKit Go.Shelf Go.Sort

theorem nofalse {P : Prop} (h : false = true) : P := by cases h
theorem gr_inf : grN iN = true := by
  have : grN iN = (onN iN && decide (tmN iN 536870717 = iN)) := rfl
  rw [this, tm_inf, decide_eq_true rfl]
  rfl
theorem btN_tx (f x j : Nat) (hf : f < 256) (hj : j < 5) : (btN (txF f x) j : Int) = bvF f x j := by
  rw [← bt_N]
  exact bt_by8 5 _ (bv_bd f x hf) j hj
theorem tx_first (f x : Nat) (hf : f < 256) : btN (txF f x) 0 = f := by
  have := btN_tx f x 0 hf (by omega)
  unfold bvF at this
  rw [if_pos rfl] at this
  omega
theorem tx_back (s : ByteArray) (h5 : s.size = 5) : txF (btN s 0) (nmX s) = s := by
  refine ext_bt _ _ (by rw [tx_size, h5]) fun j hj => ?_
  rw [tx_size] at hj
  have q0 := btN_lt s 0
  have q1 := btN_lt s 1
  have q2 := btN_lt s 2
  have q3 := btN_lt s 3
  have q4 := btN_lt s 4
  have e := btN_tx (btN s 0) (nmX s) j q0 hj
  rw [← bt_N] at e
  rw [e, bt_N]
  unfold bvF nmX fourN
  match j, hj with
  | 0, _ => rw [if_pos rfl]
  | 1, _ => rw [if_neg (by omega)]; show ((_ / 16777216 % 256 : Nat) : Int) = _; omega
  | 2, _ => rw [if_neg (by omega)]; show ((_ / 65536 % 256 : Nat) : Int) = _; omega
  | 3, _ => rw [if_neg (by omega)]; show ((_ / 256 % 256 : Nat) : Int) = _; omega
  | 4, _ => rw [if_neg (by omega)]; show ((_ / 1 % 256 : Nat) : Int) = _; omega
theorem nm_tx (f x : Nat) (hf : f < 256) (hx : x < 4294967296) : nmX (txF f x) = x := by
  have e1 := btN_tx f x 1 hf (by omega)
  have e2 := btN_tx f x 2 hf (by omega)
  have e3 := btN_tx f x 3 hf (by omega)
  have e4 := btN_tx f x 4 hf (by omega)
  unfold bvF at e1 e2 e3 e4
  rw [if_neg (by omega)] at e1 e2 e3 e4
  simp only [Nat.reduceSub, Nat.reducePow] at e1 e2 e3 e4
  unfold nmX fourN
  omega
def zero5 : ByteArray := txF 0 0
theorem fs_inf : fsN iN = 0 := rfl
theorem fr_zero : frV zero5 = okT iN := by
  have e0 : btN zero5 0 = 0 := tx_first 0 0 (by omega)
  have en : nmN zero5 = iN := by unfold nmN; rw [if_pos e0]
  have hb : frB zero5 = true := by
    have h5 : zero5.size = 5 := tx_size 0 0
    have hz : txF 0 iN.X = zero5 := rfl
    unfold frB
    rw [en, gr_inf, decide_eq_true h5, fs_inf, decide_eq_true hz]
    rfl
  unfold frV
  rw [hb, if_pos rfl, en]
theorem fr_short (s : ByteArray) (h : s.size ≠ 5) : frV s = errT := by
  unfold frV frB
  rw [decide_eq_false h]
  rfl
theorem fr_first (s : ByteArray) (hz : s ≠ zero5) (h2 : btN s 0 ≠ 2) (h3 : btN s 0 ≠ 3) : frV s = errT := by
  have hb : frB s = false := by
    unfold frB
    by_cases h0 : btN s 0 = 0
    · have en : nmN s = iN := by unfold nmN; rw [if_pos h0]
      rw [en, fs_inf, decide_eq_false (p := txF 0 iN.X = s) (fun e => hz e.symm), Bool.and_false]
    · have en : nmN s = ⟨nmX s, roN (sqN (nmX s)), false⟩ := by unfold nmN; rw [if_neg h0, if_neg h3]
      rw [en]
      have : ¬ txF (fsN ⟨nmX s, roN (sqN (nmX s)), false⟩) (nmX s) = s := fun e => by
        have hf := fs_lt ⟨nmX s, roN (sqN (nmX s)), false⟩
        have e1 := tx_first (fsN ⟨nmX s, roN (sqN (nmX s)), false⟩) (nmX s) hf
        rw [e] at e1
        have hn : ¬ (⟨nmX s, roN (sqN (nmX s)), false⟩ : Pt) = iN := fun e => nofalse (congrArg Pt.I e)
        unfold fsN at e1
        rw [if_neg hn] at e1
        split at e1
        · exact h2 e1
        · exact h3 e1
      rw [decide_eq_false this, Bool.and_false]
  unfold frV
  rw [hb]
  rfl
theorem gr_bad (x y : Nat) (h : PM ≤ x) : grN ⟨x, y, false⟩ = false := by
  have : onN ⟨x, y, false⟩ = false := by
    unfold onN
    rw [if_neg (by simp), decide_eq_false (by show ¬ x < PM; omega), Bool.false_and, Bool.false_and]
  unfold grN
  rw [this, Bool.false_and]
theorem fr_great (s : ByteArray) (h0 : btN s 0 = 2 ∨ btN s 0 = 3) (hx : PM ≤ nmX s) : frV s = errT := by
  have hb : frB s = false := by
    unfold frB
    have : grN (nmN s) = false := by
      unfold nmN
      rw [if_neg (by omega)]
      split
      · exact gr_bad _ _ hx
      · exact gr_bad _ _ hx
    rw [this, Bool.and_false, Bool.false_and]
  unfold frV
  rw [hb]
  rfl
/-- What the reference takes for it. -/
def rfY (s : ByteArray) : Nat := if btN s 0 = 3 then sbN 0 (roN (sqN (nmX s))) else roN (sqN (nmX s))
def rfO (s : ByteArray) : Bool := if btN s 0 = 3 then roB (sqN (nmX s)) && !decide (roN (sqN (nmX s)) = 0) else roB (sqN (nmX s))
theorem ro_zero : roB 0 = true := ro_sq 0
theorem no_root (x : Nat) (h : roB (sqN x) = false) : grN ⟨x, 0, false⟩ = false := by
  have : onN ⟨x, 0, false⟩ = false := by
    unfold onN
    rw [if_neg (by simp)]
    have : ¬ muN 0 0 = sqN x := fun e => by
      rw [← e] at h
      exact absurd (h.symm.trans ro_zero) (by simp)
    rw [decide_eq_false this, Bool.and_false]
  unfold grN
  rw [this, Bool.false_and]
theorem odd_neg (r : Nat) (hl : r < PM) (he : r % 2 = 0) (hz : r ≠ 0) : sbN 0 r % 2 = 1 := by
  have h1 : PM - r < PM := by omega
  have e : sbN 0 r = PM - r := by
    unfold sbN
    rw [Nat.zero_mod, Nat.zero_add, Nat.mod_eq_of_lt hl, Nat.mod_eq_of_lt h1]
  rw [e]
  unfold PM at hl ⊢
  omega
theorem fs_even (x y : Nat) (h : y % 2 = 0) : fsN ⟨x, y, false⟩ = 2 := by
  have hn : ¬ (⟨x, y, false⟩ : Pt) = iN := fun e => nofalse (congrArg Pt.I e)
  unfold fsN
  rw [if_neg hn, if_pos h]
theorem fs_odd (x y : Nat) (h : y % 2 = 1) : fsN ⟨x, y, false⟩ = 3 := by
  have hn : ¬ (⟨x, y, false⟩ : Pt) = iN := fun e => nofalse (congrArg Pt.I e)
  unfold fsN
  rw [if_neg hn, if_neg (show ¬ y % 2 = 0 by omega)]
theorem nm_rf (s : ByteArray) (h0 : btN s 0 = 2 ∨ btN s 0 = 3) : nmN s = ⟨nmX s, rfY s, false⟩ := by
  unfold nmN rfY
  rw [if_neg (by omega)]
  by_cases h3 : btN s 0 = 3
  · rw [if_pos h3, if_pos h3]
    exact Pt.ext' rfl rfl rfl
  · rw [if_neg h3, if_neg h3]
theorem rf_none (s : ByteArray) (hr : roB (sqN (nmX s)) = false) : rfY s = 0 ∧ rfO s = false := by
  have r0 := ro_none _ hr
  unfold rfY rfO
  rw [r0, hr, show sbN 0 0 = 0 by decide]
  refine ⟨?_, ?_⟩
  · split <;> rfl
  · split <;> rfl
theorem fr_in (s : ByteArray) (h5 : s.size = 5) (y : Nat) (en : nmN s = ⟨nmX s, y, false⟩) : frB s = (grN ⟨nmX s, y, false⟩ && decide (txF (fsN ⟨nmX s, y, false⟩) (nmX s) = s)) := by
  unfold frB
  rw [en, decide_eq_true h5, Bool.true_and]
theorem fr_rest (s : ByteArray) (h5 : s.size = 5) (h0 : btN s 0 = 2 ∨ btN s 0 = 3) : frV s = if (rfO s && grN ⟨nmX s, rfY s, false⟩) = true then okT ⟨nmX s, rfY s, false⟩ else errT := by
  have en := nm_rf s h0
  have hb : frB s = (rfO s && grN ⟨nmX s, rfY s, false⟩) := by
    rw [fr_in s h5 _ en]
    have htx := tx_back s h5
    cases hr : roB (sqN (nmX s))
    · obtain ⟨y0, o0⟩ := rf_none s hr
      rw [y0, o0, no_root _ hr, Bool.false_and, Bool.false_and]
    · have he := (ro_even _ hr).2
      have hl := ro_lt (sqN (nmX s))
      rcases h0 with h2 | h3
      · have y0 : rfY s = roN (sqN (nmX s)) := by unfold rfY; rw [if_neg (by omega)]
        have o0 : rfO s = true := by unfold rfO; rw [if_neg (by omega)]; exact hr
        rw [o0, Bool.true_and, fs_even _ _ (by rw [y0]; exact he)]
        rw [h2] at htx
        rw [decide_eq_true htx, Bool.and_true]
      · have y0 : rfY s = sbN 0 (roN (sqN (nmX s))) := by unfold rfY; rw [if_pos h3]
        have o0 : rfO s = !decide (roN (sqN (nmX s)) = 0) := by unfold rfO; rw [if_pos h3, hr, Bool.true_and]
        rw [h3] at htx
        by_cases z : roN (sqN (nmX s)) = 0
        · have y1 : rfY s = 0 := by rw [y0, z]; decide
          have hd : ¬ txF 2 (nmX s) = s := fun e => by
            have e1 := tx_first 2 (nmX s) (by omega)
            rw [e, h3] at e1
            omega
          rw [o0, decide_eq_true z, Bool.not_true, Bool.false_and, fs_even _ _ (by rw [y1]), decide_eq_false hd, Bool.and_false]
        · have y1 : rfY s % 2 = 1 := by rw [y0]; exact odd_neg _ hl he z
          rw [o0, decide_eq_false z, Bool.not_false, Bool.true_and, fs_odd _ _ y1, decide_eq_true htx, Bool.and_true]
  unfold frV
  rw [hb, en]
/-- A point of the group is read from its bytes as it was. -/
theorem fr_back (p : Pt) (hg : grN p = true) : frV (txF (fsN p) p.X) = okT p := by
  have ho : onN p = true := by
    unfold grN at hg
    simp only [Bool.and_eq_true] at hg
    exact hg.1
  have hw := wl_on ho
  by_cases hi : p = iN
  · subst hi
    exact fr_zero
  · have hI := wl_i hw hi
    have hf := fs_lt p
    have hX : p.X < 4294967296 := by have := hw.1; unfold PM at this; omega
    have eX := nm_tx (fsN p) p.X hf hX
    have e0 := tx_first (fsN p) p.X hf
    have hy : muN p.Y p.Y = sqN p.X := by
      unfold onN at ho
      rw [if_neg (by rw [hI]; simp)] at ho
      simp only [Bool.and_eq_true, decide_eq_true_eq] at ho
      exact ho.2
    obtain ⟨h1, h2, h3⟩ := ro_of p.Y hw.2.1 _ hy
    have en : nmN (txF (fsN p) p.X) = p := by
      unfold nmN
      rw [e0, eX]
      by_cases hev : p.Y % 2 = 0
      · have ef : fsN p = 2 := by unfold fsN; rw [if_neg hi, if_pos hev]
        rw [ef, if_neg (by omega), if_neg (by omega), h2 hev]
        exact Pt.ext' rfl rfl hI.symm
      · have ef : fsN p = 3 := by unfold fsN; rw [if_neg hi, if_neg hev]
        rw [ef, if_neg (by omega), if_pos rfl]
        exact Pt.ext' rfl (h3 (by omega)) hI.symm
    unfold frV frB
    rw [en, hg, decide_eq_true (tx_size _ _), decide_eq_true rfl]
    rfl
end Go.Proofs.YtlcdlegdnibcaaaDoor
