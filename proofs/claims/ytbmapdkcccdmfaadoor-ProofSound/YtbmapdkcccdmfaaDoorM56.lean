/- Lemmas: Paths and forms are one to one. -/
import Derived.Test.YtbmapdkcccdmfaaDoorM1
import Derived.Test.YtbmapdkcccdmfaaDoorM11
import Derived.Test.YtbmapdkcccdmfaaDoorM18
import Derived.Test.YtbmapdkcccdmfaaDoorM19
import Derived.Test.YtbmapdkcccdmfaaDoorM20
import Derived.Test.YtbmapdkcccdmfaaDoorM21
import Derived.Test.YtbmapdkcccdmfaaDoorM22
import Derived.Test.YtbmapdkcccdmfaaDoorM23
import Derived.Test.YtbmapdkcccdmfaaDoorM24
import Derived.Test.YtbmapdkcccdmfaaDoorM25
import Derived.Test.YtbmapdkcccdmfaaDoorM26
import Derived.Test.YtbmapdkcccdmfaaDoorM27
import Derived.Test.YtbmapdkcccdmfaaDoorM28
import Derived.Test.YtbmapdkcccdmfaaDoorM29
import Derived.Test.YtbmapdkcccdmfaaDoorM3
import Derived.Test.YtbmapdkcccdmfaaDoorRows
namespace Go.Proofs.YtbmapdkcccdmfaaDoor
open Go.RowKit Go.Sort

theorem of_path (s : ByteArray) : isP (ofOf s) = true := by
  refine (isP_iff _).2 fun j hj => ?_
  rw [of_size] at hj
  rw [bt_of _ _ hj]
  have := half_bd s j
  omega
/-- The first halves of a form. -/
theorem full_0 (p : ByteArray) (leaf : Bool) : n_bt (full p leaf) 0 = (if leaf then 2 else 0) + ((p.size % 2 : Nat) : Int) := by
  unfold full
  rw [n_bt_app, if_pos (by rw [hd_size]; omega)]
  cases leaf <;> unfold hdOf <;> by_cases h : p.size % 2 = 0
  · rw [if_pos h, h]; rfl
  · rw [if_neg h, show p.size % 2 = 1 by omega]; rfl
  · rw [if_pos h, h]; rfl
  · rw [if_neg h, show p.size % 2 = 1 by omega]; rfl
theorem full_1 (p : ByteArray) (leaf : Bool) (h : p.size % 2 = 0) : n_bt (full p leaf) 1 = 0 := by
  unfold full
  rw [n_bt_app, if_pos (by rw [hd_size]; omega)]
  cases leaf
  · rw [show hdOf p.size false = ⟨#[0, 0]⟩ from if_pos h]; rfl
  · rw [show hdOf p.size true = ⟨#[2, 0]⟩ from if_pos h]; rfl
theorem full_even (p : ByteArray) (leaf : Bool) : (full p leaf).size = 2 * ((full p leaf).size / 2) ∧ 2 ≤ (full p leaf).size ∧ (full p leaf).size = 2 - p.size % 2 + p.size := by
  rw [full_size, hd_size]
  omega
theorem n_fm_size (p : ByteArray) (leaf : Bool) : (fmOf p leaf).size = (full p leaf).size / 2 := n_by8_size _ _
theorem half_fm (p : ByteArray) (leaf : Bool) (h : isP p = true) (j : Nat) (hj : j < (full p leaf).size) : half (fmOf p leaf) j = n_bt (full p leaf) j := by
  have he := full_even p leaf
  unfold half fmOf
  rw [n_bt_by8 _ _ (fm_bd p leaf h) _ (by omega)]
  have h1 := full_le p leaf h (2 * (j / 2))
  have h2 := full_le p leaf h (2 * (j / 2) + 1)
  unfold fmAt
  by_cases e : j % 2 = 0
  · rw [if_pos e]
    rw [show 2 * (j / 2) = j by omega] at h1 h2 ⊢
    omega
  · rw [if_neg e]
    rw [show 2 * (j / 2) + 1 = j by omega] at h2 ⊢
    omega
/-- A form is read as it was. -/
theorem read_form (p : ByteArray) (leaf : Bool) (h : isP p = true) : rdS (fmOf p leaf) = p ∧ rdL (fmOf p leaf) = leaf ∧ rdE (fmOf p leaf) = 0 := by
  have he := full_even p leaf
  have hz := n_fm_size p leaf
  have h0 : half (fmOf p leaf) 0 = (if leaf then 2 else 0) + ((p.size % 2 : Nat) : Int) := by rw [half_fm p leaf h 0 (by omega), full_0]
  have hgood : rdGood (fmOf p leaf) = true := by
    unfold rdGood rgood
    rw [decide_eq_true (by omega), Bool.true_and, h0]
    by_cases e : p.size % 2 = 0
    · rw [half_fm p leaf h 1 (by omega), full_1 p leaf e, e]
      cases leaf <;> rfl
    · rw [show p.size % 2 = 1 by omega]
      cases leaf <;> rfl
  have hfrom : rfrom (half (fmOf p leaf)) = 2 - p.size % 2 := by
    unfold rfrom
    rw [h0]
    by_cases e : p.size % 2 = 0
    · rw [e]; cases leaf <;> rfl
    · rw [show p.size % 2 = 1 by omega]; cases leaf <;> rfl
  refine ⟨?_, ?_, ?_⟩
  · unfold rdS
    rw [if_pos hgood, hfrom, hz]
    refine n_ext_bt _ _ (by rw [n_by8_size]; omega) fun j hj => ?_
    rw [n_by8_size] at hj
    rw [n_bt_by8 _ _ (fun j => by have := half_bd (fmOf p leaf) (2 - p.size % 2 + j); omega) j hj, half_fm p leaf h _ (by omega)]
    unfold full
    rw [n_bt_app, if_neg (by rw [hd_size]; omega), hd_size, show 2 - p.size % 2 + j - (2 - p.size % 2) = j by omega]
  · unfold rdL
    rw [hgood, h0, Bool.true_and]
    by_cases e : p.size % 2 = 0
    · rw [e]; cases leaf <;> rfl
    · rw [show p.size % 2 = 1 by omega]; cases leaf <;> rfl
  · unfold rdE
    rw [if_pos hgood]

theorem rd_size (s : ByteArray) (h : rdGood s = true) : (rdS s).size = 2 * s.size - rfrom (half s) := by
  unfold rdS
  rw [if_pos h, n_by8_size]
theorem bt_rd (s : ByteArray) (h : rdGood s = true) (j : Nat) (hj : j < 2 * s.size - rfrom (half s)) : n_bt (rdS s) j = half s (rfrom (half s) + j) := by
  unfold rdS
  rw [if_pos h, n_bt_by8 _ _ (fun j => by have := half_bd s (rfrom (half s) + j); omega) j hj]
theorem rd_path (s : ByteArray) : isP (rdS s) = true := by
  refine (isP_iff _).2 fun j hj => ?_
  cases h : rdGood s with
  | true =>
    rw [rd_size s h] at hj
    rw [bt_rd s h j hj]
    have := half_bd s (rfrom (half s) + j)
    omega
  | false =>
    have : rdS s = ⟨#[]⟩ := by unfold rdS; rw [h]; rfl
    rw [this] at hj
    exact absurd hj (Nat.not_lt_zero _)
/-- What is read stands in a form as it stood. -/
theorem full_rd (s : ByteArray) (h : rdGood s = true) : (full (rdS s) (rdL s)).size = 2 * s.size ∧ ∀ j, j < 2 * s.size → n_bt (full (rdS s) (rdL s)) j = half s j := by
  have hz := rd_size s h
  have hg := h
  unfold rdGood rgood at hg
  simp only [Bool.and_eq_true, Bool.or_eq_true, decide_eq_true_eq] at hg
  obtain ⟨hs0, h3, h1⟩ := hg
  have hb := half_bd s 0
  have hfr : (rfrom (half s) = 2 ∧ half s 0 % 2 = 0) ∨ (rfrom (half s) = 1 ∧ half s 0 % 2 = 1) := by
    unfold rfrom
    by_cases e : half s 0 % 2 = 0
    · rw [if_pos e]; exact .inl ⟨rfl, e⟩
    · rw [if_neg e]; exact .inr ⟨rfl, by omega⟩
  have hL : rdL s = decide (half s 0 / 2 % 2 = 1) := by unfold rdL; rw [h, Bool.true_and]
  have hhs : (hdOf (rdS s).size (rdL s)).size = rfrom (half s) := by
    rw [hd_size, hz]
    omega
  have hfull : (full (rdS s) (rdL s)).size = 2 * s.size := by
    rw [full_size, hhs, hz]
    omega
  refine ⟨hfull, fun j hj => ?_⟩
  by_cases hj2 : j < rfrom (half s)
  · by_cases e0 : j = 0
    · subst e0
      rw [full_0, hL, hz]
      by_cases e : half s 0 / 2 % 2 = 1
      · rw [decide_eq_true e]
        show (2 : Int) + _ = _
        omega
      · rw [decide_eq_false e]
        show (0 : Int) + _ = _
        omega
    · have e1 : j = 1 := by omega
      subst e1
      rw [full_1 _ _ (by rw [hz]; omega)]
      rcases h1 with h1 | h1
      · omega
      · exact h1.symm
  · unfold full
    rw [n_bt_app, if_neg (by rw [hhs]; exact hj2), hhs, bt_rd s h _ (by omega), show rfrom (half s) + (j - rfrom (half s)) = j by omega]
/-- .. and is written so again. -/
theorem form_read (s : ByteArray) (h : rdGood s = true) : fmS (rdS s) (rdL s) = s := by
  obtain ⟨h1, h2⟩ := full_rd s h
  unfold fmS
  rw [if_pos (rd_path s)]
  refine n_ext_bt _ _ (by rw [n_fm_size, h1]; omega) fun j hj => ?_
  rw [n_fm_size, h1] at hj
  unfold fmOf
  rw [n_bt_by8 _ _ (fm_bd _ _ (rd_path s)) j (by rw [h1]; omega)]
  unfold fmAt
  rw [h2 _ (by omega), h2 _ (by omega)]
  unfold half
  have := n_bt_bd s j
  rw [if_pos (by omega), if_neg (by omega), show 2 * j / 2 = j by omega, show (2 * j + 1) / 2 = j by omega]
  omega
theorem rd_le (s : ByteArray) : (rdS s).size ≤ 2 * s.size := by
  cases h : rdGood s with
  | true => rw [rd_size s h]; omega
  | false => unfold rdS; rw [h]; exact Nat.zero_le _

end Go.Proofs.YtbmapdkcccdmfaaDoor
