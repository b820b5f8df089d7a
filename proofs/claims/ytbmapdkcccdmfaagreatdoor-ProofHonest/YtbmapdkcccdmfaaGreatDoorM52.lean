/- Lemmas: Paths and forms are one to one. -/
import Derived.Test.YtbmapdkcccdmfaaGreatDoorM1
import Derived.Test.YtbmapdkcccdmfaaGreatDoorM11
import Derived.Test.YtbmapdkcccdmfaaGreatDoorM18
import Derived.Test.YtbmapdkcccdmfaaGreatDoorM19
import Derived.Test.YtbmapdkcccdmfaaGreatDoorM20
import Derived.Test.YtbmapdkcccdmfaaGreatDoorM21
import Derived.Test.YtbmapdkcccdmfaaGreatDoorM22
import Derived.Test.YtbmapdkcccdmfaaGreatDoorM23
import Derived.Test.YtbmapdkcccdmfaaGreatDoorM24
import Derived.Test.YtbmapdkcccdmfaaGreatDoorM25
import Derived.Test.YtbmapdkcccdmfaaGreatDoorM26
import Derived.Test.YtbmapdkcccdmfaaGreatDoorM27
import Derived.Test.YtbmapdkcccdmfaaGreatDoorM28
import Derived.Test.YtbmapdkcccdmfaaGreatDoorM29
import Derived.Test.YtbmapdkcccdmfaaGreatDoorM3
import Derived.Test.YtbmapdkcccdmfaaGreatDoorRows
namespace Go.Proofs.YtbmapdkcccdmfaaGreatDoor
open Go.RowKit Go.Sort

theorem of_path (s : ByteArray) : isP (ofOf s) = true := by
 refine (isP_iff _).2 fun j hj => ?_
 rw [of_size] at hj
 rw [bt_of _ _ hj]
 have := half_bd s j
 omega
theorem full_0 (p : ByteArray) (leaf : Bool) : n_bt (full p leaf) 0 = (if leaf then 2 else 0) + ((p.size % 2 : Nat) : Int) := by
 unfold full
 rw [n_bt_app, if_pos (by rw [hd_size]; omega)]
 cases leaf <;> unfold hdOf <;> by_cases h : p.size % 2 = 0
 ·rw [if_pos h, h]; rfl
 ·rw [if_neg h, show p.size % 2 = 1 by omega]; rfl
 ·rw [if_pos h, h]; rfl
 ·rw [if_neg h, show p.size % 2 = 1 by omega]; rfl
theorem full_1 (p : ByteArray) (leaf : Bool) (h : p.size % 2 = 0) : n_bt (full p leaf) 1 = 0 := by
 unfold full
 rw [n_bt_app, if_pos (by rw [hd_size]; omega)]
 cases leaf
 ·rw [show hdOf p.size false = ⟨#[0, 0]⟩ from if_pos h]; rfl
 ·rw [show hdOf p.size true = ⟨#[2, 0]⟩ from if_pos h]; rfl
theorem full_even (p : ByteArray) (leaf : Bool) : (full p leaf).size = 2 * ((full p leaf).size / 2) ∧ 2 ≤ (full p leaf).size ∧ (full p leaf).size = 2 - p.size % 2 + p.size := by
 rw [full_size, hd_size]
 omega
theorem n_fm_size (p : ByteArray) (leaf : Bool) : (fmOf p leaf).size = (full p leaf).size / 2 := n_by8_size _ _
theorem half_fm (p : ByteArray) (leaf : Bool) (h : isP p = true) (j : Nat) (hj : j < (full p leaf).size) : half (fmOf p leaf) j = n_bt (full p leaf) j := by
 have he := full_even p leaf
 unfold half fmOf
 rw [n_bt_by8 _ _ (fm_bd p leaf h) _ (by omega)]
 have h1 := full_le p leaf h (2 * (j / 2))
 have h2 := full_le p leaf h (2 * (j / 2) + 1)
 unfold fmAt
 by_cases e : j % 2 = 0
 ·rw [if_pos e]
  rw [show 2 * (j / 2) = j by omega] at h1 h2 ⊢
  omega
 ·rw [if_neg e]
  rw [show 2 * (j / 2) + 1 = j by omega] at h2 ⊢
  omega
theorem read_form (p : ByteArray) (leaf : Bool) (h : isP p = true) : rdS (fmOf p leaf) = p ∧ rdL (fmOf p leaf) = leaf ∧ rdE (fmOf p leaf) = 0 := by
 have he := full_even p leaf
 have hz := n_fm_size p leaf
 have h0 : half (fmOf p leaf) 0 = (if leaf then 2 else 0) + ((p.size % 2 : Nat) : Int) := by rw [half_fm p leaf h 0 (by omega), full_0]
 have hgood : rdGood (fmOf p leaf) = true := by
  unfold rdGood rgood
  rw [decide_eq_true (by omega), Bool.true_and, h0]
  by_cases e : p.size % 2 = 0
  ·rw [half_fm p leaf h 1 (by omega), full_1 p leaf e, e]
   cases leaf <;> rfl
  ·rw [show p.size % 2 = 1 by omega]
   cases leaf <;> rfl
 have hfrom : rfrom (half (fmOf p leaf)) = 2 - p.size % 2 := by
  unfold rfrom
  rw [h0]
  by_cases e : p.size % 2 = 0
  ·rw [e]; cases leaf <;> rfl
  ·rw [show p.size % 2 = 1 by omega]; cases leaf <;> rfl
 refine ⟨?_, ?_, ?_⟩
 ·unfold rdS
  rw [if_pos hgood, hfrom, hz]
  refine n_ext_bt _ _ (by rw [n_by8_size]; omega) fun j hj => ?_
  rw [n_by8_size] at hj
  rw [n_bt_by8 _ _ (fun j => by have := half_bd (fmOf p leaf) (2 - p.size % 2 + j); omega) j hj, half_fm p leaf h _ (by omega)]
  unfold full
  rw [n_bt_app, if_neg (by rw [hd_size]; omega), hd_size, show 2 - p.size % 2 + j - (2 - p.size % 2) = j by omega]
 ·unfold rdL
  rw [hgood, h0, Bool.true_and]
  by_cases e : p.size % 2 = 0
  ·rw [e]; cases leaf <;> rfl
  ·rw [show p.size % 2 = 1 by omega]; cases leaf <;> rfl
 ·unfold rdE
  rw [if_pos hgood]


end Go.Proofs.YtbmapdkcccdmfaaGreatDoor
