/- RlpShort's walk. -/
import Derived.Test.YtacpnnllehljbabQ21
namespace Go.Proofs.Ytacpnnllehljbab
open Go.RowKit Go.Shelf Go.Sort

set_option maxRecDepth 20000 in
set_option maxHeartbeats 2000000 in
theorem short_any (n m : Nat) (hn : n < 18446744073709551616) (hm : m < 18446744073709551616) (w : World) : Calls Try.prog 3 #[.int .u64 n, .int .u64 m] w fun e w' => e = .returned (.bool true) ∧ Below w.heap.size w w' := by
  have K0 := shown_any
  have K1 := number_any n hn
  have K2 := number_any m hm
  have h8 := num_8 n hn
  have h1 := num_first n
  have h2 := blen_zero n
  have h3 := blen_mono n m
  have h4 := num_inj n m hn hm
  have s1 := num_size n
  have s2 := num_size m
  have h5 : n = m → numOf n = numOf m := fun e => by rw [e]
  rw [← s1] at h8 h1 h2 h3
  rw [← s2] at h3
  clear s1 s2
  obtain ⟨a, ha⟩ : ∃ x, numOf n = x := ⟨_, rfl⟩
  obtain ⟨b, hb⟩ : ∃ x, numOf m = x := ⟨_, rfl⟩
  rw [ha] at K1 h8 h1 h2 h3 h4 h5
  rw [hb] at K2 h3 h4 h5
  clear ha hb
  go_enter Try.func3, Try.ntmps3
  go_wp2_with fail
  refine (K0 _).mono ?_
  rintro e0 w1 ⟨rfl, B1⟩
  go_wp2_with fail
  refine (K1 _).mono ?_
  rintro e0 w2 ⟨rfl, B2⟩
  have BW := belowStep B1 B1.size B2
  go_wp2_with fail
  refine (K2 _).mono ?_
  rintro e0 w3 ⟨rfl, B3⟩
  replace BW := belowStep BW BW.size B3
  clear B1 B2 B3 K0 K1 K2
  have l8 : ¬ (8 : Int) < a.size := by omega
  have l8' : (a.size : Int) ≤ 8 := by omega
  have heq : ((n : Int) == m) = (a.toList == b.toList) := by
    by_cases h : n = m
    · have h' := h5 h
      rw [beq_iff_eq.2 (show (n : Int) = m by omega), beq_iff_eq.2 (show a.toList = b.toList by rw [h'])]
    · rw [beq_eq_false_iff_ne.2 (show (n : Int) ≠ m by omega), beq_eq_false_iff_ne.2 (fun hl => h (h4 ?_))]
      rw [Lib.toList_data, Lib.toList_data] at hl
      exact ByteArray.ext (Array.toList_inj.1 hl)
  obtain ⟨sm, hsm⟩ : ∃ q, (a.toList == b.toList) = q := ⟨_, rfl⟩
  rw [hsm] at heq
  clear h4 h5
  by_cases h0 : a.size = 0
  · have l0 : (a.size : Int) = 0 := by omega
    have hn0 : n = 0 := h2.1 h0
    have c0 : (n : Int) = 0 := by omega
    have c1 : ¬ (m : Int) < n := by omega
    have c2 : ¬ (m : Int) < 0 := by omega
    have c3 : (a.size : Int) ≤ b.size := by omega
    have c4 : (0 : Int) ≤ b.size := by omega
    have heq0 : ((0 : Int) == m) = sm := by rw [← c0]; exact heq
    clear h1 h2 h3 heq
    go_wp2
    go_ret
    exact ⟨rfl, BW⟩
  · have hp : 0 < a.size := by omega
    have hn0 : n ≠ 0 := fun e => h0 (h2.2 e)
    have l0 : (0 : Int) < a.size := by omega
    have l1 : ¬ (a.size : Int) = 0 := by omega
    have l2 : ((a.size : Int) == 0) = false := by rw [beq_eq_false_iff_ne]; exact l1
    have c0 : ((n : Int) == 0) = false := by rw [beq_eq_false_iff_ne]; omega
    have g0 := bt_get a 0 hp
    have hu := h1 hp
    obtain ⟨u, hub⟩ : ∃ u, bt a 0 = u := ⟨_, rfl⟩
    rw [hub] at g0 hu
    have c5 : (u == 0) = false := by rw [beq_eq_false_iff_ne]; exact hu
    have c6 : (u != 0) = true := by rw [bne_iff_ne]; exact hu
    clear h1 h2 hub
    by_cases hmn : m < n
    · have c1 : (m : Int) < n := by omega
      clear h3
      go_wp2
      go_ret
      exact ⟨rfl, BW⟩
    · have c1 : ¬ (m : Int) < n := by omega
      have h3' := h3 (by omega)
      have c3 : (a.size : Int) ≤ b.size := by omega
      clear h3
      go_wp2
      go_ret
      exact ⟨rfl, BW⟩
end Go.Proofs.Ytacpnnllehljbab
