/- The reference's constant, at this translation: that of the program's table. -/
import Derived.Test.YteiadmhododppaaDoorKR2
namespace Go.Proofs.YteiadmhododppaaDoor
open Go.RowKit Go.Sort

/-- The row's number behind n steps. -/
def crow (n : Nat) : Int := [1, 2, 4, 8, 16, 32, 64, 128, 113, 226, 181, 27, 54, 108, 216, 193, 243, 151, 95, 190, 13, 26, 52, 104, 208, 209, 211, 215, 223, 207, 239, 175, 47, 94, 188, 9, 18, 36, 72, 144, 81, 162, 53, 106, 212, 217, 195, 247, 159, 79, 158, 77, 154, 69, 138, 101, 202, 229, 187, 7, 14, 28, 56, 112, 224, 177, 19, 38, 76, 152, 65, 130, 117, 234, 165, 59, 118, 236, 169, 35, 70, 140, 105, 210, 213, 219, 199, 255, 143, 111, 222, 205, 235, 167, 63, 126, 252, 137, 99, 198, 253, 139, 103, 206, 237, 171, 39, 78, 156, 73, 146, 85, 170, 37, 74, 148, 89, 178, 21, 42, 84, 168, 33, 66, 132, 121, 242, 149, 91, 182, 29, 58, 116, 232, 161, 51, 102, 204, 233, 163, 55, 110, 220, 201, 227, 183, 31, 62, 124, 248, 129, 115, 230, 189, 11, 22, 44, 88, 176, 17, 34, 68, 136, 97, 194, 245, 155, 71, 142].getD n 0
theorem crow_step (n : Nat) (h : n < 168) : crow (n + 1) = if 256 ≤ 2 * crow n then bits .xor .i64 (2 * crow n) 369 else 2 * crow n :=
  (by decide +kernel : ∀ n : Fin 168, crow (n.val + 1) = if 256 ≤ 2 * crow n.val then bits .xor .i64 (2 * crow n.val) 369 else 2 * crow n.val) ⟨n, h⟩
theorem crow_bd (n : Nat) (h : n < 169) : 0 ≤ crow n ∧ crow n < 256 := (by decide +kernel : ∀ n : Fin 169, 0 ≤ crow n.val ∧ crow n.val < 256) ⟨n, h⟩
/-- What is joined behind j steps of round i. -/
def co (i : Nat) : Nat → Int
  | 0 => 0
  | j + 1 => if crow (7 * i + j) % 2 = 1 then bits .or .u64 (co i j) ([1, 2, 8, 128, 32768, 2147483648, 9223372036854775808].getD j 0) else co i j
theorem co_is (i : Nat) (h : i < 24) : co i 7 = cn i := (by decide +kernel : ∀ i : Fin 24, co i.val 7 = cn i.val) ⟨i, h⟩

set_option maxRecDepth 20000 in
set_option maxHeartbeats 4000000 in
theorem rconst_any (i : Nat) (hi : i < 24) (w : World) :
    Calls Tryd.prog 21 #[.int .i64 i] w fun e w' => e = .returned (.int .u64 (cn i)) ∧ Below w.heap.size w w' := by
  obtain ⟨p, hp⟩ : ∃ p, 7 * i = p := ⟨_, rfl⟩
  obtain ⟨m, hm⟩ : ∃ m, p + 7 = m := ⟨_, rfl⟩
  have w1 : IntKind.i64.wrap (7 * (i : Int)) = p := by rw [IntKind.wrap_i64]; omega
  have w2 : IntKind.i64.wrap ((p : Int) + 7) = m := by rw [IntKind.wrap_i64]; omega
  have hp2 : p ≤ 161 := by omega
  have HP : Hid (7 * i = p ∧ co i 7 = cn i) := ⟨hp, co_is i hi⟩
  clear hp
  go_enter Tryd.func21, Tryd.ntmps21
  go_wp2
  go_loopg [3, 4, 5] m (fun gk a b c wr => ∃ n : Nat, ∃ r o : Int, n + gk = m ∧ a = .int .i64 r ∧ b = .int .u64 o ∧ c = .int .i64 n ∧ Below w.heap.size w wr ∧ Hid (r = crow n ∧ o = co i (n - p)))
  case atStart => exact ⟨0, 1, 0, by omega, rfl, rfl, rfl, Below.refl _ _, ⟨rfl, by rw [Nat.zero_sub]; rfl⟩⟩
  case round =>
    obtain ⟨n, r, o, hn, rfl, rfl, rfl, BW, hH⟩ := hrel
    by_cases hlt : n < m
    · have l0 : (n : Int) < m := by omega
      have hr := crow_bd n (by omega)
      rw [← hH.out.1] at hr
      have hst := crow_step n (by omega)
      rw [← hH.out.1] at hst
      obtain ⟨r2, hr2⟩ : ∃ q, 2 * r = q := ⟨_, rfl⟩
      have hw2 : IntKind.i64.wrap r2 = r2 := by rw [IntKind.wrap_i64]; omega
      rw [hr2] at hst
      have wd : IntKind.i64.wrap ((n : Int) - p) = (n : Int) - p := by rw [IntKind.wrap_i64]; omega
      have hrm : r.tmod 2 = r % 2 := Int.tmod_eq_emod_of_nonneg hr.1
      obtain ⟨r3, hr3⟩ : ∃ q, bits .xor .i64 r2 369 = q := ⟨_, rfl⟩
      rw [hr3] at hst
      have HS : Hid (_ = _) := hst
      clear hst
      by_cases hneg : n < p
      · have ln : ¬ (0 : Int) ≤ (n : Int) - p := by omega
        have hco : co i (n + 1 - p) = o := by rw [hH.out.2, show n + 1 - p = 0 by omega, show n - p = 0 by omega]
        have HO : Hid (_ = _) := hco
        clear hco
        by_cases hbig : 256 ≤ r2
        · go_wp2
          go_roundg (gk - 1)
          case measure => omega
          case rel => exact ⟨n + 1, _, _, by omega, rfl, rfl, rfl, BW, ⟨by rw [HS.out, if_pos (by omega)], HO.out.symm⟩⟩
        · go_wp2
          go_roundg (gk - 1)
          case measure => omega
          case rel => exact ⟨n + 1, _, _, by omega, rfl, rfl, rfl, BW, ⟨by rw [HS.out, if_neg (by omega)], HO.out.symm⟩⟩
      · obtain ⟨j, hj⟩ : ∃ j, n - p = j := ⟨_, rfl⟩
        have hnj : (n : Int) - p = (j : Int) := by omega
        rw [hnj] at wd
        have lj : (0 : Int) ≤ (j : Int) := by omega
        obtain ⟨o2, ho2⟩ : ∃ q, bits .or .u64 o ([1, 2, 8, 128, 32768, 2147483648, 9223372036854775808].getD j 0) = q := ⟨_, rfl⟩
        have hco : co i (n + 1 - p) = if r % 2 = 1 then o2 else o := by
          rw [show n + 1 - p = j + 1 by omega, co, HP.out.1, show p + j = n by omega, ← hH.out.1]
          have e := hH.out.2
          rw [hj] at e
          rw [← e, ho2]
        have HO : Hid (_ = _) := hco
        clear hco
        have hj6 : j = 0 ∨ j = 1 ∨ j = 2 ∨ j = 3 ∨ j = 4 ∨ j = 5 ∨ j = 6 := by omega
        have HJ : Hid (n - p = j) := hj
        clear hj
        by_cases hodd : r % 2 = 1
        · have HQ : Hid (co i (n + 1 - p) = o2) := by show _ = _; rw [HO.out, if_pos hodd]
          rcases hj6 with rfl | rfl | rfl | rfl | rfl | rfl | rfl
          · simp only [List.getD_cons_zero] at ho2
            by_cases hbig : 256 ≤ r2
            · go_wp2
              go_roundg (gk - 1)
              case measure => omega
              case rel => exact ⟨n + 1, _, _, by omega, rfl, rfl, rfl, BW, ⟨by rw [HS.out, if_pos (by omega)], HQ.out.symm⟩⟩
            · go_wp2
              go_roundg (gk - 1)
              case measure => omega
              case rel => exact ⟨n + 1, _, _, by omega, rfl, rfl, rfl, BW, ⟨by rw [HS.out, if_neg (by omega)], HQ.out.symm⟩⟩
          · simp only [List.getD_cons_zero, List.getD_cons_succ] at ho2
            by_cases hbig : 256 ≤ r2
            · go_wp2
              go_roundg (gk - 1)
              case measure => omega
              case rel => exact ⟨n + 1, _, _, by omega, rfl, rfl, rfl, BW, ⟨by rw [HS.out, if_pos (by omega)], HQ.out.symm⟩⟩
            · go_wp2
              go_roundg (gk - 1)
              case measure => omega
              case rel => exact ⟨n + 1, _, _, by omega, rfl, rfl, rfl, BW, ⟨by rw [HS.out, if_neg (by omega)], HQ.out.symm⟩⟩
          · simp only [List.getD_cons_zero, List.getD_cons_succ] at ho2
            by_cases hbig : 256 ≤ r2
            · go_wp2
              go_roundg (gk - 1)
              case measure => omega
              case rel => exact ⟨n + 1, _, _, by omega, rfl, rfl, rfl, BW, ⟨by rw [HS.out, if_pos (by omega)], HQ.out.symm⟩⟩
            · go_wp2
              go_roundg (gk - 1)
              case measure => omega
              case rel => exact ⟨n + 1, _, _, by omega, rfl, rfl, rfl, BW, ⟨by rw [HS.out, if_neg (by omega)], HQ.out.symm⟩⟩
          · simp only [List.getD_cons_zero, List.getD_cons_succ] at ho2
            by_cases hbig : 256 ≤ r2
            · go_wp2
              go_roundg (gk - 1)
              case measure => omega
              case rel => exact ⟨n + 1, _, _, by omega, rfl, rfl, rfl, BW, ⟨by rw [HS.out, if_pos (by omega)], HQ.out.symm⟩⟩
            · go_wp2
              go_roundg (gk - 1)
              case measure => omega
              case rel => exact ⟨n + 1, _, _, by omega, rfl, rfl, rfl, BW, ⟨by rw [HS.out, if_neg (by omega)], HQ.out.symm⟩⟩
          · simp only [List.getD_cons_zero, List.getD_cons_succ] at ho2
            by_cases hbig : 256 ≤ r2
            · go_wp2
              go_roundg (gk - 1)
              case measure => omega
              case rel => exact ⟨n + 1, _, _, by omega, rfl, rfl, rfl, BW, ⟨by rw [HS.out, if_pos (by omega)], HQ.out.symm⟩⟩
            · go_wp2
              go_roundg (gk - 1)
              case measure => omega
              case rel => exact ⟨n + 1, _, _, by omega, rfl, rfl, rfl, BW, ⟨by rw [HS.out, if_neg (by omega)], HQ.out.symm⟩⟩
          · simp only [List.getD_cons_zero, List.getD_cons_succ] at ho2
            by_cases hbig : 256 ≤ r2
            · go_wp2
              go_roundg (gk - 1)
              case measure => omega
              case rel => exact ⟨n + 1, _, _, by omega, rfl, rfl, rfl, BW, ⟨by rw [HS.out, if_pos (by omega)], HQ.out.symm⟩⟩
            · go_wp2
              go_roundg (gk - 1)
              case measure => omega
              case rel => exact ⟨n + 1, _, _, by omega, rfl, rfl, rfl, BW, ⟨by rw [HS.out, if_neg (by omega)], HQ.out.symm⟩⟩
          · simp only [List.getD_cons_zero, List.getD_cons_succ] at ho2
            by_cases hbig : 256 ≤ r2
            · go_wp2
              go_roundg (gk - 1)
              case measure => omega
              case rel => exact ⟨n + 1, _, _, by omega, rfl, rfl, rfl, BW, ⟨by rw [HS.out, if_pos (by omega)], HQ.out.symm⟩⟩
            · go_wp2
              go_roundg (gk - 1)
              case measure => omega
              case rel => exact ⟨n + 1, _, _, by omega, rfl, rfl, rfl, BW, ⟨by rw [HS.out, if_neg (by omega)], HQ.out.symm⟩⟩
        · have HQ : Hid (co i (n + 1 - p) = o) := by show _ = _; rw [HO.out, if_neg hodd]
          clear hj6
          by_cases hbig : 256 ≤ r2
          · go_wp2
            go_roundg (gk - 1)
            case measure => omega
            case rel => exact ⟨n + 1, _, _, by omega, rfl, rfl, rfl, BW, ⟨by rw [HS.out, if_pos (by omega)], HQ.out.symm⟩⟩
          · go_wp2
            go_roundg (gk - 1)
            case measure => omega
            case rel => exact ⟨n + 1, _, _, by omega, rfl, rfl, rfl, BW, ⟨by rw [HS.out, if_neg (by omega)], HQ.out.symm⟩⟩
    · have hn2 : n = m := by omega
      subst hn2
      clear hlt
      have ho := hH.out.2
      rw [show n - p = 7 by omega, HP.out.2] at ho
      have HO : Hid (_ = _) := ho
      clear ho
      go_wp2
      go_ret
      exact ⟨by rw [← HO.out]; rfl, BW⟩
end Go.Proofs.YteiadmhododppaaDoor
