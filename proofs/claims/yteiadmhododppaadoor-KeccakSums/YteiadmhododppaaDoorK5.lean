/- What laneOf does at this translation: for all texts of at most eight bytes. -/
import Derived.Test.YteiadmhododppaaDoorK4
namespace Go.Proofs.YteiadmhododppaaDoor
open Go.RowKit Go.Sort

/-- A text's byte. -/
def bt (s : ByteArray) (i : Nat) : Int := ((s.data.getD i 0).toNat : Int)
theorem bt_get (s : ByteArray) (d : Nat) (h : d < s.size) : ((s[d]'h).toNat : Int) = bt s d := by
  have : s.data.getD d 0 = s[d]'h := by
    simp [Array.getD, h]
    rfl
  unfold bt
  rw [this]
theorem bt_bd (s : ByteArray) (d : Nat) : 0 ≤ bt s d ∧ bt s d < 256 := by
  unfold bt
  have := (s.data.getD d 0).toNat_lt
  omega

/-- The number of the first k bytes, the lowest first, as the program joins it. -/
def laneN (t : ByteArray) : Nat → Int
  | 0 => 0
  | k + 1 => bits .or .u64 (laneN t k) (IntKind.u64.wrap (bt t k * 2 ^ (8 * k)))

set_option maxRecDepth 20000 in
set_option maxHeartbeats 4000000 in
theorem laneOf_any (t : ByteArray) (h8 : t.size ≤ 8) (w : World) :
    Calls Tryd.prog 14 #[.string t] w fun e w' =>
      e = .returned (.int .u64 (laneN t t.size)) ∧ Below w.heap.size w w' := by
  have km : IntKind.u64.max = 18446744073709551615 := by decide
  have ks : IntKind.u64.signed = false := rfl
  obtain ⟨m, hm⟩ : ∃ m, t.size = m := ⟨_, rfl⟩
  rw [hm] at h8
  go_enter Tryd.func14, Tryd.ntmps14
  go_wp2
  go_loopg [3, 7] m (fun gk l i wr => ∃ k : Nat, ∃ v : Int, k + gk = m ∧ l = .int .u64 v ∧ i = .int .i64 k ∧ Below w.heap.size w wr ∧ Hid (v = laneN t k))
  case atStart => exact ⟨0, 0, by omega, rfl, rfl, Below.refl _ _, (rfl : (0 : Int) = _)⟩
  case round =>
    obtain ⟨k, v, hk, rfl, rfl, BW, hH⟩ := hrel
    by_cases hlt : k < m
    · have hks : k < t.size := by omega
      have l0 : (k : Int) < m := by omega
      have l0' : (k : Int) < t.size := by omega
      have z0 : (0 : Int) ≤ k := by omega
      obtain ⟨y, hy⟩ : ∃ y, bt t k = y := ⟨_, rfl⟩
      have hyb := bt_bd t k
      rw [hy] at hyb
      have hu1 : IntKind.u64.wrap (((t[k]'hks).toNat : Nat) : Int) = y := by rw [bt_get, hy, IntKind.wrap_u64]; omega
      obtain ⟨e, he⟩ : ∃ e : Nat, 8 * k = e := ⟨_, rfl⟩
      have e64 : (e : Int) ≤ 64 := by omega
      have e0 : (0 : Int) ≤ e := by omega
      have hm8 : IntKind.i64.wrap (8 * (k : Int)) = e := by rw [IntKind.wrap_i64]; omega
      have HV : Hid (bt t k = y ∧ 8 * k = e) := ⟨hy, he⟩
      clear hy he
      go_wp2
      go_roundg (gk - 1)
      case measure => omega
      case rel =>
        refine ⟨k + 1, _, by omega, rfl, rfl, BW, ?_⟩
        show _ = laneN t (k + 1)
        rw [laneN, HV.out.1, HV.out.2, ← hH.out]
    · have hk2 : k = m := by omega
      subst hk2
      clear hlt
      go_wp2
      go_ret
      exact ⟨by rw [hm, ← hH.out]; rfl, BW⟩
end Go.Proofs.YteiadmhododppaaDoor
