/- Lemmas: The document's answers: how many bytes two texts have alike; whether a text is a path. The halves ahead of a path. -/
import Derived.Test.YtbmapdkcccdmfaaDoorM1
import Derived.Test.YtbmapdkcccdmfaaDoorM18
import Derived.Test.YtbmapdkcccdmfaaDoorRows
import Derived.Deep.MidRow
namespace Go.Proofs.YtbmapdkcccdmfaaDoor
open Go.RowKit Go.Sort

set_option maxRecDepth 20000 in
set_option maxHeartbeats 4000000 in
theorem rcommon_any (a b : ByteArray) (hb : b.size < 1000000000000000000) (w : World) :
  Calls Tryd.prog 78 #[.string a, .string b] w fun e w' => e = .returned (.int .i64 (common a b)) ∧ Below w.heap.size w w' := by
 go_enter Tryd.func78, Tryd.ntmps78
 go_wp2
 go_loopg [5] a.size (fun gk i wr => ∃ k : Nat, k + gk = a.size ∧ i = .int .i64 k ∧ Below w.heap.size w wr ∧ Hid (k ≤ b.size ∧ ∀ j, j < k → n_bt a j = n_bt b j))
 case atStart => exact ⟨0, by omega, rfl, Below.refl _ _, by omega, fun j hj => absurd hj (by omega)⟩
 case round =>
  obtain ⟨k, hk, rfl, BW, HC⟩ := hrel
  by_cases h1 : k < a.size
  ·have l1 : (k : Int) < a.size := by omega
   by_cases h2 : k < b.size
   ·have l2 : (k : Int) < b.size := by omega
    have g1 := n_bt_get a k h1
    have g2 := n_bt_get b k h2
    obtain ⟨x, hx⟩ : ∃ x, n_bt a k = x := ⟨_, rfl⟩
    obtain ⟨y, hy⟩ : ∃ y, n_bt b k = y := ⟨_, rfl⟩
    rw [hx] at g1
    rw [hy] at g2
    have HX : Hid (n_bt a k = x ∧ n_bt b k = y) := ⟨hx, hy⟩
    clear hx hy
    by_cases hxy : x = y
    ·subst hxy
     go_wp2
     refine wp_region_quiet_below (by kernel_rfl) (by kernel_rfl) ?_
     repeat (quiet_step (fail))
     refine wpQuiet_nil ?_
     intro w8 hw8
     have B8 : Below w.heap.size w w8 := by
      obtain ⟨p, rfl⟩ := hw8
      exact belowStep BW BW.size (below_regrown _ _ _)
     clear hw8 BW
     go_wp2
     go_roundg (gk - 1)
     case measure => omega
     case rel =>
      refine ⟨k + 1, by omega, by congr 1, B8, ⟨by omega, fun j hj => ?_⟩⟩
      by_cases e : j = k
      ·rw [e, HX.out.1, HX.out.2]
      ·exact HC.out.2 j (by omega)
    ·go_wp2
     refine wp_region_quiet_below (by kernel_rfl) (by kernel_rfl) ?_
     repeat (quiet_step (fail))
     refine wpQuiet_nil ?_
     intro w8 hw8
     have B8 : Below w.heap.size w w8 := by
      obtain ⟨p, rfl⟩ := hw8
      exact belowStep BW BW.size (below_regrown _ _ _)
     clear hw8 BW
     go_wp2
     go_ret
     exact ⟨by rw [← common_is a b k (by omega) HC.out.1 HC.out.2 (fun h => hxy (by rw [← HX.out.1, ← HX.out.2]; exact h.2.2))]; rfl, B8⟩
   ·have l2 : decide (k < b.size) = false := decide_eq_false h2
    have l3 : ¬ (k : Int) < b.size := by omega
    have HN : Hid (¬ k < b.size) := h2
    clear h2
    go_wp2
    refine wp_region_quiet_below (by kernel_rfl) (by kernel_rfl) ?_
    repeat (quiet_step (fail))
    refine wpQuiet_nil ?_
    intro w8 hw8
    have B8 : Below w.heap.size w w8 := by
     obtain ⟨p, rfl⟩ := hw8
     exact belowStep BW BW.size (below_regrown _ _ _)
    clear hw8 BW
    go_wp2
    go_ret
    exact ⟨by rw [← common_is a b k (by omega) HC.out.1 HC.out.2 (fun h => HN.out h.2.1)]; rfl, B8⟩
  ·have l1 : decide (k < a.size) = false := decide_eq_false h1
   have l2 : ¬ (k : Int) < a.size := by omega
   have HN : Hid (¬ k < a.size) := h1
   clear h1
   go_wp2
   refine wp_region_quiet_below (by kernel_rfl) (by kernel_rfl) ?_
   repeat (quiet_step (fail))
   refine wpQuiet_nil ?_
   intro w8 hw8
   have B8 : Below w.heap.size w w8 := by
    obtain ⟨p, rfl⟩ := hw8
    exact belowStep BW BW.size (below_regrown _ _ _)
   clear hw8 BW
   go_wp2
   go_ret
   exact ⟨by rw [← common_is a b k (by omega) HC.out.1 HC.out.2 (fun h => HN.out h.1)]; rfl, B8⟩

def isP (s : ByteArray) : Bool := (List.range s.size).all fun j => decide (n_bt s j ≤ 15)
theorem isP_iff (s : ByteArray) : isP s = true ↔ ∀ j, j < s.size → n_bt s j ≤ 15 := by
 unfold isP
 simp [List.all_eq_true, List.mem_range]
theorem isP_not (s : ByteArray) (k : Nat) (hk : k < s.size) (h : ¬ n_bt s k ≤ 15) : isP s = false := by
 cases e : isP s with
 | false => rfl
 | true => exact absurd ((isP_iff s).1 e k hk) h

set_option maxRecDepth 20000 in
set_option maxHeartbeats 1000000 in
theorem risPath_any (s : ByteArray) (hs : s.size < 1000000000000000000) (w : World) :
  Calls Tryd.prog 99 #[.string s] w fun e w' => e = .returned (.bool (isP s)) ∧ Below w.heap.size w w' := by
 go_enter Tryd.func99, Tryd.ntmps99
 go_wp2
 go_loopg [3] s.size (fun gk i wr => ∃ k : Nat, k + gk = s.size ∧ i = .int .i64 k ∧ Below w.heap.size w wr ∧ Hid (∀ j, j < k → n_bt s j ≤ 15))
 case atStart => exact ⟨0, by omega, rfl, Below.refl _ _, fun j hj => absurd hj (by omega)⟩
 case round =>
  obtain ⟨k, hk, rfl, BW, HC⟩ := hrel
  by_cases h1 : k < s.size
  ·have l1 : (k : Int) < s.size := by omega
   have g1 := n_bt_get s k h1
   obtain ⟨x, hx⟩ : ∃ x, n_bt s k = x := ⟨_, rfl⟩
   rw [hx] at g1
   have HX : Hid (n_bt s k = x) := hx
   clear hx
   by_cases hxy : 15 < x
   ·have HG := isP_not s k h1 (by rw [HX.out]; omega)
    go_wp2
    go_ret
    exact ⟨by rw [HG]; rfl, BW⟩
   ·go_wp2
    go_roundg (gk - 1)
    case measure => omega
    case rel =>
     refine ⟨k + 1, by omega, by congr 1, BW, fun j hj => ?_⟩
     by_cases e : j = k
     ·rw [e, HX.out]; omega
     ·exact HC.out j (by omega)
  ·have l1 : ¬ (k : Int) < s.size := by omega
   have HG := (isP_iff s).2 (fun j hj => HC.out j (by omega))
   go_wp2
   go_ret
   exact ⟨rfl, BW⟩

def hdOf (n : Nat) : Bool → ByteArray
 | true => if n % 2 = 0 then ⟨#[2, 0]⟩ else ⟨#[3]⟩
 | false => if n % 2 = 0 then ⟨#[0, 0]⟩ else ⟨#[1]⟩


end Go.Proofs.YtbmapdkcccdmfaaDoor
