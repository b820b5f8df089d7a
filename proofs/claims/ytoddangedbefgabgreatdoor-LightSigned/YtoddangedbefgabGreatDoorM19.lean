/- Lemmas: What filledUp does at this translation. -/
import Derived.Test.YtoddangedbefgabGreatDoorM17
import Derived.Test.YtoddangedbefgabGreatDoorM18
set_option maxRecDepth 20000
set_option maxHeartbeats 4000000
namespace Go.Proofs.YtoddangedbefgabGreatDoor
open Go.RowKit Go.Sort
def zn (r : Nat) : Nat := (64 - (r + 9) % 64) % 64
def jhg (r : ByteArray) (n : Nat) : ByteArray := r ++ ⟨#[128]⟩ ++ ⟨(Lib.repeatL [0] (zn r.size)).toArray⟩ ++ lenOf n
theorem jga (m : Nat) : (⟨(Lib.repeatL [0] m).toArray⟩ : ByteArray).size = m := by
 show (Lib.repeatL [0] m).toArray.size = m
 rw [List.size_toArray]
 induction m with
 | zero => rfl
 | succ m ih => simp [Lib.repeatL, ih]; try omega
theorem filledUp_any (r : ByteArray) (n : Nat) (hr : r.size < 64) (hn : n < 9223372036854775808) (w : World) :
  Calls Tryz.prog 129 #[.string r, .int .i64 n] w fun e w' => e = .returned (.string (jhg r n)) ∧ Below w.heap.size w w' := by
 obtain ⟨m, hm, hm64⟩ : ∃ m, zn r.size = m ∧ m < 64 := ⟨_, rfl, by unfold zn; omega⟩
 have hm2 : -(((r.size : Int) + 1 + 8) % 64) % 64 = m := by unfold zn at hm; omega
 have KR : Hid (∀ w : World, _) := fun w : World => Tryz.strings_Repeat ⟨#[0]⟩ m w (by omega) (by show 1 * m ≤ _; omega)
 have KL : Hid (∀ w : World, _) := fun w : World => lengthOf_any n hn w
 obtain ⟨x, hx⟩ : ∃ x, (⟨(Lib.repeatL (⟨#[0]⟩ : ByteArray).data.toList m).toArray⟩ : ByteArray) = x := ⟨_, rfl⟩
 obtain ⟨y, hy⟩ : ∃ y, lenOf n = y := ⟨_, rfl⟩
 rw [hx] at KR
 rw [hy] at KL
 have HF : Hid (jhg r n = r ++ ⟨#[128]⟩ ++ x ++ y) := by
  show _ = _
  rw [jhg, hm, ← hx, ← hy]
 have hxs : x.size = m := by rw [← hx]; exact jga m
 have hys : y.size = 8 := by rw [← hy]; rfl
 clear hm hx hy
 go_enter Tryz.func129, Tryz.ntmps129
 go_wp2_with fail
 refine (KR.out _).mono ?_
 rintro e w1 ⟨rfl, B1⟩
 clear KR
 go_wp2_with fail
 refine (KL.out _).mono ?_
 rintro e w2 ⟨rfl, B2⟩
 have B3 := jaa B1 B1.size B2
 clear KL B1 B2
 go_wp2
 go_ret
 exact ⟨by rw [HF.out]; rfl, B3⟩
end Go.Proofs.YtoddangedbefgabGreatDoor
