/- The law ShaHex, walked. -/
import Derived.Test.YtpaiopnhipdikaaDoorS13
import Derived.Test.YtpaiopnhipdikaaDoorH5
namespace Go.Proofs.YtpaiopnhipdikaaDoor
open Go.RowKit Go.Sort
set_option maxRecDepth 20000 in
set_option maxHeartbeats 4000000 in
theorem hexes_any (s t : ByteArray) (hs : s.size ≤ 1048576) (ht : t.size ≤ 1048576) (w : World) (hl : Laid w) :
    Calls Tryd.prog 4 #[.string s, .string t] w fun e w' => e = .returned (.bool true) ∧ Below w.heap.size w w' := by
  have KT : Hid (∀ w : World, _) := fun w : World => unhex_any t (by omega) w
  have RT : Hid (∀ w : World, _) := fun w : World => runhex_any t (by omega) w
  have KS : Hid (∀ w : World, _) := fun w : World => hex_any s (by omega) w
  have RS : Hid (∀ w : World, _) := fun w : World => rhex_any s (by omega) w
  obtain ⟨h, hh⟩ : ∃ h, hexOf s = h := ⟨_, rfl⟩
  obtain ⟨a, ha⟩ : ∃ h, unS t = h := ⟨_, rfl⟩
  obtain ⟨e, he⟩ : ∃ h, unE t = h := ⟨_, rfl⟩
  rw [hh] at KS RS
  rw [ha, he] at KT RT
  clear hh ha he
  go_enter Tryd.func4, Tryd.ntmps4
  go_wp2_with fail
  refine (shown_any w hl).mono ?_
  rintro e w1 ⟨rfl, B1⟩
  go_wp2_with fail
  refine (KT.out _).mono ?_
  rintro e w2 ⟨rfl, B2⟩
  go_wp2_with fail
  refine (RT.out _).mono ?_
  rintro e w3 ⟨rfl, B3⟩
  go_wp2_with fail
  refine (KS.out _).mono ?_
  rintro e w4 ⟨rfl, B4⟩
  have B6 := belowStep B1 B1.size (belowStep B2 B2.size (belowStep B3 B3.size B4))
  clear B1 B2 B3 B4 KS KT RT hl
  go_wp2_with fail
  refine (RS.out _).mono ?_
  rintro e w6 ⟨rfl, B7⟩
  have B8 := belowStep B6 B6.size B7
  clear B6 B7 RS
  go_wp2
  go_ret
  exact ⟨rfl, B8⟩
end Go.Proofs.YtpaiopnhipdikaaDoor
