/- The four sums of turned words, at this translation. -/
import Derived.Test.YtmemfdpfbeijeabDoorS1
namespace Go.Proofs.YtmemfdpfbeijeabDoor
open Go.RowKit Go.Sort

def s0 (x : Int) : Int := xr (xr (ror x 7) (ror x 18)) (x / 2 ^ 3)
def s1 (x : Int) : Int := xr (xr (ror x 17) (ror x 19)) (x / 2 ^ 10)
def g0 (x : Int) : Int := xr (xr (ror x 2) (ror x 13)) (ror x 22)
def g1 (x : Int) : Int := xr (xr (ror x 6) (ror x 11)) (ror x 25)

set_option maxHeartbeats 4000000 in
theorem s0_any (x : Int) (w : World) :
    Calls Tryd.prog 39 #[.int .u32 x] w fun e w' => e = .returned (.int .u32 (s0 x)) ∧ Below w.heap.size w w' := by
  have K7 : Hid (∀ w : World, _) := fun w : World => turn_any x 7 (by decide) (by decide) w
  have K18 : Hid (∀ w : World, _) := fun w : World => turn_any x 18 (by decide) (by decide) w
  obtain ⟨r7, h7⟩ : ∃ r, ror x 7 = r := ⟨_, rfl⟩
  rw [h7] at K7
  obtain ⟨r18, h18⟩ : ∃ r, ror x 18 = r := ⟨_, rfl⟩
  rw [h18] at K18
  have HR : Hid (_) := (show ror x 7 = r7 ∧ ror x 18 = r18 from ⟨h7, h18⟩)
  clear h7 h18
  go_enter Tryd.func39, Tryd.ntmps39
  go_wp2_with fail
  refine (K7.out _).mono ?_
  rintro e w1 ⟨rfl, B1⟩
  go_wp2_with fail
  refine (K18.out _).mono ?_
  rintro e w2 ⟨rfl, B2⟩
  have B2 := belowStep B1 B1.size B2
  go_wp2
  go_ret
  refine ⟨?_, B2⟩
  rw [s0, HR.out.1, HR.out.2]
  rfl

set_option maxHeartbeats 4000000 in
theorem s1_any (x : Int) (w : World) :
    Calls Tryd.prog 40 #[.int .u32 x] w fun e w' => e = .returned (.int .u32 (s1 x)) ∧ Below w.heap.size w w' := by
  have K17 : Hid (∀ w : World, _) := fun w : World => turn_any x 17 (by decide) (by decide) w
  have K19 : Hid (∀ w : World, _) := fun w : World => turn_any x 19 (by decide) (by decide) w
  obtain ⟨r17, h17⟩ : ∃ r, ror x 17 = r := ⟨_, rfl⟩
  rw [h17] at K17
  obtain ⟨r19, h19⟩ : ∃ r, ror x 19 = r := ⟨_, rfl⟩
  rw [h19] at K19
  have HR : Hid (_) := (show ror x 17 = r17 ∧ ror x 19 = r19 from ⟨h17, h19⟩)
  clear h17 h19
  go_enter Tryd.func40, Tryd.ntmps40
  go_wp2_with fail
  refine (K17.out _).mono ?_
  rintro e w1 ⟨rfl, B1⟩
  go_wp2_with fail
  refine (K19.out _).mono ?_
  rintro e w2 ⟨rfl, B2⟩
  have B2 := belowStep B1 B1.size B2
  go_wp2
  go_ret
  refine ⟨?_, B2⟩
  rw [s1, HR.out.1, HR.out.2]
  rfl

set_option maxHeartbeats 4000000 in
theorem g0_any (x : Int) (w : World) :
    Calls Tryd.prog 38 #[.int .u32 x] w fun e w' => e = .returned (.int .u32 (g0 x)) ∧ Below w.heap.size w w' := by
  have K2 : Hid (∀ w : World, _) := fun w : World => turn_any x 2 (by decide) (by decide) w
  have K13 : Hid (∀ w : World, _) := fun w : World => turn_any x 13 (by decide) (by decide) w
  have K22 : Hid (∀ w : World, _) := fun w : World => turn_any x 22 (by decide) (by decide) w
  obtain ⟨r2, h2⟩ : ∃ r, ror x 2 = r := ⟨_, rfl⟩
  rw [h2] at K2
  obtain ⟨r13, h13⟩ : ∃ r, ror x 13 = r := ⟨_, rfl⟩
  rw [h13] at K13
  obtain ⟨r22, h22⟩ : ∃ r, ror x 22 = r := ⟨_, rfl⟩
  rw [h22] at K22
  have HR : Hid (_) := (show ror x 2 = r2 ∧ ror x 13 = r13 ∧ ror x 22 = r22 from ⟨h2, h13, h22⟩)
  clear h2 h13 h22
  go_enter Tryd.func38, Tryd.ntmps38
  go_wp2_with fail
  refine (K2.out _).mono ?_
  rintro e w1 ⟨rfl, B1⟩
  go_wp2_with fail
  refine (K13.out _).mono ?_
  rintro e w2 ⟨rfl, B2⟩
  have B2 := belowStep B1 B1.size B2
  go_wp2_with fail
  refine (K22.out _).mono ?_
  rintro e w3 ⟨rfl, B3⟩
  have B3 := belowStep B2 B2.size B3
  go_wp2
  go_ret
  refine ⟨?_, B3⟩
  rw [g0, HR.out.1, HR.out.2.1, HR.out.2.2]
  rfl

set_option maxHeartbeats 4000000 in
theorem g1_any (x : Int) (w : World) :
    Calls Tryd.prog 37 #[.int .u32 x] w fun e w' => e = .returned (.int .u32 (g1 x)) ∧ Below w.heap.size w w' := by
  have K6 : Hid (∀ w : World, _) := fun w : World => turn_any x 6 (by decide) (by decide) w
  have K11 : Hid (∀ w : World, _) := fun w : World => turn_any x 11 (by decide) (by decide) w
  have K25 : Hid (∀ w : World, _) := fun w : World => turn_any x 25 (by decide) (by decide) w
  obtain ⟨r6, h6⟩ : ∃ r, ror x 6 = r := ⟨_, rfl⟩
  rw [h6] at K6
  obtain ⟨r11, h11⟩ : ∃ r, ror x 11 = r := ⟨_, rfl⟩
  rw [h11] at K11
  obtain ⟨r25, h25⟩ : ∃ r, ror x 25 = r := ⟨_, rfl⟩
  rw [h25] at K25
  have HR : Hid (_) := (show ror x 6 = r6 ∧ ror x 11 = r11 ∧ ror x 25 = r25 from ⟨h6, h11, h25⟩)
  clear h6 h11 h25
  go_enter Tryd.func37, Tryd.ntmps37
  go_wp2_with fail
  refine (K6.out _).mono ?_
  rintro e w1 ⟨rfl, B1⟩
  go_wp2_with fail
  refine (K11.out _).mono ?_
  rintro e w2 ⟨rfl, B2⟩
  have B2 := belowStep B1 B1.size B2
  go_wp2_with fail
  refine (K25.out _).mono ?_
  rintro e w3 ⟨rfl, B3⟩
  have B3 := belowStep B2 B2.size B3
  go_wp2
  go_ret
  refine ⟨?_, B3⟩
  rw [g1, HR.out.1, HR.out.2.1, HR.out.2.2]
  rfl
end Go.Proofs.YtmemfdpfbeijeabDoor
