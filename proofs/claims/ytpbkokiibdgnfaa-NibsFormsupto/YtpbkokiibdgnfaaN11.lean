/- NibsForms' walk. -/
import Derived.Test.YtpbkokiibdgnfaaN10
namespace Go.Proofs.Ytpbkokiibdgnfaa
open Go.RowKit Go.Sort

set_option maxRecDepth 20000 in
set_option maxHeartbeats 4000000 in
theorem forms_any (a b : ByteArray) (leaf : Bool) (ha : a.size ≤ 1048576) (hb : b.size ≤ 1048576) (w : World) :
    Calls Try.prog 3 #[.string a, .string b, .bool leaf] w fun e w' => e = .returned (.bool true) ∧ Below w.heap.size w w' := by
  have KS : Hid (∀ w : World, _) := fun w : World => shown_any w
  have KF : Hid (∀ w : World, _) := fun w : World => form_any a leaf (by omega) w
  have KG : Hid (∀ w : World, _) := fun w : World => rform_any a leaf (by omega) w
  have KO : Hid (∀ w : World, _) := fun w : World => of_any a (by omega) w
  have KP : Hid (∀ w : World, _) := fun w : World => rof_any a (by omega) w
  have KC : Hid (∀ w : World, _) := fun w : World => common_any a b (by omega) w
  have KD : Hid (∀ w : World, _) := fun w : World => rcommon_any a b (by omega) w
  obtain ⟨x, hx⟩ : ∃ x, fmS a leaf = x := ⟨_, rfl⟩
  obtain ⟨e, he⟩ : ∃ x, fmE a = x := ⟨_, rfl⟩
  obtain ⟨o, ho⟩ : ∃ x, ofOf a = x := ⟨_, rfl⟩
  obtain ⟨k, hk⟩ : ∃ x, common a b = x := ⟨_, rfl⟩
  rw [hx, he] at KF KG
  rw [ho] at KO KP
  rw [hk] at KC KD
  clear hx he ho hk
  go_enter Try.func3, Try.ntmps3
  go_wp2_with fail
  refine (KS.out _).mono ?_
  rintro _ w1 ⟨rfl, B1⟩
  go_wp2_with fail
  refine (KF.out _).mono ?_
  rintro _ w2 ⟨rfl, B2⟩
  have C2 := belowStep B1 B1.size B2
  clear KS B1 B2
  go_wp2_with fail
  refine (KG.out _).mono ?_
  rintro _ w3 ⟨rfl, B3⟩
  have C3 := belowStep C2 C2.size B3
  clear KF KG C2 B3
  go_wp2_with fail
  refine (KO.out _).mono ?_
  rintro _ w4 ⟨rfl, B4⟩
  have C4 := belowStep C3 C3.size B4
  clear KO C3 B4
  go_wp2_with fail
  refine (KP.out _).mono ?_
  rintro _ w5 ⟨rfl, B5⟩
  have C5 := belowStep C4 C4.size B5
  clear KP C4 B5
  go_wp2_with fail
  refine (KC.out _).mono ?_
  rintro _ w6 ⟨rfl, B6⟩
  have C6 := belowStep C5 C5.size B6
  clear KC C5 B6
  go_wp2_with fail
  refine (KD.out _).mono ?_
  rintro _ w7 ⟨rfl, B7⟩
  have C7 := belowStep C6 C6.size B7
  clear KD C6 B7
  go_wp2
  go_ret
  exact ⟨rfl, C7⟩
end Go.Proofs.Ytpbkokiibdgnfaa
