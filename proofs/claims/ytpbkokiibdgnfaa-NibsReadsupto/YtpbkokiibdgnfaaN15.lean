/- NibsReads' walk. -/
import Derived.Test.YtpbkokiibdgnfaaN14
import Derived.Test.YtpbkokiibdgnfaaN8
namespace Go.Proofs.Ytpbkokiibdgnfaa
open Go.RowKit Go.Sort

set_option maxRecDepth 20000 in
set_option maxHeartbeats 4000000 in
theorem reads_any (s : ByteArray) (hs : s.size ≤ 1048576) (w : World) :
    Calls Try.prog 4 #[.string s] w fun e w' => e = .returned (.bool true) ∧ Below w.heap.size w w' := by
  have KS : Hid (∀ w : World, _) := fun w : World => shown_any w
  have KF : Hid (∀ w : World, _) := fun w : World => readAll_any s (by omega) w
  have KG : Hid (∀ w : World, _) := fun w : World => rread_any s (by omega) w
  obtain ⟨x, hx⟩ : ∃ x, rdS s = x := ⟨_, rfl⟩
  obtain ⟨y, hy⟩ : ∃ x, rdL s = x := ⟨_, rfl⟩
  obtain ⟨e, he⟩ : ∃ x, rdE s = x := ⟨_, rfl⟩
  rw [hx, hy, he] at KF KG
  clear hx hy he
  go_enter Try.func4, Try.ntmps4
  go_wp2_with fail
  refine (KS.out _).mono ?_
  rintro _ w1 ⟨rfl, B1⟩
  go_wp2_with fail
  refine (KF.out _).mono ?_
  rintro _ w2 ⟨rfl, B2⟩
  have C2 := belowStep B1 B1.size B2
  clear KS B1 B2
  go_wp2_with fail
  refine (KG.out _).mono ?_
  rintro _ w3 ⟨rfl, B3⟩
  have C3 := belowStep C2 C2.size B3
  clear KF KG C2 B3
  go_wp2
  go_ret
  exact ⟨rfl, C3⟩
end Go.Proofs.Ytpbkokiibdgnfaa
