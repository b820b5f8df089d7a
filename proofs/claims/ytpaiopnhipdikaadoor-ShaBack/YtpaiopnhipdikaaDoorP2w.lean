/- The law ShaBack, walked, whatever its texts' lengths. -/
import Derived.Test.YtpaiopnhipdikaaDoorS13
import Derived.Test.YtpaiopnhipdikaaDoorH3
import Derived.Test.YtpaiopnhipdikaaDoorH1w
import Derived.Test.YtpaiopnhipdikaaDoorH2w
namespace Go.Proofs.YtpaiopnhipdikaaDoor
open Go.RowKit Go.Sort
set_option maxRecDepth 20000 in
set_option maxHeartbeats 4000000 in
theorem backw_any (s t : ByteArray) (hs : s.size ≤ 140737488351232) (ht : t.size ≤ 140737488351232) (w : World) (hl : Laid w) :
    Calls Tryd.prog 6 #[.string s, .string t] w fun e w' => e = .returned (.bool true) ∧ Below w.heap.size w w' := by
  have KH : Hid (∀ w : World, _) := fun w : World => hexw_any s (by omega) w
  have KU : Hid (∀ w : World, _) := fun w : World => unhexw_any (hexOf s) (by rw [hex_size]; omega) w
  rw [unS_hex, unE_hex] at KU
  have KT : Hid (∀ w : World, _) := fun w : World => unhexw_any t (by omega) w
  have hz := hex_size s
  obtain ⟨h, hh⟩ : ∃ h, hexOf s = h := ⟨_, rfl⟩
  rw [hh] at KH KU hz
  clear hh
  obtain ⟨n, hn⟩ : ∃ n, s.size = n := ⟨_, rfl⟩
  rw [hn] at hz hs
  have hzi : (h.size : Int) = 2 * (n : Int) := by omega
  have hni : (s.size : Int) = n := by omega
  cases hg : good t with
  | true =>
    have e1 : unE t = 0 := by unfold unE; rw [hg]; rfl
    have KB : Hid (∀ w : World, _) := fun w : World => hexw_any (unS t) (by have := uns_le t; omega) w
    rw [hex_uns t hg] at KB
    rw [e1] at KT
    obtain ⟨u, hu⟩ : ∃ u, unS t = u := ⟨_, rfl⟩
    rw [hu] at KT KB
    clear hu e1 hg
    go_enter Tryd.func6, Tryd.ntmps6
    go_wp2_with fail
    refine (shown_any w hl).mono ?_
    rintro e w1 ⟨rfl, B1⟩
    go_wp2_with fail
    refine (KH.out _).mono ?_
    rintro e w2 ⟨rfl, B2⟩
    go_wp2_with fail
    refine (KU.out _).mono ?_
    rintro e w3 ⟨rfl, B3⟩
    go_wp2_with fail
    refine (KT.out _).mono ?_
    rintro e w4 ⟨rfl, B4⟩
    go_wp2_with fail
    refine (KH.out _).mono ?_
    rintro e w5 ⟨rfl, B5⟩
    have B6 := belowStep B1 B1.size (belowStep B2 B2.size (belowStep B3 B3.size (belowStep B4 B4.size B5)))
    clear B1 B2 B3 B4 B5 KH KU KT hl
    go_wp2_with fail
    refine (KB.out _).mono ?_
    rintro e w6 ⟨rfl, B7⟩
    have B8 := belowStep B6 B6.size B7
    clear B6 B7 KB
    go_wp2
    go_ret
    exact ⟨rfl, B8⟩
  | false =>
    have e1 : unE t = 2 := by unfold unE; rw [hg]; rfl
    rw [e1] at KT
    obtain ⟨u, hu⟩ : ∃ u, unS t = u := ⟨_, rfl⟩
    rw [hu] at KT
    clear hu e1 hg
    go_enter Tryd.func6, Tryd.ntmps6
    go_wp2_with fail
    refine (shown_any w hl).mono ?_
    rintro e w1 ⟨rfl, B1⟩
    go_wp2_with fail
    refine (KH.out _).mono ?_
    rintro e w2 ⟨rfl, B2⟩
    go_wp2_with fail
    refine (KU.out _).mono ?_
    rintro e w3 ⟨rfl, B3⟩
    go_wp2_with fail
    refine (KT.out _).mono ?_
    rintro e w4 ⟨rfl, B4⟩
    go_wp2_with fail
    refine (KH.out _).mono ?_
    rintro e w5 ⟨rfl, B5⟩
    have B6 := belowStep B1 B1.size (belowStep B2 B2.size (belowStep B3 B3.size (belowStep B4 B4.size B5)))
    clear B1 B2 B3 B4 B5 KH KU KT hl
    go_wp2
    go_ret
    exact ⟨rfl, B6⟩
end Go.Proofs.YtpaiopnhipdikaaDoor
