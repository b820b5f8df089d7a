/- The law ShaJoins, walked. -/
import Derived.Test.YtpaiopnhipdikaaDoorS13
import Derived.Test.YtpaiopnhipdikaaDoorH3
namespace Go.Proofs.YtpaiopnhipdikaaDoor
open Go.RowKit Go.Sort

theorem bt_append (s t : ByteArray) (j : Nat) (hj : j < s.size + t.size) : bt (s ++ t) j = if j < s.size then bt s j else bt t (j - s.size) := by
  unfold bt
  rw [ByteArray.data_append]
  have e : s.data.size = s.size := rfl
  have e2 : t.data.size = t.size := rfl
  by_cases h : j < s.size
  · rw [if_pos h]
    simp [Array.getD, h, e, e2, hj]
  · rw [if_neg h]
    simp [Array.getD, h, e, e2, hj, Array.getElem_append, show j - s.size < t.size by omega]
theorem eq_of_bt (a b : ByteArray) (hz : a.size = b.size) (h : ∀ j, j < a.size → bt a j = bt b j) : a = b := by
  rw [← by8_self a, ← by8_self b, ← hz, by8_ext a.size _ _ h]
theorem hex_append (s t : ByteArray) : hexOf (s ++ t) = hexOf s ++ hexOf t := by
  refine eq_of_bt _ _ (by rw [hex_size, ByteArray.size_append, ByteArray.size_append, hex_size, hex_size]; omega) fun j hj => ?_
  rw [hex_size, ByteArray.size_append] at hj
  rw [bt_append _ _ _ (by rw [hex_size, hex_size]; omega), bt_hex _ _ (by rw [ByteArray.size_append]; omega), hex_size]
  by_cases h : j < 2 * s.size
  · rw [if_pos h, bt_hex s j h]
    unfold hexAt
    rw [bt_append s t (j / 2) (by omega), if_pos (show j / 2 < s.size by omega)]
  · rw [if_neg h, bt_hex t _ (by omega)]
    unfold hexAt
    rw [bt_append s t (j / 2) (by omega), if_neg (show ¬ j / 2 < s.size by omega), show (j - 2 * s.size) % 2 = j % 2 by omega, show (j - 2 * s.size) / 2 = j / 2 - s.size by omega]
theorem good_append (s t : ByteArray) (hs : good s = true) (ht : good t = true) : good (s ++ t) = true ∧ unS (s ++ t) = unS s ++ unS t := by
  obtain ⟨s1, s2⟩ := good_spec s hs
  obtain ⟨t1, t2⟩ := good_spec t ht
  have hg : good (s ++ t) = true := by
    refine good_of _ (by rw [ByteArray.size_append]; omega) fun i hi => ?_
    rw [ByteArray.size_append] at hi
    rw [bt_append s t i hi]
    by_cases h : i < s.size
    · rw [if_pos h]; exact s2 i h
    · rw [if_neg h]; exact t2 _ (by omega)
  refine ⟨hg, eq_of_bt _ _ (by rw [uns_size _ hg, ByteArray.size_append, ByteArray.size_append, uns_size s hs, uns_size t ht]; omega) fun j hj => ?_⟩
  rw [uns_size _ hg, ByteArray.size_append] at hj
  rw [bt_uns _ hg j (by rw [ByteArray.size_append]; omega), bt_append _ _ _ (by rw [uns_size s hs, uns_size t ht]; omega), uns_size s hs]
  unfold unAt
  rw [bt_append s t (2 * j) (by omega), bt_append s t (2 * j + 1) (by omega)]
  by_cases h : j < s.size / 2
  · rw [if_pos h, if_pos (by omega), if_pos (by omega), bt_uns s hs j h]
    rfl
  · rw [if_neg h, if_neg (by omega), if_neg (by omega), bt_uns t ht _ (by omega)]
    unfold unAt
    rw [show 2 * (j - s.size / 2) = 2 * j - s.size by omega, show 2 * j - s.size + 1 = 2 * j + 1 - s.size by omega]

set_option maxRecDepth 20000 in
set_option maxHeartbeats 4000000 in
theorem joins_any (s t : ByteArray) (hs : s.size ≤ 1048576) (ht : t.size ≤ 1048576) (w : World) (hl : Laid w) :
    Calls Tryd.prog 7 #[.string s, .string t] w fun e w' => e = .returned (.bool true) ∧ Below w.heap.size w w' := by
  have hzs : (s ++ t).size ≤ 2097152 := by rw [ByteArray.size_append]; omega
  have KS : Hid (∀ w : World, _) := fun w : World => unhex_any s (by omega) w
  have KT : Hid (∀ w : World, _) := fun w : World => unhex_any t (by omega) w
  have KU : Hid (∀ w : World, _) := fun w : World => unhex_any (s ++ t) (by omega) w
  have JS : Hid (∀ w : World, _) := fun w : World => hex_any s (by omega) w
  have JT : Hid (∀ w : World, _) := fun w : World => hex_any t (by omega) w
  have JU : Hid (∀ w : World, _) := fun w : World => hex_any (s ++ t) (by omega) w
  rw [hex_append] at JU
  have z1 : (hexOf s).size ≤ 2097152 := by rw [hex_size]; omega
  have z2 : (hexOf t).size ≤ 2097152 := by rw [hex_size]; omega
  obtain ⟨h1, e1⟩ : ∃ h, hexOf s = h := ⟨_, rfl⟩
  obtain ⟨h2, e2⟩ : ∃ h, hexOf t = h := ⟨_, rfl⟩
  rw [e1] at JS JU z1
  rw [e2] at JT JU z2
  clear e1 e2
  have y1 : (unS s).size ≤ 1048576 := by have := uns_le s; omega
  have y2 : (unS t).size ≤ 1048576 := by have := uns_le t; omega
  have HC : Hid ((unE s = 0 ∧ unE t = 0 ∧ unE (s ++ t) = 0 ∧ unS (s ++ t) = unS s ++ unS t) ∨ unE s = 2 ∨ (unE s = 0 ∧ unE t = 2)) := by
    cases g1 : good s with
    | false => exact .inr (.inl (by unfold unE; rw [g1]; rfl))
    | true =>
      cases g2 : good t with
      | false => exact .inr (.inr ⟨by unfold unE; rw [g1]; rfl, by unfold unE; rw [g2]; rfl⟩)
      | true =>
        obtain ⟨g3, g4⟩ := good_append s t g1 g2
        exact .inl ⟨by unfold unE; rw [g1]; rfl, by unfold unE; rw [g2]; rfl, by unfold unE; rw [g3]; rfl, g4⟩
  obtain ⟨a, ea⟩ : ∃ a, unS s = a := ⟨_, rfl⟩
  obtain ⟨b, eb⟩ : ∃ a, unS t = a := ⟨_, rfl⟩
  obtain ⟨c, ec⟩ : ∃ a, unS (s ++ t) = a := ⟨_, rfl⟩
  obtain ⟨e, ee⟩ : ∃ a, unE s = a := ⟨_, rfl⟩
  obtain ⟨f, ef⟩ : ∃ a, unE t = a := ⟨_, rfl⟩
  obtain ⟨g, eg⟩ : ∃ a, unE (s ++ t) = a := ⟨_, rfl⟩
  rw [ea, ee] at KS
  rw [eb, ef] at KT
  rw [ec, eg] at KU
  rw [ea, eb, ec, ee, ef, eg] at HC
  rw [ea] at y1
  rw [eb] at y2
  clear ea eb ec ee ef eg
  go_enter Tryd.func7, Tryd.ntmps7
  go_wp2_with fail
  refine (shown_any w hl).mono ?_
  rintro e w1 ⟨rfl, B1⟩
  go_wp2_with fail
  refine (KS.out _).mono ?_
  rintro e w2 ⟨rfl, B2⟩
  go_wp2_with fail
  refine (KT.out _).mono ?_
  rintro e w3 ⟨rfl, B3⟩
  go_wp2_with fail
  refine (KU.out _).mono ?_
  rintro e w4 ⟨rfl, B4⟩
  go_wp2_with fail
  refine (JU.out _).mono ?_
  rintro e w5 ⟨rfl, B5⟩
  have B6 := belowStep B1 B1.size (belowStep B2 B2.size (belowStep B3 B3.size (belowStep B4 B4.size B5)))
  clear B1 B2 B3 B4 B5 KS KT KU JU hl
  go_wp2_with fail
  refine (JS.out _).mono ?_
  rintro e w6 ⟨rfl, B7⟩
  go_wp2_with fail
  refine (JT.out _).mono ?_
  rintro e w7 ⟨rfl, B8⟩
  have B9 := belowStep B6 B6.size (belowStep B7 B7.size B8)
  clear B6 B7 B8 JS JT
  rcases HC.out with ⟨rfl, rfl, rfl, rfl⟩ | rfl | ⟨rfl, rfl⟩
  · go_wp2
    go_ret
    exact ⟨rfl, B9⟩
  · go_wp2
    go_ret
    exact ⟨rfl, B9⟩
  · go_wp2
    go_ret
    exact ⟨rfl, B9⟩
end Go.Proofs.YtpaiopnhipdikaaDoor
