/- What 'shown' answers; and what paths of two keys have to do with each other. -/
import Derived.Test.YtpbkokiibdgnfaaN7
import Derived.BigQuiet
namespace Go.Proofs.Ytpbkokiibdgnfaa
open Go.RowKit Go.Sort

set_option maxRecDepth 20000 in
set_option maxHeartbeats 1000000 in
theorem shown_any (w : World) : Calls Try.prog 7 #[] w fun e w' => e = .returned (.bool true) ∧ Below w.heap.size w w' := by
  have KF : Hid (∀ w : World, Calls Try.prog 8 #[.string ⟨#[1, 2, 3]⟩, .bool false] w fun e w' => e = .returned (.tuple #[.string ⟨#[17, 35]⟩, .int .i64 0]) ∧ Below w.heap.size w w') := fun w => by
    have := form_any ⟨#[1, 2, 3]⟩ false (by decide) w
    rwa [show fmS ⟨#[1, 2, 3]⟩ false = ⟨#[17, 35]⟩ by decide +kernel, show fmE ⟨#[1, 2, 3]⟩ = 0 by decide +kernel] at this
  have KO : Hid (∀ w : World, Calls Try.prog 10 #[.string ⟨#[18]⟩] w fun e w' => e = .returned (.string ⟨#[1, 2]⟩) ∧ Below w.heap.size w w') := fun w => by
    have := of_any ⟨#[18]⟩ (by decide) w
    rwa [show ofOf ⟨#[18]⟩ = ⟨#[1, 2]⟩ by decide +kernel] at this
  go_enter Try.func7, Try.ntmps7
  go_wp2_with fail
  refine (KF.out _).mono ?_
  rintro e w1 ⟨rfl, B1⟩
  go_wp2_with fail
  refine (KO.out _).mono ?_
  rintro e w2 ⟨rfl, B2⟩
  have B3 := belowStep B1 B1.size B2
  clear B1 B2 KF KO
  go_wp2
  go_ret
  exact ⟨rfl, B3⟩

theorem of_size (s : ByteArray) : (ofOf s).size = 2 * s.size := by8_size _ _
theorem bt_of (s : ByteArray) (j : Nat) (hj : j < 2 * s.size) : bt (ofOf s) j = half s j := bt_by8 _ _ (fun j => by have := half_bd s j; omega) j hj
theorem of_app (a b : ByteArray) : ofOf (a ++ b) = ofOf a ++ ofOf b := by
  refine ext_bt _ _ (by rw [ByteArray.size_append, of_size, of_size, of_size, ByteArray.size_append]; omega) fun j hj => ?_
  rw [of_size, ByteArray.size_append] at hj
  rw [bt_of _ _ (by rw [ByteArray.size_append]; omega), bt_app, of_size]
  by_cases h : j < 2 * a.size
  · rw [if_pos h, bt_of _ _ h]
    unfold half
    rw [bt_app, if_pos (show j / 2 < a.size by omega)]
  · rw [if_neg h, bt_of _ _ (by omega)]
    unfold half
    rw [bt_app, if_neg (show ¬ j / 2 < a.size by omega), show (j - 2 * a.size) / 2 = j / 2 - a.size by omega, show (j - 2 * a.size) % 2 = j % 2 by omega]
theorem of_common (a b : ByteArray) : 2 * common a b ≤ common (ofOf a) (ofOf b) := by
  obtain ⟨h1, h2, h3, _⟩ := common_spec a b
  obtain ⟨g1, g2, g3, g4⟩ := common_spec (ofOf a) (ofOf b)
  rw [of_size] at g1 g4
  rw [of_size] at g2 g4
  refine Nat.le_of_not_lt fun hlt => g4 ⟨by omega, by omega, ?_⟩
  rw [bt_of _ _ (by omega), bt_of _ _ (by omega)]
  unfold half
  rw [h3 _ (by omega)]
theorem pre_same (a b : ByteArray) (k : Nat) (ha : k ≤ a.size) (hb : k ≤ b.size) (h : ∀ j, j < k → bt a j = bt b j) : a.extract 0 k = b.extract 0 k := by
  have e : ∀ (s : ByteArray), k ≤ s.size → ∀ j, j < k → bt (s.extract 0 k) j = bt s j := fun s hs j hj => by
    rw [← bt_get (s.extract 0 k) j (by rw [ByteArray.size_extract]; omega), ← bt_get s j (by omega), ByteArray.getElem_extract]
    simp
  refine ext_bt _ _ (by rw [ByteArray.size_extract, ByteArray.size_extract]; omega) fun j hj => ?_
  rw [ByteArray.size_extract] at hj
  rw [e a ha j (by omega), e b hb j (by omega), h j (by omega)]

set_option maxRecDepth 20000 in
set_option maxHeartbeats 4000000 in
theorem joins_any (a b : ByteArray) (ha : a.size ≤ 1048576) (hb : b.size ≤ 1048576) (w : World) :
    Calls Try.prog 6 #[.string a, .string b] w fun e w' => e = .returned (.bool true) ∧ Below w.heap.size w w' := by
  obtain ⟨k, hk⟩ : ∃ k, common a b = k := ⟨_, rfl⟩
  obtain ⟨k1, k2, k3, k4⟩ := common_spec a b
  rw [hk] at k1 k2 k3 k4
  have hpre := pre_same a b k k1 k2 k3
  have KC : Hid (∀ w : World, Calls Try.prog 12 #[.string a, .string b] w fun e w' => e = .returned (.int .i64 k) ∧ Below w.heap.size w w') := fun w => by
    have := common_any a b (by omega) w
    rwa [hk] at this
  have KD : Hid (∀ w : World, Calls Try.prog 12 #[.string b, .string a] w fun e w' => e = .returned (.int .i64 k) ∧ Below w.heap.size w w') := fun w => by
    have := common_any b a (by omega) w
    rwa [common_swap, hk] at this
  obtain ⟨q, hq⟩ : ∃ q, common (ofOf a) (ofOf b) = q := ⟨_, rfl⟩
  have hq2 : 2 * k ≤ q := by rw [← hq, ← hk]; exact of_common a b
  have hz1 := of_size a
  have hz2 := of_size b
  have happ := of_app a b
  have KA : Hid (∀ w : World, _) := fun w : World => of_any a (by omega) w
  have KB : Hid (∀ w : World, _) := fun w : World => of_any b (by omega) w
  have KE : Hid (∀ w : World, _) := fun w : World => of_any (a ++ b) (by rw [ByteArray.size_append]; omega) w
  obtain ⟨pa, hpa⟩ : ∃ p, ofOf a = p := ⟨_, rfl⟩
  obtain ⟨pb, hpb⟩ : ∃ p, ofOf b = p := ⟨_, rfl⟩
  rw [happ] at KE
  rw [hpa] at KA KE hq hz1
  rw [hpb] at KB KE hq hz2
  have KQ : Hid (∀ w : World, Calls Try.prog 12 #[.string pa, .string pb] w fun e w' => e = .returned (.int .i64 q) ∧ Below w.heap.size w w') := fun w => by
    have := common_any pa pb (by omega) w
    rwa [hq] at this
  have hqm := (common_spec pa pb).1
  rw [hq] at hqm
  clear hq hpa hpb happ hk k3
  obtain ⟨pr, hpr⟩ : ∃ p, b.extract 0 k = p := ⟨_, rfl⟩
  rw [hpr] at hpre
  have l0 : decide ((k : Int) < 0) = false := decide_eq_false (by omega)
  have l1 : ¬ (k : Int) < 0 := by omega
  have l2 : decide (a.size < k) = false := decide_eq_false (by omega)
  have l3 : decide (b.size < k) = false := decide_eq_false (by omega)
  have l7 : 2 * (k : Int) ≤ q := by omega
  have m2 : (k : Int) ≤ a.size := by omega
  have m3 : (k : Int) ≤ b.size := by omega
  have KS : Hid (∀ w : World, _) := fun w : World => shown_any w
  go_enter Try.func6, Try.ntmps6
  go_wp2_with fail
  refine (KS.out _).mono ?_
  rintro e w1 ⟨rfl, B1⟩
  clear KS
  go_wp2_with fail
  refine (KC.out _).mono ?_
  rintro e w2 ⟨rfl, B2⟩
  have BW := belowStep B1 B1.size B2
  clear KC B1 B2
  go_wp2_with fail
  by_cases h1 : k < a.size
  · have l5 : (k : Int) < a.size := by omega
    by_cases h2 : k < b.size
    · have l6 : (k : Int) < b.size := by omega
      have g1 := bt_get a k h1
      have g2 := bt_get b k h2
      obtain ⟨x, hx⟩ : ∃ x, bt a k = x := ⟨_, rfl⟩
      obtain ⟨y, hy⟩ : ∃ y, bt b k = y := ⟨_, rfl⟩
      have hxy : ¬ x = y := fun e => k4 ⟨h1, h2, by rw [hx, hy, e]⟩
      have hbe : (x == y) = false := by simpa using hxy
      rw [hx] at g1
      rw [hy] at g2
      clear hx hy k4
      refine wp_region_quiet_below (by kernel_rfl) (by kernel_rfl) ?_
      repeat (go_big_quiet_step (fail))
      refine wpQuiet_nil ?_
      intro w8 hw8
      have B8 : Below w.heap.size w w8 := by
        obtain ⟨p, rfl⟩ := hw8
        exact belowStep BW BW.size (below_regrown _ _ _)
      clear hw8 BW
      go_wp2_with fail
      refine (KE.out _).mono ?_
      rintro e v0 ⟨rfl, C0⟩
      have D0 := belowStep B8 B8.size C0
      clear C0 B8
      go_wp2_with fail
      refine (KA.out _).mono ?_
      rintro e v1 ⟨rfl, C1⟩
      have D1 := belowStep D0 D0.size C1
      clear C1 D0
      go_wp2_with fail
      refine (KB.out _).mono ?_
      rintro e v2 ⟨rfl, C2⟩
      have D2 := belowStep D1 D1.size C2
      clear C2 D1
      go_wp2_with fail
      refine (KD.out _).mono ?_
      rintro e v3 ⟨rfl, C3⟩
      have D3 := belowStep D2 D2.size C3
      clear C3 D2
      go_wp2_with fail
      refine (KA.out _).mono ?_
      rintro e v4 ⟨rfl, C4⟩
      have D4 := belowStep D3 D3.size C4
      clear C4 D3
      go_wp2_with fail
      refine (KB.out _).mono ?_
      rintro e v5 ⟨rfl, C5⟩
      have D5 := belowStep D4 D4.size C5
      clear C5 D4
      go_wp2_with fail
      refine (KQ.out _).mono ?_
      rintro e v6 ⟨rfl, C6⟩
      have D6 := belowStep D5 D5.size C6
      clear C6 D5
      go_wp2
      go_ret
      exact ⟨rfl, D6⟩
    · have d2 : decide (k < b.size) = false := decide_eq_false h2
      refine wp_region_quiet_below (by kernel_rfl) (by kernel_rfl) ?_
      repeat (go_big_quiet_step (fail))
      refine wpQuiet_nil ?_
      intro w8 hw8
      have B8 : Below w.heap.size w w8 := by
        obtain ⟨p, rfl⟩ := hw8
        exact belowStep BW BW.size (below_regrown _ _ _)
      clear hw8 BW
      go_wp2_with fail
      refine (KE.out _).mono ?_
      rintro e v0 ⟨rfl, C0⟩
      have D0 := belowStep B8 B8.size C0
      clear C0 B8
      go_wp2_with fail
      refine (KA.out _).mono ?_
      rintro e v1 ⟨rfl, C1⟩
      have D1 := belowStep D0 D0.size C1
      clear C1 D0
      go_wp2_with fail
      refine (KB.out _).mono ?_
      rintro e v2 ⟨rfl, C2⟩
      have D2 := belowStep D1 D1.size C2
      clear C2 D1
      go_wp2_with fail
      refine (KD.out _).mono ?_
      rintro e v3 ⟨rfl, C3⟩
      have D3 := belowStep D2 D2.size C3
      clear C3 D2
      go_wp2_with fail
      refine (KA.out _).mono ?_
      rintro e v4 ⟨rfl, C4⟩
      have D4 := belowStep D3 D3.size C4
      clear C4 D3
      go_wp2_with fail
      refine (KB.out _).mono ?_
      rintro e v5 ⟨rfl, C5⟩
      have D5 := belowStep D4 D4.size C5
      clear C5 D4
      go_wp2_with fail
      refine (KQ.out _).mono ?_
      rintro e v6 ⟨rfl, C6⟩
      have D6 := belowStep D5 D5.size C6
      clear C6 D5
      go_wp2
      go_ret
      exact ⟨rfl, D6⟩
  · have d1 : decide (k < a.size) = false := decide_eq_false h1
    refine wp_region_quiet_below (by kernel_rfl) (by kernel_rfl) ?_
    repeat (go_big_quiet_step (fail))
    refine wpQuiet_nil ?_
    intro w8 hw8
    have B8 : Below w.heap.size w w8 := by
      obtain ⟨p, rfl⟩ := hw8
      exact belowStep BW BW.size (below_regrown _ _ _)
    clear hw8 BW
    go_wp2_with fail
    refine (KE.out _).mono ?_
    rintro e v0 ⟨rfl, C0⟩
    have D0 := belowStep B8 B8.size C0
    clear C0 B8
    go_wp2_with fail
    refine (KA.out _).mono ?_
    rintro e v1 ⟨rfl, C1⟩
    have D1 := belowStep D0 D0.size C1
    clear C1 D0
    go_wp2_with fail
    refine (KB.out _).mono ?_
    rintro e v2 ⟨rfl, C2⟩
    have D2 := belowStep D1 D1.size C2
    clear C2 D1
    go_wp2_with fail
    refine (KD.out _).mono ?_
    rintro e v3 ⟨rfl, C3⟩
    have D3 := belowStep D2 D2.size C3
    clear C3 D2
    go_wp2_with fail
    refine (KA.out _).mono ?_
    rintro e v4 ⟨rfl, C4⟩
    have D4 := belowStep D3 D3.size C4
    clear C4 D3
    go_wp2_with fail
    refine (KB.out _).mono ?_
    rintro e v5 ⟨rfl, C5⟩
    have D5 := belowStep D4 D4.size C5
    clear C5 D4
    go_wp2_with fail
    refine (KQ.out _).mono ?_
    rintro e v6 ⟨rfl, C6⟩
    have D6 := belowStep D5 D5.size C6
    clear C6 D5
    go_wp2
    go_ret
    exact ⟨rfl, D6⟩
end Go.Proofs.Ytpbkokiibdgnfaa
