/- Paths and forms are one to one. -/
import Derived.Test.YtpbkokiibdgnfaaN13
import Derived.Test.YtpbkokiibdgnfaaN8
namespace Go.Proofs.Ytpbkokiibdgnfaa
open Go.RowKit Go.Sort

theorem of_path (s : ByteArray) : isP (ofOf s) = true := by
  refine (isP_iff _).2 fun j hj => ?_
  rw [of_size] at hj
  rw [bt_of _ _ hj]
  have := half_bd s j
  omega
/-- The first halves of a form. -/
theorem full_0 (p : ByteArray) (leaf : Bool) : bt (full p leaf) 0 = (if leaf then 2 else 0) + ((p.size % 2 : Nat) : Int) := by
  unfold full
  rw [bt_app, if_pos (by rw [hd_size]; omega)]
  cases leaf <;> unfold hdOf <;> by_cases h : p.size % 2 = 0
  · rw [if_pos h, h]; rfl
  · rw [if_neg h, show p.size % 2 = 1 by omega]; rfl
  · rw [if_pos h, h]; rfl
  · rw [if_neg h, show p.size % 2 = 1 by omega]; rfl
theorem full_1 (p : ByteArray) (leaf : Bool) (h : p.size % 2 = 0) : bt (full p leaf) 1 = 0 := by
  unfold full
  rw [bt_app, if_pos (by rw [hd_size]; omega)]
  cases leaf
  · rw [show hdOf p.size false = ⟨#[0, 0]⟩ from if_pos h]; rfl
  · rw [show hdOf p.size true = ⟨#[2, 0]⟩ from if_pos h]; rfl
theorem full_even (p : ByteArray) (leaf : Bool) : (full p leaf).size = 2 * ((full p leaf).size / 2) ∧ 2 ≤ (full p leaf).size ∧ (full p leaf).size = 2 - p.size % 2 + p.size := by
  rw [full_size, hd_size]
  omega
theorem fm_size (p : ByteArray) (leaf : Bool) : (fmOf p leaf).size = (full p leaf).size / 2 := by8_size _ _
theorem half_fm (p : ByteArray) (leaf : Bool) (h : isP p = true) (j : Nat) (hj : j < (full p leaf).size) : half (fmOf p leaf) j = bt (full p leaf) j := by
  have he := full_even p leaf
  unfold half fmOf
  rw [bt_by8 _ _ (fm_bd p leaf h) _ (by omega)]
  have h1 := full_le p leaf h (2 * (j / 2))
  have h2 := full_le p leaf h (2 * (j / 2) + 1)
  unfold fmAt
  by_cases e : j % 2 = 0
  · rw [if_pos e]
    rw [show 2 * (j / 2) = j by omega] at h1 h2 ⊢
    omega
  · rw [if_neg e]
    rw [show 2 * (j / 2) + 1 = j by omega] at h2 ⊢
    omega
/-- A form is read as it was. -/
theorem read_form (p : ByteArray) (leaf : Bool) (h : isP p = true) : rdS (fmOf p leaf) = p ∧ rdL (fmOf p leaf) = leaf ∧ rdE (fmOf p leaf) = 0 := by
  have he := full_even p leaf
  have hz := fm_size p leaf
  have h0 : half (fmOf p leaf) 0 = (if leaf then 2 else 0) + ((p.size % 2 : Nat) : Int) := by rw [half_fm p leaf h 0 (by omega), full_0]
  have hgood : rdGood (fmOf p leaf) = true := by
    unfold rdGood rgood
    rw [decide_eq_true (by omega), Bool.true_and, h0]
    by_cases e : p.size % 2 = 0
    · rw [half_fm p leaf h 1 (by omega), full_1 p leaf e, e]
      cases leaf <;> rfl
    · rw [show p.size % 2 = 1 by omega]
      cases leaf <;> rfl
  have hfrom : rfrom (half (fmOf p leaf)) = 2 - p.size % 2 := by
    unfold rfrom
    rw [h0]
    by_cases e : p.size % 2 = 0
    · rw [e]; cases leaf <;> rfl
    · rw [show p.size % 2 = 1 by omega]; cases leaf <;> rfl
  refine ⟨?_, ?_, ?_⟩
  · unfold rdS
    rw [if_pos hgood, hfrom, hz]
    refine ext_bt _ _ (by rw [by8_size]; omega) fun j hj => ?_
    rw [by8_size] at hj
    rw [bt_by8 _ _ (fun j => by have := half_bd (fmOf p leaf) (2 - p.size % 2 + j); omega) j hj, half_fm p leaf h _ (by omega)]
    unfold full
    rw [bt_app, if_neg (by rw [hd_size]; omega), hd_size, show 2 - p.size % 2 + j - (2 - p.size % 2) = j by omega]
  · unfold rdL
    rw [hgood, h0, Bool.true_and]
    by_cases e : p.size % 2 = 0
    · rw [e]; cases leaf <;> rfl
    · rw [show p.size % 2 = 1 by omega]; cases leaf <;> rfl
  · unfold rdE
    rw [if_pos hgood]

theorem rd_size (s : ByteArray) (h : rdGood s = true) : (rdS s).size = 2 * s.size - rfrom (half s) := by
  unfold rdS
  rw [if_pos h, by8_size]
theorem bt_rd (s : ByteArray) (h : rdGood s = true) (j : Nat) (hj : j < 2 * s.size - rfrom (half s)) : bt (rdS s) j = half s (rfrom (half s) + j) := by
  unfold rdS
  rw [if_pos h, bt_by8 _ _ (fun j => by have := half_bd s (rfrom (half s) + j); omega) j hj]
theorem rd_path (s : ByteArray) : isP (rdS s) = true := by
  refine (isP_iff _).2 fun j hj => ?_
  cases h : rdGood s with
  | true =>
    rw [rd_size s h] at hj
    rw [bt_rd s h j hj]
    have := half_bd s (rfrom (half s) + j)
    omega
  | false =>
    have : rdS s = ⟨#[]⟩ := by unfold rdS; rw [h]; rfl
    rw [this] at hj
    exact absurd hj (Nat.not_lt_zero _)
/-- What is read stands in a form as it stood. -/
theorem full_rd (s : ByteArray) (h : rdGood s = true) : (full (rdS s) (rdL s)).size = 2 * s.size ∧ ∀ j, j < 2 * s.size → bt (full (rdS s) (rdL s)) j = half s j := by
  have hz := rd_size s h
  have hg := h
  unfold rdGood rgood at hg
  simp only [Bool.and_eq_true, Bool.or_eq_true, decide_eq_true_eq] at hg
  obtain ⟨hs0, h3, h1⟩ := hg
  have hb := half_bd s 0
  have hfr : (rfrom (half s) = 2 ∧ half s 0 % 2 = 0) ∨ (rfrom (half s) = 1 ∧ half s 0 % 2 = 1) := by
    unfold rfrom
    by_cases e : half s 0 % 2 = 0
    · rw [if_pos e]; exact .inl ⟨rfl, e⟩
    · rw [if_neg e]; exact .inr ⟨rfl, by omega⟩
  have hL : rdL s = decide (half s 0 / 2 % 2 = 1) := by unfold rdL; rw [h, Bool.true_and]
  have hhs : (hdOf (rdS s).size (rdL s)).size = rfrom (half s) := by
    rw [hd_size, hz]
    omega
  have hfull : (full (rdS s) (rdL s)).size = 2 * s.size := by
    rw [full_size, hhs, hz]
    omega
  refine ⟨hfull, fun j hj => ?_⟩
  by_cases hj2 : j < rfrom (half s)
  · by_cases e0 : j = 0
    · subst e0
      rw [full_0, hL, hz]
      by_cases e : half s 0 / 2 % 2 = 1
      · rw [decide_eq_true e]
        show (2 : Int) + _ = _
        omega
      · rw [decide_eq_false e]
        show (0 : Int) + _ = _
        omega
    · have e1 : j = 1 := by omega
      subst e1
      rw [full_1 _ _ (by rw [hz]; omega)]
      rcases h1 with h1 | h1
      · omega
      · exact h1.symm
  · unfold full
    rw [bt_app, if_neg (by rw [hhs]; exact hj2), hhs, bt_rd s h _ (by omega), show rfrom (half s) + (j - rfrom (half s)) = j by omega]
/-- .. and is written so again. -/
theorem form_read (s : ByteArray) (h : rdGood s = true) : fmS (rdS s) (rdL s) = s := by
  obtain ⟨h1, h2⟩ := full_rd s h
  unfold fmS
  rw [if_pos (rd_path s)]
  refine ext_bt _ _ (by rw [fm_size, h1]; omega) fun j hj => ?_
  rw [fm_size, h1] at hj
  unfold fmOf
  rw [bt_by8 _ _ (fm_bd _ _ (rd_path s)) j (by rw [h1]; omega)]
  unfold fmAt
  rw [h2 _ (by omega), h2 _ (by omega)]
  unfold half
  have := bt_bd s j
  rw [if_pos (by omega), if_neg (by omega), show 2 * j / 2 = j by omega, show (2 * j + 1) / 2 = j by omega]
  omega
theorem rd_le (s : ByteArray) : (rdS s).size ≤ 2 * s.size := by
  cases h : rdGood s with
  | true => rw [rd_size s h]; omega
  | false => unfold rdS; rw [h]; exact Nat.zero_le _

set_option maxRecDepth 20000 in
set_option maxHeartbeats 4000000 in
theorem back_any (key : ByteArray) (leaf : Bool) (s : ByteArray) (hk : key.size ≤ 1048576) (hs : s.size ≤ 1048576) (w : World) :
    Calls Try.prog 5 #[.string key, .bool leaf, .string s] w fun e w' => e = .returned (.bool true) ∧ Below w.heap.size w w' := by
  have KS : Hid (∀ w : World, _) := fun w : World => shown_any w
  have KO : Hid (∀ w : World, _) := fun w : World => of_any key (by omega) w
  obtain ⟨p, hp⟩ : ∃ p, ofOf key = p := ⟨_, rfl⟩
  have hpz : p.size = 2 * key.size := by rw [← hp]; exact of_size key
  have hpp : isP p = true := by rw [← hp]; exact of_path key
  rw [hp] at KO
  obtain ⟨x, hx⟩ : ∃ x, fmOf p leaf = x := ⟨_, rfl⟩
  have hxz : x.size ≤ p.size + 2 := by
    have := full_even p leaf
    rw [← hx, fm_size]
    omega
  have KF : Hid (∀ w : World, Calls Try.prog 8 #[.string p, .bool leaf] w fun e w' => e = .returned (.tuple #[.string x, .int .i64 0]) ∧ Below w.heap.size w w') := fun w => by
    have := form_any p leaf (by omega) w
    unfold fmS fmE at this
    rwa [if_pos hpp, if_pos hpp, hx] at this
  have KR : Hid (∀ w : World, Calls Try.prog 14 #[.string x] w fun e w' => e = .returned (.tuple #[.string p, .bool leaf, .int .i64 0]) ∧ Below w.heap.size w w') := fun w => by
    have := readAll_any x (by omega) w
    obtain ⟨h1, h2, h3⟩ := read_form p leaf hpp
    rw [hx] at h1 h2 h3
    rwa [h1, h2, h3] at this
  have hzz := rd_le s
  have KQ : Hid (∀ w : World, _) := fun w : World => readAll_any s (by omega) w
  have KT : Hid (∀ w : World, _) := fun w : World => form_any (rdS s) (rdL s) (by omega) w
  have hE : (rdE s = 0 ∧ fmS (rdS s) (rdL s) = s ∧ fmE (rdS s) = 0) ∨ rdE s = 50 := by
    cases h : rdGood s with
    | true =>
      refine .inl ⟨by unfold rdE; rw [if_pos h], form_read s h, ?_⟩
      unfold fmE
      rw [if_pos (rd_path s)]
    | false => exact .inr (by unfold rdE; rw [h]; rfl)
  have hl2 : IntKind.i64.wrap (2 * (key.size : Int)) = p.size := by rw [IntKind.wrap_i64]; omega
  obtain ⟨z, hz⟩ : ∃ z, rdS s = z := ⟨_, rfl⟩
  obtain ⟨wz, hwz⟩ : ∃ z, rdL s = z := ⟨_, rfl⟩
  obtain ⟨g, hg⟩ : ∃ z, rdE s = z := ⟨_, rfl⟩
  rw [hz, hwz] at KQ KT hE
  rw [hg] at KQ hE
  obtain ⟨t, ht⟩ : ∃ t, fmS z wz = t := ⟨_, rfl⟩
  obtain ⟨h, hh⟩ : ∃ t, fmE z = t := ⟨_, rfl⟩
  rw [ht, hh] at KT hE
  have hpz2 : (p.size : Int) = 2 * key.size := by omega
  clear hz hwz hg ht hh hp hx hpp hzz
  go_enter Try.func5, Try.ntmps5
  go_wp2_with fail
  refine (KS.out _).mono ?_
  rintro _ w1 ⟨rfl, B1⟩
  go_wp2_with fail
  refine (KO.out _).mono ?_
  rintro _ w2 ⟨rfl, B2⟩
  have C2 := belowStep B1 B1.size B2
  clear KS KO B1 B2
  go_wp2_with fail
  refine (KF.out _).mono ?_
  rintro _ w3 ⟨rfl, B3⟩
  have C3 := belowStep C2 C2.size B3
  clear KF C2 B3
  go_wp2_with fail
  refine (KR.out _).mono ?_
  rintro _ w4 ⟨rfl, B4⟩
  have C4 := belowStep C3 C3.size B4
  clear KR C3 B4
  go_wp2_with fail
  refine (KQ.out _).mono ?_
  rintro _ w5 ⟨rfl, B5⟩
  have C5 := belowStep C4 C4.size B5
  clear KQ C4 B5
  go_wp2_with fail
  refine (KT.out _).mono ?_
  rintro _ w6 ⟨rfl, B6⟩
  have C6 := belowStep C5 C5.size B6
  clear KT C5 B6
  rcases hE with ⟨rfl, rfl, rfl⟩ | rfl
  · go_wp2
    go_ret
    exact ⟨rfl, C6⟩
  · go_wp2
    go_ret
    exact ⟨rfl, C6⟩
end Go.Proofs.Ytpbkokiibdgnfaa
