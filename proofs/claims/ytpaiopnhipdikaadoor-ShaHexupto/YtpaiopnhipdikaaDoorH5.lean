/- What the reference's Unhex does at this translation. -/
import Derived.Test.YtpaiopnhipdikaaDoorH4
namespace Go.Proofs.YtpaiopnhipdikaaDoor
open Go.RowKit Go.Sort

/-- What a digit is worth; 16: it is none. -/
def rd (c : Int) : Int := if isDig c then dv c else 16

set_option maxRecDepth 20000 in
set_option maxHeartbeats 4000000 in
theorem rdigit_any (c : Int) (h0 : 0 ≤ c) (h1 : c < 256) (w : World) :
    Calls Tryd.prog 24 #[.int .u8 c] w fun e w' => e = .returned (.int .u8 (rd c)) ∧ Below w.heap.size w w' := by
  by_cases a : 48 ≤ c
  · by_cases b : c ≤ 57
    · have w1 : IntKind.u8.wrap (c - 48) = c - 48 := by rw [IntKind.wrap_u8]; omega
      have e1 : rd c = c - 48 := by unfold rd isDig dv; simp [a, b]
      have HE : Hid (_ = _) := e1
      clear e1
      go_enter Tryd.func24, Tryd.ntmps24
      go_wp2
      go_ret
      exact ⟨by rw [HE.out]; rfl, Below.refl _ _⟩
    · by_cases d : 97 ≤ c
      · by_cases f : c ≤ 102
        · have w1 : IntKind.u8.wrap (c - 97) = c - 97 := by rw [IntKind.wrap_u8]; omega
          have w2 : IntKind.u8.wrap (c - 97 + 10) = c - 97 + 10 := by rw [IntKind.wrap_u8]; omega
          have e1 : rd c = c - 97 + 10 := by unfold rd isDig dv; simp [d, f]; omega
          have HE : Hid (_ = _) := e1
          clear e1
          go_enter Tryd.func24, Tryd.ntmps24
          go_wp2
          go_ret
          exact ⟨by rw [HE.out]; rfl, Below.refl _ _⟩
        · have e1 : rd c = 16 := by unfold rd; rw [if_neg (by unfold isDig; simp; omega)]
          have HE : Hid (_ = _) := e1
          clear e1
          go_enter Tryd.func24, Tryd.ntmps24
          go_wp2
          go_ret
          exact ⟨by rw [HE.out]; rfl, Below.refl _ _⟩
      · have e1 : rd c = 16 := by unfold rd; rw [if_neg (by unfold isDig; simp; omega)]
        have HE : Hid (_ = _) := e1
        clear e1
        go_enter Tryd.func24, Tryd.ntmps24
        go_wp2
        go_ret
        exact ⟨by rw [HE.out]; rfl, Below.refl _ _⟩
  · have e1 : rd c = 16 := by unfold rd; rw [if_neg (by unfold isDig; simp; omega)]
    have d : ¬ 97 ≤ c := by omega
    have HE : Hid (_ = _) := e1
    clear e1
    go_enter Tryd.func24, Tryd.ntmps24
    go_wp2
    go_ret
    exact ⟨by rw [HE.out]; rfl, Below.refl _ _⟩

set_option maxRecDepth 20000 in
set_option maxHeartbeats 4000000 in
theorem runhex_any (s : ByteArray) (hs : s.size ≤ 70368744177664) (w : World) :
    Calls Tryd.prog 13 #[.string s] w fun e w' => e = .returned (.tuple #[.string (unS s), .int .i64 (unE s)]) ∧ Below w.heap.size w w' := by
  by_cases hev : s.size % 2 = 0
  · obtain ⟨i0, hi0, hz0, hz1, hz2⟩ := info_parts info_u8
    obtain ⟨m, hm⟩ : ∃ m, s.size / 2 = m := ⟨_, rfl⟩
    have hm2 : (s.size : Int) / 2 = m := by omega
    have hmt : (s.size : Int).tdiv 2 = m := by rw [Int.tdiv_eq_ediv_of_nonneg (by omega)]; exact hm2
    have hrt : (s.size : Int).tmod 2 = 0 := by rw [Int.tmod_eq_emod_of_nonneg (by omega)]; omega
    have hsm : (s.size : Int) = 2 * (m : Int) := by omega
    go_enter Tryd.func13, Tryd.ntmps13
    obtain ⟨z, hz⟩ : ∃ c, w.heap.size = c := ⟨_, rfl⟩
    have HZ : Hid (w.heap.size = z) := hz
    go_wp2
    go_loopg [4, 5] m (fun gk v i wr => ∃ k : Nat, k + gk = m ∧ i = .int .i64 ((2 * k : Nat) : Int) ∧ Below z w wr ∧ z ≤ wr.heap.size ∧ wr.ownsRow z 5 1 v k (fl k fun j => .int .u8 (unAt s j)) ∧ Hid (∀ i, i < 2 * k → isDig (bt s i) = true))
    case atStart => exact ⟨0, by omega, rfl, by rw [← hz]; exact Below.refl _ _, by rw [← hz]; exact Nat.le_refl _, World.ownsRow_nil _ _ _ _, fun i hi => absurd hi (by omega)⟩
    case round =>
      clear hz
      obtain ⟨k, hk, rfl, BW, hzw, hown, hH⟩ := hrel
      have hr3 : ∀ b, u4.ownBlock = some b → z ≤ b := fun b hb => (hown.lt b hb).1
      by_cases hlt : k < m
      · obtain ⟨p, hp⟩ : ∃ p, 2 * k = p := ⟨_, rfl⟩
        obtain ⟨q, hq⟩ : ∃ q, p + 1 = q := ⟨_, rfl⟩
        rw [hp]
        have hps : p < s.size := by omega
        have hqs : q < s.size := by omega
        have l0 : (p : Int) < 2 * (m : Int) := by omega
        have l1 : (p : Int) < s.size := by omega
        have l2 : (q : Int) < s.size := by omega
        have wq : IntKind.i64.wrap ((p : Int) + 1) = q := by rw [IntKind.wrap_i64]; omega
        have wq2 : IntKind.i64.wrap ((p : Int) + 2) = ((2 * (k + 1) : Nat) : Int) := by rw [IntKind.wrap_i64]; omega
        have hsp := bt_get s p hps
        have hsq := bt_get s q hqs
        obtain ⟨y, hy⟩ : ∃ y, bt s p = y := ⟨_, rfl⟩
        obtain ⟨x, hx⟩ : ∃ x, bt s q = x := ⟨_, rfl⟩
        have by0 := bt_bd s p
        have bx0 := bt_bd s q
        rw [hy] at hsp by0
        rw [hx] at hsq bx0
        have KY : Hid (∀ w : World, _) := fun w : World => rdigit_any y by0.1 by0.2 w
        have KX : Hid (∀ w : World, _) := fun w : World => rdigit_any x bx0.1 bx0.2 w
        have bd1 := dv_bd y
        have bd2 := dv_bd x
        obtain ⟨d1, hd1⟩ : ∃ d, rd y = d := ⟨_, rfl⟩
        obtain ⟨d2, hd2⟩ : ∃ d, rd x = d := ⟨_, rfl⟩
        rw [hd1] at KY
        rw [hd2] at KX
        obtain ⟨b1, hb1⟩ : ∃ d, isDig y = d := ⟨_, rfl⟩
        obtain ⟨b2, hb2⟩ : ∃ d, isDig x = d := ⟨_, rfl⟩
        have HB : Hid (isDig (bt s p) = b1 ∧ isDig (bt s q) = b2) := by
          exact ⟨by rw [hy, hb1], by rw [hx, hb2]⟩
        have HD : Hid (b1 = true → b2 = true → unAt s k = d1 * 16 + d2) := by
          intro q1 q2
          unfold unAt
          rw [hp, hq, hy, hx, ← hd1, ← hd2]
          unfold rd
          rw [hb1, hb2, q1, q2, if_pos rfl, if_pos rfl]
        have r1 : b1 = true → 0 ≤ d1 ∧ d1 < 16 := fun q1 => by rw [← hd1]; unfold rd; rw [hb1, q1, if_pos rfl]; exact bd1
        have r2 : b2 = true → 0 ≤ d2 ∧ d2 < 16 := fun q1 => by rw [← hd2]; unfold rd; rw [hb2, q1, if_pos rfl]; exact bd2
        have n1 : b1 = false → d1 = 16 := fun q1 => by rw [← hd1]; unfold rd; rw [hb1, q1]; rfl
        have n2 : b2 = false → d2 = 16 := fun q1 => by rw [← hd2]; unfold rd; rw [hb2, q1]; rfl
        have HN : Hid (_ ∧ _ ∧ _ ∧ _) := ⟨r1, r2, n1, n2⟩
        clear hd1 hd2 hb1 hb2 hy hx bd1 bd2 r1 r2 n1 n2
        go_wp2_with fail
        refine (KY.out _).mono ?_
        rintro e w3 ⟨rfl, B3⟩
        clear KY
        go_wp2_with fail
        refine (KX.out _).mono ?_
        rintro e w4 ⟨rfl, B4⟩
        have B5 := belowStep B3 B3.size B4
        have hown2 := owns_below hown B5
        have hzW : z ≤ w4.heap.size := Nat.le_trans hzw B5.size
        have BW2 := belowStep BW hzw B5
        clear KX hown BW B3 B4 B5
        cases b1 with
        | false =>
          have hg := good_not s p hps HB.out.1
          obtain rfl := HN.out.2.2.1 rfl
          have HG : Hid (unS s = ⟨#[]⟩ ∧ unE s = 2) := by unfold unS unE; rw [hg]; exact ⟨rfl, rfl⟩
          clear hg
          go_wp2
          refine bodyPost_ret (v := .tuple #[.string ⟨#[]⟩, .int .i64 2]) (by simp [results, Tryd.results13, go_sem]) rfl ⟨by rw [HG.out.1, HG.out.2], ?_⟩
          rw [HZ.out]
          exact BW2
        | true =>
          cases b2 with
          | false =>
            have hg := good_not s q hqs HB.out.2
            obtain rfl := HN.out.2.2.2 rfl
            have l15 : ¬ 15 < d1 := by have := HN.out.1 rfl; omega
            have HG : Hid (unS s = ⟨#[]⟩ ∧ unE s = 2) := by unfold unS unE; rw [hg]; exact ⟨rfl, rfl⟩
            clear hg
            go_wp2
            refine bodyPost_ret (v := .tuple #[.string ⟨#[]⟩, .int .i64 2]) (by simp [results, Tryd.results13, go_sem]) rfl ⟨by rw [HG.out.1, HG.out.2], ?_⟩
            rw [HZ.out]
            exact BW2
          | true =>
            have bd1 := HN.out.1 rfl
            have bd2 := HN.out.2.1 rfl
            have l15 : ¬ 15 < d1 := by omega
            have m15 : ¬ 15 < d2 := by omega
            have hsh : d1 * 16 % 256 = d1 * 16 := by omega
            have hor := or_16 d1 d2 bd1 bd2
            have HU := HD.out rfl rfl
            obtain ⟨d, hd⟩ : ∃ d, d1 * 16 + d2 = d := ⟨_, rfl⟩
            rw [hd] at hor HU
            have HU2 : Hid (unAt s k = d) := HU
            clear HU
            go_wp2_with (at_builtin; refine wpList_append_own _ rfl _ _ 46 rfl z 5 i0 (.int .u8 0) 1 1 Tryd.underlying46 hi0 hz0 hz1 hz2 rfl (by decide) _ _ _ rfl (hown2.alloc _) ⟨w4.heap.size, 0, none⟩ 1 1 [.int .u8 d] rfl rfl ?c1 ?c2 ?c3 ?c4 ?c5 ?_)
            case c1 => exact one_new _ _ _
            case c2 => intro u hu; simp at hu; subst hu; rfl
            case c3 => unfold maxLen; omega
            case c4 => omega
            case c5 => simp; omega
            · intro v' w5 hown' hgrow _
              go_wp2
              go_roundg (gk - 1)
              case measure => omega
              case rel =>
                refine ⟨k + 1, by omega, rfl, (BW2.alloc hzW _).grown hgrow (by simp; omega) (fun b hb => hr3 b hb), Nat.le_trans hzW (Nat.le_trans (by simp) hgrow.size), ?_, ?_⟩
                · rw [fl_succ, HU2.out]
                  exact hown'
                · intro i hi
                  obtain ⟨g2, g3⟩ := HB.out
                  by_cases e1 : i = p
                  · rw [e1]; exact g2
                  · by_cases e2 : i = q
                    · rw [e2]; exact g3
                    · exact hH.out i (by omega)
      · have hk2 : k = m := by omega
        subst hk2
        clear hlt
        rcases hown.2 with ⟨rfl, h0⟩ | ⟨g, cap, cur, rfl, hg1, hg2, hg3, hg4, hg5, hg6⟩
        · have hg := good_of s hev (fun i hi => hH.out i (by omega))
          have HG : Hid (unS s = ⟨#[]⟩ ∧ unE s = 0) := by unfold unS unE; rw [hg, if_pos rfl, if_pos rfl, hm, h0]; exact ⟨rfl, rfl⟩
          have hcv := convert_nil wr
          subst h0
          clear hg hm
          go_wp2
          refine bodyPost_ret (v := .tuple #[.string ⟨#[]⟩, .int .i64 0]) (by simp [results, Tryd.results13, go_sem]) rfl ⟨by rw [HG.out.1, HG.out.2], ?_⟩
          rw [HZ.out]
          exact BW
        · have hg := good_of s hev (fun i hi => hH.out i (by omega))
          have HG : Hid (unS s = ⟨(by8 k (unAt s)).toArray⟩ ∧ unE s = 0) := by unfold unS unE; rw [hg, ← hm]; exact ⟨rfl, rfl⟩
          have hcv := run_convert_bytes_back (P := Tryd.prog) wr 46 9 5 ⟨g, 0, none⟩ cap (by8 k (unAt s)) Tryd.underlying46 Tryd.underlying5 Tryd.underlying9 (fun j hj => by
            have hj' : j < k := by rw [by8_len] at hj; exact hj
            rw [by8_at _ _ (unAt_bd s)]
            exact hown.cells (g := g) rfl j _ (fl_at k _ j hj'))
          rw [by8_len] at hcv
          have l0 : ¬ ((2 * k : Nat) : Int) < 2 * (k : Int) := by omega
          clear hown hg2 hg3 hg4 hg5 hg6 hg hm
          go_wp2
          refine bodyPost_ret (v := .tuple #[.string ⟨(by8 k (unAt s)).toArray⟩, .int .i64 0]) (by simp [results, Tryd.results13, go_sem]) rfl ⟨by rw [HG.out.1, HG.out.2], ?_⟩
          rw [HZ.out]
          exact BW
  · have hg : good s = false := by unfold good; rw [decide_eq_false hev, Bool.false_and]
    have HG : Hid (unS s = ⟨#[]⟩ ∧ unE s = 2) := by unfold unS unE; rw [hg]; exact ⟨rfl, rfl⟩
    have hrt : (s.size : Int).tmod 2 = 1 := by rw [Int.tmod_eq_emod_of_nonneg (by omega)]; omega
    have hrm : (s.size : Int) % 2 = 1 := by omega
    clear hg
    go_enter Tryd.func13, Tryd.ntmps13
    go_wp2
    refine bodyPost_ret (v := .tuple #[.string ⟨#[]⟩, .int .i64 2]) (by simp [results, Tryd.results13, go_sem]) rfl ⟨by rw [HG.out.1, HG.out.2], Below.refl _ _⟩
end Go.Proofs.YtpaiopnhipdikaaDoor
