/- What Unhex does at this translation. -/
import Derived.Test.YtpaiopnhipdikaaDoorH1
namespace Go.Proofs.YtpaiopnhipdikaaDoor
open Go.RowKit Go.Sort

def isDig (c : Int) : Bool := decide (48 ≤ c ∧ c ≤ 57) || decide (97 ≤ c ∧ c ≤ 102)
/-- What a digit is worth. -/
def dv (c : Int) : Int := if 48 ≤ c ∧ c ≤ 57 then c - 48 else if 97 ≤ c ∧ c ≤ 102 then c - 97 + 10 else 0
theorem dv_bd (c : Int) : 0 ≤ dv c ∧ dv c < 16 := by unfold dv; split <;> (try split) <;> omega

set_option maxRecDepth 20000 in
set_option maxHeartbeats 4000000 in
theorem half_any (c : Int) (h0 : 0 ≤ c) (h1 : c < 256) (w : World) :
    Calls Tryd.prog 23 #[.int .u8 c] w fun e w' => e = .returned (.tuple #[.int .u8 (dv c), .bool (isDig c)]) ∧ Below w.heap.size w w' := by
  by_cases a : 48 ≤ c
  · by_cases b : c ≤ 57
    · have w1 : IntKind.u8.wrap (c - 48) = c - 48 := by rw [IntKind.wrap_u8]; omega
      have e1 : dv c = c - 48 := by unfold dv; rw [if_pos ⟨a, b⟩]
      have e2 : isDig c = true := by unfold isDig; simp [a, b]
      have HE : Hid (_ ∧ _) := ⟨e1, e2⟩
      clear e1 e2
      go_enter Tryd.func23, Tryd.ntmps23
      go_wp2
      refine bodyPost_ret (v := .tuple #[.int .u8 (c - 48), .bool true]) (by simp [results, Tryd.results23, go_sem]) rfl ⟨by rw [HE.out.1, HE.out.2], Below.refl _ _⟩
    · by_cases d : 97 ≤ c
      · by_cases f : c ≤ 102
        · have w1 : IntKind.u8.wrap (c - 97) = c - 97 := by rw [IntKind.wrap_u8]; omega
          have w2 : IntKind.u8.wrap (c - 97 + 10) = c - 97 + 10 := by rw [IntKind.wrap_u8]; omega
          have e1 : dv c = c - 97 + 10 := by unfold dv; rw [if_neg (by omega), if_pos ⟨d, f⟩]
          have e2 : isDig c = true := by unfold isDig; simp [d, f]
          have HE : Hid (_ ∧ _) := ⟨e1, e2⟩
          clear e1 e2
          go_enter Tryd.func23, Tryd.ntmps23
          go_wp2
          refine bodyPost_ret (v := .tuple #[.int .u8 (c - 97 + 10), .bool true]) (by simp [results, Tryd.results23, go_sem]) rfl ⟨by rw [HE.out.1, HE.out.2], Below.refl _ _⟩
        · have e1 : dv c = 0 := by unfold dv; rw [if_neg (by omega), if_neg (by omega)]
          have e2 : isDig c = false := by unfold isDig; simp; omega
          have HE : Hid (_ ∧ _) := ⟨e1, e2⟩
          clear e1 e2
          go_enter Tryd.func23, Tryd.ntmps23
          go_wp2
          refine bodyPost_ret (v := .tuple #[.int .u8 (0), .bool false]) (by simp [results, Tryd.results23, go_sem]) rfl ⟨by rw [HE.out.1, HE.out.2], Below.refl _ _⟩
      · have e1 : dv c = 0 := by unfold dv; rw [if_neg (by omega), if_neg (by omega)]
        have e2 : isDig c = false := by unfold isDig; simp; omega
        have HE : Hid (_ ∧ _) := ⟨e1, e2⟩
        clear e1 e2
        go_enter Tryd.func23, Tryd.ntmps23
        go_wp2
        refine bodyPost_ret (v := .tuple #[.int .u8 (0), .bool false]) (by simp [results, Tryd.results23, go_sem]) rfl ⟨by rw [HE.out.1, HE.out.2], Below.refl _ _⟩
  · have e1 : dv c = 0 := by unfold dv; rw [if_neg (by omega), if_neg (by omega)]
    have e2 : isDig c = false := by unfold isDig; simp; omega
    have d : ¬ 97 ≤ c := by omega
    have HE : Hid (_ ∧ _) := ⟨e1, e2⟩
    clear e1 e2
    go_enter Tryd.func23, Tryd.ntmps23
    go_wp2
    refine bodyPost_ret (v := .tuple #[.int .u8 (0), .bool false]) (by simp [results, Tryd.results23, go_sem]) rfl ⟨by rw [HE.out.1, HE.out.2], Below.refl _ _⟩

theorem or_16 (a b : Int) (ha : 0 ≤ a ∧ a < 16) (hb : 0 ≤ b ∧ b < 16) : bits .or .u8 (a * 16) b = a * 16 + b := by
  have e : ∀ i j : Fin 16, bits .or .u8 (((i.val : Nat) : Int) * 16) ((j.val : Nat) : Int) = ((i.val : Nat) : Int) * 16 + ((j.val : Nat) : Int) := by decide +kernel
  have := e ⟨a.toNat, by omega⟩ ⟨b.toNat, by omega⟩
  have e1 : ((a.toNat : Nat) : Int) = a := by omega
  have e2 : ((b.toNat : Nat) : Int) = b := by omega
  simp only [e1, e2] at this
  exact this

/-- A byte of two digits; are all of them digits; the bytes, and what is wrong. -/
def unAt (s : ByteArray) (j : Nat) : Int := dv (bt s (2 * j)) * 16 + dv (bt s (2 * j + 1))
theorem unAt_bd (s : ByteArray) (j : Nat) : 0 ≤ unAt s j ∧ unAt s j < 256 := by
  have h1 := dv_bd (bt s (2 * j))
  have h2 := dv_bd (bt s (2 * j + 1))
  unfold unAt; omega
def good (s : ByteArray) : Bool := decide (s.size % 2 = 0) && (List.range s.size).all fun i => isDig (bt s i)
def unS (s : ByteArray) : ByteArray := if good s then ⟨(by8 (s.size / 2) (unAt s)).toArray⟩ else ⟨#[]⟩
def unE (s : ByteArray) : Int := if good s then 0 else 2
theorem good_of (s : ByteArray) (h : s.size % 2 = 0) (ha : ∀ i, i < s.size → isDig (bt s i) = true) : good s = true := by
  unfold good
  simp only [h, decide_true, Bool.true_and, List.all_eq_true, List.mem_range]
  exact ha
theorem good_not (s : ByteArray) (i : Nat) (hi : i < s.size) (ha : isDig (bt s i) = false) : good s = false := by
  cases hg : good s with
  | false => rfl
  | true =>
    unfold good at hg
    simp only [Bool.and_eq_true, List.all_eq_true, List.mem_range] at hg
    rw [hg.2 i hi] at ha
    cases ha

theorem one_new (w : World) (x : Value) (t : TypeId) : ∀ j u, [x][j]? = some u → (w.alloc (.cells #[x] t)).cell? ((⟨w.heap.size, 0, none⟩ : Addr).add j) = some u := by
  intro j u hj
  match j, hj with
  | 0, hj => simp at hj; subst hj; simp [Addr.add]

set_option maxRecDepth 20000 in
set_option maxHeartbeats 4000000 in
theorem unhex_any (s : ByteArray) (hs : s.size ≤ 70368744177664) (w : World) :
    Calls Tryd.prog 12 #[.string s] w fun e w' => e = .returned (.tuple #[.string (unS s), .int .i64 (unE s)]) ∧ Below w.heap.size w w' := by
  by_cases hev : s.size % 2 = 0
  · obtain ⟨i0, hi0, hz0, hz1, hz2⟩ := info_parts info_u8
    obtain ⟨m, hm⟩ : ∃ m, s.size / 2 = m := ⟨_, rfl⟩
    have hm2 : (s.size : Int) / 2 = m := by omega
    have hmt : (s.size : Int).tdiv 2 = m := by rw [Int.tdiv_eq_ediv_of_nonneg (by omega)]; exact hm2
    have hrt : (s.size : Int).tmod 2 = 0 := by rw [Int.tmod_eq_emod_of_nonneg (by omega)]; omega
    have hsm : (s.size : Int) = 2 * (m : Int) := by omega
    go_enter Tryd.func12, Tryd.ntmps12
    go_wp2_with (at_make; refine wpList_make_own _ rfl _ _ 46 rfl w.heap.size 5 i0 (.int .u8 0) 1 Tryd.underlying46 hi0 hz0 hz1 .i64 .i64 _ m rfl rfl (by first | rfl | omega) (by rw [hz2]; omega) (by unfold maxLen; omega) (Nat.le_refl _) ?_; intro w2 hown hgr)
    have B2 : Below w.heap.size w w2 := (Below.refl _ w).grown hgr (Nat.le_refl _) (fun _ e => by cases e)
    clear hgr
    replace hown : w2.ownsRow w.heap.size 5 1 (.slice (some ⟨w.heap.size, 0, none⟩) 0 m) 0 [] := by simpa using hown
    obtain ⟨z, hz⟩ : ∃ c, w.heap.size = c := ⟨_, rfl⟩
    have HZ : Hid (w.heap.size = z) := hz
    rw [hz] at B2 hown ⊢
    clear hz
    go_wp2
    go_loopg [4, 5] m (fun gk v i wr => ∃ k : Nat, k + gk = m ∧ i = .int .i64 ((2 * k : Nat) : Int) ∧ Below z w wr ∧ z ≤ wr.heap.size ∧ Hid (v ≠ .slice none 0 0) ∧ wr.ownsRow z 5 1 v k (fl k fun j => .int .u8 (unAt s j)) ∧ Hid (∀ i, i < 2 * k → isDig (bt s i) = true))
    case atStart => exact ⟨0, by omega, rfl, B2, by rw [← HZ.out] at B2 ⊢; exact B2.size, (fun e => Value.noConfusion e fun a _ _ => by cases a), hown, fun i hi => absurd hi (by omega)⟩
    case round =>
      clear hown B2
      obtain ⟨k, hk, rfl, BW, hzw, hnv, hown, hH⟩ := hrel
      have hr3 : ∀ b, u4.ownBlock = some b → z ≤ b := fun b hb => (hown.lt b hb).1
      by_cases hlt : k < m
      · obtain ⟨p, hp⟩ : ∃ p, 2 * k = p := ⟨_, rfl⟩
        obtain ⟨q, hq⟩ : ∃ q, p + 1 = q := ⟨_, rfl⟩
        rw [hp]
        have hps : p < s.size := by omega
        have hqs : q < s.size := by omega
        have l0 : (p : Int) < 2 * (m : Int) := by omega
        have l1 : (p : Int) < s.size := by omega
        have l2 : (q : Int) < s.size := by omega
        have wq : IntKind.i64.wrap ((p : Int) + 1) = q := by rw [IntKind.wrap_i64]; omega
        have wq2 : IntKind.i64.wrap ((p : Int) + 2) = ((2 * (k + 1) : Nat) : Int) := by rw [IntKind.wrap_i64]; omega
        have hsp := bt_get s p hps
        have hsq := bt_get s q hqs
        obtain ⟨y, hy⟩ : ∃ y, bt s p = y := ⟨_, rfl⟩
        obtain ⟨x, hx⟩ : ∃ x, bt s q = x := ⟨_, rfl⟩
        have by0 := bt_bd s p
        have bx0 := bt_bd s q
        rw [hy] at hsp by0
        rw [hx] at hsq bx0
        have KY : Hid (∀ w : World, _) := fun w : World => half_any y by0.1 by0.2 w
        have KX : Hid (∀ w : World, _) := fun w : World => half_any x bx0.1 bx0.2 w
        obtain ⟨d1, hd1⟩ : ∃ d, dv y = d := ⟨_, rfl⟩
        obtain ⟨d2, hd2⟩ : ∃ d, dv x = d := ⟨_, rfl⟩
        have bd1 := dv_bd y
        have bd2 := dv_bd x
        rw [hd1] at KY bd1
        rw [hd2] at KX bd2
        obtain ⟨b1, hb1⟩ : ∃ d, isDig y = d := ⟨_, rfl⟩
        obtain ⟨b2, hb2⟩ : ∃ d, isDig x = d := ⟨_, rfl⟩
        rw [hb1] at KY
        rw [hb2] at KX
        have hsh : d1 * 16 % 256 = d1 * 16 := by omega
        have hor := or_16 d1 d2 bd1 bd2
        obtain ⟨d, hd⟩ : ∃ d, d1 * 16 + d2 = d := ⟨_, rfl⟩
        rw [hd] at hor
        have HD : Hid (unAt s k = d ∧ isDig (bt s p) = b1 ∧ isDig (bt s q) = b2) := by
          refine ⟨?_, by rw [hy, hb1], by rw [hx, hb2]⟩
          unfold unAt
          rw [hp, hq, hy, hx, hd1, hd2, hd]
        clear hd hd1 hd2 hb1 hb2 hy hx
        go_wp2_with fail
        refine (KY.out _).mono ?_
        rintro e w3 ⟨rfl, B3⟩
        clear KY
        go_wp2_with fail
        refine (KX.out _).mono ?_
        rintro e w4 ⟨rfl, B4⟩
        have B5 := belowStep B3 B3.size B4
        have hown2 := owns_below hown B5
        have hzW : z ≤ w4.heap.size := Nat.le_trans hzw B5.size
        have BW2 := belowStep BW hzw B5
        clear KX hown BW B3 B4 B5
        cases b1 with
        | false =>
          have hg := good_not s p hps HD.out.2.1
          have HG : Hid (unS s = ⟨#[]⟩ ∧ unE s = 2) := by unfold unS unE; rw [hg]; exact ⟨rfl, rfl⟩
          clear hg
          go_wp2
          refine bodyPost_ret (v := .tuple #[.string ⟨#[]⟩, .int .i64 2]) (by simp [results, Tryd.results12, go_sem]) rfl ⟨by rw [HG.out.1, HG.out.2], ?_⟩
          rw [HZ.out]
          exact BW2
        | true =>
          cases b2 with
          | false =>
            have hg := good_not s q hqs HD.out.2.2
            have HG : Hid (unS s = ⟨#[]⟩ ∧ unE s = 2) := by unfold unS unE; rw [hg]; exact ⟨rfl, rfl⟩
            clear hg
            go_wp2
            refine bodyPost_ret (v := .tuple #[.string ⟨#[]⟩, .int .i64 2]) (by simp [results, Tryd.results12, go_sem]) rfl ⟨by rw [HG.out.1, HG.out.2], ?_⟩
            rw [HZ.out]
            exact BW2
          | true =>
            go_wp2_with (at_builtin; refine wpList_append_own _ rfl _ _ 46 rfl z 5 i0 (.int .u8 0) 1 1 Tryd.underlying46 hi0 hz0 hz1 hz2 rfl (by decide) _ _ _ rfl (hown2.alloc _) ⟨w4.heap.size, 0, none⟩ 1 1 [.int .u8 d] rfl rfl ?c1 ?c2 ?c3 ?c4 ?c5 ?_)
            case c1 => exact one_new _ _ _
            case c2 => intro u hu; simp at hu; subst hu; rfl
            case c3 => unfold maxLen; omega
            case c4 => omega
            case c5 => simp; omega
            · intro v' w5 hown' hgrow hiff
              have HI : Hid (v' ≠ .slice none 0 0) := hiff
              clear hiff
              go_wp2
              go_roundg (gk - 1)
              case measure => omega
              case rel =>
                refine ⟨k + 1, by omega, rfl, (BW2.alloc hzW _).grown hgrow (by simp; omega) (fun b hb => hr3 b hb), Nat.le_trans hzW (Nat.le_trans (by simp) hgrow.size), HI, ?_, ?_⟩
                · rw [fl_succ, HD.out.1]
                  exact hown'
                · intro i hi
                  obtain ⟨_, g2, g3⟩ := HD.out
                  by_cases e1 : i = p
                  · rw [e1]; exact g2
                  · by_cases e2 : i = q
                    · rw [e2]; exact g3
                    · exact hH.out i (by omega)
      · have hk2 : k = m := by omega
        subst hk2
        clear hlt
        rcases hown.2 with ⟨rfl, h0⟩ | ⟨g, cap, cur, rfl, hg1, hg2, hg3, hg4, hg5, hg6⟩
        · exact absurd rfl hnv.out
        · have hg := good_of s hev (fun i hi => hH.out i (by omega))
          have HG : Hid (unS s = ⟨(by8 k (unAt s)).toArray⟩ ∧ unE s = 0) := by unfold unS unE; rw [hg, ← hm]; exact ⟨rfl, rfl⟩
          have hcv := run_convert_bytes_back (P := Tryd.prog) wr 46 9 5 ⟨g, 0, none⟩ cap (by8 k (unAt s)) Tryd.underlying46 Tryd.underlying5 Tryd.underlying9 (fun j hj => by
            have hj' : j < k := by rw [by8_len] at hj; exact hj
            rw [by8_at _ _ (unAt_bd s)]
            exact hown.cells (g := g) rfl j _ (fl_at k _ j hj'))
          rw [by8_len] at hcv
          have l0 : ¬ ((2 * k : Nat) : Int) < 2 * (k : Int) := by omega
          clear hown hg2 hg3 hg4 hg5 hg6 hg hm
          go_wp2
          refine bodyPost_ret (v := .tuple #[.string ⟨(by8 k (unAt s)).toArray⟩, .int .i64 0]) (by simp [results, Tryd.results12, go_sem]) rfl ⟨by rw [HG.out.1, HG.out.2], ?_⟩
          rw [HZ.out]
          exact BW
  · have hg : good s = false := by unfold good; rw [decide_eq_false hev, Bool.false_and]
    have HG : Hid (unS s = ⟨#[]⟩ ∧ unE s = 2) := by unfold unS unE; rw [hg]; exact ⟨rfl, rfl⟩
    have hrt : (s.size : Int).tmod 2 = 1 := by rw [Int.tmod_eq_emod_of_nonneg (by omega)]; omega
    have hrm : (s.size : Int) % 2 = 1 := by omega
    clear hg
    go_enter Tryd.func12, Tryd.ntmps12
    go_wp2
    refine bodyPost_ret (v := .tuple #[.string ⟨#[]⟩, .int .i64 2]) (by simp [results, Tryd.results12, go_sem]) rfl ⟨by rw [HG.out.1, HG.out.2], Below.refl _ _⟩
end Go.Proofs.YtpaiopnhipdikaaDoor
