/- Where an item begins and ends: the reference's measure. -/
import Derived.Test.YteaongogomhooaaQ24
namespace Go.Proofs.Yteaongogomhooaa
open Go.RowKit Go.Shelf Go.Sort

theorem bt_ext2 (s : ByteArray) (f t : Nat) (h : f < t) (ht : t ≤ s.size) : bt (s.extract f t) 0 = bt s f := by
  have h1 : 0 < (s.extract f t).size := by rw [ByteArray.size_extract]; omega
  rw [← bt_get _ 0 h1, ← bt_get _ f (by omega)]
  congr 2
  exact ByteArray.getElem_extract h1
theorem bare_ext (s : ByteArray) (f t : Nat) (ht : t ≤ s.size) : bare (s.extract f t) = (decide (t - f = 1) && decide (bt s f < 128)) := by
  unfold bare
  rw [ByteArray.size_extract, Nat.min_eq_left ht]
  by_cases h : t - f = 1
  · rw [bt_ext2 s f t (by omega) ht]
  · rw [decide_eq_false h, Bool.false_and, Bool.false_and]
/-- What measure answers. -/
def MsR (s : ByteArray) (p : Nat) (f t : Int) (l ok : Bool) : Prop := (ok = false ∧ (s.size ≤ p ∨ itP s p = none)) ∨ (ok = true ∧ p < s.size ∧ ∃ f' t' : Nat, f = f' ∧ t = t' ∧ itP s p = some (f', t', l))
def MsP (s : ByteArray) (p : Nat) (e : Ending) : Prop := ∃ f t l ok, e = .returned (.tuple #[.int .i64 f, .int .i64 t, .bool l, .bool ok]) ∧ MsR s p f t l ok
theorem itP_list (s : ByteArray) (p : Nat) (h : ¬ bt s p < 192) : itP s p = (match atP s (p + 1) ((bt s p).toNat - 192) with | none => none | some (f, t) => some (f, t, true)) := by
  unfold itP
  rw [if_neg (by omega), if_neg h]
  cases atP s (p + 1) ((bt s p).toNat - 192) <;> rfl
theorem itP_text (s : ByteArray) (p : Nat) (h : ¬ bt s p < 128) (h2 : bt s p < 192) : itP s p = (match atP s (p + 1) ((bt s p).toNat - 128) with | none => none | some (f, t) => if bare (s.extract f t) then none else some (f, t, false)) := by
  unfold itP
  rw [if_neg h, if_pos h2]
  cases atP s (p + 1) ((bt s p).toNat - 128) <;> rfl
theorem atP_short (s : ByteArray) (q k : Nat) (h : k < 56) : atP s q k = if s.size < q + k then none else some (q, q + k) := by
  unfold atP
  rw [if_pos h]
theorem atP_long (s : ByteArray) (q k : Nat) (h : ¬ k < 56) : atP s q k = if s.size < q + (k - 55) then none
  else if vE (s.extract q (q + (k - 55))) = 0 ∧ 56 ≤ vN (s.extract q (q + (k - 55))) ∧ vN (s.extract q (q + (k - 55))) ≤ s.size - (q + (k - 55)) then some (q + (k - 55), q + (k - 55) + vN (s.extract q (q + (k - 55)))) else none := by
  unfold atP
  rw [if_neg h]

set_option maxRecDepth 20000 in
set_option maxHeartbeats 2000000 in
theorem rmeasure_any (s : ByteArray) (p : Nat) (hs : s.size < 1000000) (hp : p ≤ s.size) (w : World) :
    Calls Try.prog 46 #[.string s, .int .i64 p] w fun e w' => MsP s p e ∧ Below w.heap.size w w' := by
  have BW : Below w.heap.size w w := Below.refl _ _
  by_cases h0 : s.size ≤ p
  · have l0 : (s.size : Int) ≤ p := by omega
    go_enter Try.func46, Try.ntmps46
    go_wp2
    refine bodyPost_ret (v := .tuple #[.int .i64 0, .int .i64 0, .bool false, .bool false]) (by simp [results, Try.results46, go_sem]) rfl ⟨⟨_, _, _, _, rfl, .inl ⟨rfl, .inl h0⟩⟩, BW⟩
  · have hlt : p < s.size := by omega
    have l0 : ¬ (s.size : Int) ≤ p := by omega
    have l1 : (p : Int) < s.size := by omega
    have g0 := bt_get s p hlt
    have hu := bt_bd s p
    have HL := itP_list s p
    have HT := itP_text s p
    have HB : Hid (bt s p < 128 → itP s p = some (p, p + 1, false)) := fun h => by unfold itP; rw [if_pos h]
    obtain ⟨i, hi⟩ : ∃ i, bt s p = i := ⟨_, rfl⟩
    rw [hi] at g0 hu HL HT HB
    clear hi
    obtain ⟨u, rfl⟩ : ∃ u : Nat, i = u := ⟨i.toNat, by omega⟩
    rw [Int.toNat_natCast] at HL HT
    have wu : IntKind.i64.wrap (u : Int) = u := by rw [IntKind.wrap_i64]; omega
    have HLT : Hid _ := And.intro HL HT
    clear HL HT
    go_enter Try.func46, Try.ntmps46
    by_cases h1 : (u : Int) < 128
    · have c1 : ¬ (192 : Int) ≤ u := by omega
      go_wp2
      refine bodyPost_ret (v := .tuple #[.int .i64 p, .int .i64 (p + 1), .bool false, .bool true]) (by simp [results, Try.results46, go_sem]) rfl ⟨⟨_, _, _, _, rfl, .inr ⟨rfl, hlt, p, p + 1, rfl, by omega, HB.out h1⟩⟩, BW⟩
    · clear HB
      by_cases h2 : (192 : Int) ≤ u
      · obtain ⟨k, hk⟩ : ∃ k, u - 192 = k := ⟨_, rfl⟩
        have wk : (u : Int) - 192 = k := by omega
        have wk1 : IntKind.i64.wrap (k : Int) = k := by rw [IntKind.wrap_i64]; omega
        have HI := HLT.out.1 (by omega)
        rw [hk] at HI
        clear HLT
        by_cases h3 : (k : Int) < 56
        · rw [atP_short s (p + 1) k (by omega)] at HI
          by_cases h4 : s.size < p + 1 + k
          · have c4 : ¬ ((p : Int) + 1 + k ≤ s.size) := by omega
            rw [if_pos h4] at HI
            have HX : Hid _ := HI
            clear HI
            go_wp2
            refine bodyPost_ret (v := .tuple #[.int .i64 (p + 1), .int .i64 (p + 1 + k), .bool true, .bool false]) (by simp [results, Try.results46, go_sem]) rfl ⟨⟨_, _, _, _, rfl, .inl ⟨rfl, .inr HX.out⟩⟩, BW⟩
          · have c4 : (p : Int) + 1 + k ≤ s.size := by omega
            rw [if_neg h4] at HI
            have HX : Hid _ := HI
            clear HI
            go_wp2
            refine bodyPost_ret (v := .tuple #[.int .i64 (p + 1), .int .i64 (p + 1 + k), .bool true, .bool true]) (by simp [results, Try.results46, go_sem]) rfl ⟨⟨_, _, _, _, rfl, .inr ⟨rfl, hlt, _, _, by omega, by omega, HX.out⟩⟩, BW⟩
        · have h3' : ¬ k < 56 := by omega
          rw [atP_long s (p + 1) k (by omega)] at HI
          obtain ⟨d, hd⟩ : ∃ d, k - 55 = d := ⟨_, rfl⟩
          rw [hd] at HI
          obtain ⟨q, hq⟩ : ∃ q, p + 1 + d = q := ⟨_, rfl⟩
          rw [hq] at HI
          have wq : (p : Int) + 1 + k - 55 = q := by omega
          have wp1 : ((p : Int) + 1).toNat = p + 1 := by omega
          by_cases h4 : s.size < q
          · have c4 : (s.size : Int) < q := by omega
            rw [if_pos h4] at HI
            have HX : Hid _ := HI
            clear HI
            go_wp2
            refine bodyPost_ret (v := .tuple #[.int .i64 0, .int .i64 0, .bool false, .bool false]) (by simp [results, Try.results46, go_sem]) rfl ⟨⟨_, _, _, _, rfl, .inl ⟨rfl, .inr HX.out⟩⟩, BW⟩
          · have c4 : ¬ (s.size : Int) < q := by omega
            rw [if_neg h4] at HI
            have KV := rvalue_any (s.extract (p + 1) q)
            have hE := vE_or (s.extract (p + 1) q)
            obtain ⟨v, hv⟩ : ∃ v, vN (s.extract (p + 1) q) = v := ⟨_, rfl⟩
            obtain ⟨e, he⟩ : ∃ e, vE (s.extract (p + 1) q) = e := ⟨_, rfl⟩
            rw [hv, he] at HI KV
            rw [he] at hE
            clear hv he
            have c5 : (p : Int) + 1 ≤ q := by omega
            have c6 : p + 1 ≤ q := by omega
            have HX : Hid _ := HI
            clear HI
            go_wp2_with fail
            refine (KV _).mono ?_
            rintro e0 w1 ⟨rfl, B1⟩
            replace BW := B1
            clear B1 KV
            obtain ⟨r, hr⟩ : ∃ r, s.size - q = r := ⟨_, rfl⟩
            have wr : (s.size : Int) - q = r := by omega
            rw [hr] at HX
            rcases hE with rfl | rfl
            · by_cases h5 : v < 56
              · have c7 : (v : Int) < 56 := by omega
                go_wp2
                refine bodyPost_ret (v := .tuple #[.int .i64 0, .int .i64 0, .bool false, .bool false]) (by simp [results, Try.results46, go_sem]) rfl ⟨⟨_, _, _, _, rfl, .inl ⟨rfl, .inr (HX.out.trans (by rw [if_neg (fun h => by omega)]))⟩⟩, BW⟩
              · have c7 : ¬ (v : Int) < 56 := by omega
                by_cases h6 : r < v
                · have c8 : (r : Int) < v := by omega
                  go_wp2
                  refine bodyPost_ret (v := .tuple #[.int .i64 0, .int .i64 0, .bool false, .bool false]) (by simp [results, Try.results46, go_sem]) rfl ⟨⟨_, _, _, _, rfl, .inl ⟨rfl, .inr (HX.out.trans (by rw [if_neg (fun h => by omega)]))⟩⟩, BW⟩
                · have c8 : ¬ (r : Int) < v := by omega
                  go_wp2
                  refine bodyPost_ret (v := .tuple #[.int .i64 q, .int .i64 (q + v), .bool true, .bool true]) (by simp [results, Try.results46, go_sem]) rfl ⟨⟨_, _, _, _, rfl, .inr ⟨rfl, hlt, q, q + v, rfl, by omega, HX.out.trans (by rw [if_pos ⟨by trivial, by omega, by omega⟩])⟩⟩, BW⟩
            · go_wp2
              refine bodyPost_ret (v := .tuple #[.int .i64 0, .int .i64 0, .bool false, .bool false]) (by simp [results, Try.results46, go_sem]) rfl ⟨⟨_, _, _, _, rfl, .inl ⟨rfl, .inr (HX.out.trans (by rw [if_neg (fun h => by omega)]))⟩⟩, BW⟩
      · obtain ⟨k, hk⟩ : ∃ k, u - 128 = k := ⟨_, rfl⟩
        have wk : (u : Int) - 128 = k := by omega
        have wk1 : IntKind.i64.wrap (k : Int) = k := by rw [IntKind.wrap_i64]; omega
        have HI := HLT.out.2 (by omega) (by omega)
        rw [hk] at HI
        clear HLT
        by_cases h3 : (k : Int) < 56
        · rw [atP_short s (p + 1) k (by omega)] at HI
          by_cases h4 : s.size < p + 1 + k
          · have c4 : ¬ ((p : Int) + 1 + k ≤ s.size) := by omega
            rw [if_pos h4] at HI
            have HX : Hid _ := HI
            clear HI
            by_cases h5 : k = 1
            · have c5 : (k : Int) = 1 := by omega
              go_wp2
              refine bodyPost_ret (v := .tuple #[.int .i64 (p + 1), .int .i64 (p + 1 + 1), .bool false, .bool false]) (by simp [results, Try.results46, go_sem]) rfl ⟨⟨_, _, _, _, rfl, .inl ⟨rfl, .inr HX.out⟩⟩, BW⟩
            · have c5 : ((k : Int) == 1) = false := by rw [beq_eq_false_iff_ne]; omega
              go_wp2
              refine bodyPost_ret (v := .tuple #[.int .i64 (p + 1), .int .i64 (p + 1 + k), .bool false, .bool false]) (by simp [results, Try.results46, go_sem]) rfl ⟨⟨_, _, _, _, rfl, .inl ⟨rfl, .inr HX.out⟩⟩, BW⟩
          · have c4 : (p : Int) + 1 + k ≤ s.size := by omega
            rw [if_neg h4] at HI
            dsimp only at HI
            rw [bare_ext s (p + 1) (p + 1 + k) (by omega), Nat.add_sub_cancel_left] at HI
            have HX : Hid _ := HI
            clear HI
            by_cases h5 : k = 1
            · subst h5
              have hl1 : p + 1 < s.size := by omega
              have c6 : (p : Int) + 1 < s.size := by omega
              have c7 : (p : Int) + 1 + 1 ≤ s.size := by omega
              have g1 := bt_get s (p + 1) hl1
              obtain ⟨y, hy⟩ : ∃ y, bt s (p + 1) = y := ⟨_, rfl⟩
              rw [hy] at g1 HX
              clear hy
              by_cases h6 : y < 128
              · go_wp2
                refine bodyPost_ret (v := .tuple #[.int .i64 (p + 1), .int .i64 (p + 1 + 1), .bool false, .bool false]) (by simp [results, Try.results46, go_sem]) rfl ⟨⟨_, _, _, _, rfl, .inl ⟨rfl, .inr (HX.out.trans (by rw [decide_eq_true h6]; simp))⟩⟩, BW⟩
              · go_wp2
                refine bodyPost_ret (v := .tuple #[.int .i64 (p + 1), .int .i64 (p + 1 + 1), .bool false, .bool true]) (by simp [results, Try.results46, go_sem]) rfl ⟨⟨_, _, _, _, rfl, .inr ⟨rfl, hlt, p + 1, p + 1 + 1, by omega, by omega, HX.out.trans (by rw [decide_eq_false (show ¬ y < 128 by omega)]; simp)⟩⟩, BW⟩
            · have c5 : ((k : Int) == 1) = false := by rw [beq_eq_false_iff_ne]; omega
              go_wp2
              refine bodyPost_ret (v := .tuple #[.int .i64 (p + 1), .int .i64 (p + 1 + k), .bool false, .bool true]) (by simp [results, Try.results46, go_sem]) rfl ⟨⟨_, _, _, _, rfl, .inr ⟨rfl, hlt, p + 1, p + 1 + k, by omega, by omega, HX.out.trans (by rw [decide_eq_false h5]; rfl)⟩⟩, BW⟩
        · have h3' : ¬ k < 56 := by omega
          rw [atP_long s (p + 1) k (by omega)] at HI
          obtain ⟨d, hd⟩ : ∃ d, k - 55 = d := ⟨_, rfl⟩
          rw [hd] at HI
          obtain ⟨q, hq⟩ : ∃ q, p + 1 + d = q := ⟨_, rfl⟩
          rw [hq] at HI
          have wq : (p : Int) + 1 + k - 55 = q := by omega
          have wp1 : ((p : Int) + 1).toNat = p + 1 := by omega
          by_cases h4 : s.size < q
          · have c4 : (s.size : Int) < q := by omega
            rw [if_pos h4] at HI
            have HX : Hid _ := HI
            clear HI
            go_wp2
            refine bodyPost_ret (v := .tuple #[.int .i64 0, .int .i64 0, .bool false, .bool false]) (by simp [results, Try.results46, go_sem]) rfl ⟨⟨_, _, _, _, rfl, .inl ⟨rfl, .inr HX.out⟩⟩, BW⟩
          · have c4 : ¬ (s.size : Int) < q := by omega
            rw [if_neg h4] at HI
            have KV := rvalue_any (s.extract (p + 1) q)
            have hE := vE_or (s.extract (p + 1) q)
            obtain ⟨v, hv⟩ : ∃ v, vN (s.extract (p + 1) q) = v := ⟨_, rfl⟩
            obtain ⟨e, he⟩ : ∃ e, vE (s.extract (p + 1) q) = e := ⟨_, rfl⟩
            rw [hv, he] at HI KV
            rw [he] at hE
            clear hv he
            have c5 : (p : Int) + 1 ≤ q := by omega
            have c6 : p + 1 ≤ q := by omega
            have HX : Hid _ := HI
            clear HI
            go_wp2_with fail
            refine (KV _).mono ?_
            rintro e0 w1 ⟨rfl, B1⟩
            replace BW := B1
            clear B1 KV
            obtain ⟨r, hr⟩ : ∃ r, s.size - q = r := ⟨_, rfl⟩
            have wr : (s.size : Int) - q = r := by omega
            rw [hr] at HX
            rcases hE with rfl | rfl
            · by_cases h5 : v < 56
              · have c7 : (v : Int) < 56 := by omega
                go_wp2
                refine bodyPost_ret (v := .tuple #[.int .i64 0, .int .i64 0, .bool false, .bool false]) (by simp [results, Try.results46, go_sem]) rfl ⟨⟨_, _, _, _, rfl, .inl ⟨rfl, .inr (HX.out.trans (by rw [if_neg (fun h => by omega)]))⟩⟩, BW⟩
              · have c7 : ¬ (v : Int) < 56 := by omega
                by_cases h6 : r < v
                · have c8 : (r : Int) < v := by omega
                  go_wp2
                  refine bodyPost_ret (v := .tuple #[.int .i64 0, .int .i64 0, .bool false, .bool false]) (by simp [results, Try.results46, go_sem]) rfl ⟨⟨_, _, _, _, rfl, .inl ⟨rfl, .inr (HX.out.trans (by rw [if_neg (fun h => by omega)]))⟩⟩, BW⟩
                · have c8 : ¬ (r : Int) < v := by omega
                  go_wp2
                  refine bodyPost_ret (v := .tuple #[.int .i64 q, .int .i64 (q + v), .bool false, .bool true]) (by simp [results, Try.results46, go_sem]) rfl ⟨⟨_, _, _, _, rfl, .inr ⟨rfl, hlt, q, q + v, rfl, by omega, HX.out.trans (by rw [if_pos ⟨by trivial, by omega, by omega⟩]; show (if bare (s.extract q (q + v)) then _ else _) = _; rw [bare_ext s q (q + v) (by omega), decide_eq_false (by omega), Bool.false_and]; rfl)⟩⟩, BW⟩
            · go_wp2
              refine bodyPost_ret (v := .tuple #[.int .i64 0, .int .i64 0, .bool false, .bool false]) (by simp [results, Try.results46, go_sem]) rfl ⟨⟨_, _, _, _, rfl, .inl ⟨rfl, .inr (HX.out.trans (by rw [if_neg (fun h => by omega)]))⟩⟩, BW⟩
end Go.Proofs.Yteaongogomhooaa
