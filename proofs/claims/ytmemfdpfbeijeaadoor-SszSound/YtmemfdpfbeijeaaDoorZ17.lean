/- The reference's Way and Check; the law SszChecks, walked. -/
import Derived.Test.YtmemfdpfbeijeaaDoorZ15
namespace Go.Proofs.YtmemfdpfbeijeaaDoor
open Go.RowKit Go.Shelf Go.Sort

/-- The texts that are summed up on a way. -/
def wyF (i : Nat) : Nat → ByteArray → List ByteArray → List ByteArray
  | _, _, [] => []
  | k, x, y :: r => (if i / 2 ^ k % 2 = 0 then x ++ y else y ++ x) :: wyF i (k + 1) (if i / 2 ^ k % 2 = 0 then hs x y else hs y x) r
theorem wyF_len (i : Nat) : ∀ (r : List ByteArray) (k : Nat) (x : ByteArray), (wyF i k x r).length = r.length
  | [], _, _ => rfl
  | y :: r, k, x => by rw [wyF, List.length_cons, List.length_cons, wyF_len i r]
theorem wyF_snoc (i : Nat) (y : ByteArray) : ∀ (r : List ByteArray) (k : Nat) (x : ByteArray), wyF i k x (r ++ [y]) = wyF i k x r ++ [if i / 2 ^ (k + r.length) % 2 = 0 then clF i k x r ++ y else y ++ clF i k x r]
  | [], k, x => rfl
  | z :: r, k, x => by
    show _ :: wyF i (k + 1) _ (r ++ [y]) = _
    rw [wyF_snoc i y r (k + 1), List.length_cons, show k + 1 + r.length = k + (r.length + 1) by omega]
    rfl
/-- Way answers the texts and what comes out. -/
def WyR (i : Nat) (leaf : ByteArray) (xs : List ByteArray) (e : Ending) (w' : World) : Prop := ∃ a c, e = .returned (.tuple #[.slice a (wyF i 0 leaf xs).length c, .string (clF i 0 leaf xs)]) ∧ (wyF i 0 leaf xs).length ≤ c ∧ slS w'.heap.size w' a (wyF i 0 leaf xs)

set_option maxRecDepth 20000 in
set_option maxHeartbeats 4000000 in
theorem rway_any (leaf : ByteArray) (hlf : leaf.size = 32) (xs : List ByteArray) (h64 : xs.length ≤ 64) (h32 : ∀ x ∈ xs, x.size = 32) (i : Nat) (hi : i < 18446744073709551616) (a : Option Addr) (c n : Nat) (w : World) (hn : n ≤ w.heap.size) (hp : slS n w a xs) :
    Calls Tryd.prog 23 #[.string leaf, .slice a xs.length c, .int .u64 (i : Int)] w fun e w' => WyR i leaf xs e w' ∧ Below w.heap.size w w' := by
  obtain ⟨i0, hi0, hz0, hz1, hz2⟩ := info_parts info_str8
  obtain ⟨N, hN⟩ : ∃ N, xs.length = N := ⟨_, rfl⟩
  have HN : Hid (xs.length = N) := hN
  have H32 : Hid (∀ x ∈ xs, x.size = 32) := h32
  rw [hN] at h64 ⊢
  clear hN h32
  obtain ⟨z, hz⟩ : ∃ z, w.heap.size = z := ⟨_, rfl⟩
  have B0 : Below z w w := Below.refl _ _
  rw [hz] at hn ⊢
  have hz' : z ≤ w.heap.size := by omega
  clear hz
  go_enter Tryd.func23, Tryd.ntmps23
  go_wp2_with fail
  go_loopg [8, 9, 10, 11] N (fun gk v x i' s' wr => ∃ (k : Nat) (y : ByteArray), k + gk = N ∧ i' = .int .i64 (k : Int) ∧ x = .string y ∧ Hid (y = clF i 0 leaf (xs.take k)) ∧ y.size = 32 ∧ Below z w wr ∧ z ≤ wr.heap.size ∧ wr.ownsRow z 9 1 v k ((wyF i 0 leaf (xs.take k)).map .string))
  case atStart => exact ⟨0, leaf, by omega, rfl, rfl, rfl, hlf, B0, hz', World.ownsRow_nil _ _ _ _⟩
  case round =>
    clear B0
    obtain ⟨k, y, hk, rfl, rfl, HY, hyz, BW, hzw, hown⟩ := hrel
    have hr3 : ∀ b, u8.ownBlock = some b → z ≤ b := fun b hb => (hown.lt b hb).1
    by_cases hlt : k < N
    · have l0 : (k : Int) < N := by omega
      obtain ⟨x, hx⟩ : ∃ x, xs[k]? = some x := ⟨xs[k]'(by have := HN.out; omega), List.getElem?_eq_getElem (by have := HN.out; omega)⟩
      obtain ⟨b, o, rfl, hb, c0⟩ := slS_at hp k x hx
      replace c0 := (BW.cell (p := ⟨b, _, none⟩) (by show b < z; omega)).trans c0
      have hx32 := H32.out x (List.mem_of_getElem? hx)
      have wk : IntKind.i64.wrap ((k : Int) + 1) = ((k + 1 : Nat) : Int) := by rw [IntKind.wrap_i64]; omega
      have hmk2 : min k 64 = k := by omega
      obtain ⟨M, hM⟩ : ∃ M, i / 2 ^ k = M := ⟨_, rfl⟩
      have hMq : M < 18446744073709551616 := by rw [← hM]; exact Nat.lt_of_le_of_lt (Nat.div_le_self _ _) hi
      have hMi : (i : Int) / 2 ^ k = (M : Int) := by rw [← hM]; simp
      have hand := and_bit8 M hMq
      have htk : xs.take (k + 1) = xs.take k ++ [x] := by rw [List.take_add_one, hx]; rfl
      have hlk : (xs.take k).length = k := by rw [List.length_take, HN.out]; omega
      have HT : Hid (clF i 0 leaf (xs.take (k + 1)) = (if M % 2 = 0 then hs y x else hs x y) ∧ wyF i 0 leaf (xs.take (k + 1)) = wyF i 0 leaf (xs.take k) ++ [if M % 2 = 0 then y ++ x else x ++ y]) := by
        show _ ∧ _
        rw [htk, clF_snoc, wyF_snoc, Nat.zero_add, hlk, hM, HY.out]
        exact ⟨rfl, rfl⟩
      have z1 : ¬ 9223372036854775807 < y.size + x.size := by omega
      have z2 : ¬ 9223372036854775807 < x.size + y.size := by omega
      have K1 : Hid (∀ w : World, _) := fun w : World => rsum_any (y ++ x) (by rw [ByteArray.size_append]; omega) w
      have K2 : Hid (∀ w : World, _) := fun w : World => rsum_any (x ++ y) (by rw [ByteArray.size_append]; omega) w
      have FIN : Hid (∀ (s : ByteArray) (v' : Value) (w3 w4 : World), (s = if M % 2 = 0 then y ++ x else x ++ y) → w3.ownsRow z 9 1 v' (k + 1) ((wyF i 0 leaf (xs.take k)).map .string ++ [.string s]) → (wr.alloc (.cells #[.string s] 9)).grownBy w3 u8.ownBlock → Below w3.heap.size w3 w4 →
          (∃ (k' : Nat) (y' : ByteArray), k' + (gk - 1) = N ∧ Value.int .i64 (((k : Nat) : Int) + 1) = .int .i64 (k' : Int) ∧ Value.string (sumOf s) = .string y' ∧ Hid (y' = clF i 0 leaf (xs.take k')) ∧ y'.size = 32 ∧ Below z w w4 ∧ z ≤ w4.heap.size ∧ w4.ownsRow z 9 1 v' k' ((wyF i 0 leaf (xs.take k')).map .string))) := fun s v' w3 w4 hs0 ho hg hb4 => by
        have hz3 : z ≤ w3.heap.size := Nat.le_trans (by simp; omega) hg.size
        refine ⟨k + 1, sumOf s, by omega, by congr 1, rfl, ?_, sum_size _, belowStep ((BW.alloc hzw _).grown hg (by simp; omega) (fun b hb => hr3 b hb)) hz3 hb4, Nat.le_trans hz3 hb4.size, ?_⟩
        · show _ = _
          rw [HT.out.1, hs0]
          split <;> rfl
        · rw [HT.out.2, ← hs0, List.map_append]
          exact owns_below8 ho hb4
      clear htk hlk hM
      by_cases hev : M % 2 = 0
      · rw [hev] at hand
        have HS : Hid (y ++ x = if M % 2 = 0 then y ++ x else x ++ y) := by show _ = _; rw [if_pos hev]
        clear HT
        go_wp2_with (at_builtin; refine wpList_append_own _ rfl _ _ 28 rfl z 9 i0 (.string ⟨#[]⟩) 1 16 Tryd.underlying28 hi0 hz0 hz1 hz2 rfl (by decide) _ _ _ rfl (owns_below8 hown ((Below.refl _ wr).alloc (Nat.le_refl _) _)) ⟨wr.heap.size, 0, none⟩ 1 1 [.string (y ++ x)] rfl rfl (one_new' _ _ _) (by intro u hu; simp at hu; subst hu; rfl) (by unfold maxLen; omega) (by omega) (by simp; omega) ?_; intro v' w3 hown' hgrow hiff; clear hiff)
        refine (K1.out _).mono ?_
        rintro e w4 ⟨rfl, B4⟩
        have HF : Hid _ := FIN.out (y ++ x) v' w3 w4 HS.out hown' hgrow B4
        clear hown' hgrow B4 FIN
        go_wp2
        go_roundg (gk - 1)
        case measure => omega
        case rel => exact HF.out
      · have hod : M % 2 = 1 := by omega
        rw [hod] at hand
        have HS : Hid (x ++ y = if M % 2 = 0 then y ++ x else x ++ y) := by show _ = _; rw [if_neg hev]
        clear HT
        go_wp2_with (at_builtin; refine wpList_append_own _ rfl _ _ 28 rfl z 9 i0 (.string ⟨#[]⟩) 1 16 Tryd.underlying28 hi0 hz0 hz1 hz2 rfl (by decide) _ _ _ rfl (owns_below8 hown ((Below.refl _ wr).alloc (Nat.le_refl _) _)) ⟨wr.heap.size, 0, none⟩ 1 1 [.string (x ++ y)] rfl rfl (one_new' _ _ _) (by intro u hu; simp at hu; subst hu; rfl) (by unfold maxLen; omega) (by omega) (by simp; omega) ?_; intro v' w3 hown' hgrow hiff; clear hiff)
        refine (K2.out _).mono ?_
        rintro e w4 ⟨rfl, B4⟩
        have HF : Hid _ := FIN.out (x ++ y) v' w3 w4 HS.out hown' hgrow B4
        clear hown' hgrow B4 FIN
        go_wp2
        go_roundg (gk - 1)
        case measure => omega
        case rel => exact HF.out
    · obtain rfl : k = N := by omega
      have l0 : ¬ (k : Int) < k := by omega
      rw [List.take_of_length_le (by rw [HN.out]; exact Nat.le_refl _)] at hown
      have hlen : (wyF i 0 leaf xs).length = k := by rw [wyF_len]; exact HN.out
      rw [← hlen] at hown
      obtain ⟨a', c', rfl, hsl⟩ := slS_owns hown
      have hc := owns_cap hown
      have HF : Hid (_ ∧ _ ∧ _ ∧ _) := ⟨hc, hsl, BW, (show y = clF i 0 leaf xs by rw [HY.out, List.take_of_length_le (by rw [HN.out]; exact Nat.le_refl _)])⟩
      clear hown hsl BW hc
      go_wp2
      refine bodyPost_ret (v := .tuple #[.slice a' k c', .string y]) (by simp [results, Tryd.results23, go_sem]) rfl ⟨⟨a', c', ?_, HF.out.1, HF.out.2.1⟩, HF.out.2.2.1⟩
      rw [HF.out.2.2.2, hlen]

set_option maxRecDepth 20000 in
set_option maxHeartbeats 4000000 in
theorem rcheck_any (leaf : ByteArray) (xs : List ByteArray) (i : Nat) (hi : i < 18446744073709551616) (root : ByteArray) (a : Option Addr) (c n : Nat) (w : World) (hn : n ≤ w.heap.size) (hp : slS n w a xs) :
    Calls Tryd.prog 22 #[.string leaf, .slice a xs.length c, .int .u64 (i : Int), .string root] w fun e w' => e = .returned (.bool (chk leaf xs i root)) ∧ Below w.heap.size w w' := by
  obtain ⟨N, hN⟩ : ∃ N, xs.length = N := ⟨_, rfl⟩
  have HN : Hid (xs.length = N) := hN
  have HNO : Hid (¬ (N ≤ 64 ∧ i < 2 ^ N ∧ leaf.size = 32 ∧ root.size = 32) → chk leaf xs i root = false) := fun h => chk_no (by rw [hN]; exact h)
  rw [hN]
  obtain ⟨z, hz⟩ : ∃ z, w.heap.size = z := ⟨_, rfl⟩
  have B0 : Below z w w := Below.refl _ _
  rw [hz] at hn ⊢
  have hz' : z ≤ w.heap.size := by omega
  have HZ : Hid (w.heap.size = z) := hz
  clear hz
  by_cases hlf : leaf.size = 32
  · have l1 : (leaf.size : Int) = 32 := by omega
    by_cases hrt : root.size = 32
    · have l2 : (root.size : Int) = 32 := by omega
      by_cases h64 : 64 < N
      · have l0 : (64 : Int) < N := by omega
        have HX : Hid _ := HNO.out (by omega)
        go_enter Tryd.func22, Tryd.ntmps22
        go_wp2
        go_ret
        exact ⟨by rw [HX.out]; rfl, B0⟩
      · have l0 : ¬ (64 : Int) < N := by omega
        have hmin : min N 64 = N := by omega
        have l64 : (N : Int) ≤ 64 := by omega
        obtain ⟨q, hq⟩ : ∃ q, i / 2 ^ N = q := ⟨_, rfl⟩
        have hqi : (i : Int) / 2 ^ N = (q : Int) := by rw [← hq]; simp
        by_cases hiq : i < 2 ^ N
        · obtain rfl : q = 0 := by rw [← hq]; exact Nat.div_eq_of_lt hiq
          have hqi0 : (i : Int) / 2 ^ N = 0 := by rw [hqi]; rfl
          clear hq hqi HNO
          go_enter Tryd.func22, Tryd.ntmps22
          by_cases hN64 : N < 64
          · have l5 : (N : Int) < 64 := by omega
            go_wp2_with fail
            go_loopg [9] N (fun gk i' wr => ∃ k : Nat, k + gk = N ∧ i' = .int .i64 (k : Int) ∧ Hid (∀ (j : Nat) (x : ByteArray), j < k → xs[j]? = some x → x.size = 32) ∧ Below z w wr)
            case atStart => exact ⟨0, by omega, rfl, (fun j x h => by omega), B0⟩
            case round =>
              clear B0
              obtain ⟨k, hk, rfl, HA, BW⟩ := hrel
              have hzw : z ≤ wr.heap.size := by have := BW.size; have := HZ.out; omega
              by_cases hlt : k < N
              · have lk : (k : Int) < N := by omega
                obtain ⟨x, hx⟩ : ∃ x, xs[k]? = some x := ⟨xs[k]'(by have := HN.out; omega), List.getElem?_eq_getElem (by have := HN.out; omega)⟩
                obtain ⟨b, o, rfl, hb, c0⟩ := slS_at hp k x hx
                replace c0 := (BW.cell (p := ⟨b, _, none⟩) (by show b < z; omega)).trans c0
                have wk : IntKind.i64.wrap ((k : Int) + 1) = ((k + 1 : Nat) : Int) := by rw [IntKind.wrap_i64]; omega
                by_cases hx32 : x.size = 32
                · have lx : (x.size : Int) = 32 := by omega
                  have HA2 : Hid (∀ (j : Nat) (x : ByteArray), j < k + 1 → xs[j]? = some x → x.size = 32) := fun j x' hj hx' => by
                    by_cases e : j = k
                    · subst e
                      rw [hx] at hx'
                      cases hx'
                      exact hx32
                    · exact HA.out j x' (by omega) hx'
                  go_wp2
                  go_roundg (gk - 1)
                  case measure => omega
                  case rel => exact ⟨k + 1, by omega, by first | rfl | (congr 1; omega), HA2, BW⟩
                · have lx : ¬ (x.size : Int) = 32 := by omega
                  have HX : Hid (chk leaf xs i root = false) := decide_eq_false fun h => hx32 (h.2.2.2.2.1 x (List.mem_of_getElem? hx))
                  go_wp2
                  go_ret
                  exact ⟨by rw [HX.out]; rfl, BW⟩
              · obtain rfl : k = N := by omega
                have lk : ¬ (k : Int) < k := by omega
                have h32 : ∀ x ∈ xs, x.size = 32 := fun x hx => by
                  obtain ⟨j, hj⟩ := List.mem_iff_getElem?.1 hx
                  exact HA.out j x (by have := (List.getElem?_eq_some_iff.1 hj).1; have := HN.out; omega) hj
                have HC : Hid (chk leaf xs i root = decide (clF i 0 leaf xs = root)) := by
                  show _ = _
                  rw [Bool.eq_iff_iff, chk, decide_eq_true_iff, decide_eq_true_iff]
                  exact ⟨fun h => h.2.2.2.2.2, fun h => ⟨by have := HN.out; omega, by rw [HN.out]; exact hiq, hlf, hrt, h32, h⟩⟩
                have KW := rway_any leaf hlf xs (by have := HN.out; omega) h32 i hi a c n wr (by omega) (slS_below (BW.mono hn) hp)
                rw [HN.out] at KW
                obtain ⟨y, hy⟩ : ∃ y, clF i 0 leaf xs = y := ⟨_, rfl⟩
                unfold WyR at KW
                rw [hy] at KW HC
                clear hy
                go_wp2_with fail
                refine KW.mono ?_
                rintro e w4 ⟨⟨a', c', rfl, -, -⟩, B4⟩
                have BW4 := belowStep BW hzw B4
                clear KW BW B4
                by_cases hyr : y = root
                · subst hyr
                  go_wp2
                  go_ret
                  exact ⟨by rw [HC.out]; simp, BW4⟩
                · have hne : (y.toList == root.toList) = false := by rw [beq_eq_false_iff_ne]; exact fun e => hyr (toList_inj e)
                  go_wp2
                  go_ret
                  exact ⟨by rw [HC.out, decide_eq_false hyr]; rfl, BW4⟩
          · have l5 : ¬ (N : Int) < 64 := by omega
            go_wp2_with fail
            go_loopg [9] N (fun gk i' wr => ∃ k : Nat, k + gk = N ∧ i' = .int .i64 (k : Int) ∧ Hid (∀ (j : Nat) (x : ByteArray), j < k → xs[j]? = some x → x.size = 32) ∧ Below z w wr)
            case atStart => exact ⟨0, by omega, rfl, (fun j x h => by omega), B0⟩
            case round =>
              clear B0
              obtain ⟨k, hk, rfl, HA, BW⟩ := hrel
              have hzw : z ≤ wr.heap.size := by have := BW.size; have := HZ.out; omega
              by_cases hlt : k < N
              · have lk : (k : Int) < N := by omega
                obtain ⟨x, hx⟩ : ∃ x, xs[k]? = some x := ⟨xs[k]'(by have := HN.out; omega), List.getElem?_eq_getElem (by have := HN.out; omega)⟩
                obtain ⟨b, o, rfl, hb, c0⟩ := slS_at hp k x hx
                replace c0 := (BW.cell (p := ⟨b, _, none⟩) (by show b < z; omega)).trans c0
                have wk : IntKind.i64.wrap ((k : Int) + 1) = ((k + 1 : Nat) : Int) := by rw [IntKind.wrap_i64]; omega
                by_cases hx32 : x.size = 32
                · have lx : (x.size : Int) = 32 := by omega
                  have HA2 : Hid (∀ (j : Nat) (x : ByteArray), j < k + 1 → xs[j]? = some x → x.size = 32) := fun j x' hj hx' => by
                    by_cases e : j = k
                    · subst e
                      rw [hx] at hx'
                      cases hx'
                      exact hx32
                    · exact HA.out j x' (by omega) hx'
                  go_wp2
                  go_roundg (gk - 1)
                  case measure => omega
                  case rel => exact ⟨k + 1, by omega, by first | rfl | (congr 1; omega), HA2, BW⟩
                · have lx : ¬ (x.size : Int) = 32 := by omega
                  have HX : Hid (chk leaf xs i root = false) := decide_eq_false fun h => hx32 (h.2.2.2.2.1 x (List.mem_of_getElem? hx))
                  go_wp2
                  go_ret
                  exact ⟨by rw [HX.out]; rfl, BW⟩
              · obtain rfl : k = N := by omega
                have lk : ¬ (k : Int) < k := by omega
                have h32 : ∀ x ∈ xs, x.size = 32 := fun x hx => by
                  obtain ⟨j, hj⟩ := List.mem_iff_getElem?.1 hx
                  exact HA.out j x (by have := (List.getElem?_eq_some_iff.1 hj).1; have := HN.out; omega) hj
                have HC : Hid (chk leaf xs i root = decide (clF i 0 leaf xs = root)) := by
                  show _ = _
                  rw [Bool.eq_iff_iff, chk, decide_eq_true_iff, decide_eq_true_iff]
                  exact ⟨fun h => h.2.2.2.2.2, fun h => ⟨by have := HN.out; omega, by rw [HN.out]; exact hiq, hlf, hrt, h32, h⟩⟩
                have KW := rway_any leaf hlf xs (by have := HN.out; omega) h32 i hi a c n wr (by omega) (slS_below (BW.mono hn) hp)
                rw [HN.out] at KW
                obtain ⟨y, hy⟩ : ∃ y, clF i 0 leaf xs = y := ⟨_, rfl⟩
                unfold WyR at KW
                rw [hy] at KW HC
                clear hy
                go_wp2_with fail
                refine KW.mono ?_
                rintro e w4 ⟨⟨a', c', rfl, -, -⟩, B4⟩
                have BW4 := belowStep BW hzw B4
                clear KW BW B4
                by_cases hyr : y = root
                · subst hyr
                  go_wp2
                  go_ret
                  exact ⟨by rw [HC.out]; simp, BW4⟩
                · have hne : (y.toList == root.toList) = false := by rw [beq_eq_false_iff_ne]; exact fun e => hyr (toList_inj e)
                  go_wp2
                  go_ret
                  exact ⟨by rw [HC.out, decide_eq_false hyr]; rfl, BW4⟩
        · have hq1 : 0 < q := by rw [← hq]; exact Nat.div_pos (by omega) (Nat.two_pow_pos N)
          have hN64 : N < 64 := by
            rcases Nat.lt_or_ge N 64 with h | h
            · exact h
            · exfalso
              have : N = 64 := by omega
              subst this
              exact hiq (by omega)
          have l5 : (N : Int) < 64 := by omega
          have l6 : ¬ (q : Int) = 0 := by omega
          have l7 : ((q : Int) == 0) = false := by rw [beq_eq_false_iff_ne]; exact l6
          have HX : Hid _ := HNO.out (by omega)
          go_enter Tryd.func22, Tryd.ntmps22
          go_wp2
          go_ret
          exact ⟨by rw [HX.out]; rfl, B0⟩
    · have l2 : ¬ (root.size : Int) = 32 := by omega
      have HX : Hid _ := HNO.out (by omega)
      go_enter Tryd.func22, Tryd.ntmps22
      go_wp2
      go_ret
      exact ⟨by rw [HX.out]; rfl, B0⟩
  · have l1 : ¬ (leaf.size : Int) = 32 := by omega
    have HX : Hid _ := HNO.out (by omega)
    go_enter Tryd.func22, Tryd.ntmps22
    go_wp2
    go_ret
    exact ⟨by rw [HX.out]; rfl, B0⟩

set_option maxRecDepth 20000 in
set_option maxHeartbeats 4000000 in
theorem schecks_any (leaf : ByteArray) (xs : List ByteArray) (a : Option Addr) (c : Nat) (i : Int) (root : ByteArray) (w : World) (hl : Laid w) (hp : slS w.heap.size w a xs) (hi : 0 ≤ i ∧ i < 18446744073709551616) :
    Calls Tryd.prog 6 #[.string leaf, .slice a xs.length c, .int .u64 i, .string root] w fun e w' => e = .returned (.bool true) ∧ Below w.heap.size w w' := by
  obtain ⟨I, rfl⟩ : ∃ I : Nat, i = (I : Int) := ⟨i.toNat, by omega⟩
  have K1 : ∀ W : World, Below w.heap.size w W → _ := fun W hB => check_any leaf xs I (by omega) root a c w.heap.size W (hl.below hB) hB.size (slS_below hB hp)
  have K2 : ∀ W : World, Below w.heap.size w W → _ := fun W hB => rcheck_any leaf xs I (by omega) root a c w.heap.size W hB.size (slS_below hB hp)
  obtain ⟨q, hq⟩ : ∃ q, chk leaf xs I root = q := ⟨_, rfl⟩
  rw [hq] at K1 K2
  obtain ⟨N, hN⟩ : ∃ N, xs.length = N := ⟨_, rfl⟩
  rw [hN] at K1 K2 ⊢
  have HK : Hid (_ ∧ _) := ⟨K1, K2⟩
  clear K1 K2 hq
  go_enter Tryd.func6, Tryd.ntmps6
  go_wp2_with fail
  refine (shown8_any w hl).mono ?_
  rintro e w1 ⟨rfl, B1⟩
  go_wp2_with fail
  refine (HK.out.1 _ B1).mono ?_
  rintro e w2 ⟨rfl, B2⟩
  have BW2 := belowStep B1 B1.size B2
  go_wp2_with fail
  refine (HK.out.2 _ BW2).mono ?_
  rintro e w3 ⟨rfl, B3⟩
  have BW3 := belowStep BW2 BW2.size B3
  clear B1 B2 B3 BW2
  cases q with
  | false =>
    go_wp2
    go_ret
    exact ⟨rfl, BW3⟩
  | true =>
    go_wp2
    go_ret
    exact ⟨rfl, BW3⟩
end Go.Proofs.YtmemfdpfbeijeaaDoor
