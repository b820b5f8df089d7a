/- Lemmas: The reference's Sums and Clash; the law SszSound, walked. Clash. -/
import Derived.Test.YtmefanagpkbjeaaDoorM1
import Derived.Test.YtmefanagpkbjeaaDoorM10
import Derived.Test.YtmefanagpkbjeaaDoorM11
import Derived.Test.YtmefanagpkbjeaaDoorM12
import Derived.Test.YtmefanagpkbjeaaDoorM13
import Derived.Test.YtmefanagpkbjeaaDoorM14
import Derived.Test.YtmefanagpkbjeaaDoorM15
import Derived.Test.YtmefanagpkbjeaaDoorM16
import Derived.Test.YtmefanagpkbjeaaDoorM17
import Derived.Test.YtmefanagpkbjeaaDoorM18
import Derived.Test.YtmefanagpkbjeaaDoorM19
import Derived.Test.YtmefanagpkbjeaaDoorM2
import Derived.Test.YtmefanagpkbjeaaDoorM20
import Derived.Test.YtmefanagpkbjeaaDoorM21
import Derived.Test.YtmefanagpkbjeaaDoorM22
import Derived.Test.YtmefanagpkbjeaaDoorM23
import Derived.Test.YtmefanagpkbjeaaDoorM3
import Derived.Test.YtmefanagpkbjeaaDoorM4
import Derived.Test.YtmefanagpkbjeaaDoorM6
import Derived.Test.YtmefanagpkbjeaaDoorM7
import Derived.Test.YtmefanagpkbjeaaDoorM8
import Derived.Test.YtmefanagpkbjeaaDoorM9
import Derived.Test.YtmefanagpkbjeaaDoorRows
namespace Go.Proofs.YtmefanagpkbjeaaDoor
open Go.RowKit Go.Shelf Go.Sort

/-- The texts that are summed up at a height; all of them. -/
def smL (xs : List ByteArray) (D up : Nat) : List ByteArray := (List.range (2 ^ (D - up) / 2)).map fun j => lf (lvs xs) up (2 * j) ++ lf (lvs xs) up (2 * j + 1)
def smA (xs : List ByteArray) (D : Nat) : Nat → List ByteArray
  | 0 => []
  | k + 1 => smA xs D k ++ smL xs D k
/-- Two texts of a list are unlike, and have one sum. -/
def ClashP (l : List ByteArray) : Prop := ∃ s ∈ l, ∃ t ∈ l, s ≠ t ∧ sumOf s = sumOf t
theorem smA_mem (xs : List ByteArray) (D : Nat) : ∀ n k j, k < n → j < 2 ^ (D - k) / 2 → lf (lvs xs) k (2 * j) ++ lf (lvs xs) k (2 * j + 1) ∈ smA xs D n
  | 0, k, _, h, _ => by omega
  | n + 1, k, j, h, hj => by
    show _ ∈ smA xs D n ++ smL xs D n
    by_cases e : k = n
    · subst e
      exact List.mem_append_right _ (List.mem_map.2 ⟨j, List.mem_range.2 hj, rfl⟩)
    · exact List.mem_append_left _ (smA_mem xs D n k j (by omega) hj)
theorem app_inj {a b c d : ByteArray} (h : a ++ b = c ++ d) (hz : a.size = c.size) : a = c ∧ b = d := by
  have h1 : a.data.toList ++ b.data.toList = c.data.toList ++ d.data.toList := by
    have := congrArg (fun t : ByteArray => t.data.toList) h
    simpa using this
  have h2 : a.data.toList.length = c.data.toList.length := by simpa using hz
  obtain ⟨e1, e2⟩ := List.append_inj h1 h2
  have f : ∀ x y : ByteArray, x.data.toList = y.data.toList → x = y := fun x y e => by
    cases x
    cases y
    exact congrArg ByteArray.mk (Array.toList_inj.1 e)
  exact ⟨f _ _ e1, f _ _ e2⟩
/-- What leads to a tree's text is the tree's, or two texts clash. -/
theorem sound (xs : List ByteArray) (h32 : ∀ x ∈ xs, x.size = 32) (D i : Nat) : ∀ (r : List ByteArray) (k : Nat) (x : ByteArray), k + r.length = D → i < 2 ^ D → x.size = 32 → (∀ y ∈ r, y.size = 32) → clF i k x r = lf (lvs xs) D 0 →
    x = lf (lvs xs) k (i / 2 ^ k) ∨ ClashP (smA xs D D ++ wyF i k x r)
  | [], k, x, hk, hi, _, _, h => by
    simp only [List.length_nil, Nat.add_zero] at hk
    subst hk
    rw [Nat.div_eq_of_lt hi]
    exact .inl h
  | y :: r, k, x, hk, hi, hx, hr, h => by
    rw [List.length_cons] at hk
    have hy := hr y List.mem_cons_self
    have hz := lf_size (lvs xs) (lvs_size xs h32)
    obtain ⟨s, hs0⟩ : ∃ s, (if i / 2 ^ k % 2 = 0 then x ++ y else y ++ x) = s := ⟨_, rfl⟩
    have hss : (if i / 2 ^ k % 2 = 0 then hs x y else hs y x) = sumOf s := by
      rw [← hs0]
      split <;> rfl
    have ih := sound xs h32 D i r (k + 1) (if i / 2 ^ k % 2 = 0 then hs x y else hs y x) (by omega) hi (by split <;> exact hs_size _ _) (fun t ht => hr t (List.mem_cons_of_mem _ ht)) h
    rw [wyF, hs0]
    rcases ih with h1 | ⟨u, hu, t, ht, hne, he⟩
    · rw [hss] at h1
      have hd : i / 2 ^ (k + 1) = i / 2 ^ k / 2 := by rw [Nat.pow_succ, Nat.div_div_eq_div_mul]
      rw [hd] at h1
      obtain ⟨m, hm⟩ : ∃ m, i / 2 ^ k = m := ⟨_, rfl⟩
      rw [hm] at h1 hs0 ⊢
      have h2 : sumOf s = sumOf (lf (lvs xs) k (2 * (m / 2)) ++ lf (lvs xs) k (2 * (m / 2) + 1)) := h1
      by_cases e : s = lf (lvs xs) k (2 * (m / 2)) ++ lf (lvs xs) k (2 * (m / 2) + 1)
      · refine .inl ?_
        rw [← hs0] at e
        by_cases hev : m % 2 = 0
        · rw [if_pos hev] at e
          have := (app_inj e (by rw [hx, hz])).1
          rw [this, show 2 * (m / 2) = m by omega]
        · rw [if_neg hev] at e
          have := (app_inj e (by rw [hy, hz])).2
          rw [this, show 2 * (m / 2) + 1 = m by omega]
      · refine .inr ⟨s, List.mem_append_right _ List.mem_cons_self, _, List.mem_append_left _ (smA_mem xs D D k (m / 2) (by omega) ?_), e, h2⟩
        have hml : m < 2 ^ (D - k) := by
          rw [← hm]
          apply Nat.div_lt_of_lt_mul
          rw [← Nat.pow_add, show k + (D - k) = D by omega]
          exact hi
        have hle : 2 ^ (D - k) % 2 = 0 := by rw [show D - k = (D - k - 1) + 1 by omega, Nat.pow_succ]; omega
        omega
    · refine .inr ⟨u, ?_, t, ?_, hne, he⟩
      · rcases List.mem_append.1 hu with h' | h'
        · exact List.mem_append_left _ h'
        · rw [hss] at h'
          exact List.mem_append_right _ (List.mem_cons_of_mem _ (by rw [hss]; exact h'))
      · rcases List.mem_append.1 ht with h' | h'
        · exact List.mem_append_left _ h'
        · rw [hss] at h'
          exact List.mem_append_right _ (List.mem_cons_of_mem _ (by rw [hss]; exact h'))
end Go.Proofs.YtmefanagpkbjeaaDoor
namespace Go.Proofs.YtmefanagpkbjeaaDoor
open Go.RowKit Go.Shelf Go.Sort

/-- Texts' digests, as cells. -/
def sumV (xs : List ByteArray) : List Value := (xs.map sumOf).map .string
/-- Have two unlike texts of some one digest? -/
def clB (xs : List ByteArray) : Bool := xs.any fun x => xs.any fun y => decide (x ≠ y ∧ sumOf x = sumOf y)
set_option maxRecDepth 20000 in
set_option maxHeartbeats 1000000 in
theorem clash_any (xs : List ByteArray) (hx : xs.length ≤ 1000000) (hb : ∀ x ∈ xs, x.size ≤ 100000) (a : Option Addr) (c n : Nat) (w : World) (hn : n ≤ w.heap.size) (h1 : slS n w a xs) :
    Calls Tryd.prog 28 #[.slice a xs.length c] w fun e w' => e = .returned (.bool (clB xs)) ∧ Below w.heap.size w w' := by
  obtain ⟨i0, hi0, hz0, hz1, hz2⟩ := info_parts info_str8
  obtain ⟨N, hN⟩ : ∃ N, xs.length = N := ⟨_, rfl⟩
  have HN : Hid (xs.length = N) := hN
  rw [hN] at hx ⊢
  clear hN
  obtain ⟨q, hq⟩ : ∃ q, clB xs = q := ⟨_, rfl⟩
  have HQ : Hid _ := hq
  rw [hq]
  clear hq
  obtain ⟨z, hz⟩ : ∃ z, w.heap.size = z := ⟨_, rfl⟩
  rw [hz] at hn ⊢
  have B0 : Below z w w := by rw [← hz]; exact Below.refl _ _
  have HZ : Hid _ := hz
  clear hz
  go_enter Tryd.func28, Tryd.ntmps28
  go_wp2_with fail
  go_loopg [3, 4] N (fun gk v i wr => ∃ k : Nat, k + gk = N ∧ i = .int .i64 k ∧ Below z w wr ∧ z ≤ wr.heap.size ∧ wr.ownsRow z 9 1 v k (sumV (xs.take k)))
  case atStart => exact ⟨0, by omega, rfl, B0, by have := HZ.out; omega, World.ownsRow_nil _ _ _ _⟩
  case round =>
    clear B0
    obtain ⟨k, hk, rfl, BW, hzw, hown⟩ := hrel
    have hr3 : ∀ b, u3.ownBlock = some b → z ≤ b := fun b hb => (hown.lt b hb).1
    by_cases hlt : k < N
    · have l1 : (k : Int) < N := by omega
      obtain ⟨x, hxk⟩ : ∃ f, xs[k]? = some f := ⟨xs[k]'(by have := HN.out; omega), List.getElem?_eq_getElem (by have := HN.out; omega)⟩
      have hxb := hb x (List.mem_of_getElem? hxk)
      obtain ⟨b, o, rfl, hbn, c0⟩ := slS_at h1 k x hxk
      replace c0 := (BW.cell (p := ⟨b, _, none⟩) (by show b < z; omega)).trans c0
      obtain ⟨r, hr⟩ : ∃ p, o + k = p := ⟨_, rfl⟩
      rw [hr] at c0
      have wk : IntKind.i64.wrap ((k : Int) + 1) = ((k + 1 : Nat) : Int) := by rw [IntKind.wrap_i64]; omega
      have KM := rsum_any x hxb
      obtain ⟨s, hs⟩ : ∃ s, sumOf x = s := ⟨_, rfl⟩
      rw [hs] at KM
      have hnext : sumV (xs.take (k + 1)) = sumV (xs.take k) ++ [.string s] := by
        unfold sumV
        rw [List.take_add_one, hxk, Option.toList, List.map_append, List.map_append, ← hs]
        rfl
      have HX : Hid _ := hnext
      have HO : Hid _ := hown
      clear hnext hs hxk hxb hown
      go_wp2_with fail
      refine (KM _).mono ?_
      rintro e w3 ⟨rfl, B3⟩
      clear KM c0
      have BW3 := belowStep BW hzw B3
      have A1 : Below w3.heap.size w3 (w3.alloc (.cells #[.string s] 9)) := (Below.refl _ w3).alloc (Nat.le_refl _) _
      have hnew := World.alloc_heap_new w3 (.cells #[.string s] 9)
      have hown2 := owns_below8 (owns_below8 HO.out B3) A1
      have hs0 := B3.size
      have hs1 := A1.size
      have BW4 := belowStep BW3 (Nat.le_trans hzw hs0) A1
      have HV : Hid (_ ∧ _ ∧ _) := ⟨hown2, hnew, BW4⟩
      clear A1 hnew hown2 BW BW3 BW4 B3 HO
      go_wp2_with (at_builtin; refine wpList_append_own _ rfl _ _ 27 rfl z 9 i0 (.string ⟨#[]⟩) 1 16 Tryd.underlying27 hi0 hz0 hz1 hz2 rfl (by decide) _ _ _ rfl HV.out.1 ⟨w3.heap.size, 0, none⟩ 1 1 [.string s] rfl rfl (one_new' _ _ _) (by intro u hu; simp at hu; subst hu; rfl) (by unfold maxLen; omega) (by omega) (by simp; omega) ?_)
      intro v' w6 a2 a3 a4
      have HW : Hid (_ ∧ _) := ⟨a2, a3⟩
      clear a2 a3 a4
      go_wp2
      go_roundg (gk - 1)
      case measure => omega
      case rel =>
        obtain ⟨a2, a3⟩ := HW.out
        refine ⟨k + 1, by omega, by first | rfl | (congr 1; omega), HV.out.2.2.grown a3 (by omega) (fun q e => hr3 q e), Nat.le_trans (Nat.le_trans hzw (Nat.le_trans hs0 hs1)) a3.size, ?_⟩
        rw [HX.out]
        exact a2
    · have l1 : ¬ (k : Int) < N := by omega
      obtain rfl : k = N := by omega
      rw [List.take_of_length_le (by have := HN.out; omega)] at hown
      have hlen : (xs.map sumOf).length = k := by rw [List.length_map]; exact HN.out
      have hown3 : wr.ownsRow z 9 1 u3 (xs.map sumOf).length ((xs.map sumOf).map .string) := by rw [hlen]; exact hown
      obtain ⟨a', c', rfl, hs⟩ := slS_owns hown3
      rw [hlen]
      clear hown hown3 hlen hr3
      have HWZ : Hid (_ ∧ _) := ⟨BW, hzw⟩
      have BR := Below.refl wr.heap.size wr
      obtain ⟨z2, hz2'⟩ : ∃ z2, wr.heap.size = z2 := ⟨_, rfl⟩
      rw [hz2'] at hs BR hzw
      have FIN : ∀ w8, Below z2 wr w8 → Below z w w8 := fun w8 h => belowStep HWZ.out.1 HWZ.out.2 (by rw [hz2']; exact h)
      have HFIN : Hid _ := FIN
      have SIZ : ∀ w8, Below z2 wr w8 → z2 ≤ w8.heap.size := fun w8 h => by have := h.size; omega
      have HSIZ : Hid _ := SIZ
      have CX : ∀ (j : Nat) (x : ByteArray), xs[j]? = some x → ∃ b o, a = some ⟨b, o, none⟩ ∧ b < z2 ∧ wr.cell? ⟨b, o + j, none⟩ = some (.string x) := by
        intro j x hj
        obtain ⟨b, o, e, hbn, c0⟩ := slS_at h1 j x hj
        exact ⟨b, o, e, by omega, (HWZ.out.1.cell (p := ⟨b, _, none⟩) (by show b < z; omega)).trans c0⟩
      have HCX : Hid _ := CX
      have CS : ∀ (j : Nat) (x : ByteArray), xs[j]? = some x → ∃ b o, a' = some ⟨b, o, none⟩ ∧ b < z2 ∧ wr.cell? ⟨b, o + j, none⟩ = some (.string (sumOf x)) := by
        intro j x hj
        exact slS_at hs j (sumOf x) (by rw [List.getElem?_map, hj]; rfl)
      have HCS : Hid _ := CS
      have HNX : Hid (∀ j, j < k → ∃ x, xs[j]? = some x) := fun j hj => ⟨xs[j]'(by have := HN.out; omega), List.getElem?_eq_getElem (by have := HN.out; omega)⟩
      clear hs FIN SIZ CX CS BW hz2' h1 hzw hb
      go_wp2_with fail
      go_loopg [5, 6] k (fun gk i v6 wr' => ∃ m : Nat, m + gk = k ∧ i = .int .i64 m ∧ Hid (∀ (i j : Nat) (x y : ByteArray), i < m → j < i → xs[i]? = some x → xs[j]? = some y → ¬ (x ≠ y ∧ sumOf x = sumOf y)) ∧ Below z2 wr wr')
      case atStart => exact ⟨0, by omega, rfl, (fun i j x y h => by omega), BR⟩
      case round =>
        clear BR
        obtain ⟨m, hm, rfl, hA, BW⟩ := hrel
        by_cases hlm : m < k
        · have l2 : (m : Int) < k := by omega
          obtain ⟨og, rfl⟩ : ∃ g, gk = g + 1 := ⟨gk - 1, by omega⟩
          obtain ⟨x, hxm⟩ := HNX.out m hlm
          obtain ⟨b, o, rfl, hb1, c0⟩ := HCX.out m x hxm
          obtain ⟨b2, o2, rfl, hb2, c2⟩ := HCS.out m x hxm
          obtain ⟨r, hr⟩ : ∃ p, o + m = p := ⟨_, rfl⟩
          obtain ⟨r2, hr2⟩ : ∃ p, o2 + m = p := ⟨_, rfl⟩
          rw [hr] at c0
          rw [hr2] at c2
          have wk : IntKind.i64.wrap ((m : Int) + 1) = ((m + 1 : Nat) : Int) := by rw [IntKind.wrap_i64]; omega
          obtain ⟨sx, hsx⟩ : ∃ s, sumOf x = s := ⟨_, rfl⟩
          rw [hsx] at c2
          have HX : Hid (_ ∧ _) := ⟨hxm, hsx⟩
          have HC : Hid (_ ∧ _) := ⟨c0, c2⟩
          clear hxm hsx c0 c2
          go_wp2_with fail
          go_loopg [6] m (fun gm v6 wr' => ∃ j : Nat, j + gm = m ∧ v6 = .int .i64 j ∧ Hid (∀ (i : Nat) (y : ByteArray), i < j → xs[i]? = some y → ¬ (x ≠ y ∧ sumOf x = sumOf y)) ∧ Below z2 _ wr')
          case atStart => exact ⟨0, by omega, rfl, (fun i y h => by omega), BW⟩
          case round =>
            clear BW
            obtain ⟨j, hj, rfl, hA2, BW⟩ := hrel
            have hwz : z2 ≤ wr.heap.size := HSIZ.out _ BW
            by_cases hlj : j < m
            · have l3 : (j : Int) < m := by omega
              have l4 : (j : Int) < k := by omega
              obtain ⟨y, hyj⟩ := HNX.out j (by omega)
              obtain ⟨b', o', e', hb1', c1⟩ := HCX.out j y hyj
              injection e' with e'
              injection e' with e1 e2
              subst e1 e2
              obtain ⟨b2', o2', e', hb2', c3⟩ := HCS.out j y hyj
              injection e' with e'
              injection e' with e1 e2
              subst e1 e2
              obtain ⟨r', hr'⟩ : ∃ p, o + j = p := ⟨_, rfl⟩
              obtain ⟨r2', hr2'⟩ : ∃ p, o2 + j = p := ⟨_, rfl⟩
              rw [hr'] at c1
              rw [hr2'] at c3
              have wk' : IntKind.i64.wrap ((j : Int) + 1) = ((j + 1 : Nat) : Int) := by rw [IntKind.wrap_i64]; omega
              obtain ⟨sy, hsy⟩ : ∃ s, sumOf y = s := ⟨_, rfl⟩
              rw [hsy] at c3
              have HY : Hid (_ ∧ _) := ⟨hyj, hsy⟩
              clear hyj hsy
              have hbv : b < wr.heap.size := by omega
              have hbv' : b2 < wr.heap.size := by omega
              have d0 := (BW.cell (p := ⟨b, r, none⟩) (by show b < z2; omega)).trans HC.out.1
              have d1 := (BW.cell (p := ⟨b, r', none⟩) (by show b < z2; omega)).trans c1
              have d2 := (BW.cell (p := ⟨b2, r2, none⟩) (by show b2 < z2; omega)).trans HC.out.2
              have d3 := (BW.cell (p := ⟨b2, r2', none⟩) (by show b2 < z2; omega)).trans c3
              have q0 : ∀ d os, (grow (redrawn wr d) os).cell? ⟨b, r, none⟩ = some (.string x) := fun d os => ((below_regrown wr d os).cell (p := ⟨b, r, none⟩) hbv).trans d0
              have q1 : ∀ d os, (grow (redrawn wr d) os).cell? ⟨b, r', none⟩ = some (.string y) := fun d os => ((below_regrown wr d os).cell (p := ⟨b, r', none⟩) hbv).trans d1
              have q2 : ∀ d os, (grow (redrawn wr d) os).cell? ⟨b2, r2, none⟩ = some (.string sx) := fun d os => ((below_regrown wr d os).cell (p := ⟨b2, r2, none⟩) hbv').trans d2
              have q3 : ∀ d os, (grow (redrawn wr d) os).cell? ⟨b2, r2', none⟩ = some (.string sy) := fun d os => ((below_regrown wr d os).cell (p := ⟨b2, r2', none⟩) hbv').trans d3
              clear c1 c3 d0 d1 d2 d3
              by_cases e1 : x = y
              · have s1 : (x.toList == y.toList) = true := by rw [e1]; exact beq_self_eq_true _
                have HD : Hid (¬ (x ≠ y ∧ sumOf x = sumOf y)) := fun h => h.1 e1
                clear e1
                go_wp2_with fail
                refine wp_region_quiet_below (by kernel_rfl) (by kernel_rfl) ?_
                repeat (go_big_quiet_step (fail))
                refine wpQuiet_nil ?_
                intro w8 hw8
                have B8 : Below wr.heap.size wr w8 := by
                  obtain ⟨p, rfl⟩ := hw8
                  exact below_regrown _ _ _
                have BW8 := belowStep BW hwz B8
                clear hw8 q0 q1 q2 q3
                go_wp2
                go_roundg (gk - 1)
                case measure => omega
                case rel =>
                  refine ⟨j + 1, by omega, by first | rfl | (congr 1; omega), ?_, BW8⟩
                  intro i y' hi hy'
                  by_cases ei : i = j
                  · subst ei
                    rw [HY.out.1] at hy'
                    cases hy'
                    exact HD.out
                  · exact hA2.out i y' (by omega) hy'
              · have s1 : (x.toList == y.toList) = false := by rw [beq_eq_false_iff_ne]; exact fun e => e1 (toList_inj e)
                by_cases e2 : sx = sy
                · have s2 : (sx.toList == sy.toList) = true := by rw [e2]; exact beq_self_eq_true _
                  have hqt : q = true := by
                    rw [← HQ.out, clB, List.any_eq_true]
                    refine ⟨x, List.mem_of_getElem? HX.out.1, ?_⟩
                    rw [List.any_eq_true]
                    exact ⟨y, List.mem_of_getElem? HY.out.1, decide_eq_true ⟨e1, by rw [HX.out.2, HY.out.2]; exact e2⟩⟩
                  have HD : Hid (q = true) := hqt
                  clear e1 e2 hqt
                  go_wp2_with fail
                  refine wp_region_quiet_below (by kernel_rfl) (by kernel_rfl) ?_
                  repeat (go_big_quiet_step (fail))
                  refine wpQuiet_nil ?_
                  intro w8 hw8
                  have B8 : Below wr.heap.size wr w8 := by
                    obtain ⟨p, rfl⟩ := hw8
                    exact below_regrown _ _ _
                  have BW8 := belowStep BW hwz B8
                  clear hw8 q0 q1 q2 q3
                  go_wp2
                  go_ret
                  exact ⟨by rw [HD.out]; rfl, HFIN.out _ BW8⟩
                · have s2 : (sx.toList == sy.toList) = false := by rw [beq_eq_false_iff_ne]; exact fun e => e2 (toList_inj e)
                  have HD : Hid (¬ (x ≠ y ∧ sumOf x = sumOf y)) := fun h => e2 (by rw [← HX.out.2, ← HY.out.2]; exact h.2)
                  clear e1 e2
                  go_wp2_with fail
                  refine wp_region_quiet_below (by kernel_rfl) (by kernel_rfl) ?_
                  repeat (go_big_quiet_step (fail))
                  refine wpQuiet_nil ?_
                  intro w8 hw8
                  have B8 : Below wr.heap.size wr w8 := by
                    obtain ⟨p, rfl⟩ := hw8
                    exact below_regrown _ _ _
                  have BW8 := belowStep BW hwz B8
                  clear hw8 q0 q1 q2 q3
                  go_wp2
                  go_roundg (gk - 1)
                  case measure => omega
                  case rel =>
                    refine ⟨j + 1, by omega, by first | rfl | (congr 1; omega), ?_, BW8⟩
                    intro i y' hi hy'
                    by_cases ei : i = j
                    · subst ei
                      rw [HY.out.1] at hy'
                      cases hy'
                      exact HD.out
                    · exact hA2.out i y' (by omega) hy'
            · have l3 : ¬ (j : Int) < m := by omega
              go_wp2
              go_roundg og
              case measure => omega
              case rel =>
                refine ⟨m + 1, by omega, by first | rfl | (congr 1; omega), ?_, BW⟩
                intro i j' x' y' hi hj' hx' hy'
                by_cases ei : i = m
                · subst ei
                  rw [HX.out.1] at hx'
                  cases hx'
                  exact hA2.out j' y' (by omega) hy'
                · exact hA.out i j' x' y' (by omega) hj' hx' hy'
        · have l2 : ¬ (m : Int) < k := by omega
          have hqf : q = false := by
            rw [← HQ.out, clB, List.any_eq_false]
            intro x hx
            rw [Bool.not_eq_true, List.any_eq_false]
            intro y hy
            rw [Bool.not_eq_true]
            refine decide_eq_false fun h => ?_
            obtain ⟨i, hi⟩ := List.mem_iff_getElem?.1 hx
            obtain ⟨j, hj⟩ := List.mem_iff_getElem?.1 hy
            have := (List.getElem?_eq_some_iff.1 hi).1
            have := (List.getElem?_eq_some_iff.1 hj).1
            have := HN.out
            rcases Nat.lt_trichotomy i j with c | c | c
            · exact hA.out j i y x (by omega) c hj hi ⟨fun e => h.1 e.symm, h.2.symm⟩
            · subst c
              rw [hi] at hj
              exact h.1 (Option.some.inj hj)
            · exact hA.out i j x y (by omega) c hi hj h
          have HG : Hid (q = false) := hqf
          clear hqf
          go_wp2
          go_ret
          exact ⟨by rw [HG.out]; rfl, HFIN.out _ BW⟩
end Go.Proofs.YtmefanagpkbjeaaDoor
