/- Lemmas: The law HeadRoots, walked. Unlike headers have unlike roots, or two texts clash; all texts that are summed up for a header. Two ways to one root; the reference's Way and the sums of what a block did. The law HeadOne, walked. -/
import Derived.Test.YtmefanagpkbjeabDoorM1
import Derived.Test.YtmefanagpkbjeabDoorM10
import Derived.Test.YtmefanagpkbjeabDoorM11
import Derived.Test.YtmefanagpkbjeabDoorM12
import Derived.Test.YtmefanagpkbjeabDoorM13
import Derived.Test.YtmefanagpkbjeabDoorM14
import Derived.Test.YtmefanagpkbjeabDoorM15
import Derived.Test.YtmefanagpkbjeabDoorM16
import Derived.Test.YtmefanagpkbjeabDoorM17
import Derived.Test.YtmefanagpkbjeabDoorM18
import Derived.Test.YtmefanagpkbjeabDoorM19
import Derived.Test.YtmefanagpkbjeabDoorM2
import Derived.Test.YtmefanagpkbjeabDoorM20
import Derived.Test.YtmefanagpkbjeabDoorM21
import Derived.Test.YtmefanagpkbjeabDoorM3
import Derived.Test.YtmefanagpkbjeabDoorM4
import Derived.Test.YtmefanagpkbjeabDoorM6
import Derived.Test.YtmefanagpkbjeabDoorM7
import Derived.Test.YtmefanagpkbjeabDoorM8
import Derived.Test.YtmefanagpkbjeabDoorM9
import Derived.Test.YtmefanagpkbjeabDoorRows
import Derived.BigQuiet
namespace Go.Proofs.YtmefanagpkbjeabDoor
open Go.RowKit Go.Shelf Go.Sort

theorem two_boxesU (w : World) (o1 o2 : Obj) : Below w.heap.size w ((w.alloc o1).alloc o2) ∧ ((w.alloc o1).alloc o2).heap[w.heap.size]? = some o1 ∧ ((w.alloc o1).alloc o2).heap[w.heap.size + 1]? = some o2 := by
  refine ⟨((Below.refl _ w).alloc (Nat.le_refl _) _).alloc (by simp) _, (Lib.alloc_old _ _ _ (by simp)).trans (World.alloc_heap_new w _), ?_⟩
  have := World.alloc_heap_new (w.alloc o1) o2
  rwa [World.size_alloc] at this
end Go.Proofs.YtmefanagpkbjeabDoor
namespace Go.Proofs.YtmefanagpkbjeabDoor
open Go.RowKit Go.Shelf Go.Sort

theorem ClashP.mono {l m : List ByteArray} (h : ClashP l) (hs : ∀ x ∈ l, x ∈ m) : ClashP m := by
  obtain ⟨s, h1, t, h2, h3, h4⟩ := h
  exact ⟨s, hs s h1, t, hs t h2, h3, h4⟩
/-- Two trees of one root have the same leaves, or two texts clash. -/
theorem tree_apart (xs ys : List ByteArray) (hx : ∀ x ∈ xs, x.size = 32) (hy : ∀ x ∈ ys, x.size = 32) (D : Nat) : ∀ k i, k ≤ D → i < 2 ^ (D - k) → lf (lvs xs) k i = lf (lvs ys) k i →
    (∀ j, i * 2 ^ k ≤ j → j < (i + 1) * 2 ^ k → lvs xs j = lvs ys j) ∨ ClashP (smA xs D D ++ smA ys D D)
  | 0, i, _, _, h => .inl fun j h1 h2 => by
    have : j = i := by omega
    subst this
    exact h
  | k + 1, i, hk, hi, h => by
    have hz := lf_size (lvs xs) (lvs_size xs hx)
    have hw := lf_size (lvs ys) (lvs_size ys hy)
    have hp : 2 ^ (D - k) = 2 * 2 ^ (D - (k + 1)) := by rw [show D - k = D - (k + 1) + 1 by omega, Nat.pow_succ]; omega
    have h2 : sumOf (lf (lvs xs) k (2 * i) ++ lf (lvs xs) k (2 * i + 1)) = sumOf (lf (lvs ys) k (2 * i) ++ lf (lvs ys) k (2 * i + 1)) := h
    by_cases e : lf (lvs xs) k (2 * i) ++ lf (lvs xs) k (2 * i + 1) = lf (lvs ys) k (2 * i) ++ lf (lvs ys) k (2 * i + 1)
    · obtain ⟨e1, e2⟩ := app_inj e (by rw [hz, hw])
      rcases tree_apart xs ys hx hy D k (2 * i) (by omega) (by omega) e1 with h3 | h3
      · rcases tree_apart xs ys hx hy D k (2 * i + 1) (by omega) (by omega) e2 with h4 | h4
        · refine .inl fun j h5 h6 => ?_
          have e3 : 2 ^ (k + 1) = 2 * 2 ^ k := by rw [Nat.pow_succ]; omega
          rw [e3] at h5 h6
          by_cases h7 : j < (2 * i + 1) * 2 ^ k
          · refine h3 j ?_ h7
            rw [Nat.mul_assoc, Nat.mul_left_comm]
            exact h5
          · refine h4 j (by omega) ?_
            rw [show 2 * i + 1 + 1 = 2 * (i + 1) by omega, Nat.mul_assoc, Nat.mul_left_comm]
            exact h6
        · exact .inr h4
      · exact .inr h3
    · exact .inr ⟨_, List.mem_append_left _ (smA_mem xs D D k i (by omega) (by omega)), _, List.mem_append_right _ (smA_mem ys D D k i (by omega) (by omega)), e, h2⟩
theorem num_inj8 (n m : Nat) (hn : n < 18446744073709551616) (hm : m < 18446744073709551616) (h : z_numOf (n : Int) = z_numOf (m : Int)) : n = m := by
  have key : ∀ j, j < 8 → (n : Int) / 2 ^ (8 * j) % 256 = (m : Int) / 2 ^ (8 * j) % 256 := fun j hj => by
    have h1 := congrArg (fun t : ByteArray => s_bt t j) h
    simp only [z_numOf] at h1
    rw [bt_by88 _ _ (nb_bd n) j (by omega), bt_by88 _ _ (nb_bd m) j (by omega)] at h1
    unfold nbAt at h1
    rwa [if_pos hj, if_pos hj] at h1
  have k0 := key 0 (by omega)
  have k1 := key 1 (by omega)
  have k2 := key 2 (by omega)
  have k3 := key 3 (by omega)
  have k4 := key 4 (by omega)
  have k5 := key 5 (by omega)
  have k6 := key 6 (by omega)
  have k7 := key 7 (by omega)
  rw [show (2 : Int) ^ (8 * 0) = 1 from rfl] at k0
  rw [show (2 : Int) ^ (8 * 1) = 256 from rfl] at k1
  rw [show (2 : Int) ^ (8 * 2) = 65536 from rfl] at k2
  rw [show (2 : Int) ^ (8 * 3) = 16777216 from rfl] at k3
  rw [show (2 : Int) ^ (8 * 4) = 4294967296 from rfl] at k4
  rw [show (2 : Int) ^ (8 * 5) = 1099511627776 from rfl] at k5
  rw [show (2 : Int) ^ (8 * 6) = 281474976710656 from rfl] at k6
  rw [show (2 : Int) ^ (8 * 7) = 72057594037927936 from rfl] at k7
  omega
/-- Headers of one root are the same, or two texts clash. -/
theorem heads_apart (s u s' u' : Nat) (p t b p' t' b' : ByteArray) (hs : s < 18446744073709551616) (hu : u < 18446744073709551616) (hs' : s' < 18446744073709551616) (hu' : u' < 18446744073709551616)
    (h1 : ∀ x ∈ hdC s u p t b, x.size = 32) (h2 : ∀ x ∈ hdC s' u' p' t' b', x.size = 32) (h : lf (lvs (hdC s u p t b)) 3 0 = lf (lvs (hdC s' u' p' t' b')) 3 0) :
    (s = s' ∧ u = u' ∧ p = p' ∧ t = t' ∧ b = b') ∨ ClashP (smA (hdC s u p t b) 3 3 ++ smA (hdC s' u' p' t' b') 3 3) := by
  rcases tree_apart _ _ h1 h2 3 3 0 (Nat.le_refl _) (by decide) h with hj | hc
  · refine .inl ⟨num_inj8 s s' hs hs' (hj 0 (by decide) (by decide)), num_inj8 u u' hu hu' (hj 1 (by decide) (by decide)), hj 2 (by decide) (by decide), hj 3 (by decide) (by decide), hj 4 (by decide) (by decide)⟩
  · exact .inr hc
theorem execs_apart (s s' : Nat) (p t p' t' : ByteArray) (hs : s < 18446744073709551616) (hs' : s' < 18446744073709551616)
    (h1 : ∀ x ∈ exC p t s, x.size = 32) (h2 : ∀ x ∈ exC p' t' s', x.size = 32) (h : lf (lvs (exC p t s)) 2 0 = lf (lvs (exC p' t' s')) 2 0) :
    (p = p' ∧ t = t' ∧ s = s') ∨ ClashP (smA (exC p t s) 2 2 ++ smA (exC p' t' s') 2 2) := by
  rcases tree_apart _ _ h1 h2 2 2 0 (Nat.le_refl _) (by decide) h with hj | hc
  · exact .inl ⟨hj 0 (by decide) (by decide), hj 1 (by decide) (by decide), num_inj8 s s' hs hs' (hj 2 (by decide) (by decide))⟩
  · exact .inr hc
theorem eqlH (s u s' u' : Nat) (p t b p' t' b' : ByteArray) (W : World) : (binOp .eql 24 (.agg #[.int .u64 s, .int .u64 u, .string p, .string t, .string b]) (.agg #[.int .u64 s', .int .u64 u', .string p', .string t', .string b'])).run Tryd.prog W = .ok (.bool (decide (s = s' ∧ u = u' ∧ p = p' ∧ t = t' ∧ b = b'))) W := by
  by_cases h1 : s = s'
  · subst h1
    by_cases h2 : u = u'
    · subst h2
      by_cases h3 : p = p'
      · subst h3
        by_cases h4 : t = t'
        · subst h4
          by_cases h5 : b = b'
          · subst h5
            simp [go_sem]
          · have h5' : (b.toList == b'.toList) = false := by rw [beq_eq_false_iff_ne]; exact fun e => h5 (toList_inj e)
            simp [go_sem, h5, h5']
        · have h4' : (t.toList == t'.toList) = false := by rw [beq_eq_false_iff_ne]; exact fun e => h4 (toList_inj e)
          simp [go_sem, h4, h4']
      · have h3' : (p.toList == p'.toList) = false := by rw [beq_eq_false_iff_ne]; exact fun e => h3 (toList_inj e)
        simp [go_sem, h3, h3']
    · have h2' : ¬ (u : Int) = u' := by omega
      simp [go_sem, h2, h2']
  · have h1' : ¬ (s : Int) = s' := by omega
    simp [go_sem, h1, h1']
end Go.Proofs.YtmefanagpkbjeabDoor
namespace Go.Proofs.YtmefanagpkbjeabDoor
open Go.RowKit Go.Shelf Go.Sort

/-- Two ways of two steps to one root come from one leaf, or two texts clash. -/
theorem way_apart (rx ry : ByteArray) (hx : rx.size = 32) (hy : ry.size = 32) (A B : List ByteArray) (hA : A.length = 2) (hB : B.length = 2) (hA32 : ∀ x ∈ A, x.size = 32) (hB32 : ∀ x ∈ B, x.size = 32) (h : clF 2 0 rx A = clF 2 0 ry B) : rx = ry ∨ ClashP (wyF 2 0 rx A ++ wyF 2 0 ry B) := by
  match A, hA, B, hB with
  | [a0, a1], _, [b0, b1], _ =>
    have ha0 := hA32 a0 (by simp)
    have ha1 := hA32 a1 (by simp)
    have hb0 := hB32 b0 (by simp)
    have hb1 := hB32 b1 (by simp)
    have eA : clF 2 0 rx [a0, a1] = sumOf (a1 ++ sumOf (rx ++ a0)) := rfl
    have eB : clF 2 0 ry [b0, b1] = sumOf (b1 ++ sumOf (ry ++ b0)) := rfl
    have wA : wyF 2 0 rx [a0, a1] = [rx ++ a0, a1 ++ sumOf (rx ++ a0)] := rfl
    have wB : wyF 2 0 ry [b0, b1] = [ry ++ b0, b1 ++ sumOf (ry ++ b0)] := rfl
    rw [eA, eB] at h
    rw [wA, wB]
    by_cases h1 : a1 ++ sumOf (rx ++ a0) = b1 ++ sumOf (ry ++ b0)
    · obtain ⟨_, h2⟩ := app_inj h1 (by rw [ha1, hb1])
      by_cases h3 : rx ++ a0 = ry ++ b0
      · exact .inl (app_inj h3 (by rw [hx, hy])).1
      · exact .inr ⟨_, by simp, _, List.mem_append_right _ List.mem_cons_self, h3, h2⟩
    · exact .inr ⟨_, List.mem_append_left _ (List.mem_cons_of_mem _ List.mem_cons_self), _, List.mem_append_right _ (List.mem_cons_of_mem _ List.mem_cons_self), h1, h⟩
/-- Two Lights of one header. -/
theorem one_apart (s s' : Nat) (p t p' t' : ByteArray) (hs : s < 18446744073709551616) (hs' : s' < 18446744073709551616) (h1 : ∀ x ∈ exC p t s, x.size = 32) (h2 : ∀ x ∈ exC p' t' s', x.size = 32) (A B : List ByteArray) (hA : A.length = 2) (hB : B.length = 2) (hA32 : ∀ x ∈ A, x.size = 32) (hB32 : ∀ x ∈ B, x.size = 32)
    (hx : (lf (lvs (exC p t s)) 2 0).size = 32) (hy : (lf (lvs (exC p' t' s')) 2 0).size = 32) (h : clF 2 0 (lf (lvs (exC p t s)) 2 0) A = clF 2 0 (lf (lvs (exC p' t' s')) 2 0) B) :
    (p = p' ∧ t = t' ∧ s = s') ∨ ClashP ((wyF 2 0 (lf (lvs (exC p t s)) 2 0) A ++ wyF 2 0 (lf (lvs (exC p' t' s')) 2 0) B) ++ (smA (exC p t s) 2 2 ++ smA (exC p' t' s') 2 2)) := by
  rcases way_apart _ _ hx hy A B hA hB hA32 hB32 h with h | h
  · rcases execs_apart s s' p t p' t' hs hs' h1 h2 h with h | h
    · exact .inl h
    · exact .inr (h.mono fun x hx => List.mem_append_right _ hx)
  · exact .inr (h.mono fun x hx => List.mem_append_left _ hx)
theorem eqlX (s s' : Nat) (p t p' t' : ByteArray) (W : World) : (binOp .eql 26 (.agg #[.string p, .string t, .int .u64 s]) (.agg #[.string p', .string t', .int .u64 s'])).run Tryd.prog W = .ok (.bool (decide (p = p' ∧ t = t' ∧ s = s'))) W := by
  by_cases h3 : p = p'
  · subst h3
    by_cases h4 : t = t'
    · subst h4
      by_cases h1 : s = s'
      · subst h1
        simp [go_sem]
      · have h1' : ¬ (s : Int) = s' := by omega
        simp [go_sem, h1, h1']
    · have h4' : (t.toList == t'.toList) = false := by rw [beq_eq_false_iff_ne]; exact fun e => h4 (toList_inj e)
      simp [go_sem, h4, h4']
  · have h3' : (p.toList == p'.toList) = false := by rw [beq_eq_false_iff_ne]; exact fun e => h3 (toList_inj e)
    simp [go_sem, h3, h3']
/-- Way answers the texts, in a row of its own, and what comes out. -/
def WyO (z i : Nat) (leaf : ByteArray) (xs : List ByteArray) (e : Ending) (w' : World) : Prop := ∃ a c, e = .returned (.tuple #[.slice a (wyF i 0 leaf xs).length c, .string (clF i 0 leaf xs)]) ∧ z ≤ w'.heap.size ∧ w'.ownsRow z 9 1 (.slice a (wyF i 0 leaf xs).length c) (wyF i 0 leaf xs).length ((wyF i 0 leaf xs).map .string)
set_option maxRecDepth 20000 in
set_option maxHeartbeats 4000000 in
theorem rwayO_any (leaf : ByteArray) (hlf : leaf.size = 32) (xs : List ByteArray) (h64 : xs.length ≤ 64) (h32 : ∀ x ∈ xs, x.size = 32) (i : Nat) (hi : i < 18446744073709551616) (a : Option Addr) (c n : Nat) (w : World) (hn : n ≤ w.heap.size) (hp : slS n w a xs) :
    Calls Tryd.prog 7 #[.string leaf, .slice a xs.length c, .int .u64 (i : Int)] w fun e w' => WyO w.heap.size i leaf xs e w' ∧ Below w.heap.size w w' := by
  obtain ⟨i0, hi0, hz0, hz1, hz2⟩ := info_parts info_str8
  obtain ⟨N, hN⟩ : ∃ N, xs.length = N := ⟨_, rfl⟩
  have HN : Hid (xs.length = N) := hN
  have H32 : Hid (∀ x ∈ xs, x.size = 32) := h32
  rw [hN] at h64 ⊢
  clear hN h32
  obtain ⟨z, hz⟩ : ∃ z, w.heap.size = z := ⟨_, rfl⟩
  have B0 : Below z w w := Below.refl _ _
  rw [hz] at hn ⊢
  have hz' : z ≤ w.heap.size := by omega
  clear hz
  go_enter Tryd.func7, Tryd.ntmps7
  go_wp2_with fail
  go_loopg [8, 9, 10, 11] N (fun gk v x i' s' wr => ∃ (k : Nat) (y : ByteArray), k + gk = N ∧ i' = .int .i64 (k : Int) ∧ x = .string y ∧ Hid (y = clF i 0 leaf (xs.take k)) ∧ y.size = 32 ∧ Below z w wr ∧ z ≤ wr.heap.size ∧ wr.ownsRow z 9 1 v k ((wyF i 0 leaf (xs.take k)).map .string))
  case atStart => exact ⟨0, leaf, by omega, rfl, rfl, rfl, hlf, B0, hz', World.ownsRow_nil _ _ _ _⟩
  case round =>
    clear B0
    obtain ⟨k, y, hk, rfl, rfl, HY, hyz, BW, hzw, hown⟩ := hrel
    have hr3 : ∀ b, u8.ownBlock = some b → z ≤ b := fun b hb => (hown.lt b hb).1
    by_cases hlt : k < N
    · have l0 : (k : Int) < N := by omega
      obtain ⟨x, hx⟩ : ∃ x, xs[k]? = some x := ⟨xs[k]'(by have := HN.out; omega), List.getElem?_eq_getElem (by have := HN.out; omega)⟩
      obtain ⟨b, o, rfl, hb, c0⟩ := slS_at hp k x hx
      replace c0 := (BW.cell (p := ⟨b, _, none⟩) (by show b < z; omega)).trans c0
      have hx32 := H32.out x (List.mem_of_getElem? hx)
      have wk : IntKind.i64.wrap ((k : Int) + 1) = ((k + 1 : Nat) : Int) := by rw [IntKind.wrap_i64]; omega
      have hmk2 : min k 64 = k := by omega
      obtain ⟨M, hM⟩ : ∃ M, i / 2 ^ k = M := ⟨_, rfl⟩
      have hMq : M < 18446744073709551616 := by rw [← hM]; exact Nat.lt_of_le_of_lt (Nat.div_le_self _ _) hi
      have hMi : (i : Int) / 2 ^ k = (M : Int) := by rw [← hM]; simp
      have hand := and_bit8 M hMq
      have htk : xs.take (k + 1) = xs.take k ++ [x] := by rw [List.take_add_one, hx]; rfl
      have hlk : (xs.take k).length = k := by rw [List.length_take, HN.out]; omega
      have HT : Hid (clF i 0 leaf (xs.take (k + 1)) = (if M % 2 = 0 then hs y x else hs x y) ∧ wyF i 0 leaf (xs.take (k + 1)) = wyF i 0 leaf (xs.take k) ++ [if M % 2 = 0 then y ++ x else x ++ y]) := by
        show _ ∧ _
        rw [htk, clF_snoc, wyF_snoc, Nat.zero_add, hlk, hM, HY.out]
        exact ⟨rfl, rfl⟩
      have z1 : ¬ 9223372036854775807 < y.size + x.size := by omega
      have z2 : ¬ 9223372036854775807 < x.size + y.size := by omega
      have K1 : Hid (∀ w : World, _) := fun w : World => rsum_any (y ++ x) (by rw [ByteArray.size_append]; omega) w
      have K2 : Hid (∀ w : World, _) := fun w : World => rsum_any (x ++ y) (by rw [ByteArray.size_append]; omega) w
      have FIN : Hid (∀ (s : ByteArray) (v' : Value) (w3 w4 : World), (s = if M % 2 = 0 then y ++ x else x ++ y) → w3.ownsRow z 9 1 v' (k + 1) ((wyF i 0 leaf (xs.take k)).map .string ++ [.string s]) → (wr.alloc (.cells #[.string s] 9)).grownBy w3 u8.ownBlock → Below w3.heap.size w3 w4 →
          (∃ (k' : Nat) (y' : ByteArray), k' + (gk - 1) = N ∧ Value.int .i64 (((k : Nat) : Int) + 1) = .int .i64 (k' : Int) ∧ Value.string (sumOf s) = .string y' ∧ Hid (y' = clF i 0 leaf (xs.take k')) ∧ y'.size = 32 ∧ Below z w w4 ∧ z ≤ w4.heap.size ∧ w4.ownsRow z 9 1 v' k' ((wyF i 0 leaf (xs.take k')).map .string))) := fun s v' w3 w4 hs0 ho hg hb4 => by
        have hz3 : z ≤ w3.heap.size := Nat.le_trans (by simp; omega) hg.size
        refine ⟨k + 1, sumOf s, by omega, by congr 1, rfl, ?_, sum_size _, belowStep ((BW.alloc hzw _).grown hg (by simp; omega) (fun b hb => hr3 b hb)) hz3 hb4, Nat.le_trans hz3 hb4.size, ?_⟩
        · show _ = _
          rw [HT.out.1, hs0]
          split <;> rfl
        · rw [HT.out.2, ← hs0, List.map_append]
          exact owns_below8 ho hb4
      clear htk hlk hM
      by_cases hev : M % 2 = 0
      · rw [hev] at hand
        have HS : Hid (y ++ x = if M % 2 = 0 then y ++ x else x ++ y) := by show _ = _; rw [if_pos hev]
        clear HT
        go_wp2_with (at_builtin; refine wpList_append_own _ rfl _ _ 27 rfl z 9 i0 (.string ⟨#[]⟩) 1 16 Tryd.underlying27 hi0 hz0 hz1 hz2 rfl (by decide) _ _ _ rfl (owns_below8 hown ((Below.refl _ wr).alloc (Nat.le_refl _) _)) ⟨wr.heap.size, 0, none⟩ 1 1 [.string (y ++ x)] rfl rfl (one_new' _ _ _) (by intro u hu; simp at hu; subst hu; rfl) (by unfold maxLen; omega) (by omega) (by simp; omega) ?_; intro v' w3 hown' hgrow hiff; clear hiff)
        refine (K1.out _).mono ?_
        rintro e w4 ⟨rfl, B4⟩
        have HF : Hid _ := FIN.out (y ++ x) v' w3 w4 HS.out hown' hgrow B4
        clear hown' hgrow B4 FIN
        go_wp2
        go_roundg (gk - 1)
        case measure => omega
        case rel => exact HF.out
      · have hod : M % 2 = 1 := by omega
        rw [hod] at hand
        have HS : Hid (x ++ y = if M % 2 = 0 then y ++ x else x ++ y) := by show _ = _; rw [if_neg hev]
        clear HT
        go_wp2_with (at_builtin; refine wpList_append_own _ rfl _ _ 27 rfl z 9 i0 (.string ⟨#[]⟩) 1 16 Tryd.underlying27 hi0 hz0 hz1 hz2 rfl (by decide) _ _ _ rfl (owns_below8 hown ((Below.refl _ wr).alloc (Nat.le_refl _) _)) ⟨wr.heap.size, 0, none⟩ 1 1 [.string (x ++ y)] rfl rfl (one_new' _ _ _) (by intro u hu; simp at hu; subst hu; rfl) (by unfold maxLen; omega) (by omega) (by simp; omega) ?_; intro v' w3 hown' hgrow hiff; clear hiff)
        refine (K2.out _).mono ?_
        rintro e w4 ⟨rfl, B4⟩
        have HF : Hid _ := FIN.out (x ++ y) v' w3 w4 HS.out hown' hgrow B4
        clear hown' hgrow B4 FIN
        go_wp2
        go_roundg (gk - 1)
        case measure => omega
        case rel => exact HF.out
    · obtain rfl : k = N := by omega
      have l0 : ¬ (k : Int) < k := by omega
      rw [List.take_of_length_le (by rw [HN.out]; exact Nat.le_refl _)] at hown
      have hlen : (wyF i 0 leaf xs).length = k := by rw [wyF_len]; exact HN.out
      rw [← hlen] at hown
      obtain ⟨a', c', rfl, hsl⟩ := slS_owns hown
      have hc := owns_cap hown
      have HF : Hid (_ ∧ _ ∧ _ ∧ _) := ⟨hzw, hown, BW, (show y = clF i 0 leaf xs by rw [HY.out, List.take_of_length_le (by rw [HN.out]; exact Nat.le_refl _)])⟩
      clear hown hsl BW hc
      go_wp2
      refine bodyPost_ret (v := .tuple #[.slice a' k c', .string y]) (by simp [results, Tryd.results7, go_sem]) rfl ⟨⟨a', c', ?_, HF.out.1, ?_⟩, HF.out.2.2.1⟩
      · rw [HF.out.2.2.2, hlen]
      · rw [hlen]; have := HF.out.2.1; rw [hlen] at this; exact this

/-- What holds while a statement runs. -/
structure Mx_sums (V : World) (z : Nat) (s : Int) (n0 p t : ByteArray) (l : List ByteArray) (S : Nat → Bool) (x2 x3 x4 x5 x6 x7 x8 x9 x10 x11 : Value) (W : World) : Prop where
  e : Below V.heap.size V W
  f0 : S 0 = true → x3 = Value.pointer (some ⟨z, 0, none⟩)
  f1 : S 1 = true → x4 = Value.string p
  f2 : S 2 = true → x5 = Value.pointer (some ⟨z, 1, none⟩)
  f3 : S 3 = true → x6 = Value.string t
  f4 : S 4 = true → x7 = Value.pointer (some ⟨z, 2, none⟩)
  f5 : S 5 = true → x8 = Value.int .u64 s
  f6 : S 6 = true → x9 = Value.string n0
  f7 : S 7 = true → ∃ g, x10 = .slice (some ⟨g, 0, none⟩) 3 3 ∧ V.heap.size ≤ g ∧ g < W.heap.size ∧ W.heap[g]? = some (.cells #[.string p, .string t, .string n0] 9 (0, 0))
  f8 : S 8 = true → ∃ zz, V.heap.size ≤ zz ∧ zz ≤ W.heap.size ∧ W.ownsRow zz 9 1 x11 l.length (l.map .string)
  f9 : S 9 = true → ∃ zz, V.heap.size ≤ zz ∧ zz ≤ W.heap.size ∧ W.ownsRow zz 9 1 x2 l.length (l.map .string)
theorem Mx_sums.grow {V : World} {z : Nat} {s : Int} {n0 p t : ByteArray} {l : List ByteArray} {S : Nat → Bool} {x2 x3 x4 x5 x6 x7 x8 x9 x10 x11 : Value} {W W' : World} (h : Mx_sums V z s n0 p t l S x2 x3 x4 x5 x6 x7 x8 x9 x10 x11 W) (hb : Below W.heap.size W W') : Mx_sums V z s n0 p t l S x2 x3 x4 x5 x6 x7 x8 x9 x10 x11 W' :=
  ⟨belowStep h.e h.e.size hb, h.f0, h.f1, h.f2, h.f3, h.f4, h.f5, h.f6, fun s => (h.f7 s).imp fun _ ⟨j1, j0, j2, j3⟩ => ⟨j1, j0, Nat.lt_of_lt_of_le j2 hb.size, (hb.block _ j2).trans j3⟩, fun s => (h.f8 s).imp fun _ ⟨j1, j2, j3⟩ => ⟨j1, Nat.le_trans j2 hb.size, owns_below8 j3 hb⟩, fun s => (h.f9 s).imp fun _ ⟨j1, j2, j3⟩ => ⟨j1, Nat.le_trans j2 hb.size, owns_below8 j3 hb⟩⟩
set_option maxRecDepth 100000 in
set_option maxHeartbeats 4000000 in
theorem xsums_any (p t : ByteArray) (s : Int) (h32 : ∀ x ∈ exC p t s, x.size = 32) (w : World) :
    Calls Tryd.prog 8 #[.agg #[.string p, .string t, .int .u64 s]] w fun e w' => (∃ v z, e = .returned v ∧ w.heap.size ≤ z ∧ z ≤ w'.heap.size ∧ w'.ownsRow z 9 1 v (smA (exC p t s) 2 2).length ((smA (exC p t s) 2 2).map .string)) ∧ Below w.heap.size w w' := by
  have A0 : Below w.heap.size w (w.alloc (.cells #[.string p, .string t, .int .u64 s] 26)) := (Below.refl _ w).alloc (Nat.le_refl _) _
  have hx : (w.alloc (.cells #[.string p, .string t, .int .u64 s] 26)).heap[w.heap.size]? = some (.cells #[.string p, .string t, .int .u64 s] 26 (0, 0)) := World.alloc_heap_new w _
  obtain ⟨w1, hw1⟩ : ∃ W, w.alloc (.cells #[.string p, .string t, .int .u64 s] 26) = W := ⟨_, rfl⟩
  rw [hw1] at A0 hx
  obtain ⟨z, hz⟩ : ∃ z, w.heap.size = z := ⟨_, rfl⟩
  have HZ : Hid (w.heap.size = z) := hz
  have hzw : z < w1.heap.size := by rw [← hz]; exact (Array.getElem?_eq_some_iff.1 hx).1
  rw [hz] at A0 hx
  have KN0 : ∀ w : World, _ := fun w => z_rnumber_any s w
  obtain ⟨n0, hn0⟩ : ∃ x, z_numOf s = x := ⟨_, rfl⟩
  rw [hn0] at KN0
  have HH : Hid (exC p t s = [p, t, n0]) := by show _ = _; rw [← hn0]; rfl
  obtain ⟨xs, hxs⟩ : ∃ xs, exC p t s = xs := ⟨_, rfl⟩
  rw [hxs] at HH h32 ⊢
  obtain ⟨l, hl⟩ : ∃ l, smA xs 2 2 = l := ⟨_, rfl⟩
  rw [hl]
  have KR : ∀ (g : Nat) (W : World), W.heap[g]? = some (.cells #[.string p, .string t, .string n0] 9 (0, 0)) → Calls Tryd.prog 18 #[.slice (some ⟨g, 0, none⟩) 3 3, .int .i64 2] W fun e w' => (∃ v, e = .returned v ∧ w'.ownsRow W.heap.size 9 1 v l.length (l.map .string)) ∧ Below W.heap.size W w' := fun g W hg => by
    rw [HH.out] at hl h32
    rw [← hl]
    exact rsums_any [p, t, n0] 2 (by omega) (show 3 ≤ 2 ^ 2 by decide) h32 (some ⟨g, 0, none⟩) 3 (g + 1) W (Array.getElem?_eq_some_iff.1 hg).1 (slS_cells hg)
  have c0 : w1.cell? ⟨z, 0, none⟩ = some (.string p) := by rw [Lib.cell_of_heap hx]; rfl
  have c1 : w1.cell? ⟨z, 1, none⟩ = some (.string t) := by rw [Lib.cell_of_heap hx]; rfl
  have c2 : w1.cell? ⟨z, 2, none⟩ = some (.int .u64 s) := by rw [Lib.cell_of_heap hx]; rfl
  clear hx hn0 hl hxs
  go_enter Tryd.func8, Tryd.ntmps8
  go_wp2_with fail
  refine region_inv (fun S aa W => ∃ x2 x3 x4 x5 x6 x7 x8 x9 x10 x11 : Value, aa = { tmps := #[Value.agg #[Value.string p, Value.string t, Value.int IntKind.u64 s], Value.pointer (some { block := z, off := 0 }), x2, x3, x4, x5, x6, x7, x8, x9, x10, x11], defers := [] } ∧ Mx_sums w1 z s n0 p t l S x2 x3 x4 x5 x6 x7 x8 x9 x10 x11 W) (by kernel_rfl) (by kernel_rfl) ?_ ?_ ?_
  · exact ⟨Value.slice none 0 0, undef, undef, undef, undef, undef, undef, undef, undef, undef, rfl, ⟨(Below.refl _ w1).drew, nofun, nofun, nofun, nofun, nofun, nofun, nofun, nofun, nofun, nofun⟩⟩
  · intro i o S aa W hi hun hJ hall K hK
    obtain ⟨x2, x3, x4, x5, x6, x7, x8, x9, x10, x11, rfl, h⟩ := hJ
    have hlt : i < 10 := (List.getElem?_eq_some_iff.1 hi).1
    have hcase : i = 0 ∨ i = 1 ∨ i = 2 ∨ i = 3 ∨ i = 4 ∨ i = 5 ∨ i = 6 ∨ i = 7 ∨ i = 8 ∨ i = 9 := by omega
    rcases hcase with rfl | rfl | rfl | rfl | rfl | rfl | rfl | rfl | rfl | rfl
    all_goals (have ho := (Option.some.inj hi).symm; subst ho; clear hi hlt)
    · go_simp
      exact hK _ _ ⟨x2, _, x4, x5, x6, x7, x8, x9, x10, x11, rfl, ⟨h.e, fun _ => rfl, h.f1, h.f2, h.f3, h.f4, h.f5, h.f6, h.f7, h.f8, h.f9⟩⟩
    · have s_0 : S 0 = true := hall ⟨0, .data⟩ (by simp) rfl
      obtain rfl := h.f0 s_0
      have cW := (h.e.cell (p := ⟨z, 0, none⟩) hzw).trans c0
      go_simp
      exact hK _ _ ⟨x2, _, _, x5, x6, x7, x8, x9, x10, x11, rfl, ⟨h.e, h.f0, fun _ => rfl, h.f2, h.f3, h.f4, h.f5, h.f6, h.f7, h.f8, h.f9⟩⟩
    · go_simp
      exact hK _ _ ⟨x2, x3, x4, _, x6, x7, x8, x9, x10, x11, rfl, ⟨h.e, h.f0, h.f1, fun _ => rfl, h.f3, h.f4, h.f5, h.f6, h.f7, h.f8, h.f9⟩⟩
    · have s_2 : S 2 = true := hall ⟨2, .data⟩ (by simp) rfl
      obtain rfl := h.f2 s_2
      have cW := (h.e.cell (p := ⟨z, 1, none⟩) hzw).trans c1
      go_simp
      exact hK _ _ ⟨x2, x3, x4, _, _, x7, x8, x9, x10, x11, rfl, ⟨h.e, h.f0, h.f1, h.f2, fun _ => rfl, h.f4, h.f5, h.f6, h.f7, h.f8, h.f9⟩⟩
    · go_simp
      exact hK _ _ ⟨x2, x3, x4, x5, x6, _, x8, x9, x10, x11, rfl, ⟨h.e, h.f0, h.f1, h.f2, h.f3, fun _ => rfl, h.f5, h.f6, h.f7, h.f8, h.f9⟩⟩
    · have s_4 : S 4 = true := hall ⟨4, .data⟩ (by simp) rfl
      obtain rfl := h.f4 s_4
      have cW := (h.e.cell (p := ⟨z, 2, none⟩) hzw).trans c2
      go_simp
      exact hK _ _ ⟨x2, x3, x4, x5, x6, _, _, x9, x10, x11, rfl, ⟨h.e, h.f0, h.f1, h.f2, h.f3, h.f4, fun _ => rfl, h.f6, h.f7, h.f8, h.f9⟩⟩
    · have s_5 : S 5 = true := hall ⟨5, .data⟩ (by simp) rfl
      obtain rfl := h.f5 s_5
      go_simp
      refine (KN0 W).mono ?_
      rintro e w5 ⟨rfl, hb5⟩
      have h1 := h.grow hb5
      exact hK _ _ ⟨x2, x3, x4, x5, x6, x7, _, _, x10, x11, rfl, ⟨h1.e, h1.f0, h1.f1, h1.f2, h1.f3, h1.f4, h1.f5, fun _ => rfl, h1.f7, h1.f8, h1.f9⟩⟩
    · have s_1 : S 1 = true := hall ⟨1, .data⟩ (by simp) rfl
      obtain rfl := h.f1 s_1
      have s_3 : S 3 = true := hall ⟨3, .data⟩ (by simp) rfl
      obtain rfl := h.f3 s_3
      have s_6 : S 6 = true := hall ⟨6, .data⟩ (by simp) rfl
      obtain rfl := h.f6 s_6
      go_simp
      have h1 := h.grow ((Below.refl _ W).alloc (Nat.le_refl _) (.cells #[.string p, .string t, .string n0] 9))
      exact hK _ _ ⟨x2, x3, _, x5, _, x7, x8, _, _, x11, rfl, ⟨h1.e, h1.f0, h1.f1, h1.f2, h1.f3, h1.f4, h1.f5, h1.f6, fun _ => ⟨W.heap.size, rfl, h.e.size, by simp, World.alloc_heap_new W _⟩, h1.f8, h1.f9⟩⟩
    · have s_7 : S 7 = true := hall ⟨7, .data⟩ (by simp) rfl
      obtain ⟨g7, rfl, hg7, hh7, hc7⟩ := h.f7 s_7
      go_simp
      refine (KR g7 W hc7).mono ?_
      rintro e w5 ⟨⟨v5, rfl, k3⟩, hb5⟩
      have h1 := h.grow hb5
      exact hK _ _ ⟨x2, x3, x4, x5, x6, x7, x8, x9, _, _, rfl, ⟨h1.e, h1.f0, h1.f1, h1.f2, h1.f3, h1.f4, h1.f5, h1.f6, h1.f7, fun _ => ⟨W.heap.size, h.e.size, hb5.size, k3⟩, h1.f9⟩⟩
    · have s_8 : S 8 = true := hall ⟨8, .data⟩ (by simp) rfl
      obtain ho8 := h.f8 s_8
      go_simp
      exact hK _ _ ⟨_, x3, x4, x5, x6, x7, x8, x9, x10, _, rfl, ⟨h.e, h.f0, h.f1, h.f2, h.f3, h.f4, h.f5, h.f6, h.f7, h.f8, fun _ => ho8⟩⟩
  · rintro S aa W hall ⟨x2, x3, x4, x5, x6, x7, x8, x9, x10, x11, rfl, h⟩
    obtain rfl := h.f0 (hall 0 (by decide))
    obtain rfl := h.f1 (hall 1 (by decide))
    obtain rfl := h.f2 (hall 2 (by decide))
    obtain rfl := h.f3 (hall 3 (by decide))
    obtain rfl := h.f4 (hall 4 (by decide))
    obtain rfl := h.f5 (hall 5 (by decide))
    obtain rfl := h.f6 (hall 6 (by decide))
    obtain ⟨gg, rfl, hgg, hhg, hcg⟩ := h.f7 (hall 7 (by decide))
    obtain hO := h.f9 (hall 9 (by decide))
    have BW := h.e
    clear h hall
    obtain ⟨zz, k1, k2, k3⟩ := hO
    have HX : Hid (Below z w W ∧ _ ∧ _ ∧ _) := ⟨A0.trans (BW.mono (by omega)), k1, k2, k3⟩
    clear A0 BW k1 k2 k3 hcg hgg hhg
    go_wp2
    go_ret
    obtain ⟨B8, k1, k2, k3⟩ := HX.out
    rw [HZ.out]
    exact ⟨⟨_, zz, rfl, by omega, k2, k3⟩, B8⟩
end Go.Proofs.YtmefanagpkbjeabDoor
namespace Go.Proofs.YtmefanagpkbjeabDoor
open Go.RowKit Go.Shelf Go.Sort
/-- Texts that were made anew, in a row. -/
def OwQ (B : Nat) (l : List ByteArray) (X : Value) (W : World) : Prop := ∃ z, B ≤ z ∧ z ≤ W.heap.size ∧ W.ownsRow z 9 1 X l.length (l.map .string)
theorem OwQ.grow {B : Nat} {l : List ByteArray} {X : Value} {W W' : World} (h : OwQ B l X W) (hb : Below W.heap.size W W') : OwQ B l X W' := by
  obtain ⟨z, h1, h2, h3⟩ := h
  exact ⟨z, h1, Nat.le_trans h2 hb.size, owns_below8 h3 hb⟩
theorem wp_append_list7 {P : Program} {w : World} {o : Oper} {a : Act} {K : Act → World → Prop} {Q : Exit → Act → World → Prop} (sl x : Operand) (t u : TypeId)
    (ho : o.op = .call { callee := .builtin .append, args := #[sl, x], argTypes := #[t, u] }) (v y v' : Value) (w' : World) (hs : a.eval sl = v) (hx : a.eval x = y)
    (hr : (Builtin.append_ #[t, u] o.type #[v, y]).run P w = .ok v' w') (h : K (a.put o.dst v') w') : o.wp P a w K Q := by
  unfold Oper.wp execOp
  simp only [ho, resolve, invoke, builtin, Sem.run_bind, Sem.run_pure, Result.andThen_ok, List.map_toArray, List.map_cons, List.map_nil, hs, hx, hr]
  exact h
/-- What holds while a statement runs. -/
structure Mo_one (w6 : World) (w8 : World) (m m' : Nat) (ea ra ea' ra' : ByteArray) (lv lw la lb : List ByteArray) (av aw : Option Addr) (cv cw : Nat) (S : Nat → Bool) (x68 x69 x70 x71 x72 x73 x74 : Value) (W : World) : Prop where
  e : Below w6.heap.size w6 W
  p : S 2 = false → Below w8.heap.size w8 W
  q : S 4 = true → S 2 = true
  q6 : S 6 = true → S 4 = true
  f0 : S 0 = true → x68 = Value.slice av 2 cv
  f1 : S 1 = true → x69 = Value.slice aw 2 cw
  f2 : S 2 = true → OwQ w6.heap.size (lv ++ lw) x70 W
  f3 : S 3 = true → x71 = Value.agg #[.string ea, .string ra, .int .u64 m]
  f4 : S 4 = true → ∃ zz, w6.heap.size ≤ zz ∧ zz ≤ W.heap.size ∧ (∀ bb, x70.ownBlock = some bb → bb < zz) ∧ W.ownsRow zz 9 1 x72 la.length (la.map .string)
  f5 : S 5 = true → x73 = Value.agg #[.string ea', .string ra', .int .u64 m']
  f6 : S 6 = true → ∃ zz, w6.heap.size ≤ zz ∧ zz ≤ W.heap.size ∧ (∀ bb, x70.ownBlock = some bb → bb < zz) ∧ W.ownsRow zz 9 1 x74 lb.length (lb.map .string)
theorem Mo_one.grow {w6 : World} {w8 : World} {m m' : Nat} {ea ra ea' ra' : ByteArray} {lv lw la lb : List ByteArray} {av aw : Option Addr} {cv cw : Nat} {S : Nat → Bool} {x68 x69 x70 x71 x72 x73 x74 : Value} {W W' : World} (h : Mo_one w6 w8 m m' ea ra ea' ra' lv lw la lb av aw cv cw S x68 x69 x70 x71 x72 x73 x74 W) (hb : Below W.heap.size W W') : Mo_one w6 w8 m m' ea ra ea' ra' lv lw la lb av aw cv cw S x68 x69 x70 x71 x72 x73 x74 W' :=
  ⟨belowStep h.e h.e.size hb, fun s => belowStep (h.p s) (h.p s).size hb, h.q, h.q6, h.f0, h.f1, fun s => OwQ.grow (h.f2 s) hb, h.f3, fun s => (h.f4 s).imp fun _ ⟨j1, j2, j3, j4⟩ => ⟨j1, Nat.le_trans j2 hb.size, j3, owns_below8 j4 hb⟩, h.f5, fun s => (h.f6 s).imp fun _ ⟨j1, j2, j3, j4⟩ => ⟨j1, Nat.le_trans j2 hb.size, j3, owns_below8 j4 hb⟩⟩
theorem three_boxes (w : World) (o1 o2 o3 : Obj) : Below w.heap.size w (((w.alloc o1).alloc o2).alloc o3) ∧ (((w.alloc o1).alloc o2).alloc o3).heap[w.heap.size]? = some o1 ∧ (((w.alloc o1).alloc o2).alloc o3).heap[w.heap.size + 1]? = some o2 ∧ (((w.alloc o1).alloc o2).alloc o3).heap[w.heap.size + 2]? = some o3 := by
  obtain ⟨A, h0, h1⟩ := two_boxesU w o1 o2
  have hs : ((w.alloc o1).alloc o2).heap.size = w.heap.size + 2 := by simp
  have h3 := World.alloc_heap_new ((w.alloc o1).alloc o2) o3
  rw [hs] at h3
  have A3 : Below ((w.alloc o1).alloc o2).heap.size ((w.alloc o1).alloc o2) (((w.alloc o1).alloc o2).alloc o3) := (Below.refl _ _).alloc (Nat.le_refl _) _
  exact ⟨A.alloc A.size _, (A3.block _ (by omega)).trans h0, (A3.block _ (by omega)).trans h1, h3⟩
set_option maxRecDepth 100000 in
set_option maxHeartbeats 4000000 in
theorem headone_any (s u : Nat) (p t b ea ra : ByteArray) (m : Nat) (ea' ra' : ByteArray) (m' : Nat) (A : List ByteArray) (aA : Option Addr) (cA : Nat) (B : List ByteArray) (aB : Option Addr) (cB : Nat) (w : World) (hl : Laid w) (_ : s < 18446744073709551616) (_ : u < 18446744073709551616) (hm : m < 18446744073709551616) (hm' : m' < 18446744073709551616)
    (hpA : slS w.heap.size w aA A) (hpB : slS w.heap.size w aB B) :
    Calls Tryd.prog 3 #[.agg #[.int .u64 s, .int .u64 u, .string p, .string t, .string b], .agg #[.string ea, .string ra, .int .u64 m], .agg #[.string ea', .string ra', .int .u64 m'], .slice aA A.length cA, .slice aB B.length cB] w fun e w' => e = .returned (.bool true) ∧ Below w.heap.size w w' := by
  have KS := fun (W : World) (hB : Below w.heap.size w W) => shown13_any W (hl.below hB)
  have K1 := fun (W : World) (hB : Below w.heap.size w W) => holds_any s u m p t b ea ra A aA cA w.heap.size W (hl.below hB) hB.size (slS_below hB hpA)
  have K2 := fun (W : World) (hB : Below w.heap.size w W) => holds_any s u m' p t b ea' ra' B aB cB w.heap.size W (hl.below hB) hB.size (slS_below hB hpB)
  have hEq := eqlX m m' ea ra ea' ra'
  obtain ⟨q1, hq1⟩ : ∃ q, hoB s u m p t b ea ra A = q := ⟨_, rfl⟩
  obtain ⟨q2, hq2⟩ : ∃ q, hoB s u m' p t b ea' ra' B = q := ⟨_, rfl⟩
  obtain ⟨qe, hqe⟩ : ∃ q, decide (ea = ea' ∧ ra = ra' ∧ m = m') = q := ⟨_, rfl⟩
  rw [hq1] at K1
  rw [hq2] at K2
  rw [hqe] at hEq
  obtain ⟨NA, hNA⟩ : ∃ N, A.length = N := ⟨_, rfl⟩
  obtain ⟨NB, hNB⟩ : ∃ N, B.length = N := ⟨_, rfl⟩
  rw [hNA] at K1 ⊢
  rw [hNB] at K2 ⊢
  have HP : Hid (_ ∧ _ ∧ _ ∧ _ ∧ _ ∧ _ ∧ _ ∧ _ ∧ _) := ⟨hq1, hq2, hqe, hNA, hNB, hm, hm', hpA, hpB⟩
  clear hq1 hq2 hqe hNA hNB hm hm' hpA hpB
  obtain ⟨A0, h0, h1, h2⟩ := three_boxes w (.cells #[.int .u64 s, .int .u64 u, .string p, .string t, .string b] 24) (.cells #[.string ea, .string ra, .int .u64 m] 26) (.cells #[.string ea', .string ra', .int .u64 m'] 26)
  obtain ⟨z, hz⟩ : ∃ z, w.heap.size = z := ⟨_, rfl⟩
  have HZ : Hid (w.heap.size = z) := hz
  obtain ⟨w1, hw1⟩ : ∃ W, ((w.alloc (.cells #[.int .u64 s, .int .u64 u, .string p, .string t, .string b] 24)).alloc (.cells #[.string ea, .string ra, .int .u64 m] 26)).alloc (.cells #[.string ea', .string ra', .int .u64 m'] 26) = W := ⟨_, rfl⟩
  have hsz : w1.heap.size = z + 3 := by rw [← hw1, ← hz]; simp
  rw [hw1] at A0 h0 h1 h2
  rw [hz] at A0 h0 h1 h2 KS K1 K2
  have cs : ∀ W : World, Below w1.heap.size w1 W → Hid (W.heap[z]? = some (.cells #[.int .u64 s, .int .u64 u, .string p, .string t, .string b] 24 (0, 0)) ∧ W.heap[z + 1]? = some (.cells #[.string ea, .string ra, .int .u64 m] 26 (0, 0)) ∧ W.heap[z + 2]? = some (.cells #[.string ea', .string ra', .int .u64 m'] 26 (0, 0))) := fun W hB => ⟨(hB.block z (by omega)).trans h0, (hB.block (z + 1) (by omega)).trans h1, (hB.block (z + 2) (by omega)).trans h2⟩
  have HC : Hid _ := cs
  have HX0 : Hid (Below z w w1 ∧ z + 3 ≤ w1.heap.size) := ⟨A0, by omega⟩
  go_enter Tryd.func3, Tryd.ntmps3
  clear h0 h1 h2 cs
  have G0 : Below w1.heap.size w1 w1 := Below.refl _ _
  go_wp2_with fail
  refine (KS _ A0).mono ?_
  rintro e w2 ⟨rfl, B2⟩
  replace G0 := G0.trans (B2.mono G0.size)
  clear KS B2 hw1 hz A0 hsz
  have c0 : w2.cell? ⟨z, 0, none⟩ = some (.int .u64 s) := by rw [Lib.cell_of_heap (HC.out w2 G0).out.1]; rfl
  have c1 : w2.cell? ⟨z, 1, none⟩ = some (.int .u64 u) := by rw [Lib.cell_of_heap (HC.out w2 G0).out.1]; rfl
  have c2 : w2.cell? ⟨z, 2, none⟩ = some (.string p) := by rw [Lib.cell_of_heap (HC.out w2 G0).out.1]; rfl
  have c3 : w2.cell? ⟨z, 3, none⟩ = some (.string t) := by rw [Lib.cell_of_heap (HC.out w2 G0).out.1]; rfl
  have c4 : w2.cell? ⟨z, 4, none⟩ = some (.string b) := by rw [Lib.cell_of_heap (HC.out w2 G0).out.1]; rfl
  have d0 : w2.cell? ⟨z + 1, 0, none⟩ = some (.string ea) := by rw [Lib.cell_of_heap (HC.out w2 G0).out.2.1]; rfl
  have d1 : w2.cell? ⟨z + 1, 1, none⟩ = some (.string ra) := by rw [Lib.cell_of_heap (HC.out w2 G0).out.2.1]; rfl
  have d2 : w2.cell? ⟨z + 1, 2, none⟩ = some (.int .u64 m) := by rw [Lib.cell_of_heap (HC.out w2 G0).out.2.1]; rfl
  go_wp2_with fail
  refine (K1 _ (HX0.out.1.trans (G0.mono (by have := HX0.out.2; omega)))).mono ?_
  rintro e w3 ⟨rfl, B3⟩
  replace G0 := G0.trans (B3.mono G0.size)
  clear K1 B3 c0 c1 c2 c3 c4 d0 d1 d2
  have c0 : w3.cell? ⟨z, 0, none⟩ = some (.int .u64 s) := by rw [Lib.cell_of_heap (HC.out w3 G0).out.1]; rfl
  have c1 : w3.cell? ⟨z, 1, none⟩ = some (.int .u64 u) := by rw [Lib.cell_of_heap (HC.out w3 G0).out.1]; rfl
  have c2 : w3.cell? ⟨z, 2, none⟩ = some (.string p) := by rw [Lib.cell_of_heap (HC.out w3 G0).out.1]; rfl
  have c3 : w3.cell? ⟨z, 3, none⟩ = some (.string t) := by rw [Lib.cell_of_heap (HC.out w3 G0).out.1]; rfl
  have c4 : w3.cell? ⟨z, 4, none⟩ = some (.string b) := by rw [Lib.cell_of_heap (HC.out w3 G0).out.1]; rfl
  have f0 : w3.cell? ⟨z + 2, 0, none⟩ = some (.string ea') := by rw [Lib.cell_of_heap (HC.out w3 G0).out.2.2]; rfl
  have f1 : w3.cell? ⟨z + 2, 1, none⟩ = some (.string ra') := by rw [Lib.cell_of_heap (HC.out w3 G0).out.2.2]; rfl
  have f2 : w3.cell? ⟨z + 2, 2, none⟩ = some (.int .u64 m') := by rw [Lib.cell_of_heap (HC.out w3 G0).out.2.2]; rfl
  go_wp2_with fail
  refine (K2 _ (HX0.out.1.trans (G0.mono (by have := HX0.out.2; omega)))).mono ?_
  rintro e w4 ⟨rfl, B4⟩
  replace G0 := G0.trans (B4.mono G0.size)
  clear K2 B4 c0 c1 c2 c3 c4 f0 f1 f2
  have d0 : w4.cell? ⟨z + 1, 0, none⟩ = some (.string ea) := by rw [Lib.cell_of_heap (HC.out w4 G0).out.2.1]; rfl
  have d1 : w4.cell? ⟨z + 1, 1, none⟩ = some (.string ra) := by rw [Lib.cell_of_heap (HC.out w4 G0).out.2.1]; rfl
  have d2 : w4.cell? ⟨z + 1, 2, none⟩ = some (.int .u64 m) := by rw [Lib.cell_of_heap (HC.out w4 G0).out.2.1]; rfl
  have f0 : w4.cell? ⟨z + 2, 0, none⟩ = some (.string ea') := by rw [Lib.cell_of_heap (HC.out w4 G0).out.2.2]; rfl
  have f1 : w4.cell? ⟨z + 2, 1, none⟩ = some (.string ra') := by rw [Lib.cell_of_heap (HC.out w4 G0).out.2.2]; rfl
  have f2 : w4.cell? ⟨z + 2, 2, none⟩ = some (.int .u64 m') := by rw [Lib.cell_of_heap (HC.out w4 G0).out.2.2]; rfl
  have HW4 : Hid (Below z w w4) := HX0.out.1.trans (G0.mono (by have := HX0.out.2; omega))
  cases q1 with
  | false =>
    go_wp2
    go_ret
    rw [HZ.out]
    exact ⟨rfl, HW4.out⟩
  | true =>
    cases q2 with
    | false =>
      go_wp2
      go_ret
      rw [HZ.out]
      exact ⟨rfl, HW4.out⟩
    | true =>
      cases qe with
      | true =>
        go_wp2
        go_ret
        rw [HZ.out]
        exact ⟨rfl, HW4.out⟩
      | false =>
        obtain ⟨hq1, hq2, hqe, hNA, hNB, hm, hm', hpA, hpB⟩ := HP.out
        have j1 : rt8 (hdC s u p t b) 3 = true ∧ rt8 (exC ea ra m) 2 = true ∧ A.length = 2 ∧ chk (rtS (exC ea ra m) 2) A 2 b = true := by
          unfold hoB at hq1
          simp only [Bool.and_eq_true, decide_eq_true_eq] at hq1
          exact ⟨hq1.1.1.1, hq1.1.1.2, hq1.1.2, hq1.2⟩
        have j2 : rt8 (hdC s u p t b) 3 = true ∧ rt8 (exC ea' ra' m') 2 = true ∧ B.length = 2 ∧ chk (rtS (exC ea' ra' m') 2) B 2 b = true := by
          unfold hoB at hq2
          simp only [Bool.and_eq_true, decide_eq_true_eq] at hq2
          exact ⟨hq2.1.1.1, hq2.1.1.2, hq2.1.2, hq2.2⟩
        obtain ⟨_, r1, l1, c1⟩ := j1
        obtain ⟨_, r2, l2, c2⟩ := j2
        have e1 : rtS (exC ea ra m) 2 = lf (lvs (exC ea ra m)) 2 0 := by unfold rtS; exact if_pos r1
        have e2 : rtS (exC ea' ra' m') 2 = lf (lvs (exC ea' ra' m')) 2 0 := by unfold rtS; exact if_pos r2
        have f1 : rtE (exC ea ra m) 2 = 0 := by unfold rtE; exact if_pos r1
        have f2 : rtE (exC ea' ra' m') 2 = 0 := by unfold rtE; exact if_pos r2
        obtain ⟨_, _, g1, _, g2, g3⟩ := of_decide_eq_true c1
        obtain ⟨_, _, k1, _, k2, k3⟩ := of_decide_eq_true c2
        have h32x := ((rt8_iff _ _).1 r1).2.2.2.2
        have h32y := ((rt8_iff _ _).1 r2).2.2.2.2
        have hcl := one_apart m m' ea ra ea' ra' hm hm' h32x h32y A B l1 l2 g2 k2 (by rw [← e1]; exact g1) (by rw [← e2]; exact k1) (by rw [← e1, ← e2, g3, k3])
        rw [← e1, ← e2] at hcl
        have hcl2 := hcl.resolve_left (of_decide_eq_false hqe)
        have KA := fun W => rxroot_any ea ra m W
        have KB := fun W => rxroot_any ea' ra' m' W
        rw [f1] at KA
        rw [f2] at KB
        have KC := fun (W : World) (hB : Below w.heap.size w W) => rwayO_any _ g1 A (by omega) g2 2 (by decide) aA cA w.heap.size W hB.size (slS_below hB hpA)
        have KD := fun (W : World) (hB : Below w.heap.size w W) => rwayO_any _ k1 B (by omega) k2 2 (by decide) aB cB w.heap.size W hB.size (slS_below hB hpB)
        have KE := fun W => xsums_any ea ra m h32x W
        have KF := fun W => xsums_any ea' ra' m' h32y W
        have z1 := wyF_size 2 A 0 _ g1 g2
        have z2 := wyF_size 2 B 0 _ k1 k2
        have z3 := smA_size _ h32x 2 2
        have z4 := smA_size _ h32y 2 2
        have y1 := wyF_len 2 A 0 (rtS (exC ea ra m) 2)
        have y2 := wyF_len 2 B 0 (rtS (exC ea' ra' m') 2)
        have y3 := smA_len (exC ea ra m) 2 2 (Nat.le_refl _)
        have y4 := smA_len (exC ea' ra' m') 2 2 (Nat.le_refl _)
        unfold WyO at KC KD
        obtain ⟨rx, hrx⟩ : ∃ r, rtS (exC ea ra m) 2 = r := ⟨_, rfl⟩
        obtain ⟨ry, hry⟩ : ∃ r, rtS (exC ea' ra' m') 2 = r := ⟨_, rfl⟩
        rw [hrx] at KA KC z1 y1 hcl2
        rw [hry] at KB KD z2 y2 hcl2
        obtain ⟨lv, hlv⟩ : ∃ r, wyF 2 0 rx A = r := ⟨_, rfl⟩
        obtain ⟨lw, hlw⟩ : ∃ r, wyF 2 0 ry B = r := ⟨_, rfl⟩
        obtain ⟨la, hla⟩ : ∃ r, smA (exC ea ra m) 2 2 = r := ⟨_, rfl⟩
        obtain ⟨lb, hlb⟩ : ∃ r, smA (exC ea' ra' m') 2 2 = r := ⟨_, rfl⟩
        obtain ⟨tv, htv⟩ : ∃ r, clF 2 0 rx A = r := ⟨_, rfl⟩
        obtain ⟨tw, htw⟩ : ∃ r, clF 2 0 ry B = r := ⟨_, rfl⟩
        rw [hlv] at KC z1 y1 hcl2
        rw [hlw] at KD z2 y2 hcl2
        rw [hla] at KE z3 y3 hcl2
        rw [hlb] at KF z4 y4 hcl2
        rw [htv] at KC
        rw [htw] at KD
        rw [l1] at y1
        rw [l2] at y2
        replace y3 : la.length = 3 := by
          have : la.length + 1 = 4 := y3
          omega
        replace y4 : lb.length = 3 := by
          have : lb.length + 1 = 4 := y4
          omega
        rw [hNA] at KC
        rw [hNB] at KD
        rw [y1] at KC
        rw [y2] at KD
        have HCL : Hid (clB ((lv ++ lw) ++ (la ++ lb)) = true) := clB_of hcl2
        have HSZ : Hid (∀ x ∈ (lv ++ lw) ++ (la ++ lb), x.size ≤ 100000) := fun x hx => by
          rcases List.mem_append.1 hx with h | h
          · rcases List.mem_append.1 h with h | h
            · rw [z1 x h]; decide
            · rw [z2 x h]; decide
          · rcases List.mem_append.1 h with h | h
            · rw [z3 x h]; decide
            · rw [z4 x h]; decide
        have HLN : Hid (lv.length = 2 ∧ lw.length = 2 ∧ la.length = 3 ∧ lb.length = 3) := ⟨y1, y2, y3, y4⟩
        rw [HZ.out] at KC KD
        clear hq1 hq2 hqe hNA hNB hm hm' hpA hpB r1 l1 c1 r2 l2 c2 e1 e2 f1 f2 g1 g2 g3 k1 k2 k3 h32x h32y hcl hcl2 z1 z2 z3 z4 y1 y2 y3 y4 hrx hry hlv hlw hla hlb htv htw HP
        go_wp2_with fail
        refine (KA _).mono ?_
        rintro e w5 ⟨rfl, B5⟩
        replace G0 := G0.trans (B5.mono G0.size)
        clear KA B5 d0 d1 d2 f0 f1 f2
        have f0 : w5.cell? ⟨z + 2, 0, none⟩ = some (.string ea') := by rw [Lib.cell_of_heap (HC.out w5 G0).out.2.2]; rfl
        have f1 : w5.cell? ⟨z + 2, 1, none⟩ = some (.string ra') := by rw [Lib.cell_of_heap (HC.out w5 G0).out.2.2]; rfl
        have f2 : w5.cell? ⟨z + 2, 2, none⟩ = some (.int .u64 m') := by rw [Lib.cell_of_heap (HC.out w5 G0).out.2.2]; rfl
        go_wp2_with fail
        refine (KB _).mono ?_
        rintro e w6 ⟨rfl, B6⟩
        replace G0 := G0.trans (B6.mono G0.size)
        have H61 : w1.heap.size ≤ w6.heap.size := G0.size
        have HX6 : Hid (Below z w w6) := HX0.out.1.trans (G0.mono (by have := HX0.out.2; omega))
        clear KB B6 f0 f1 f2
        have d0 : w6.cell? ⟨z + 1, 0, none⟩ = some (.string ea) := by rw [Lib.cell_of_heap (HC.out w6 G0).out.2.1]; rfl
        have d1 : w6.cell? ⟨z + 1, 1, none⟩ = some (.string ra) := by rw [Lib.cell_of_heap (HC.out w6 G0).out.2.1]; rfl
        have d2 : w6.cell? ⟨z + 1, 2, none⟩ = some (.int .u64 m) := by rw [Lib.cell_of_heap (HC.out w6 G0).out.2.1]; rfl
        have f0 : w6.cell? ⟨z + 1 + 1, 0, none⟩ = some (.string ea') := by rw [Lib.cell_of_heap (HC.out w6 G0).out.2.2]; rfl
        have f1 : w6.cell? ⟨z + 1 + 1, 1, none⟩ = some (.string ra') := by rw [Lib.cell_of_heap (HC.out w6 G0).out.2.2]; rfl
        have f2 : w6.cell? ⟨z + 1 + 1, 2, none⟩ = some (.int .u64 m') := by rw [Lib.cell_of_heap (HC.out w6 G0).out.2.2]; rfl
        go_wp2_with fail
        refine (KC _ (HX0.out.1.trans (G0.mono (by have := HX0.out.2; omega)))).mono ?_
        rintro e w7 ⟨⟨av, cv, rfl, hzv, hov⟩, B7⟩
        have G6 : Below w6.heap.size w6 w7 := B7
        replace G0 := G0.trans (B7.mono G0.size)
        clear KC B7
        go_wp2_with fail
        refine (KD _ (HX0.out.1.trans (G0.mono (by have := HX0.out.2; omega)))).mono ?_
        rintro e w8 ⟨⟨aw, cw, rfl, hzw, how⟩, B8⟩
        have hov8 := owns_below8 hov B8
        have hzv8 := Nat.le_trans hzv B8.size
        replace G0 := G0.trans (B8.mono G0.size)
        have hsw8 : slS w8.heap.size w8 aw lw := by
          have h' := how
          rw [← HLN.out.2.1] at h'
          obtain ⟨a', c', he, hs⟩ := slS_owns h'
          injection he with he1 he2 he3
          rw [he1]
          exact hs
        have hz6 : z + 3 ≤ w6.heap.size := Nat.le_trans HX0.out.2 H61
        have H68 : Below w6.heap.size w6 w8 := G6.trans (B8.mono G6.size)
        have HB6 : Hid (Below z w w6) := HX6.out
        clear KD hov hzv how G0 B8 G6 H61
        go_wp2_with fail
        refine region_inv_tail 7 (fun S aa W => ∃ x68 x69 x70 x71 x72 x73 x74 : Value, aa = { tmps := #[Value.agg #[Value.int IntKind.u64 ↑s, Value.int IntKind.u64 ↑u, Value.string p, Value.string t, Value.string b], Value.agg #[Value.string ea, Value.string ra, Value.int IntKind.u64 ↑m], Value.agg #[Value.string ea', Value.string ra', Value.int IntKind.u64 ↑m'], Value.slice aA NA cA, Value.slice aB NB cB, Value.pointer (some { block := z, off := 0 }), Value.pointer (some { block := z + 1, off := 0 }), Value.pointer (some { block := z + 1 + 1, off := 0 }), undef, undef, Value.bool false, Value.bool true, Value.bool true, Value.bool true, Value.string rx, Value.int IntKind.i64 0, Value.string ry, Value.int IntKind.i64 0, Value.slice av 2 cv, Value.string tv, Value.slice aw 2 cw, Value.string tw, undef, Value.bool true, Value.agg #[Value.int IntKind.u64 ↑s, Value.int IntKind.u64 ↑u, Value.string p, Value.string t, Value.string b], Value.agg #[Value.string ea, Value.string ra, Value.int IntKind.u64 ↑m], Value.slice aA NA cA, Value.agg #[Value.int IntKind.u64 ↑s, Value.int IntKind.u64 ↑u, Value.string p, Value.string t, Value.string b, Value.string ea, Value.string ra, Value.int IntKind.u64 ↑m, Value.slice aA NA cA], Value.bool true, Value.agg #[Value.int IntKind.u64 ↑s, Value.int IntKind.u64 ↑u, Value.string p, Value.string t, Value.string b], Value.agg #[Value.string ea', Value.string ra', Value.int IntKind.u64 ↑m'], Value.slice aB NB cB, Value.agg #[Value.int IntKind.u64 ↑s, Value.int IntKind.u64 ↑u, Value.string p, Value.string t, Value.string b, Value.string ea', Value.string ra', Value.int IntKind.u64 ↑m', Value.slice aB NB cB], Value.bool true, Value.bool true, Value.bool false, Value.bool false, Value.bool true, Value.bool false, Value.bool false, Value.bool false, Value.agg #[Value.string ea, Value.string ra, Value.int IntKind.u64 ↑m], Value.agg #[Value.string ea', Value.string ra', Value.int IntKind.u64 ↑m'], Value.bool false, Value.bool false, undef, Value.tuple #[Value.string rx, Value.int IntKind.i64 0], Value.agg #[Value.string ea, Value.string ra, Value.int IntKind.u64 ↑m], Value.tuple #[Value.string rx, Value.int IntKind.i64 0], Value.string rx, Value.int IntKind.i64 0, Value.tuple #[Value.string ry, Value.int IntKind.i64 0], Value.agg #[Value.string ea', Value.string ra', Value.int IntKind.u64 ↑m'], Value.tuple #[Value.string ry, Value.int IntKind.i64 0], Value.string ry, Value.int IntKind.i64 0, Value.tuple #[Value.slice av 2 cv, Value.string tv], Value.string rx, Value.slice aA NA cA, Value.tuple #[Value.slice av 2 cv, Value.string tv], Value.slice av 2 cv, Value.string tv, Value.tuple #[Value.slice aw 2 cw, Value.string tw], Value.string ry, Value.slice aB NB cB, Value.tuple #[Value.slice aw 2 cw, Value.string tw], Value.slice aw 2 cw, Value.string tw, x68, x69, x70, x71, x72, x73, x74, undef, undef, undef, undef, undef, undef, undef], defers := [] } ∧ Mo_one w6 w8 m m' ea ra ea' ra' lv lw la lb av aw cv cw S x68 x69 x70 x71 x72 x73 x74 W) (by kernel_rfl) (by kernel_rfl) ?_ ?_ ?_
        · exact ⟨undef, undef, undef, undef, undef, undef, undef, rfl, ⟨H68.drew, fun _ => (Below.refl _ w8).drew, nofun, nofun, nofun, nofun, nofun, nofun, nofun, nofun, nofun⟩⟩
        · intro i o S aa W hin hi hun hJ hall K hK
          obtain ⟨x68, x69, x70, x71, x72, x73, x74, rfl, h⟩ := hJ
          have hlt : i < 7 := hin
          have hcase : i = 0 ∨ i = 1 ∨ i = 2 ∨ i = 3 ∨ i = 4 ∨ i = 5 ∨ i = 6 := by omega
          rcases hcase with rfl | rfl | rfl | rfl | rfl | rfl | rfl
          all_goals (have ho := (Option.some.inj hi).symm; subst ho; clear hi hlt hin)
          · go_simp
            exact hK _ _ ⟨_, x69, x70, x71, x72, x73, x74, rfl, ⟨h.e, h.p, h.q, h.q6, fun _ => rfl, h.f1, h.f2, h.f3, h.f4, h.f5, h.f6⟩⟩
          · go_simp
            exact hK _ _ ⟨x68, _, x70, x71, x72, x73, x74, rfl, ⟨h.e, h.p, h.q, h.q6, h.f0, fun _ => rfl, h.f2, h.f3, h.f4, h.f5, h.f6⟩⟩
          · have s_0 : S 0 = true := hall ⟨0, .data⟩ (by simp) rfl
            obtain rfl := h.f0 s_0
            have s_1 : S 1 = true := hall ⟨1, .data⟩ (by simp) rfl
            obtain rfl := h.f1 s_1
            have hb8 := h.p hun
            have hoV := owns_below8 hov8 hb8
            have hsW := slS_below hb8 hsw8
            obtain ⟨v7, w7, hrun7, ho7, hg7⟩ := run_append_list W 27 w6.heap.size (Value.slice av 2 cv) 2 _ hoV lw aw 2 cw w8.heap.size HLN.out.2.1 hsW (by decide) (by decide) h.e.size
            rw [if_pos (by rfl)]
            refine wp_append_list7 _ _ 27 27 rfl _ _ _ _ rfl rfl hrun7 ?_
            exact hK _ _ ⟨_, _, _, x71, x72, x73, x74, rfl, ⟨h.e.grown hg7 h.e.size (fun k e => (hoV.lt k e).1), fun e => Bool.noConfusion (show true = false from e), fun _ => rfl, h.q6, h.f0, h.f1, fun _ => ⟨w6.heap.size, Nat.le_refl _, Nat.le_trans h.e.size hg7.size, by rw [List.length_append, HLN.out.1, HLN.out.2.1, List.map_append]; exact ho7⟩, h.f3, fun s => absurd (h.q s) (by rw [hun]; decide), h.f5, fun s => absurd (h.q (h.q6 s)) (by rw [hun]; decide)⟩⟩
          · have cW0 := (h.e.cell (p := ⟨z + 1, 0, none⟩) (by show z + 1 < _; omega)).trans d0
            have cW1 := (h.e.cell (p := ⟨z + 1, 1, none⟩) (by show z + 1 < _; omega)).trans d1
            have cW2 := (h.e.cell (p := ⟨z + 1, 2, none⟩) (by show z + 1 < _; omega)).trans d2
            go_simp
            exact hK _ _ ⟨x68, x69, x70, _, x72, x73, x74, rfl, ⟨h.e, h.p, h.q, h.q6, h.f0, h.f1, h.f2, fun _ => rfl, h.f4, h.f5, h.f6⟩⟩
          · have s_3 : S 3 = true := hall ⟨3, .data⟩ (by simp) rfl
            obtain rfl := h.f3 s_3
            have s_2 : S 2 = true := hall ⟨2, .chain⟩ (by simp) rfl
            obtain ho2 := h.f2 s_2
            go_simp
            refine (KE W).mono ?_
            rintro e w5 ⟨⟨v5, z5, rfl, k1, k2, k3⟩, hb5⟩
            have h1 := h.grow hb5
            exact hK _ _ ⟨x68, x69, _, _, _, x73, x74, rfl, ⟨h1.e, h1.p, fun _ => s_2, fun _ => rfl, h1.f0, h1.f1, h1.f2, h1.f3, fun _ => ⟨z5, Nat.le_trans h.e.size k1, k2, fun bb e => by obtain ⟨z2, j1, j2, j3⟩ := ho2; exact Nat.lt_of_lt_of_le (j3.lt bb e).2 k1, k3⟩, h1.f5, h1.f6⟩⟩
          · have cW0 := (h.e.cell (p := ⟨z + 1 + 1, 0, none⟩) (by show z + 1 + 1 < _; omega)).trans f0
            have cW1 := (h.e.cell (p := ⟨z + 1 + 1, 1, none⟩) (by show z + 1 + 1 < _; omega)).trans f1
            have cW2 := (h.e.cell (p := ⟨z + 1 + 1, 2, none⟩) (by show z + 1 + 1 < _; omega)).trans f2
            go_simp
            exact hK _ _ ⟨x68, x69, x70, x71, x72, _, x74, rfl, ⟨h.e, h.p, h.q, h.q6, h.f0, h.f1, h.f2, h.f3, h.f4, fun _ => rfl, h.f6⟩⟩
          · have s_5 : S 5 = true := hall ⟨5, .data⟩ (by simp) rfl
            obtain rfl := h.f5 s_5
            have s_4 : S 4 = true := hall ⟨4, .chain⟩ (by simp) rfl
            obtain ho4 := h.f4 s_4
            go_simp
            refine (KF W).mono ?_
            rintro e w5 ⟨⟨v5, z5, rfl, k1, k2, k3⟩, hb5⟩
            have h1 := h.grow hb5
            exact hK _ _ ⟨x68, x69, x70, x71, _, _, _, rfl, ⟨h1.e, h1.p, h1.q, fun _ => s_4, h1.f0, h1.f1, h1.f2, h1.f3, h1.f4, h1.f5, fun _ => ⟨z5, Nat.le_trans h.e.size k1, k2, fun bb e => by obtain ⟨z2, j1, j2, j3, j4⟩ := ho4; have := j3 bb e; omega, k3⟩⟩⟩
        · rintro S aa W hall ⟨x68, x69, x70, x71, x72, x73, x74, rfl, h⟩
          obtain rfl := h.f0 (hall 0 (by decide))
          obtain rfl := h.f1 (hall 1 (by decide))
          obtain hO2 := h.f2 (hall 2 (by decide))
          obtain rfl := h.f3 (hall 3 (by decide))
          obtain hOla := h.f4 (hall 4 (by decide))
          obtain rfl := h.f5 (hall 5 (by decide))
          obtain hOlb := h.f6 (hall 6 (by decide))
          have BWD := h.e
          clear h hall
          simp only [List.drop_succ_cons, List.drop_zero]
          obtain ⟨z2, o1, o2, o3⟩ := hO2
          obtain ⟨za, a1, a2, a3, a4⟩ := hOla
          obtain ⟨zb, b1, b2, b3, b4⟩ := hOlb
          obtain ⟨a5, c5, rfl, hs5⟩ := slS_owns b4
          obtain ⟨v7, w7, hrun7, ho7, hg7⟩ := run_append_list W 27 za x72 la.length _ a4 lb a5 lb.length c5 W.heap.size rfl hs5 (by rw [HLN.out.2.2.1]; decide) (by rw [HLN.out.2.2.2]; decide) a2
          have o7 : w7.ownsRow z2 9 1 x70 (lv ++ lw).length ((lv ++ lw).map .string) := o3.kept hg7 (by
            cases e7 : x70.ownBlock with
            | none => exact .inl rfl
            | some k => exact .inr fun e2 => by have e3 := a3 k e7; have := (a4.lt k e2.symm).1; omega)
          have B67 : Below w6.heap.size w6 w7 := BWD.grown hg7 BWD.size (fun bb hb' => Nat.le_trans a1 (a4.lt bb hb').1)
          have hs7 := hg7.size
          rw [← List.length_append, ← List.map_append] at ho7
          obtain ⟨a7, c7, rfl, hsl7⟩ := slS_owns ho7
          obtain ⟨v9, w9, hrun9, ho9, hg9⟩ := run_append_list w7 27 z2 x70 (lv ++ lw).length _ o7 (la ++ lb) a7 (la ++ lb).length c7 w7.heap.size rfl hsl7 (by rw [List.length_append, HLN.out.1, HLN.out.2.1]; decide) (by rw [List.length_append, HLN.out.2.2.1, HLN.out.2.2.2]; decide) (by omega)
          have B69 : Below w6.heap.size w6 w9 := B67.grown hg9 B67.size (fun bb hb' => Nat.le_trans o1 (o7.lt bb hb').1)
          rw [← List.length_append, ← List.map_append] at ho9
          obtain ⟨a9, c9, rfl, hsl9⟩ := slS_owns ho9
          have KCL := clash_any ((lv ++ lw) ++ (la ++ lb)) (by simp only [List.length_append, HLN.out.1, HLN.out.2.1, HLN.out.2.2.1, HLN.out.2.2.2]; decide) HSZ.out a9 c9 w9.heap.size w9 (Nat.le_refl _) hsl9
          rw [HCL.out] at KCL
          have HR7 : Hid _ := hrun7
          have HR9 : Hid _ := hrun9
          have HF : Hid (Below z w w9 ∧ z ≤ w9.heap.size) := ⟨HB6.out.trans (B69.mono (by omega)), by have := B69.size; omega⟩
          clear hrun7 ho7 hg7 hrun9 ho9 hg9 B67 B69 BWD o1 o2 o3 a1 a2 a3 a4 b1 b2 b3 b4 hs5 o7 hs7 hsl7 hsl9 KE KF d0 d1 d2 f0 f1 f2 hov8 hsw8 H68 hz6
          obtain ⟨N5, hN5⟩ : ∃ N, lb.length = N := ⟨_, rfl⟩
          obtain ⟨N7, hN7⟩ : ∃ N, (la ++ lb).length = N := ⟨_, rfl⟩
          obtain ⟨N9, hN9⟩ : ∃ N, ((lv ++ lw) ++ (la ++ lb)).length = N := ⟨_, rfl⟩
          rw [hN9] at HR9 KCL
          rw [hN7] at HR7 HR9
          rw [hN5] at HR7 ⊢
          clear hN5 hN7 hN9
          go_wp2_with (at_builtin; first | refine wpList_append_wanted (by kernel_rfl) (.tmp 72) (.tmp 74) 27 27 rfl _ _ _ _ rfl rfl HR7.out ?_ | refine wpList_append_wanted (by kernel_rfl) (.tmp 70) (.tmp 75) 27 27 rfl _ _ _ _ rfl rfl HR9.out ?_)
          refine KCL.mono ?_
          rintro e wA ⟨rfl, BA⟩
          have HG : Hid _ := HF.out.1.trans (BA.mono HF.out.2)
          clear KCL BA
          go_wp2
          go_ret
          rw [HZ.out]
          exact ⟨rfl, HG.out⟩
end Go.Proofs.YtmefanagpkbjeabDoor
