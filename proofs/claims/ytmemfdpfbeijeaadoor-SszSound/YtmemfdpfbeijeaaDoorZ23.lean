/- The reference's Sums and Clash; the law SszSound, walked. -/
import Derived.Test.YtmemfdpfbeijeaaDoorZ20
import Derived.Test.YtmemfdpfbeijeaaDoorZ17
namespace Go.Proofs.YtmemfdpfbeijeaaDoor
open Go.RowKit Go.Shelf Go.Sort

/-- The texts that are summed up at a height; all of them. -/
def smL (xs : List ByteArray) (D up : Nat) : List ByteArray := (List.range (2 ^ (D - up) / 2)).map fun j => lf (lvs xs) up (2 * j) ++ lf (lvs xs) up (2 * j + 1)
def smA (xs : List ByteArray) (D : Nat) : Nat → List ByteArray
  | 0 => []
  | k + 1 => smA xs D k ++ smL xs D k
/-- Two texts of a list are unlike, and have one sum. -/
def ClashP (l : List ByteArray) : Prop := ∃ s ∈ l, ∃ t ∈ l, s ≠ t ∧ sumOf s = sumOf t
theorem smA_mem (xs : List ByteArray) (D : Nat) : ∀ n k j, k < n → j < 2 ^ (D - k) / 2 → lf (lvs xs) k (2 * j) ++ lf (lvs xs) k (2 * j + 1) ∈ smA xs D n
  | 0, k, _, h, _ => by omega
  | n + 1, k, j, h, hj => by
    show _ ∈ smA xs D n ++ smL xs D n
    by_cases e : k = n
    · subst e
      exact List.mem_append_right _ (List.mem_map.2 ⟨j, List.mem_range.2 hj, rfl⟩)
    · exact List.mem_append_left _ (smA_mem xs D n k j (by omega) hj)
theorem app_inj {a b c d : ByteArray} (h : a ++ b = c ++ d) (hz : a.size = c.size) : a = c ∧ b = d := by
  have h1 : a.data.toList ++ b.data.toList = c.data.toList ++ d.data.toList := by
    have := congrArg (fun t : ByteArray => t.data.toList) h
    simpa using this
  have h2 : a.data.toList.length = c.data.toList.length := by simpa using hz
  obtain ⟨e1, e2⟩ := List.append_inj h1 h2
  have f : ∀ x y : ByteArray, x.data.toList = y.data.toList → x = y := fun x y e => by
    cases x
    cases y
    exact congrArg ByteArray.mk (Array.toList_inj.1 e)
  exact ⟨f _ _ e1, f _ _ e2⟩
/-- What leads to a tree's text is the tree's, or two texts clash. -/
theorem sound (xs : List ByteArray) (h32 : ∀ x ∈ xs, x.size = 32) (D i : Nat) : ∀ (r : List ByteArray) (k : Nat) (x : ByteArray), k + r.length = D → i < 2 ^ D → x.size = 32 → (∀ y ∈ r, y.size = 32) → clF i k x r = lf (lvs xs) D 0 →
    x = lf (lvs xs) k (i / 2 ^ k) ∨ ClashP (smA xs D D ++ wyF i k x r)
  | [], k, x, hk, hi, _, _, h => by
    simp only [List.length_nil, Nat.add_zero] at hk
    subst hk
    rw [Nat.div_eq_of_lt hi]
    exact .inl h
  | y :: r, k, x, hk, hi, hx, hr, h => by
    rw [List.length_cons] at hk
    have hy := hr y List.mem_cons_self
    have hz := lf_size (lvs xs) (lvs_size xs h32)
    obtain ⟨s, hs0⟩ : ∃ s, (if i / 2 ^ k % 2 = 0 then x ++ y else y ++ x) = s := ⟨_, rfl⟩
    have hss : (if i / 2 ^ k % 2 = 0 then hs x y else hs y x) = sumOf s := by
      rw [← hs0]
      split <;> rfl
    have ih := sound xs h32 D i r (k + 1) (if i / 2 ^ k % 2 = 0 then hs x y else hs y x) (by omega) hi (by split <;> exact hs_size _ _) (fun t ht => hr t (List.mem_cons_of_mem _ ht)) h
    rw [wyF, hs0]
    rcases ih with h1 | ⟨u, hu, t, ht, hne, he⟩
    · rw [hss] at h1
      have hd : i / 2 ^ (k + 1) = i / 2 ^ k / 2 := by rw [Nat.pow_succ, Nat.div_div_eq_div_mul]
      rw [hd] at h1
      obtain ⟨m, hm⟩ : ∃ m, i / 2 ^ k = m := ⟨_, rfl⟩
      rw [hm] at h1 hs0 ⊢
      have h2 : sumOf s = sumOf (lf (lvs xs) k (2 * (m / 2)) ++ lf (lvs xs) k (2 * (m / 2) + 1)) := h1
      by_cases e : s = lf (lvs xs) k (2 * (m / 2)) ++ lf (lvs xs) k (2 * (m / 2) + 1)
      · refine .inl ?_
        rw [← hs0] at e
        by_cases hev : m % 2 = 0
        · rw [if_pos hev] at e
          have := (app_inj e (by rw [hx, hz])).1
          rw [this, show 2 * (m / 2) = m by omega]
        · rw [if_neg hev] at e
          have := (app_inj e (by rw [hy, hz])).2
          rw [this, show 2 * (m / 2) + 1 = m by omega]
      · refine .inr ⟨s, List.mem_append_right _ List.mem_cons_self, _, List.mem_append_left _ (smA_mem xs D D k (m / 2) (by omega) ?_), e, h2⟩
        have hml : m < 2 ^ (D - k) := by
          rw [← hm]
          apply Nat.div_lt_of_lt_mul
          rw [← Nat.pow_add, show k + (D - k) = D by omega]
          exact hi
        have hle : 2 ^ (D - k) % 2 = 0 := by rw [show D - k = (D - k - 1) + 1 by omega, Nat.pow_succ]; omega
        omega
    · refine .inr ⟨u, ?_, t, ?_, hne, he⟩
      · rcases List.mem_append.1 hu with h' | h'
        · exact List.mem_append_left _ h'
        · rw [hss] at h'
          exact List.mem_append_right _ (List.mem_cons_of_mem _ (by rw [hss]; exact h'))
      · rcases List.mem_append.1 ht with h' | h'
        · exact List.mem_append_left _ h'
        · rw [hss] at h'
          exact List.mem_append_right _ (List.mem_cons_of_mem _ (by rw [hss]; exact h'))
end Go.Proofs.YtmemfdpfbeijeaaDoor
