/- The reference's digest is the program's. -/
import Derived.Test.YteiadmhododppaaDoorKR7
namespace Go.Proofs.YteiadmhododppaaDoor
open Go.RowKit Go.Sort

theorem bt_extract (t : ByteArray) (a b j : Nat) (hb : b ≤ t.size) (hj : a + j < b) : bt (t.extract a b) j = bt t (a + j) := by
  have e : t.data.size = t.size := rfl
  unfold bt
  rw [ByteArray.data_extract]
  have h1 : j < (t.data.extract a b).size := by rw [Array.size_extract]; omega
  have h2 : a + j < t.data.size := by omega
  simp only [Array.getD, h1, h2, dite_true]
  show (((t.data.extract a b)[j]'h1).toNat : Int) = ((t.data[a + j]'h2).toNat : Int)
  rw [Array.getElem_extract]
theorem bt_rem (t : ByteArray) (m j : Nat) (h : 8 * m + j < t.size) : bt (remAt t m) j = bt t (8 * m + j) := by
  induction m generalizing j with
  | zero => rw [show 8 * 0 + j = j by omega]; rfl
  | succ m ih =>
    have hs := rem_size t m
    rw [remAt, bt_extract _ _ _ _ (Nat.le_refl _) (by omega), ih (8 + j) (by omega), show 8 * m + (8 + j) = 8 * (m + 1) + j by omega]
theorem rblk_ext (G q p : Nat → Int) (k : Nat) (h : ∀ i, i < k → q i = p i) : rblk G q k = rblk G p k := by
  induction k with
  | zero => rfl
  | succ k ih => rw [rblk, rblk, ih (fun i hi => h i (by omega)), h k (by omega)]
theorem qAt_bd (s : ByteArray) (k : Nat) : 0 ≤ qAt s k ∧ qAt s k < 256 := by
  unfold qAt
  by_cases a : k < s.size
  · rw [if_pos a]; exact bt_bd s k
  · rw [if_neg a]
    by_cases b : k = s.size
    · rw [if_pos b]; omega
    · rw [if_neg b]; omega
/-- The bytes of a block, but for the last mark. -/
def Qn (s : ByteArray) (n i : Nat) : Nat := (qAt s (136 * n + i)).toNat
theorem Qn_int (s : ByteArray) (n i : Nat) : (Qn s n i : Int) = qAt s (136 * n + i) := by
  have := qAt_bd s (136 * n + i)
  unfold Qn
  omega
theorem Qn_bd (s : ByteArray) (n i : Nat) : Qn s n i < 256 := by
  have := qAt_bd s (136 * n + i)
  unfold Qn
  omega
theorem same_lane (s : ByteArray) (n l : Nat) (h : 8 * (17 * n + l) + 8 ≤ s.size) : laneN ((remAt s (17 * n + l)).extract 0 8) 8 = (NX (fun j => Qn s n (8 * l + j)) 8 : Int) := by
  have hs := rem_size s (17 * n + l)
  rw [laneN_is _ 8 (by omega), NX_ext _ (fun j => Qn s n (8 * l + j)) 8 fun j hj => ?_]
  show (bt _ j).toNat = (qAt s (136 * n + (8 * l + j))).toNat
  rw [bt_extract _ _ _ _ (by omega) (by omega), Nat.zero_add, bt_rem _ _ _ (by omega), qAt, if_pos (by omega), show 8 * (17 * n + l) + j = 136 * n + (8 * l + j) by omega]
theorem same_blk (G : Nat → Int) (hG : ∀ j, La (G j)) (s : ByteArray) (n l : Nat) (h : 8 * (17 * n + l) ≤ s.size) : rblk G (fun i => (Qn s n i : Int)) (8 * l) = blkOf G s n l := by
  induction l with
  | zero => rfl
  | succ l ih => rw [show 8 * (l + 1) = 8 * l + 8 by omega, rblk_lane G hG (Qn s n) (Qn_bd s n) l 8 (by omega), ih (by omega), blkOf, same_lane s n l (by omega)]
theorem in_whole (s : ByteArray) (n : Nat) (h : 136 * (n + 1) ≤ s.size) : rin s (n + 1) = roundsOf (blkOf (rin s n) s n 17) 24 := by
  rw [rin, rblk_ext _ _ (fun i => (Qn s n i : Int)) 136 fun i hi => ?_]
  · rw [show (136 : Nat) = 8 * 17 by rfl, same_blk _ (la_rin s n) s n 17 (by omega)]
  · show qL s (136 * n + i) = (Qn s n i : Int)
    rw [Qn_int, qL, if_neg]
    unfold qN
    omega
theorem in_is (s : ByteArray) (n : Nat) (h : 136 * n ≤ s.size) : rin s n = inOf (fun _ => 0) s n := by
  induction n with
  | zero => rfl
  | succ n ih => rw [in_whole s n h, ih (by omega)]; rfl
theorem mark_is (b : Int) (h : b = 0 ∨ b = 1) : IntKind.u64.wrap (bits .xor .u8 b 128 * 2 ^ 56) = xr (IntKind.u64.wrap (b * 2 ^ 56)) 9223372036854775808 := by
  rcases h with rfl | rfl <;> decide
theorem blk_mark (G : Nat → Int) (s : ByteArray) (n : Nat) (h : s.size / 136 = n) : rblk G (fun i => qL s (136 * n + i)) 136 = putAt (rblk G (fun i => (Qn s n i : Int)) 136) 16 (xr (rblk G (fun i => (Qn s n i : Int)) 136 16) 9223372036854775808) := by
  have e1 : rblk G (fun i => qL s (136 * n + i)) 135 = rblk G (fun i => (Qn s n i : Int)) 135 := rblk_ext _ _ _ _ fun i hi => by
    show qL s (136 * n + i) = (Qn s n i : Int)
    rw [Qn_int, qL, if_neg]
    unfold qN
    omega
  have e2 : qL s (136 * n + 135) = bits .xor .u8 (qAt s (136 * n + 135)) 128 := by
    rw [qL, if_pos]
    unfold qN
    omega
  have e3 : qAt s (136 * n + 135) = 0 ∨ qAt s (136 * n + 135) = 1 := by
    unfold qAt
    rw [if_neg (by omega)]
    by_cases b : 136 * n + 135 = s.size
    · rw [if_pos b]; exact Or.inr rfl
    · rw [if_neg b]; exact Or.inl rfl
  have e4 : rblk G (fun i => qL s (136 * n + i)) 136 = putAt (rblk G (fun i => qL s (136 * n + i)) 135) 16 (xr (rblk G (fun i => qL s (136 * n + i)) 135 16) (IntKind.u64.wrap (qL s (136 * n + 135) * 2 ^ 56))) := rfl
  have e5 : rblk G (fun i => (Qn s n i : Int)) 136 = putAt (rblk G (fun i => (Qn s n i : Int)) 135) 16 (xr (rblk G (fun i => (Qn s n i : Int)) 135 16) (IntKind.u64.wrap ((Qn s n 135 : Int) * 2 ^ 56))) := rfl
  rw [e4, e5, e1, e2, Qn_int, putAt_twice, putAt_at, xr_assoc, mark_is _ e3]
theorem last_lane (s : ByteArray) (n l : Nat) (hn : s.size / 136 = n) (hl : s.size % 136 / 8 = l) : (NX (fun j => Qn s n (8 * l + j)) 8 : Int) = bits .or .u64 (laneN (remAt s (s.size / 8)) (remAt s (s.size / 8)).size) (IntKind.u64.wrap (1 * 2 ^ (8 * (remAt s (s.size / 8)).size))) := by
  have hr : (remAt s (s.size / 8)).size = s.size % 8 := by rw [rem_size]; omega
  have h8 : s.size % 8 < 8 := by omega
  obtain ⟨r, hr2⟩ : ∃ r, s.size % 8 = r := ⟨_, rfl⟩
  rw [hr, hr2, laneN_is _ r (by omega), NX_ext _ (fun j => Qn s n (8 * l + j)) r fun j hj => ?_]
  · have e1 : (1 : Int) = (((fun j => Qn s n (8 * l + j)) r : Nat) : Int) := by
      show (1 : Int) = (Qn s n (8 * l + r) : Int)
      rw [Qn_int, qAt, if_neg (by omega), if_pos (by omega)]
    rw [e1, NX_or _ (fun j => Qn_bd s n _) r (by omega), NX_none _ (r + 1) 8 (by omega) fun j a b => ?_]
    show (qAt s (136 * n + (8 * l + j))).toNat = 0
    rw [qAt, if_neg (by omega), if_neg (by omega)]
    rfl
  · show (bt _ j).toNat = (qAt s (136 * n + (8 * l + j))).toNat
    rw [bt_rem _ _ _ (by omega), qAt, if_pos (by omega), show 8 * (s.size / 8) + j = 136 * n + (8 * l + j) by omega]
theorem blk_last (G : Nat → Int) (hG : ∀ j, La (G j)) (s : ByteArray) (n l : Nat) (hn : s.size / 136 = n) (hl : s.size % 136 / 8 = l) (k : Nat) (hk : l < k) (hk2 : k ≤ 17) : rblk G (fun i => (Qn s n i : Int)) (8 * k) = lastOf (blkOf G s n l) (remAt s (s.size / 8)) l := by
  induction k with
  | zero => omega
  | succ k ih =>
    rw [show 8 * (k + 1) = 8 * k + 8 by omega, rblk_lane G hG (Qn s n) (Qn_bd s n) k 8 (by omega)]
    by_cases e : k = l
    · rw [e, same_blk G hG s n l (by omega), last_lane s n l hn hl]
      rfl
    · rw [NX_none (fun j => Qn s n (8 * k + j)) 0 8 (by omega) fun j _ b => ?_]
      · show putAt _ k (xr _ 0) = _
        rw [xr_zero' _ (la_rblk _ _ hG _ _), putAt_same]
        exact ih (by omega) (by omega)
      · show (qAt s (136 * n + (8 * k + j))).toNat = 0
        rw [qAt, if_neg (by omega), if_neg (by omega)]
        rfl
theorem rin_is (s : ByteArray) : rin s (s.size / 136 + 1) = takeOf (fun _ => 0) s := by
  obtain ⟨n, hn⟩ : ∃ n, s.size / 136 = n := ⟨_, rfl⟩
  obtain ⟨l, hl⟩ : ∃ l, s.size % 136 / 8 = l := ⟨_, rfl⟩
  rw [takeOf, endOf, hn, hl, rin, blk_mark _ s n hn, show rblk (rin s n) (fun i => (Qn s n i : Int)) 136 = rblk (rin s n) (fun i => (Qn s n i : Int)) (8 * 17) from rfl, blk_last _ (la_rin s n) s n l hn hl 17 (by omega) (by omega), in_is s n (by omega)]
theorem rsum_is (s : ByteArray) : rsumOf s = sumOf s := by
  rw [rsumOf, sumOf, rin_is]
end Go.Proofs.YteiadmhododppaaDoor
