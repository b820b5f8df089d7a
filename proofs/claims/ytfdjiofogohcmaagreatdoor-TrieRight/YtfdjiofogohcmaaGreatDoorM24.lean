/- Lemmas: The reference's lanes are the program's: byte by byte, or lane by lane. The reference's digest is the program's. shown. TrieRight's walk; pairs opened from a law's arguments. -/
import Derived.Test.YtfdjiofogohcmaaGreatDoorM23
import Derived.Test.YtfdjiofogohcmaaGreatDoorM22
import Derived.Test.YtfdjiofogohcmaaGreatDoorM2
import Derived.Deep.SlicePairs
namespace Go.Proofs.YtfdjiofogohcmaaGreatDoor
open Go.RowKit Go.Sort

theorem xor_nat64 (x y : Nat) (hx : x < 18446744073709551616) (hy : y < 18446744073709551616) (hz : x ^^^ y < 18446744073709551616) : xr (x : Int) (y : Int) = ((x ^^^ y : Nat) : Int) := by
  have e : xr (x : Int) (y : Int) = IntKind.u64.wrap (((BitVec.ofInt 64 (x : Int)) ^^^ (BitVec.ofInt 64 (y : Int))).toNat : Int) := rfl
  rw [e, BitVec.toNat_xor, k_ofInt_nat64 x hx, k_ofInt_nat64 y hy, IntKind.wrap_u64]
  omega
theorem xor_add (a b i : Nat) (h : a < 2 ^ i) : a ^^^ (2 ^ i * b) = 2 ^ i * b + a := by
  apply Nat.eq_of_testBit_eq
  intro j
  rw [Nat.testBit_xor, Nat.testBit_two_pow_mul_add b h, Nat.testBit_two_pow_mul]
  by_cases hj : j < i
  · simp [hj, show ¬ i ≤ j by omega]
  · have : a.testBit j = false := Nat.testBit_lt_two_pow (Nat.lt_of_lt_of_le h (Nat.pow_le_pow_right (by decide) (by omega)))
    simp [hj, this, show i ≤ j by omega]
theorem or_add (a b i : Nat) (h : a < 2 ^ i) : a ||| (2 ^ i * b) = 2 ^ i * b + a := by
  rw [Nat.or_comm, Nat.two_pow_add_eq_or_of_lt h]
/-- A lane of bytes, the first one lowest. -/
def NX (q : Nat → Nat) : Nat → Nat
  | 0 => 0
  | k + 1 => 2 ^ (8 * k) * q k + NX q k
theorem NX_lt (q : Nat → Nat) (hq : ∀ j, q j < 256) (k : Nat) : NX q k < 2 ^ (8 * k) := by
  induction k with
  | zero => exact Nat.one_pos
  | succ k ih =>
    have e : 2 ^ (8 * (k + 1)) = 2 ^ (8 * k) * 256 := by rw [show 8 * (k + 1) = 8 * k + 8 by omega, Nat.pow_add]
    have h1 : 2 ^ (8 * k) * (q k + 1) ≤ 2 ^ (8 * k) * 256 := Nat.mul_le_mul_left _ (by have := hq k; omega)
    rw [Nat.mul_add] at h1
    rw [e, NX]
    omega
theorem NX_bd (q : Nat → Nat) (hq : ∀ j, q j < 256) (k : Nat) (hk : k ≤ 8) : NX q k < 18446744073709551616 :=
  Nat.lt_of_lt_of_le (NX_lt q hq k) (Nat.le_trans (Nat.pow_le_pow_right (by decide) (show 8 * k ≤ 64 by omega)) (by decide))
theorem NX_ext (q p : Nat → Nat) (k : Nat) (h : ∀ j, j < k → q j = p j) : NX q k = NX p k := by
  induction k with
  | zero => rfl
  | succ k ih => rw [NX, NX, ih (fun j hj => h j (by omega)), h k (by omega)]
theorem NX_none (q : Nat → Nat) (m : Nat) : ∀ k, m ≤ k → (∀ j, m ≤ j → j < k → q j = 0) → NX q k = NX q m := by
  intro k
  induction k with
  | zero => intro h _; rw [show m = 0 by omega]
  | succ k ih =>
    intro h hz
    by_cases e : m = k + 1
    · rw [e]
    · rw [NX, hz k (by omega) (by omega), Nat.mul_zero, Nat.zero_add, ih (by omega) (fun j a b => hz j a (by omega))]
theorem sh_lt (b k : Nat) (hb : b < 256) (hk : k < 8) : 2 ^ (8 * k) * b < 18446744073709551616 := by
  have h1 : 2 ^ (8 * k) * b < 2 ^ (8 * k) * 256 := Nat.mul_lt_mul_of_pos_left hb (Nat.pow_pos (by decide))
  have h2 : 2 ^ (8 * k) ≤ 2 ^ 56 := Nat.pow_le_pow_right (by decide) (by omega)
  have h3 : (2 : Nat) ^ 56 = 72057594037927936 := by decide
  omega
theorem sh_wrap (b k : Nat) (hb : b < 256) (hk : k < 8) : IntKind.u64.wrap ((b : Int) * 2 ^ (8 * k)) = ((2 ^ (8 * k) * b : Nat) : Int) := by
  have h := sh_lt b k hb hk
  have e : (b : Int) * 2 ^ (8 * k) = ((2 ^ (8 * k) * b : Nat) : Int) := by rw [Int.natCast_mul, Int.natCast_pow, Int.mul_comm]; rfl
  rw [e, IntKind.wrap_u64]
  omega
theorem NX_xor (q : Nat → Nat) (hq : ∀ j, q j < 256) (k : Nat) (hk : k < 8) : xr (NX q k : Int) (IntKind.u64.wrap ((q k : Int) * 2 ^ (8 * k))) = (NX q (k + 1) : Int) := by
  have h := xor_add (NX q k) (q k) (8 * k) (NX_lt q hq k)
  rw [sh_wrap _ _ (hq k) hk, xor_nat64 _ _ (NX_bd q hq k (by omega)) (sh_lt _ _ (hq k) hk) (by rw [h]; exact NX_bd q hq (k + 1) (by omega)), h]
  rfl
theorem NX_or (q : Nat → Nat) (hq : ∀ j, q j < 256) (k : Nat) (hk : k < 8) : bits .or .u64 (NX q k : Int) (IntKind.u64.wrap ((q k : Int) * 2 ^ (8 * k))) = (NX q (k + 1) : Int) := by
  have h := or_add (NX q k) (q k) (8 * k) (NX_lt q hq k)
  rw [sh_wrap _ _ (hq k) hk, k_or_nat64 _ _ (NX_bd q hq k (by omega)) (sh_lt _ _ (hq k) hk), h]
  rfl
theorem laneN_is (t : ByteArray) (k : Nat) (hk : k ≤ 8) : laneN t k = (NX (fun j => (k_bt t j).toNat) k : Int) := by
  have hq : ∀ j, (fun j => (k_bt t j).toNat) j < 256 := fun j => by have := k_bt_bd t j; show (k_bt t j).toNat < 256; omega
  induction k with
  | zero => rfl
  | succ k ih =>
    have hb := k_bt_bd t k
    have e : k_bt t k = (((fun j => (k_bt t j).toNat) k : Nat) : Int) := by show k_bt t k = ((k_bt t k).toNat : Int); omega
    rw [laneN, ih (by omega), e, NX_or _ hq k (by omega)]

theorem putAt_same (g : Nat → Int) (l : Nat) : putAt g l (g l) = g := by
  funext j
  unfold putAt
  by_cases e : j = l
  · rw [if_pos e, e]
  · rw [if_neg e]
theorem putAt_twice (g : Nat → Int) (l : Nat) (u v : Int) : putAt (putAt g l u) l v = putAt g l v := by
  funext j
  unfold putAt
  by_cases e : j = l
  · rw [if_pos e, if_pos e]
  · rw [if_neg e, if_neg e, if_neg e]
theorem putAt_at (g : Nat → Int) (l : Nat) (v : Int) : putAt g l v l = v := by unfold putAt; rw [if_pos rfl]
theorem xr_zero' (x : Int) (h : La x) : xr x 0 = x := by
  obtain ⟨n, rfl⟩ := Int.eq_ofNat_of_zero_le h.1
  have hn : n < 18446744073709551616 := by have := h.2; omega
  have := xor_nat64 n 0 hn (by decide) (by rw [Nat.xor_zero]; exact hn)
  rw [Nat.xor_zero] at this
  exact this
/-- Eight bytes of a lane. -/
theorem rblk_lane (G : Nat → Int) (hG : ∀ j, La (G j)) (Q : Nat → Nat) (hQ : ∀ j, Q j < 256) (l k : Nat) (hk : k ≤ 8) :
    rblk G (fun i => (Q i : Int)) (8 * l + k) = putAt (rblk G (fun i => (Q i : Int)) (8 * l)) l (xr (rblk G (fun i => (Q i : Int)) (8 * l) l) (NX (fun j => Q (8 * l + j)) k : Int)) := by
  induction k with
  | zero =>
    rw [show NX (fun j => Q (8 * l + j)) 0 = 0 from rfl]
    show _ = putAt _ l (xr _ 0)
    rw [xr_zero' _ (la_rblk _ _ hG _ _), putAt_same]
    rfl
  | succ k ih =>
    show putAt (rblk G _ (8 * l + k)) ((8 * l + k) / 8) (xr (rblk G _ (8 * l + k) ((8 * l + k) / 8)) (IntKind.u64.wrap ((Q (8 * l + k) : Int) * 2 ^ (8 * ((8 * l + k) % 8))))) = _
    rw [show (8 * l + k) / 8 = l by omega, show (8 * l + k) % 8 = k by omega, ih (by omega), putAt_twice, putAt_at, xr_assoc, NX_xor (fun j => Q (8 * l + j)) (fun j => hQ _) k (by omega)]
end Go.Proofs.YtfdjiofogohcmaaGreatDoor
namespace Go.Proofs.YtfdjiofogohcmaaGreatDoor
open Go.RowKit Go.Sort

theorem bt_extract (t : ByteArray) (a b j : Nat) (hb : b ≤ t.size) (hj : a + j < b) : k_bt (t.extract a b) j = k_bt t (a + j) := by
  have e : t.data.size = t.size := rfl
  unfold k_bt
  rw [ByteArray.data_extract]
  have h1 : j < (t.data.extract a b).size := by rw [Array.size_extract]; omega
  have h2 : a + j < t.data.size := by omega
  simp only [Array.getD, h1, h2, dite_true]
  show (((t.data.extract a b)[j]'h1).toNat : Int) = ((t.data[a + j]'h2).toNat : Int)
  rw [Array.getElem_extract]
theorem bt_rem (t : ByteArray) (m j : Nat) (h : 8 * m + j < t.size) : k_bt (remAt t m) j = k_bt t (8 * m + j) := by
  induction m generalizing j with
  | zero => rw [show 8 * 0 + j = j by omega]; rfl
  | succ m ih =>
    have hs := rem_size t m
    rw [remAt, bt_extract _ _ _ _ (Nat.le_refl _) (by omega), ih (8 + j) (by omega), show 8 * m + (8 + j) = 8 * (m + 1) + j by omega]
theorem rblk_ext (G q p : Nat → Int) (k : Nat) (h : ∀ i, i < k → q i = p i) : rblk G q k = rblk G p k := by
  induction k with
  | zero => rfl
  | succ k ih => rw [rblk, rblk, ih (fun i hi => h i (by omega)), h k (by omega)]
theorem qAt_bd (s : ByteArray) (k : Nat) : 0 ≤ qAt s k ∧ qAt s k < 256 := by
  unfold qAt
  by_cases a : k < s.size
  · rw [if_pos a]; exact k_bt_bd s k
  · rw [if_neg a]
    by_cases b : k = s.size
    · rw [if_pos b]; omega
    · rw [if_neg b]; omega
/-- The bytes of a block, but for the last mark. -/
def Qn (s : ByteArray) (n i : Nat) : Nat := (qAt s (136 * n + i)).toNat
theorem Qn_int (s : ByteArray) (n i : Nat) : (Qn s n i : Int) = qAt s (136 * n + i) := by
  have := qAt_bd s (136 * n + i)
  unfold Qn
  omega
theorem Qn_bd (s : ByteArray) (n i : Nat) : Qn s n i < 256 := by
  have := qAt_bd s (136 * n + i)
  unfold Qn
  omega
theorem same_lane (s : ByteArray) (n l : Nat) (h : 8 * (17 * n + l) + 8 ≤ s.size) : laneN ((remAt s (17 * n + l)).extract 0 8) 8 = (NX (fun j => Qn s n (8 * l + j)) 8 : Int) := by
  have hs := rem_size s (17 * n + l)
  rw [laneN_is _ 8 (by omega), NX_ext _ (fun j => Qn s n (8 * l + j)) 8 fun j hj => ?_]
  show (k_bt _ j).toNat = (qAt s (136 * n + (8 * l + j))).toNat
  rw [bt_extract _ _ _ _ (by omega) (by omega), Nat.zero_add, bt_rem _ _ _ (by omega), qAt, if_pos (by omega), show 8 * (17 * n + l) + j = 136 * n + (8 * l + j) by omega]
theorem same_blk (G : Nat → Int) (hG : ∀ j, La (G j)) (s : ByteArray) (n l : Nat) (h : 8 * (17 * n + l) ≤ s.size) : rblk G (fun i => (Qn s n i : Int)) (8 * l) = blkOf G s n l := by
  induction l with
  | zero => rfl
  | succ l ih => rw [show 8 * (l + 1) = 8 * l + 8 by omega, rblk_lane G hG (Qn s n) (Qn_bd s n) l 8 (by omega), ih (by omega), blkOf, same_lane s n l (by omega)]
theorem in_whole (s : ByteArray) (n : Nat) (h : 136 * (n + 1) ≤ s.size) : rin s (n + 1) = roundsOf (blkOf (rin s n) s n 17) 24 := by
  rw [rin, rblk_ext _ _ (fun i => (Qn s n i : Int)) 136 fun i hi => ?_]
  · rw [show (136 : Nat) = 8 * 17 by rfl, same_blk _ (la_rin s n) s n 17 (by omega)]
  · show qL s (136 * n + i) = (Qn s n i : Int)
    rw [Qn_int, qL, if_neg]
    unfold qN
    omega
theorem in_is (s : ByteArray) (n : Nat) (h : 136 * n ≤ s.size) : rin s n = inOf (fun _ => 0) s n := by
  induction n with
  | zero => rfl
  | succ n ih => rw [in_whole s n h, ih (by omega)]; rfl
theorem mark_is (b : Int) (h : b = 0 ∨ b = 1) : IntKind.u64.wrap (bits .xor .u8 b 128 * 2 ^ 56) = xr (IntKind.u64.wrap (b * 2 ^ 56)) 9223372036854775808 := by
  rcases h with rfl | rfl <;> decide
theorem blk_mark (G : Nat → Int) (s : ByteArray) (n : Nat) (h : s.size / 136 = n) : rblk G (fun i => qL s (136 * n + i)) 136 = putAt (rblk G (fun i => (Qn s n i : Int)) 136) 16 (xr (rblk G (fun i => (Qn s n i : Int)) 136 16) 9223372036854775808) := by
  have e1 : rblk G (fun i => qL s (136 * n + i)) 135 = rblk G (fun i => (Qn s n i : Int)) 135 := rblk_ext _ _ _ _ fun i hi => by
    show qL s (136 * n + i) = (Qn s n i : Int)
    rw [Qn_int, qL, if_neg]
    unfold qN
    omega
  have e2 : qL s (136 * n + 135) = bits .xor .u8 (qAt s (136 * n + 135)) 128 := by
    rw [qL, if_pos]
    unfold qN
    omega
  have e3 : qAt s (136 * n + 135) = 0 ∨ qAt s (136 * n + 135) = 1 := by
    unfold qAt
    rw [if_neg (by omega)]
    by_cases b : 136 * n + 135 = s.size
    · rw [if_pos b]; exact Or.inr rfl
    · rw [if_neg b]; exact Or.inl rfl
  have e4 : rblk G (fun i => qL s (136 * n + i)) 136 = putAt (rblk G (fun i => qL s (136 * n + i)) 135) 16 (xr (rblk G (fun i => qL s (136 * n + i)) 135 16) (IntKind.u64.wrap (qL s (136 * n + 135) * 2 ^ 56))) := rfl
  have e5 : rblk G (fun i => (Qn s n i : Int)) 136 = putAt (rblk G (fun i => (Qn s n i : Int)) 135) 16 (xr (rblk G (fun i => (Qn s n i : Int)) 135 16) (IntKind.u64.wrap ((Qn s n 135 : Int) * 2 ^ 56))) := rfl
  rw [e4, e5, e1, e2, Qn_int, putAt_twice, putAt_at, xr_assoc, mark_is _ e3]
theorem last_lane (s : ByteArray) (n l : Nat) (hn : s.size / 136 = n) (hl : s.size % 136 / 8 = l) : (NX (fun j => Qn s n (8 * l + j)) 8 : Int) = bits .or .u64 (laneN (remAt s (s.size / 8)) (remAt s (s.size / 8)).size) (IntKind.u64.wrap (1 * 2 ^ (8 * (remAt s (s.size / 8)).size))) := by
  have hr : (remAt s (s.size / 8)).size = s.size % 8 := by rw [rem_size]; omega
  have h8 : s.size % 8 < 8 := by omega
  obtain ⟨r, hr2⟩ : ∃ r, s.size % 8 = r := ⟨_, rfl⟩
  rw [hr, hr2, laneN_is _ r (by omega), NX_ext _ (fun j => Qn s n (8 * l + j)) r fun j hj => ?_]
  · have e1 : (1 : Int) = (((fun j => Qn s n (8 * l + j)) r : Nat) : Int) := by
      show (1 : Int) = (Qn s n (8 * l + r) : Int)
      rw [Qn_int, qAt, if_neg (by omega), if_pos (by omega)]
    rw [e1, NX_or _ (fun j => Qn_bd s n _) r (by omega), NX_none _ (r + 1) 8 (by omega) fun j a b => ?_]
    show (qAt s (136 * n + (8 * l + j))).toNat = 0
    rw [qAt, if_neg (by omega), if_neg (by omega)]
    rfl
  · show (k_bt _ j).toNat = (qAt s (136 * n + (8 * l + j))).toNat
    rw [bt_rem _ _ _ (by omega), qAt, if_pos (by omega), show 8 * (s.size / 8) + j = 136 * n + (8 * l + j) by omega]
theorem blk_last (G : Nat → Int) (hG : ∀ j, La (G j)) (s : ByteArray) (n l : Nat) (hn : s.size / 136 = n) (hl : s.size % 136 / 8 = l) (k : Nat) (hk : l < k) (hk2 : k ≤ 17) : rblk G (fun i => (Qn s n i : Int)) (8 * k) = lastOf (blkOf G s n l) (remAt s (s.size / 8)) l := by
  induction k with
  | zero => omega
  | succ k ih =>
    rw [show 8 * (k + 1) = 8 * k + 8 by omega, rblk_lane G hG (Qn s n) (Qn_bd s n) k 8 (by omega)]
    by_cases e : k = l
    · rw [e, same_blk G hG s n l (by omega), last_lane s n l hn hl]
      rfl
    · rw [NX_none (fun j => Qn s n (8 * k + j)) 0 8 (by omega) fun j _ b => ?_]
      · show putAt _ k (xr _ 0) = _
        rw [xr_zero' _ (la_rblk _ _ hG _ _), putAt_same]
        exact ih (by omega) (by omega)
      · show (qAt s (136 * n + (8 * k + j))).toNat = 0
        rw [qAt, if_neg (by omega), if_neg (by omega)]
        rfl
theorem rin_is (s : ByteArray) : rin s (s.size / 136 + 1) = takeOf (fun _ => 0) s := by
  obtain ⟨n, hn⟩ : ∃ n, s.size / 136 = n := ⟨_, rfl⟩
  obtain ⟨l, hl⟩ : ∃ l, s.size % 136 / 8 = l := ⟨_, rfl⟩
  rw [takeOf, endOf, hn, hl, rin, blk_mark _ s n hn, show rblk (rin s n) (fun i => (Qn s n i : Int)) 136 = rblk (rin s n) (fun i => (Qn s n i : Int)) (8 * 17) from rfl, blk_last _ (la_rin s n) s n l hn hl 17 (by omega) (by omega), in_is s n (by omega)]
theorem rsum_is (s : ByteArray) : rsumOf s = sumOf s := by
  rw [rsumOf, sumOf, rin_is]
end Go.Proofs.YtfdjiofogohcmaaGreatDoor
namespace Go.Proofs.YtfdjiofogohcmaaGreatDoor
open Go.RowKit Go.Shelf Go.Sort

theorem right4 : RightP four4 := by
  refine ⟨by decide, fun j e he => ?_, fun j k e f hjk he hf => ?_⟩
  · have : e ∈ four4 := List.mem_of_getElem? he
    have h : ∀ e ∈ four4, pOk e = true := by decide +kernel
    exact h e this
  · have hk : k < 4 := (List.getElem?_eq_some_iff.1 hf).1
    have h : ∀ j k : Fin 4, j.val < k.val → (four4[j.val]?.map (·.1)) ≠ (four4[k.val]?.map (·.1)) := by decide +kernel
    have := h ⟨j, by omega⟩ ⟨k, hk⟩ hjk
    intro h'
    apply this
    show (four4[j]?.map (·.1)) = (four4[k]?.map (·.1))
    rw [he, hf]
    simp [h']
theorem sorted4 : SortedP four4 := by
  intro i j x y hij hx hy
  have hj : j < 4 := (List.getElem?_eq_some_iff.1 hy).1
  have h : ∀ i j : Fin 4, i.val < j.val → ∀ x ∈ four4[i.val]?, ∀ y ∈ four4[j.val]?, ltStr y.1.data.toList x.1.data.toList = false := by decide +kernel
  exact h ⟨i, by omega⟩ ⟨j, hj⟩ hij x hx y hy
theorem only4 {es' : List Pr} (h : es'.Perm four4) (hs : SortedP es') : es' = four4 := sorted_one right4 h (List.Perm.refl _) hs sorted4
set_option maxRecDepth 20000 in
set_option maxHeartbeats 1000000 in
theorem four_any (w : World) :
    Calls Tryz.prog 23 #[] w fun e w' => Below w.heap.size w w' ∧ ∃ b, e = .returned (.slice (some ⟨b, 0, none⟩) 4 4) ∧ w.heap.size ≤ b ∧ slP w'.heap.size w' (some ⟨b, 0, none⟩) four4 := by
  go_enter Tryz.func23, Tryz.ntmps23
  go_wp2
  go_ret
  refine ⟨be_new w _, w.heap.size, rfl, Nat.le_refl _, .inr ⟨w.heap.size, 0, rfl, by simp, ?_⟩⟩
  intro j e he
  have hc := fun k => Lib.cell_of_heap (j := k) (World.alloc_heap_new w (.cells #[.string ⟨#[100, 111]⟩, .string ⟨#[118, 101, 114, 98]⟩, .string ⟨#[100, 111, 103]⟩, .string ⟨#[112, 117, 112, 112, 121]⟩, .string ⟨#[100, 111, 103, 101]⟩, .string ⟨#[99, 111, 105, 110]⟩, .string ⟨#[104, 111, 114, 115, 101]⟩, .string ⟨#[115, 116, 97, 108, 108, 105, 111, 110]⟩] 40))
  match j, he with
  | 0, he => cases he; exact ⟨hc 0, hc 1⟩
  | 1, he => cases he; exact ⟨hc 2, hc 3⟩
  | 2, he => cases he; exact ⟨hc 4, hc 5⟩
  | 3, he => cases he; exact ⟨hc 6, hc 7⟩
  | k + 4, he => cases he

set_option maxRecDepth 20000 in
set_option maxHeartbeats 2000000 in
theorem shown6_any (w : World) (hl : Laid w) :
    Calls Tryz.prog 9 #[] w fun e w' => e = .returned (.bool true) ∧ Below w.heap.size w w' := by
  go_enter Tryz.func9, Tryz.ntmps9
  go_wp2_with fail
  refine (four_any w).mono ?_
  rintro e w1 ⟨B1, b1, rfl, hb1, hp1⟩
  have KR := root_any four4 (some ⟨b1, 0, none⟩) 4 w1.heap.size w1 (hl.below B1) (Nat.le_refl _) hp1
  go_wp2_with fail
  refine KR.mono ?_
  rintro e w2 ⟨B2, hr⟩
  rcases hr with ⟨hn, _⟩ | ⟨_, es', hperm, hsort, rfl⟩
  · exact absurd right4 hn
  rw [only4 hperm hsort, topB4, D4.sum]
  clear hperm hsort KR hp1
  have B12 := belowStep B1 B1.size B2
  go_wp2_with fail
  refine (four_any w2).mono ?_
  rintro e w3 ⟨B3, b3, rfl, hb3, hp3⟩
  have B13 := belowStep B12 B12.size B3
  have KP := prove_any four4 ⟨#[100, 111, 103]⟩ (some ⟨b3, 0, none⟩) 4 w3.heap.size w3 (hl.below B13) (Nat.le_refl _) hp3
  go_wp2_with fail
  refine KP.mono ?_
  rintro e w4 ⟨B4, hr⟩
  rcases hr with ⟨hn, _⟩ | ⟨_, es', v, hperm, hsort, rfl, hown⟩
  · exact absurd right4 hn
  rw [only4 hperm hsort, way4] at hown
  clear hperm hsort KP hp3
  have B14 := belowStep B13 B13.size B4
  obtain ⟨g, c, rfl, c0⟩ : ∃ g c, v = .slice (some ⟨g, 0, none⟩) 4 c ∧ w4.cell? ⟨g, 0, none⟩ = some (.string D4.t) := by
    rcases hown.2 with ⟨_, h⟩ | ⟨g, c, cur, h1, h2, h3, h4, h5, h6, h7⟩
    · cases h
    · refine ⟨g, c, h1, ?_⟩
      rw [Lib.cell_of_heap h3]
      have := congrArg (fun l : List Value => l[0]?) h7
      simpa [List.getElem?_take] using this
  have KM := fun w => rsum_any D4.t (by decide +kernel) w
  rw [rsum_is, D4.sum] at KM
  have hd : D4.d.size = 32 := by decide +kernel
  have hx : (D4.d.extract 0 4).toList = [89, 145, 187, 140] := by rw [Lib.toList_data]; decide +kernel
  have HB : Hid _ := B14
  clear hown B14 B13 B12 B4 B3 B2 B1
  go_wp2_with fail
  refine (KM _).mono ?_
  rintro e w5 ⟨rfl, B5⟩
  have BW := belowStep HB.out HB.out.size B5
  clear KM B5
  go_wp2
  go_ret
  exact ⟨congrArg (fun b => Ending.returned (.bool b)) (by decide +kernel), BW⟩
end Go.Proofs.YtfdjiofogohcmaaGreatDoor
namespace Go.Proofs.YtfdjiofogohcmaaGreatDoor
open Go.ChangeShapes Go.WideShapes Go.ChangeAt Go.RowKit

theorem cellsPr : Tryz.prog.cellsOf 40 = 2 := by kernel_rfl
theorem cellsSt : Tryz.prog.cellsOf 9 = 1 := by kernel_rfl
/-- Pairs that a law gets: where they lie. -/
theorem open_pairs {H : Type} {enc : TypeId × Value → H} {W : World} {fuel : Nat} {a : Option Addr} {len cap : Nat} {x : DataW H × List MemPlace} (h : DataW.trod enc Tryz.prog W 0 (fun _ => true) true fuel 22 [.slice a len cap] = some x) :
    ∃ es : List Pr, es.length = len ∧ slP W.heap.size W a es := by
  rcases Go.Deep.open_slice_pairs Tryz.underlying22 Tryz.underlying40 cellsPr rfl rfl cellsSt cellsSt h with ⟨hcs, hx⟩ | ⟨a', len', cap', m, n, V0, V1, D0, D1, P0, P1, hcs, _, hle, hm, hmm, hx, hc⟩
  · injection hcs with hcs _
    injection hcs with h1 h2 h3
    exact ⟨[], h2.symm, .inl rfl⟩
  · injection hcs with hcs _
    injection hcs with h1 h2 h3
    subst h1 h2 h3
    rw [if_pos rfl] at hmm
    subst hmm
    by_cases h0 : len = 0
    · subst h0
      exact ⟨[], rfl, .inl rfl⟩
    · have each : ∀ i, i < len → ∃ e : Pr, V0 i = .string e.1 ∧ V1 i = .string e.2 := fun i hi => by
        obtain ⟨_, _, g0, g1⟩ := hc i (by omega)
        obtain ⟨t0, e0, _⟩ := DataW.trod_string Tryz.underlying9 g0
        obtain ⟨t1, e1, _⟩ := DataW.trod_string Tryz.underlying9 g1
        injection e0 with e0 _
        injection e1 with e1 _
        exact ⟨(t0, t1), e0, e1⟩
      obtain ⟨b, off, spot⟩ := a'
      have hspot : spot = none := by simpa [Addr.add] using World.cell?_spot (hc 0 (by omega)).1
      subst hspot
      have hbl : b < W.heap.size := by
        have := (hc 0 (by omega)).1
        rw [add_plain] at this
        exact block_lt_of_cell this
      refine ⟨(List.range len).map fun i => (match V0 i with | .string s => s | _ => ⟨#[]⟩, match V1 i with | .string s => s | _ => ⟨#[]⟩), by simp, .inr ⟨b, off, rfl, hbl, fun j e he => ?_⟩⟩
      rw [List.getElem?_map] at he
      cases hj : (List.range len)[j]? with
      | none => rw [hj] at he; cases he
      | some k =>
        rw [hj] at he
        have hk : j < len ∧ k = j := by
          have h1 := List.getElem?_eq_some_iff.1 hj
          obtain ⟨h2, h3⟩ := h1
          rw [List.getElem_range] at h3
          rw [List.length_range] at h2
          exact ⟨h2, h3.symm⟩
        obtain ⟨hjl, rfl⟩ := hk
        obtain ⟨e', f0, f1⟩ := each k hjl
        obtain ⟨k0, k1, _⟩ := hc k (by omega)
        rw [add_plain] at k0 k1
        rw [f0] at k0
        rw [f1] at k1
        simp only [Option.map_some, f0, f1] at he
        cases he
        exact ⟨by rw [show off + 2 * k = off + k * 2 by omega]; exact k0, by rw [show off + 2 * k + 1 = off + (k * 2 + 1) by omega]; exact k1⟩

open Go.Shelf Go.Sort
set_option maxRecDepth 20000 in
set_option maxHeartbeats 1000000 in
theorem tright_any (es : List Pr) (a : Option Addr) (c : Nat) (w : World) (hl : Laid w) (hp : slP w.heap.size w a es) :
    Calls Tryz.prog 4 #[.slice a es.length c] w fun e w' => e = .returned (.bool true) ∧ Below w.heap.size w w' := by
  go_enter Tryz.func4, Tryz.ntmps4
  go_wp2_with fail
  refine (shown6_any w hl).mono ?_
  rintro e w1 ⟨rfl, B1⟩
  have hp1 := slP_below B1 hp
  have K1 := right_any6 es a c w.heap.size w1 B1.size hp1
  have HP : Hid _ := hp
  clear hp hp1
  go_wp2_with fail
  refine K1.mono ?_
  rintro e w2 ⟨⟨b1, rfl, h1⟩, B2⟩
  have B12 := belowStep B1 B1.size B2
  have hp2 := slP_below B12 HP.out
  have K2 := rright6_any es a c w.heap.size w2 B12.size hp2
  have HH : Hid _ := h1
  clear hp2 h1 K1
  go_wp2_with fail
  refine K2.mono ?_
  rintro e w3 ⟨⟨b2, rfl, h2⟩, B3⟩
  have BW := belowStep B12 B12.size B3
  obtain rfl : b1 = b2 := by
    have h1 := HH.out
    cases b1 <;> cases b2 <;> simp_all
  clear h2 K2 HH HP
  go_wp2
  go_ret
  exact ⟨by simp, BW⟩
end Go.Proofs.YtfdjiofogohcmaaGreatDoor
