/- Lemmas: A number as bytes: what Number answers, the program's and the document's. No condition. Items as they lie in memory; how many bytes they take. How many bytes an item takes: sizeOf and bodySize. What stands ahead of an item: head and headOf. A drawn statement in a round of a loop over a function: it is walked as anywhere. No condition. An item and all that is within it, gone through. -/
import Derived.Test.YtbpcciifaekffaaGreatDoorM1
import Derived.Test.YtbpcciifaekffaaGreatDoorM2
import Derived.Test.YtbpcciifaekffaaGreatDoorRows
import Derived.Deep.OwnRows
import Derived.Laws.IdiomStrings
import Derived.LoopIn
import Derived.LoopNIn
import Derived.OwnWalkIn
import Derived.RangeFuncBound
import Derived.RangeFuncCalls
import Derived.RangeFuncLeaves
import Derived.RangeFuncNested
import Derived.Shelf.Abstract
import Derived.Shelf.RegionOpen
import Derived.TacticsInMore
import Derived.Lib.Builder
namespace Go.Proofs.YtbpcciifaekffaaGreatDoor
open Go.RowKit Go.Sort

theorem info_u8 : (Tryz.prog.info? 5).map (fun i => (i.zero, i.size, i.bytes)) = some (some (.int .u8 0), 1, 1) := by kernel_rfl
theorem Fw_made (w : World) (n : Nat) (z : Value) (t : TypeId) : Fw w.heap.size n (fun _ => z) (w.alloc (.cells (madeCells #[z] n) t)) :=
  ⟨by simp, fun j hj => by simp [go_sem, madeCells, hj, Nat.mod_one], fun o => by simp [go_sem]⟩
/-- A number's byte, and its bytes. -/
def nAt (n m j : Nat) : Int := ((n / 256 ^ (m - 1 - j) % 256 : Nat) : Int)
def numOf (n : Nat) : ByteArray := ⟨(by8 (blen n) (nAt n (blen n))).toArray⟩
theorem nAt_bd (n m j : Nat) : 0 ≤ nAt n m j ∧ nAt n m j < 256 := by unfold nAt; omega
theorem blen_le (n : Nat) : ∀ k, n < 256 ^ k → blen n ≤ k
  | 0, h => by rw [show n = 0 by rw [Nat.pow_zero] at h; omega, blen_0]; exact Nat.le_refl _
  | k + 1, h => by
    by_cases h0 : n = 0
    · rw [h0, blen_0]; omega
    · rw [blen_pos n h0]
      have := blen_le (n / 256) k (Nat.div_lt_of_lt_mul (by rw [Nat.pow_succ] at h; omega))
      omega
termination_by k => k

set_option maxRecDepth 20000 in
set_option maxHeartbeats 2000000 in
theorem number_any (n : Nat) (hn : n < 18446744073709551616) (w : World) :
    Calls Tryz.prog 143 #[.int .u64 n] w fun e w' => e = .returned (.string (numOf n)) ∧ Below w.heap.size w w' := by
  have hm8 := blen_le n 8 (by exact hn)
  have KL : Hid (∀ w : World, _) := fun w : World => len64_any n hn w
  go_enter Tryz.func143, Tryz.ntmps143
  go_wp2_with fail
  refine (KL.out _).mono ?_
  rintro e w1 ⟨⟨L, rfl, hL, hLm⟩, B1⟩
  obtain ⟨m, hm⟩ : ∃ m, blen n = m := ⟨_, rfl⟩
  rw [hm] at hLm hm8
  have l1 : ((L : Int) + 7).tdiv 8 = m := by rw [Int.tdiv_eq_ediv_of_nonneg (by omega)]; omega
  have l2 : ((L : Int) + 7) / 8 = m := by omega
  clear KL
  obtain ⟨i0, hi0, hz0, hz1, hz2⟩ := info_parts info_u8
  go_wp2_with (at_make; refine wpList_make_row _ rfl _ _ 60 rfl 5 i0 (.int .u8 0) Tryz.underlying60 hi0 hz0 hz1 rfl .i64 .i64 m rfl rfl (by rw [hz2]; omega) (by omega) ?_)
  have F2 : Fw w1.heap.size m (fun _ => .int .u8 0) (w1.alloc (.cells (madeCells #[.int .u8 0] m) 5)) := Fw_made _ _ _ _
  have BN : Below w1.heap.size w1 (w1.alloc (.cells (madeCells #[.int .u8 0] m) 5)) := (Below.refl _ w1).alloc (Nat.le_refl _) _
  have HB : Hid (_ ∧ _ ∧ _) := ⟨F2, belowStep B1 B1.size BN, hm⟩
  have hzw := B1.size
  clear F2 BN B1
  obtain ⟨z, hz⟩ : ∃ c, w1.heap.size = c := ⟨_, rfl⟩
  rw [hz] at HB hzw ⊢
  go_wp2
  go_loopg [12] m (fun gk i wr => ∃ k : Nat, k + gk = m ∧ i = .int .i64 k ∧ Below w.heap.size w wr ∧ Fw z m (fun j => if m ≤ j + k then .int .u8 (nAt n m j) else .int .u8 0) wr)
  case atStart => exact ⟨0, by omega, rfl, HB.out.2.1, HB.out.1.ext fun j hj => if_neg (by omega)⟩
  case round =>
    obtain ⟨k, hk, rfl, BW, F2⟩ := hrel
    by_cases hlt : k < m
    · have c0 : (k : Int) < m := by omega
      obtain ⟨p, hp⟩ : ∃ p, m - 1 - k = p := ⟨_, rfl⟩
      obtain ⟨q, hq⟩ : ∃ q, 8 * k = q := ⟨_, rfl⟩
      have w1' : IntKind.i64.wrap ((m : Int) - 1 - k) = p := by rw [IntKind.wrap_i64]; omega
      have w2' : (m : Int) - 1 - k = p := by omega
      have w3' : IntKind.i64.wrap (8 * (k : Int)) = q := by rw [IntKind.wrap_i64]; omega
      have w4' : 8 * (k : Int) = q := by omega
      obtain ⟨e, he⟩ : ∃ e : Nat, n / 2 ^ q = e := ⟨_, rfl⟩
      have he2 : (n : Int) / 2 ^ q = e := by rw [← he]; exact_mod_cast rfl
      have hpw : nAt n m p = ((e % 256 : Nat) : Int) := by
        unfold nAt
        rw [show m - 1 - p = k by omega, ← he, ← hq, show (256 : Nat) = 2 ^ 8 from rfl, ← Nat.pow_mul]
      obtain ⟨d, hd⟩ : ∃ d : Nat, e % 256 = d := ⟨_, rfl⟩
      have hw : IntKind.u8.wrap (e : Int) = d := by rw [IntKind.wrap_u8]; omega
      have hw2 : (e : Int) % 256 = d := by omega
      have hpm : (p : Int) < m := by omega
      have hpm2 : p < m := by omega
      have cP := F2.c p hpm2
      rw [if_neg (by omega)] at cP
      have fP := F2.f p
      have HP : Hid (_ ∧ _ ∧ _) := ⟨hpw, hd, F2⟩
      clear hpw hd F2 he
      go_wp2
      go_roundg (gk - 1)
      case measure => omega
      case rel =>
        obtain ⟨hpw, hd, F2⟩ := HP.out
        refine ⟨k + 1, by omega, by congr 1, BW.setCell (p := ⟨z, p, none⟩) hzw _, F2.put p (by omega) _ fun j hj => ?_⟩
        by_cases e1 : j = p
        · rw [if_pos e1, if_pos (by omega), e1, hpw, hd]
        · rw [if_neg e1]
          by_cases e2 : m ≤ j + k
          · rw [if_pos e2, if_pos (by omega)]
          · rw [if_neg e2, if_neg (by omega)]
    · have hk2 : k = m := by omega
      subst hk2
      have l0 : ¬ (k : Int) < k := by omega
      have hcv := run_convert_bytes_back (P := Tryz.prog) wr 60 9 5 ⟨z, 0, none⟩ k (by8 k (nAt n k)) Tryz.underlying60 Tryz.underlying5 Tryz.underlying9 (fun j hj => by
        have hj' : j < k := by rw [by8_len] at hj; exact hj
        rw [by8_at _ _ (nAt_bd n k), Addr.add_mid, Nat.zero_add, F2.c j hj', if_pos (by omega)])
      rw [by8_len] at hcv
      have HO : Hid (numOf n = ⟨(by8 k (nAt n k)).toArray⟩) := by unfold numOf; rw [hm]; exact rfl
      clear F2
      go_wp2
      go_ret
      exact ⟨by rw [HO.out]; rfl, BW⟩

/-- New bytes turned to a text. -/
theorem conv_new (w : World) (l : List UInt8) : (convert 60 9 (.slice (some ⟨w.heap.size, 0, none⟩) l.length l.length)).run Tryz.prog (w.alloc (.cells (l.map fun b => Value.int .u8 b.toNat).toArray 5)) = .ok (.string ⟨l.toArray⟩) (w.alloc (.cells (l.map fun b => Value.int .u8 b.toNat).toArray 5)) :=
  run_convert_bytes_back (P := Tryz.prog) _ 60 9 5 ⟨w.heap.size, 0, none⟩ l.length l Tryz.underlying60 Tryz.underlying5 Tryz.underlying9 (fun j hj => by
    rw [Addr.add_mid, Nat.zero_add]
    simp [go_sem, hj])
theorem blen_div (n : Nat) : ∀ k, blen (n / 256 ^ k) = blen n - k
  | 0 => by rw [Nat.pow_zero, Nat.div_one]; rfl
  | k + 1 => by
    have h := blen_div n k
    rw [Nat.pow_succ, ← Nat.div_div_eq_div_mul]
    by_cases h0 : n / 256 ^ k = 0
    · rw [h0] at h ⊢
      rw [Nat.zero_div, blen_0] at *
      omega
    · have := blen_pos _ h0
      omega
theorem div_pos (n k : Nat) : 0 < n / 256 ^ k ↔ k < blen n := by
  have h := blen_div n k
  constructor
  · intro h0
    have := blen_pos (n / 256 ^ k) (by omega)
    omega
  · intro h1
    refine Nat.pos_of_ne_zero fun e => ?_
    rw [e, blen_0] at h
    omega
theorem num_step (n k : Nat) (d : Nat) (hd : n / 256 ^ k % 256 = d) : (⟨#[UInt8.ofNat d]⟩ : ByteArray) ++ ⟨(by8 k (nAt n k)).toArray⟩ = ⟨(by8 (k + 1) (nAt n (k + 1))).toArray⟩ := by
  have hs1 : (⟨#[UInt8.ofNat d]⟩ : ByteArray).size = 1 := rfl
  refine ext_bt _ _ (by rw [ByteArray.size_append, by8_size, by8_size, hs1]; omega) fun j hj => ?_
  rw [ByteArray.size_append, by8_size, hs1] at hj
  rw [bt_app, hs1, bt_by8 _ _ (nAt_bd n (k + 1)) j (by omega)]
  by_cases h0 : j < 1
  · rw [if_pos h0, show j = 0 by omega]
    unfold nAt
    rw [show k + 1 - 1 - 0 = k by omega, hd]
    show ((UInt8.ofNat d).toNat : Int) = d
    rw [UInt8.toNat_ofNat']
    omega
  · rw [if_neg h0, bt_by8 _ _ (nAt_bd n k) _ (by omega)]
    unfold nAt
    rw [show k - 1 - (j - 1) = k + 1 - 1 - j by omega]

--[R4
set_option maxRecDepth 20000 in
set_option maxHeartbeats 2000000 in
theorem rnumber_any (n : Nat) (hn : n < 18446744073709551616) (w : World) :
    Calls Tryz.prog 110 #[.int .u64 n] w fun e w' => e = .returned (.string (numOf n)) ∧ Below w.heap.size w w' := by
  go_enter Tryz.func110, Tryz.ntmps110
  go_wp2
  go_loopg [0, 3] (blen n) (fun gk x t wr => ∃ k : Nat, k + gk = blen n ∧ x = .int .u64 ((n / 256 ^ k : Nat) : Int) ∧ t = .string ⟨(by8 k (nAt n k)).toArray⟩ ∧ Below w.heap.size w wr)
  case atStart => exact ⟨0, by omega, by rw [Nat.pow_zero, Nat.div_one], rfl, Below.refl _ _⟩
  case round =>
    obtain ⟨k, hk, rfl, rfl, BW⟩ := hrel
    have hdp := div_pos n k
    obtain ⟨q, hq⟩ : ∃ q, n / 256 ^ k = q := ⟨_, rfl⟩
    rw [hq] at hdp ⊢
    obtain ⟨t, ht⟩ : ∃ t : ByteArray, ⟨(by8 k (nAt n k)).toArray⟩ = t := ⟨_, rfl⟩
    rw [ht]
    by_cases hlt : k < blen n
    · have h0 : (0 : Int) < q := by have := hdp.2 hlt; omega
      have hqn : q < 18446744073709551616 := Nat.lt_of_le_of_lt (by rw [← hq]; exact Nat.div_le_self _ _) hn
      obtain ⟨d, hd⟩ : ∃ d, q % 256 = d := ⟨_, rfl⟩
      have hw : IntKind.u8.wrap (q : Int) = d := by rw [IntKind.wrap_u8]; omega
      have hw2 : (q : Int) % 256 = d := by omega
      obtain ⟨q2, hq2⟩ : ∃ x, q / 256 = x := ⟨_, rfl⟩
      have hs : (q : Int) / 256 = q2 := by omega
      have hs2 : (q : Int) / 2 ^ 8 = q2 := hs
      have hcv : (convert 60 9 (.slice (some ⟨wr.heap.size, 0, none⟩) 1 1)).run Tryz.prog (wr.alloc (.cells #[.int .u8 d] 5)) = .ok (.string ⟨#[UInt8.ofNat d]⟩) (wr.alloc (.cells #[.int .u8 d] 5)) := by
        have := conv_new wr [UInt8.ofNat d]
        simp only [List.map_cons, List.map_nil, UInt8.toNat_ofNat'] at this
        rw [show ((d % 2 ^ 8 : Nat) : Int) = d by omega] at this
        exact this
      have hstep := num_step n k d (by rw [hq, hd])
      rw [ht] at hstep
      obtain ⟨one, hone, hos⟩ : ∃ x : ByteArray, ⟨#[UInt8.ofNat d]⟩ = x ∧ x.size = 1 := ⟨_, rfl, rfl⟩
      rw [hone] at hcv hstep
      have hts : t.size = k := by rw [← ht]; exact by8_size _ _
      have hk8 := blen_le n 8 (by exact hn)
      have hts8 : t.size ≤ 8 := by omega
      have hsz : (one.size : Int) + t.size ≤ 9 := by omega
      have hsz2 : one.size + t.size ≤ 9 := by omega
      clear hone
      have HQ : Hid (_ ∧ _ ∧ _) := ⟨hq, hq2, hstep⟩
      clear hstep hq hq2 ht
      go_wp2
      go_roundg (gk - 1)
      case measure => omega
      case rel =>
        obtain ⟨hq, hq2, hstep⟩ := HQ.out
        refine ⟨k + 1, by omega, ?_, by rw [hstep], BW.alloc BW.size _⟩
        rw [Nat.pow_succ, ← Nat.div_div_eq_div_mul, hq, hq2]
    · have h0 : q = 0 := Nat.eq_zero_of_not_pos fun h => hlt (hdp.1 h)
      subst h0
      have hk2 : k = blen n := by omega
      have HO : Hid (numOf n = t) := by unfold numOf; rw [← hk2, ht]; exact rfl
      clear hq ht hdp
      go_wp2
      go_ret
      exact ⟨by rw [HO.out]; rfl, BW⟩
--R4]
end Go.Proofs.YtbpcciifaekffaaGreatDoor
namespace Go.Proofs.YtbpcciifaekffaaGreatDoor
open Go.RowKit Go.Sort

/-- An item, with where its list lies. -/
inductive Im where
  | mk (l : Bool) (t : ByteArray) (a : Option Addr) (c : Nat) (xs : List Im)
namespace Im
def l : Im → Bool | .mk l _ _ _ _ => l
def t : Im → ByteArray | .mk _ t _ _ _ => t
def a : Im → Option Addr | .mk _ _ a _ _ => a
def c : Im → Nat | .mk _ _ _ c _ => c
def xs : Im → List Im | .mk _ _ _ _ xs => xs
def sl (x : Im) : Value := .slice x.a x.xs.length x.c
def val (x : Im) : Value := .agg #[.bool x.l, .string x.t, x.sl]
end Im
mutual
/-- It lies in memory below n. -/
def inMem (n : Nat) (W : World) : Im → Prop
  | .mk _ _ a _ xs => rowMem n W a 0 xs
def rowMem (n : Nat) (W : World) (a : Option Addr) : Nat → List Im → Prop
  | _, [] => True
  | i, x :: r => (∃ b o, b < n ∧ a = some ⟨b, o, none⟩ ∧ W.cell? ⟨b, o + 3 * i, none⟩ = some (.bool x.l) ∧ W.cell? ⟨b, o + 3 * i + 1, none⟩ = some (.string x.t) ∧ W.cell? ⟨b, o + 3 * i + 2, none⟩ = some x.sl) ∧ inMem n W x ∧ rowMem n W a (i + 1) r
/-- How many items there are. -/
def cnt : Im → Nat
  | .mk _ _ _ _ xs => cnts xs + 1
def cnts : List Im → Nat
  | [] => 0
  | x :: r => cnt x + cnts r
end
theorem inMem_eq (n : Nat) (W : World) (x : Im) : inMem n W x = rowMem n W x.a 0 x.xs := by cases x; rfl
theorem cnt_eq (x : Im) : cnt x = cnts x.xs + 1 := by cases x; rfl
theorem row_at {n : Nat} {W : World} {a : Option Addr} : ∀ (xs : List Im) (i : Nat), rowMem n W a i xs → ∀ (j : Nat) (x : Im), xs[j]? = some x →
    (∃ b o, b < n ∧ a = some ⟨b, o, none⟩ ∧ W.cell? ⟨b, o + 3 * (i + j), none⟩ = some (.bool x.l) ∧ W.cell? ⟨b, o + 3 * (i + j) + 1, none⟩ = some (.string x.t) ∧ W.cell? ⟨b, o + 3 * (i + j) + 2, none⟩ = some x.sl) ∧ inMem n W x
  | [], _, _, _, _, h => by cases h
  | y :: r, i, h, 0, x, hx => by
    cases hx
    exact ⟨h.1, h.2.1⟩
  | y :: r, i, h, j + 1, x, hx => by
    have := row_at r (i + 1) h.2.2 j x hx
    rwa [show i + 1 + j = i + (j + 1) by omega] at this
theorem cnts_at : ∀ (xs : List Im) (j : Nat) (x : Im), xs[j]? = some x → cnt x ≤ cnts xs
  | [], _, _, h => by cases h
  | y :: r, 0, x, h => by cases h; exact Nat.le_add_right _ _
  | y :: r, j + 1, x, h => Nat.le_trans (cnts_at r j x h) (Nat.le_add_left _ _)
mutual
theorem inMem_below {n : Nat} {W W' : World} (hn : n ≤ W.heap.size) (hb : Below n W W') : ∀ x, inMem n W x → inMem n W' x
  | .mk _ _ a _ xs, h => rowMem_below hn hb a 0 xs h
theorem rowMem_below {n : Nat} {W W' : World} (hn : n ≤ W.heap.size) (hb : Below n W W') (a : Option Addr) : ∀ i xs, rowMem n W a i xs → rowMem n W' a i xs
  | _, [], _ => trivial
  | i, x :: r, ⟨⟨b, o, h0, h1, h2, h3, h4⟩, h5, h6⟩ => ⟨⟨b, o, h0, h1, (hb.cell (p := ⟨b, _, none⟩) h0).trans h2, (hb.cell (p := ⟨b, _, none⟩) h0).trans h3, (hb.cell (p := ⟨b, _, none⟩) h0).trans h4⟩, inMem_below hn hb x h5, rowMem_below hn hb a (i + 1) r h6⟩
end

/-- Does a text stand for itself? -/
def bare (t : ByteArray) : Bool := decide (t.size = 1) && decide (bt t 0 < 128)
def hsz (b : Nat) : Nat := if b < 56 then 1 else 1 + blen b
mutual
/-- How many bytes an item takes; how many behind its head. -/
def szOf : Im → Nat
  | .mk l t _ _ xs => if !l && bare t then t.size else hsz (t.size + szs xs) + (t.size + szs xs)
def szs : List Im → Nat
  | [] => 0
  | x :: r => szOf x + szs r
end
def body (x : Im) : Nat := x.t.size + szs x.xs
theorem szOf_eq (x : Im) : szOf x = if !x.l && bare x.t then x.t.size else hsz (body x) + body x := by cases x; rfl
theorem szs_take (xs : List Im) : ∀ j, szs (xs.take j) ≤ szs xs := by
  induction xs with
  | nil => intro j; simp [szs]
  | cons y r ih =>
    intro j
    cases j with
    | zero => exact Nat.zero_le _
    | succ j => exact Nat.add_le_add_left (ih j) _
theorem szs_snoc (xs : List Im) : ∀ j x, xs[j]? = some x → szs (xs.take (j + 1)) = szs (xs.take j) + szOf x := by
  induction xs with
  | nil => intro j x h; cases h
  | cons y r ih =>
    intro j x h
    cases j with
    | zero => cases h; simp [szs]
    | succ j =>
      show szOf y + szs (r.take (j + 1)) = szOf y + szs (r.take j) + szOf x
      rw [ih j x h]
      omega
mutual
/-- More than all its bytes. -/
def tb : Im → Nat
  | .mk _ t _ _ xs => t.size + 9 + tbs xs
def tbs : List Im → Nat
  | [] => 0
  | x :: r => tb x + tbs r
end
theorem tb_eq (x : Im) : tb x = x.t.size + 9 + tbs x.xs := by cases x; rfl
theorem tbs_at : ∀ (xs : List Im) (j : Nat) (x : Im), xs[j]? = some x → tb x ≤ tbs xs
  | [], _, _, h => by cases h
  | y :: r, 0, x, h => by cases h; exact Nat.le_add_right _ _
  | y :: r, j + 1, x, h => Nat.le_trans (tbs_at r j x h) (Nat.le_add_left _ _)
theorem len_tbs : ∀ xs : List Im, xs.length ≤ tbs xs
  | [] => Nat.le_refl _
  | x :: r => by
    have h := len_tbs r
    have h1 := tb_eq x
    show r.length + 1 ≤ tb x + tbs r
    omega
theorem hsz_le (b : Nat) (h : b < 1000000000000000000) : 1 ≤ hsz b ∧ hsz b ≤ 9 := by
  unfold hsz
  have := blen_le b 8 (by omega)
  split <;> omega
mutual
theorem sz_tb : ∀ x, tb x < 1000000000000000000 → szOf x ≤ tb x
  | .mk l t a c xs, h => by
    have h1 : tb (.mk l t a c xs) = t.size + 9 + tbs xs := rfl
    have h2 := szs_tbs xs (by omega)
    have h3 := hsz_le (t.size + szs xs) (by omega)
    rw [szOf_eq]
    split
    · show t.size ≤ _
      omega
    · show hsz (t.size + szs xs) + (t.size + szs xs) ≤ _
      omega
theorem szs_tbs : ∀ xs, tbs xs < 1000000000000000000 → szs xs ≤ tbs xs
  | [], _ => Nat.le_refl _
  | x :: r, h => by
    have h0 : tbs (x :: r) = tb x + tbs r := rfl
    exact Nat.add_le_add (sz_tb x (by omega)) (szs_tbs r (by omega))
end
theorem body_tb (x : Im) (h : tb x < 1000000000000000000) : body x + 9 ≤ tb x := by
  have h1 := tb_eq x
  have h2 := szs_tbs x.xs (by omega)
  unfold body
  omega

set_option maxRecDepth 20000 in
set_option maxHeartbeats 1000000 in
theorem isBare_any (t : ByteArray) (w : World) :
    Calls Tryz.prog 134 #[.string t] w fun e w' => e = .returned (.bool (bare t)) ∧ Below w.heap.size w w' := by
  by_cases h1 : t.size = 1
  · have hp : 0 < t.size := by omega
    have l0 : (0 : Int) < t.size := by omega
    have l1 : (t.size : Int) = 1 := by omega
    have g0 := bt_get t 0 hp
    obtain ⟨u, hu⟩ : ∃ u, bt t 0 = u := ⟨_, rfl⟩
    rw [hu] at g0
    have hb : bare t = decide (u < 128) := by unfold bare; rw [decide_eq_true h1, Bool.true_and, hu]
    rw [hb]
    clear hu hb
    go_enter Tryz.func134, Tryz.ntmps134
    go_wp2
    go_ret
    exact ⟨rfl, Below.refl _ _⟩
  · have hb : bare t = false := by unfold bare; rw [decide_eq_false h1, Bool.false_and]
    have l1 : ¬ (t.size : Int) = 1 := by omega
    have l2 : ((t.size : Int) == 1) = false := by rw [beq_eq_false_iff_ne]; exact l1
    rw [hb]
    clear hb
    go_enter Tryz.func134, Tryz.ntmps134
    go_wp2
    go_ret
    exact ⟨rfl, Below.refl _ _⟩
set_option maxRecDepth 20000 in
set_option maxHeartbeats 1000000 in
theorem headSize_any (b : Nat) (hb : b < 1000000000000000000) (w : World) :
    Calls Tryz.prog 136 #[.int .i64 b] w fun e w' => e = .returned (.int .i64 (hsz b)) ∧ Below w.heap.size w w' := by
  by_cases h : b < 56
  · have l : (b : Int) < 56 := by omega
    have hh : hsz b = 1 := if_pos h
    rw [hh]
    go_enter Tryz.func136, Tryz.ntmps136
    go_wp2
    go_ret
    exact ⟨rfl, Below.refl _ _⟩
  · have l : ¬ (b : Int) < 56 := by omega
    have hw : IntKind.u64.wrap (b : Int) = b := by rw [IntKind.wrap_u64]; omega
    have KN : Hid (∀ w : World, _) := fun w : World => number_any b (by omega) w
    have hz : (numOf b).size = blen b := by8_size _ _
    have hm8 := blen_le b 8 (by omega)
    have hh : hsz b = 1 + (numOf b).size := by rw [hz]; exact if_neg h
    rw [hh]
    obtain ⟨s, hs⟩ : ∃ s, numOf b = s := ⟨_, rfl⟩
    rw [hs] at KN hz ⊢
    clear hs hh
    go_enter Tryz.func136, Tryz.ntmps136
    go_wp2_with fail
    refine (KN.out _).mono ?_
    rintro e w1 ⟨rfl, B1⟩
    go_wp2
    go_ret
    exact ⟨by simp [hz], B1⟩
end Go.Proofs.YtbpcciifaekffaaGreatDoor
namespace Go.Proofs.YtbpcciifaekffaaGreatDoor
open Go.RowKit Go.Sort

set_option maxRecDepth 20000 in
set_option maxHeartbeats 2000000 in
theorem bodySize_of (x : Im) (htb : tb x < 1000000000000000000) (n : Nat)
    (IH : ∀ (j : Nat) (y : Im), x.xs[j]? = some y → ∀ w : World, n ≤ w.heap.size → inMem n w y → Calls Tryz.prog 125 #[y.val] w fun e w' => e = .returned (.int .i64 (szOf y)) ∧ Below w.heap.size w w')
    (w : World) (hn : n ≤ w.heap.size) (hm : inMem n w x) :
    Calls Tryz.prog 135 #[x.val] w fun e w' => e = .returned (.int .i64 (body x)) ∧ Below w.heap.size w w' := by
  have hbt := body_tb x htb
  rw [tb_eq] at htb
  rw [inMem_eq] at hm
  obtain ⟨l, t, a, c, xs⟩ := x
  replace htb : t.size + 9 + tbs xs < 1000000000000000000 := htb
  replace hbt : t.size + szs xs + 9 ≤ t.size + 9 + tbs xs := hbt
  have hb0 : body (.mk l t a c xs) = t.size + szs xs := rfl
  rw [hb0]
  have IH' : ∀ (j : Nat) (y : Im), xs[j]? = some y → ∀ w : World, n ≤ w.heap.size → inMem n w y → Calls Tryz.prog 125 #[y.val] w fun e w' => e = .returned (.int .i64 (szOf y)) ∧ Below w.heap.size w w' := IH
  replace hm : rowMem n w a 0 xs := hm
  show Calls Tryz.prog 135 #[.agg #[.bool l, .string t, .slice a xs.length c]] w _
  clear IH hb0
  go_enter Tryz.func135, Tryz.ntmps135
  go_wp2_with fail
  refine wpOf (fun W => Below w.heap.size w W) ((Below.refl _ w).alloc (Nat.le_refl _) _) ?_
  intro w1 B1
  obtain ⟨N, hN⟩ : ∃ N, xs.length = N := ⟨_, rfl⟩
  have hNb : N < 1000000000000000000 := by have := len_tbs xs; omega
  rw [hN]
  go_loopg [3, 12] N (fun gk v i wr => ∃ k : Nat, k + gk = N ∧ i = .int .i64 k ∧ v = .int .i64 ((t.size + szs (xs.take k) : Nat) : Int) ∧ Below w.heap.size w wr)
  case atStart => exact ⟨0, by omega, rfl, by simp [szs], B1⟩
  case round =>
    obtain ⟨k, hk, rfl, rfl, BW⟩ := hrel
    by_cases hlt : k < N
    · have l0 : (k : Int) < N := by omega
      obtain ⟨y, hy⟩ : ∃ y, xs[k]? = some y := ⟨xs[k]'(by omega), List.getElem?_eq_getElem (by omega)⟩
      obtain ⟨⟨b, o, hb, rfl, c0, c1, c2⟩, hy2⟩ := row_at xs 0 hm k y hy
      have hy3 := inMem_below hn (BW.mono hn) y hy2
      have hbw : b < w.heap.size := by omega
      replace c0 := (BW.cell (p := ⟨b, _, none⟩) hbw).trans c0
      replace c1 := (BW.cell (p := ⟨b, _, none⟩) hbw).trans c1
      replace c2 := (BW.cell (p := ⟨b, _, none⟩) hbw).trans c2
      obtain ⟨p, hp⟩ : ∃ p, o + 3 * k = p := ⟨_, rfl⟩
      rw [show o + 3 * (0 + k) = p by omega] at c0 c1 c2
      have hp2 : o + k * 3 = p := by omega
      have KS := IH' k y hy
      have wk : IntKind.i64.wrap ((k : Int) + 1) = ((k + 1 : Nat) : Int) := by rw [IntKind.wrap_i64]; omega
      have hst := szs_snoc xs k y hy
      obtain ⟨q, hq⟩ : ∃ q, t.size + szs (xs.take k) = q := ⟨_, rfl⟩
      rw [hq]
      obtain ⟨yl, yt, ya, yc, yx⟩ := y
      simp only [Im.l, Im.t, Im.sl, Im.a, Im.xs, Im.c] at c0 c1 c2
      have HH : Hid (_ ∧ _) := ⟨hq, hst⟩
      have hq2 : q ≤ t.size + szs xs := by rw [← hq]; exact Nat.add_le_add_left (szs_take xs k) _
      have hq3 : q + szOf (.mk yl yt ya yc yx) ≤ t.size + szs xs := by
        have := szs_take xs (k + 1)
        omega
      clear hq hst
      go_wp2_with fail
      have a1 : Below n wr (wr.alloc (.cells #[.bool yl, .string yt, .slice ya yx.length yc] 47)) := (Below.refl n wr).alloc (by have := BW.size; omega) _
      refine (KS _ (by have := BW.size; simp; omega) (inMem_below (by have := BW.size; omega) a1 _ hy3)).mono ?_
      rintro e w3 ⟨rfl, B3⟩
      have BW3 := belowStep BW BW.size (belowStep ((Below.refl _ wr).alloc (Nat.le_refl _) (.cells #[.bool yl, .string yt, .slice ya yx.length yc] 47)) (by simp) B3)
      obtain ⟨d, hd⟩ : ∃ d, szOf (.mk yl yt ya yc yx) = d := ⟨_, rfl⟩
      rw [hd] at hq3 HH ⊢
      clear B3 a1 KS hy3 hy2 c0 c1 c2 BW hd
      go_wp2
      go_roundg (gk - 1)
      case measure => omega
      case rel =>
        refine ⟨k + 1, by omega, by first | rfl | (congr 1; omega), ?_, BW3⟩
        obtain ⟨hq, hst⟩ := HH.out
        rw [hst]
        congr 1
        omega
    · have hk2 : k = N := by omega
      subst hk2
      have l0 : ¬ (k : Int) < k := by omega
      rw [← hN, List.take_length]
      rw [← hN] at l0
      go_wp2
      go_ret
      exact ⟨rfl, BW⟩

set_option maxRecDepth 20000 in
set_option maxHeartbeats 2000000 in
theorem sizeOf_all : ∀ (N : Nat) (x : Im), cnt x ≤ N → tb x < 1000000000000000000 → ∀ (n : Nat) (w : World), n ≤ w.heap.size → inMem n w x →
    Calls Tryz.prog 125 #[x.val] w fun e w' => e = .returned (.int .i64 (szOf x)) ∧ Below w.heap.size w w'
  | 0, x, h, _, _, _, _, _ => by rw [cnt_eq] at h; omega
  | N + 1, x, h, htb, n, w, hn, hm => by
    have KB : ∀ w : World, n ≤ w.heap.size → inMem n w x → Calls Tryz.prog 135 #[x.val] w fun e w' => e = .returned (.int .i64 (body x)) ∧ Below w.heap.size w w' := fun w hn hm =>
      bodySize_of x htb n (fun j y hy w hn hm => sizeOf_all N y (by rw [cnt_eq] at h; have := cnts_at x.xs j y hy; omega) (by rw [tb_eq] at htb; have := tbs_at x.xs j y hy; omega) n w hn hm) w hn hm
    have hbt := body_tb x htb
    have hh9 := hsz_le (body x) (by omega)
    have KH : Hid (∀ w : World, _) := fun w : World => headSize_any (body x) (by omega) w
    rw [szOf_eq]
    have KX : Hid (∀ w : World, _) := fun w : World => isBare_any x.t w
    obtain ⟨bb, hbb⟩ : ∃ b, body x = b := ⟨_, rfl⟩
    obtain ⟨hz, hhz⟩ : ∃ b, hsz bb = b := ⟨_, rfl⟩
    rw [hbb] at KB KH hbt hh9 ⊢
    rw [hhz] at KH hh9 ⊢
    clear hhz hbb
    have KB' : Hid (∀ w : World, _) := KB
    clear KB
    obtain ⟨l, t, a, c, xs⟩ := x
    replace KX : Hid (∀ w : World, Calls Tryz.prog 134 #[.string t] w fun e w' => e = .returned (.bool (bare t)) ∧ Below w.heap.size w w') := KX
    show Calls Tryz.prog 125 #[.agg #[.bool l, .string t, .slice a xs.length c]] w fun e w' => e = .returned (.int .i64 ((if !l && bare t then t.size else hz + bb : Nat) : Int)) ∧ Below w.heap.size w w'
    have a0 : Below w.heap.size w (w.alloc (.cells #[.bool l, .string t, .slice a xs.length c] 47)) := (Below.refl _ w).alloc (Nat.le_refl _) _
    have hm1 := inMem_below hn (a0.mono hn) _ hm
    obtain ⟨bt0, hbt0⟩ : ∃ b, bare t = b := ⟨_, rfl⟩
    rw [hbt0] at KX ⊢
    cases l with
    | true =>
      go_enter Tryz.func125, Tryz.ntmps125
      go_wp2_with fail
      refine (KB'.out _ (by simp; omega) hm1).mono ?_
      rintro e w2 ⟨rfl, B2⟩
      have C2 := belowStep a0 a0.size B2
      clear B2 a0
      go_wp2_with fail
      refine (KH.out _).mono ?_
      rintro e w3 ⟨rfl, B3⟩
      have C3 := belowStep C2 C2.size B3
      clear B3 C2 KH KB'
      go_wp2
      go_ret
      exact ⟨by first | rfl | simp, C3⟩
    | false =>
      go_enter Tryz.func125, Tryz.ntmps125
      go_wp2_with fail
      refine (KX.out _).mono ?_
      rintro e wx ⟨rfl, BX⟩
      have ax := belowStep a0 a0.size BX
      have hmx := inMem_below (by simp; omega) (BX.mono (by simp; omega)) _ hm1
      have x0 : wx.cell? ⟨w.heap.size, 0, none⟩ = some (.bool false) := (BX.cell (p := ⟨w.heap.size, 0, none⟩) (by simp)).trans (by simp [go_sem])
      have x1 : wx.cell? ⟨w.heap.size, 1, none⟩ = some (.string t) := (BX.cell (p := ⟨w.heap.size, 1, none⟩) (by simp)).trans (by simp [go_sem])
      have x2 : wx.cell? ⟨w.heap.size, 2, none⟩ = some (.slice a xs.length c) := (BX.cell (p := ⟨w.heap.size, 2, none⟩) (by simp)).trans (by simp [go_sem])
      clear BX
      cases bt0 with
      | true =>
        go_wp2
        go_ret
        exact ⟨by first | rfl | simp, ax⟩
      | false =>
        go_wp2_with fail
        refine (KB'.out _ (by have := ax.size; omega) hmx).mono ?_
        rintro e w2 ⟨rfl, B2⟩
        have C2 := belowStep ax ax.size B2
        clear B2 ax
        go_wp2_with fail
        refine (KH.out _).mono ?_
        rintro e w3 ⟨rfl, B3⟩
        have C3 := belowStep C2 C2.size B3
        clear B3 C2 KH KB'
        go_wp2
        go_ret
        exact ⟨by first | rfl | simp, C3⟩
end Go.Proofs.YtbpcciifaekffaaGreatDoor
namespace Go.Proofs.YtbpcciifaekffaaGreatDoor
open Go.RowKit Go.Sort

theorem conv_one (w : World) (d : Nat) (hd : d < 256) : (convert 60 9 (.slice (some ⟨w.heap.size, 0, none⟩) 1 1)).run Tryz.prog (w.alloc (.cells #[.int .u8 d] 5)) = .ok (.string ⟨#[UInt8.ofNat d]⟩) (w.alloc (.cells #[.int .u8 d] 5)) := by
  have := conv_new w [UInt8.ofNat d]
  simp only [List.map_cons, List.map_nil, UInt8.toNat_ofNat'] at this
  rw [show ((d % 2 ^ 8 : Nat) : Int) = d by omega] at this
  exact this
/-- A head of so many bytes, from a number on. -/
def hdB (base size : Nat) : ByteArray := if size < 56 then ⟨#[UInt8.ofNat (base + size)]⟩ else ⟨#[UInt8.ofNat (base + 55 + blen size)]⟩ ++ numOf size
def hOf (x : Im) : ByteArray := if x.l then hdB 192 (body x) else if bare x.t then ⟨#[]⟩ else hdB 128 x.t.size

set_option maxRecDepth 20000 in
set_option maxHeartbeats 1000000 in
theorem head_any (base size : Nat) (hb : base ≤ 192) (hs : size < 1000000000000000000) (w : World) :
    Calls Tryz.prog 139 #[.int .i64 base, .int .i64 size] w fun e w' => e = .returned (.string (hdB base size)) ∧ Below w.heap.size w w' := by
  by_cases h : size < 56
  · have l : (size : Int) < 56 := by omega
    obtain ⟨d, hd⟩ : ∃ d, base + size = d := ⟨_, rfl⟩
    have hh : Hid (hdB base size = ⟨#[UInt8.ofNat d]⟩) := by unfold hdB; rw [if_pos h, hd]; exact rfl
    have w1 : IntKind.i64.wrap ((base : Int) + size) = d := by rw [IntKind.wrap_i64]; omega
    have w2 : (base : Int) + size = d := by omega
    have w3 : IntKind.u8.wrap (d : Int) = d := by rw [IntKind.wrap_u8]; omega
    have w4 : (d : Int) % 256 = d := by omega
    have hcv := conv_one w d (by omega)
    clear hd
    go_enter Tryz.func139, Tryz.ntmps139
    go_wp2
    go_ret
    exact ⟨by rw [hh.out]; rfl, (Below.refl _ w).alloc (Nat.le_refl _) _⟩
  · have l : ¬ (size : Int) < 56 := by omega
    have hw : IntKind.u64.wrap (size : Int) = size := by rw [IntKind.wrap_u64]; omega
    have KN : Hid (∀ w : World, _) := fun w : World => number_any size (by omega) w
    have hz : (numOf size).size = blen size := by8_size _ _
    have hm8 := blen_le size 8 (by omega)
    obtain ⟨d, hd⟩ : ∃ d, base + 55 + blen size = d := ⟨_, rfl⟩
    obtain ⟨s, hs'⟩ : ∃ s, numOf size = s := ⟨_, rfl⟩
    obtain ⟨one, hone, hos⟩ : ∃ x : ByteArray, ⟨#[UInt8.ofNat d]⟩ = x ∧ x.size = 1 := ⟨_, rfl, rfl⟩
    have hh : Hid (hdB base size = one ++ s) := by unfold hdB; rw [if_neg h, hd, hone, hs']; exact rfl
    rw [hs'] at KN hz
    have hz' : s.size ≤ 8 := by omega
    have hcv : ∀ w : World, _ := fun w => conv_one w d (by omega)
    rw [hone] at hcv
    have w2 : (base : Int) + 56 - 1 + s.size = d := by omega
    have w1 : IntKind.i64.wrap ((base : Int) + 56 - 1 + s.size) = d := by rw [IntKind.wrap_i64]; omega
    have w3 : IntKind.u8.wrap (d : Int) = d := by rw [IntKind.wrap_u8]; omega
    have w4 : (d : Int) % 256 = d := by omega
    have hsz : (one.size : Int) + s.size ≤ 9 := by omega
    clear hd hone hs' hz
    go_enter Tryz.func139, Tryz.ntmps139
    go_wp2_with fail
    refine (KN.out _).mono ?_
    rintro e w1 ⟨rfl, B1⟩
    have hcv1 := hcv w1
    clear hcv
    go_wp2
    go_ret
    exact ⟨by rw [hh.out]; rfl, B1.alloc B1.size _⟩

set_option maxRecDepth 20000 in
set_option maxHeartbeats 2000000 in
theorem headOf_any (x : Im) (htb : tb x < 1000000000000000000) (n : Nat) (w : World) (hn : n ≤ w.heap.size) (hm : inMem n w x) :
    Calls Tryz.prog 127 #[x.val] w fun e w' => e = .returned (.string (hOf x)) ∧ Below w.heap.size w w' := by
  have KB : ∀ w : World, n ≤ w.heap.size → inMem n w x → Calls Tryz.prog 135 #[x.val] w fun e w' => e = .returned (.int .i64 (body x)) ∧ Below w.heap.size w w' := fun w hn hm =>
    bodySize_of x htb n (fun j y hy w hn hm => sizeOf_all (cnt y) y (Nat.le_refl _) (by rw [tb_eq] at htb; have := tbs_at x.xs j y hy; omega) n w hn hm) w hn hm
  have hbt := body_tb x htb
  have KH : Hid (∀ w : World, _) := fun w : World => head_any 192 (body x) (by omega) (by omega) w
  rw [tb_eq] at htb
  have KT : Hid (∀ w : World, _) := fun w : World => head_any 128 x.t.size (by omega) (by omega) w
  have KX : Hid (∀ w : World, _) := fun w : World => isBare_any x.t w
  have hO : hOf x = if x.l then hdB 192 (body x) else if bare x.t then ⟨#[]⟩ else hdB 128 x.t.size := rfl
  obtain ⟨r1, hr1⟩ : ∃ b, hdB 192 (body x) = b := ⟨_, rfl⟩
  obtain ⟨r2, hr2⟩ : ∃ b, hdB 128 x.t.size = b := ⟨_, rfl⟩
  rw [hr1] at KH hO
  rw [hr2] at KT hO
  rw [hO]
  obtain ⟨bb, hbb⟩ : ∃ b, body x = b := ⟨_, rfl⟩
  rw [hbb] at KB KH hbt
  clear hbb hr1 hr2 hO
  have KB' : Hid (∀ w : World, _) := KB
  clear KB
  obtain ⟨l, t, a, c, xs⟩ := x
  replace KX : Hid (∀ w : World, Calls Tryz.prog 134 #[.string t] w fun e w' => e = .returned (.bool (bare t)) ∧ Below w.heap.size w w') := KX
  replace KT : Hid (∀ w : World, Calls Tryz.prog 139 #[.int .i64 128, .int .i64 t.size] w fun e w' => e = .returned (.string r2) ∧ Below w.heap.size w w') := KT
  replace KH : Hid (∀ w : World, Calls Tryz.prog 139 #[.int .i64 192, .int .i64 bb] w fun e w' => e = .returned (.string r1) ∧ Below w.heap.size w w') := KH
  show Calls Tryz.prog 127 #[.agg #[.bool l, .string t, .slice a xs.length c]] w fun e w' => e = .returned (.string (if l then r1 else if bare t then ⟨#[]⟩ else r2)) ∧ Below w.heap.size w w'
  have a0 : Below w.heap.size w (w.alloc (.cells #[.bool l, .string t, .slice a xs.length c] 47)) := (Below.refl _ w).alloc (Nat.le_refl _) _
  have hm1 := inMem_below hn (a0.mono hn) _ hm
  obtain ⟨bt0, hbt0⟩ : ∃ b, bare t = b := ⟨_, rfl⟩
  rw [hbt0] at KX ⊢
  cases l with
  | true =>
    go_enter Tryz.func127, Tryz.ntmps127
    go_wp2_with fail
    refine (KB'.out _ (by simp; omega) hm1).mono ?_
    rintro e w2 ⟨rfl, B2⟩
    have C2 := belowStep a0 a0.size B2
    clear B2 a0
    go_wp2_with fail
    refine (KH.out _).mono ?_
    rintro e w3 ⟨rfl, B3⟩
    have C3 := belowStep C2 C2.size B3
    clear B3 C2 KH KB' KX KT
    go_wp2
    go_ret
    exact ⟨rfl, C3⟩
  | false =>
    go_enter Tryz.func127, Tryz.ntmps127
    go_wp2_with fail
    refine (KX.out _).mono ?_
    rintro e wx ⟨rfl, BX⟩
    have ax := belowStep a0 a0.size BX
    have x0 : wx.cell? ⟨w.heap.size, 0, none⟩ = some (.bool false) := (BX.cell (p := ⟨w.heap.size, 0, none⟩) (by simp)).trans (by simp [go_sem])
    have x1 : wx.cell? ⟨w.heap.size, 1, none⟩ = some (.string t) := (BX.cell (p := ⟨w.heap.size, 1, none⟩) (by simp)).trans (by simp [go_sem])
    clear BX
    cases bt0 with
    | true =>
      go_wp2
      go_ret
      exact ⟨rfl, ax⟩
    | false =>
      go_wp2_with fail
      refine (KT.out _).mono ?_
      rintro e w3 ⟨rfl, B3⟩
      have C3 := belowStep ax ax.size B3
      clear B3 ax KH KB' KX KT
      go_wp2
      go_ret
      exact ⟨rfl, C3⟩
end Go.Proofs.YtbpcciifaekffaaGreatDoor
namespace Go.Proofs.YtbpcciifaekffaaGreatDoor
open Go.RowKit Go.Sort

/-- No operation is a defer statement. -/
def noDefer (ops : Array Oper) : Bool := ops.toList.all fun o => match o.op with | .defer _ => false | _ => true
theorem noDefer_spec {ops : Array Oper} (h : noDefer ops = true) {i : Nat} {o : Oper} (ho : ops[i]? = some o) : ∀ c, o.op ≠ .defer c := by
  intro c hc
  have hm : o ∈ ops.toList := by
    obtain ⟨hi, rfl⟩ := Array.getElem?_eq_some_iff.1 ho
    simp
  have := List.all_eq_true.1 h o hm
  simp [hc] at this

theorem op_round {P : Program} (l n : Nat) {o : Oper} {a : Act} {w : World} {K : Act → World → Prop} {Q : Exit → Act → World → Prop} (hd : ∀ c, o.op ≠ .defer c) (h : o.wp P a w K Q) : o.wpIn (Fence.wide.inRound l) n P a w K Q := by
  refine ⟨fun _ _ => trivial, ?_⟩
  rw [Oper.semAt_plain (Fence.wide.inRound l) a.eval o hd]
  unfold Oper.wp at h
  revert h
  generalize (execOp a.eval o).run P w = r
  intro h
  cases r with
  | ok x w' =>
    cases x
    case enter f args => exact ⟨(fun e => by cases e), CallsIn.inRound l (callsIn_wide.2 h)⟩
    case row r args => exact ⟨(fun e => by cases e), fun c cs _ => (h c cs).imp fun v ⟨w', q, s⟩ => ⟨w', q, stepsIn_wide.2 s⟩⟩
    all_goals first | exact h | exact h.elim
  | halt x w' => cases x <;> first | exact h | exact h.elim

theorem any_round {P : Program} (l n : Nat) {md : Region.Mode} {ops : Array Oper} {Q : Exit → Act → World → Prop} (hd : noDefer ops = true) (hL : ¬ LetsOut Q) :
    ∀ (f : Nat) (listed : Array Bool) (a : Act) (w : World), wpAny P md ops Q f listed a w → wpAnyIn (Fence.wide.inRound l) n P md ops Q f listed a w
  | 0, _, _, _, h => h
  | f + 1, listed, a, w, h => by
    refine ⟨h.1, fun i hi => ?_⟩
    have h2 := h.2 i hi
    unfold wpOp at h2
    unfold wpOpIn
    cases ho : ops[i]? with
    | none => simp only [ho] at h2; exact any_round l n hd hL f _ a w h2
    | some o =>
      simp only [ho] at h2
      have hdo := noDefer_spec hd ho
      by_cases hw : Region.wanted o (yielded ops a.tmps) = true
      · simp only [hw, if_true]
        simp only [hw, if_true] at h2
        exact Oper.wpIn_mono (fun a' w' h' => any_round l n hd hL f _ a' w' h') (op_round l n hdo (h2.resolve_right fun x => hL x.2))
      · simp only [hw]
        simp only [hw] at h2
        exact ⟨fun _ _ => trivial, any_round l n hd hL f _ _ w h2⟩

theorem region_round {P : Program} (l n : Nat) {id : Nat} {ops : Array Oper} {Q : Exit → Act → World → Prop} {a : Act} {w : World} (hm : P.follows .mixedOrders = true) (hd : noDefer ops = true) (hL : ¬ LetsOut Q)
    (h : wpAny P .any ops Q ops.size (Array.replicate ops.size false) a { w with drawn := w.drawn + 1 }) : (Code.region id ops true).wpIn (Fence.wide.inRound l) n P Q a w :=
  wpIn_region_any hm (any_round l n hd hL _ _ _ _ h)

/-- The first law of drawn statements, in a round. -/
theorem region_tail_in {P : Program} (l' n' : Nat) {id : Nat} {Q : Exit → Act → World → Prop} {a : Act} {w : World} {l : List Oper} (n : Nat) (hm : P.follows .mixedOrders = true) (hnd : noDefer l.toArray = true) (hL : ¬ LetsOut Q) (hB : Region.lexTailB .any l.toArray n = true)
    (h : wpQuiet P l.toArray (fun w' => ∃ p : Regrown, w' = grow (redrawn w p.d) p.os) (fun a' => ∀ w', (∃ p : Regrown, w' = grow (redrawn w p.d) p.os) → wpList P l.toArray Q (l.drop n) a' w') (l.take n) a) : (Code.region id l.toArray true).wpIn (Fence.wide.inRound l') n' P Q a w :=
  region_round l' n' hm hnd hL (tail_any n hB h)
end Go.Proofs.YtbpcciifaekffaaGreatDoor
namespace Go.Proofs.YtbpcciifaekffaaGreatDoor
open Go.RowKit Go.Shelf
attribute [local go_sem] Oper.semAt_some

mutual
/-- An item and all within it, each ahead of those of its own list, with how deep it is. -/
def pro (d : Nat) : Im → List (Nat × Im)
  | .mk l t a c xs => (d, .mk l t a c xs) :: pros (d + 1) xs
def pros (d : Nat) : List Im → List (Nat × Im)
  | [] => []
  | x :: r => pro d x ++ pros d r
end
theorem pro_eq (d : Nat) (x : Im) : pro d x = (d, x) :: pros (d + 1) x.xs := by cases x; rfl
mutual
theorem pro_len (d : Nat) : ∀ x, (pro d x).length = cnt x
  | .mk l t a c xs => by
    show (pros (d + 1) xs).length + 1 = cnts xs + 1
    rw [pros_len (d + 1) xs]
theorem pros_len (d : Nat) : ∀ xs, (pros d xs).length = cnts xs
  | [] => rfl
  | x :: r => by
    show (pro d x ++ pros d r).length = cnt x + cnts r
    rw [List.length_append, pro_len d x, pros_len d r]
end
theorem pros_snoc (d : Nat) (xs : List Im) : ∀ (j : Nat) (x : Im), xs[j]? = some x → pros d (xs.take (j + 1)) = pros d (xs.take j) ++ pro d x := by
  induction xs with
  | nil => intro j x h; cases h
  | cons y r ih =>
    intro j x h
    cases j with
    | zero => cases h; show pro d y ++ [] = [] ++ pro d y; simp
    | succ j =>
      show pro d y ++ pros d (r.take (j + 1)) = (pro d y ++ pros d (r.take j)) ++ pro d x
      rw [ih j x h, List.append_assoc]
theorem pros_split (d : Nat) (xs : List Im) : ∀ (j : Nat) (x : Im), xs[j]? = some x → ∃ r, pros d xs = pros d (xs.take j) ++ (pro d x ++ r) := by
  induction xs with
  | nil => intro j x h; cases h
  | cons y t ih =>
    intro j x h
    cases j with
    | zero => cases h; exact ⟨pros d t, rfl⟩
    | succ j =>
      obtain ⟨r, hr⟩ := ih j x h
      refine ⟨r, ?_⟩
      show pro d y ++ pros d t = (pro d y ++ pros d (t.take j)) ++ _
      rw [hr, List.append_assoc]
theorem pros_take (d : Nat) (xs : List Im) (j : Nat) (x : Im) (h : xs[j]? = some x) (q : Nat) (hq : q ≤ cnt x) : (pros d xs).take (cnts (xs.take j) + q) = pros d (xs.take j) ++ (pro d x).take q := by
  obtain ⟨r, hr⟩ := pros_split d xs j x h
  have h1 := pros_len d (xs.take j)
  have h2 := pro_len d x
  rw [hr, ← h1, List.take_length_add_append, List.take_append_of_le_length (by omega)]
theorem cnts_take (xs : List Im) : ∀ j, cnts (xs.take j) ≤ cnts xs := by
  induction xs with
  | nil => intro j; simp [cnts]
  | cons y r ih =>
    intro j
    cases j with
    | zero => exact Nat.zero_le _
    | succ j => exact Nat.add_le_add_left (ih j) _
theorem cnts_snoc (xs : List Im) : ∀ (j : Nat) (x : Im), xs[j]? = some x → cnts (xs.take (j + 1)) = cnts (xs.take j) + cnt x := by
  induction xs with
  | nil => intro j x h; cases h
  | cons y r ih =>
    intro j x h
    cases j with
    | zero => cases h; simp [cnts]
    | succ j =>
      show cnt y + cnts (r.take (j + 1)) = cnt y + cnts (r.take j) + cnt x
      rw [ih j x h]
      omega
theorem pros_mem (d : Nat) (xs : List Im) (j : Nat) (x : Im) (h : xs[j]? = some x) (e : Nat × Im) (he : e ∈ pro d x) : e ∈ pros d xs := by
  induction xs generalizing j with
  | nil => cases h
  | cons y r ih =>
    show e ∈ pro d y ++ pros d r
    cases j with
    | zero => cases h; exact List.mem_append_left _ he
    | succ j => exact List.mem_append_right _ (ih j h)
/-- What a round keeps: what lay below n, and items in boxes. -/
structure ItK (n : Nat) (W W' : World) : Prop where
  b : Below n W W'
  i : ∀ (k : Nat) (c : Array Value) (fz : Nat × Nat), W.heap[k]? = some (.cells c 47 fz) → W'.heap[k]? = some (.cells c 47 fz)
theorem ItK.trans {n : Nat} {A B C : World} (h : ItK n A B) (g : ItK n B C) : ItK n A C := ⟨h.b.trans g.b, fun k c fz hk => g.i k c fz (h.i k c fz hk)⟩
theorem ItK.of_below {n : Nat} {W W' : World} (hn : n ≤ W.heap.size) (h : Below W.heap.size W W') : ItK n W W' := ⟨h.mono hn, fun k _ _ hk => (h.block k (Array.getElem?_eq_some_iff.1 hk).1).trans hk⟩
theorem ItK.refl (n : Nat) (W : World) : ItK n W W := ⟨Below.refl _ _, fun _ _ _ h => h⟩
/-- What is handed on. -/
def wEnc (e : Nat × Im) : Array Value := #[.int .i64 e.1, e.2.val]
theorem grown_of {W W' : World} (h : Below W.heap.size W W') : W.grownBy W' none := ⟨h.os, h.tape, h.output, h.size, fun k hk _ => h.block k hk⟩
theorem room_of_none' {FN : Fence} (hd : FN.depth = none) (k : Nat) : FN.room k := fun d h => by rw [hd] at h; cases h
theorem yieldAny {m : Nat} (m' : Nat) {P : Program} {l : Nat} {args : Array Value} {W : World} {R : Ending → World → Prop} (h : YieldAt Fence.wide m P l args W R) : YieldAt Fence.wide m' P l args W R := by
  obtain ⟨fn, tmps, assign, body, hy, hR⟩ := h
  exact ⟨fn, tmps, assign, body, hy, hR.1, fun c cs _ => hR.2 c cs (room_of_none' rfl _)⟩

theorem len_cnts : ∀ xs : List Im, xs.length ≤ cnts xs
  | [] => Nat.le_refl _
  | x :: r => by
    have h := len_cnts r
    have h1 := cnt_eq x
    show r.length + 1 ≤ cnt x + cnts r
    omega

set_option maxRecDepth 100000 in
set_option maxHeartbeats 4000000 in
theorem yieldWithin_in (l n0 B Nm : Nat) (Mem : Nat × Im → Prop) (J Jx : List (Nat × Im) → World → Prop) (hJ : AbidesFrom B J)
    (hY : ∀ m pre e W, J pre W → pre.length < Nm → Mem e → n0 ≤ W.heap.size → YieldAt Fence.wide m Tryz.prog l (wEnc e) W fun e' W' =>
      (e' = .returned (.bool true) ∧ J (pre ++ [e]) W' ∧ ItK n0 W W') ∨ (e' = .returned (.bool false) ∧ Jx (pre ++ [e]) W')) :
    ∀ (N : Nat) (x : Im) (d : Nat) (pre : List (Nat × Im)) (W : World) (n : Nat), cnt x ≤ N → d + cnt x < 1000000000000000000 → (∀ e, e ∈ pro d x → Mem e) → pre.length + cnt x ≤ Nm → n0 ≤ W.heap.size → inMem n0 W x → J pre W →
      CallsIn Fence.wide n Tryz.prog 138 #[x.val, .int .i64 d, .func (.yield l) #[] #[]] W fun e W' =>
        (e = .returned (.bool true) ∧ J (pre ++ pro d x) W' ∧ ItK n0 W W') ∨ (e = .returned (.bool false) ∧ ∃ q, q ≤ cnt x ∧ Jx (pre ++ (pro d x).take q) W')
  | 0, x, _, _, _, _, h, _, _, _, _, _, _ => by rw [cnt_eq] at h; omega
  | N + 1, x, d, pre, W, n, hc, hd, hM, hN, hW, hm, h0 => by
    have a0 : ∀ o, Below W.heap.size W (W.alloc o) := fun o => (Below.refl _ W).alloc (Nat.le_refl _) o
    have IH := yieldWithin_in l n0 B Nm Mem J Jx hJ hY N
    rw [pro_eq] at hM ⊢
    obtain ⟨d1, hd1⟩ : ∃ d1, d + 1 = d1 := ⟨_, rfl⟩
    rw [hd1] at hM ⊢
    rw [cnt_eq] at hc hd hN
    obtain ⟨il, it, ia, ic, xs⟩ := x
    replace hm : rowMem n0 W ia 0 xs := hm
    replace hc : cnts xs + 1 ≤ N + 1 := hc
    replace hd : d + (cnts xs + 1) < 1000000000000000000 := hd
    replace hN : pre.length + (cnts xs + 1) ≤ Nm := hN
    have hW0 : W.heap.size < (W.alloc (.cells #[.bool il, .string it, .slice ia xs.length ic] 47)).heap.size := by simp
    show CallsIn Fence.wide n Tryz.prog 138 #[.agg #[.bool il, .string it, .slice ia xs.length ic], .int .i64 d, .func (.yield l) #[] #[]] W _
    refine callsIn_of_wp Tryz.func138 rfl trivial ?_ rfl
    simp only [Tryz.ntmps138, List.size_toArray, List.length_cons, List.length_nil, Nat.reduceAdd, Nat.reduceSub, Array.replicate_succ, Array.replicate_zero, List.push_toArray, List.append_toArray, List.nil_append, List.cons_append]
    have A0 := a0 (.cells #[.bool il, .string it, .slice ia xs.length ic] 47)
    have J1 := hJ _ _ _ none h0 (grown_of A0) (fun r h => by cases h)
    obtain ⟨fn, tmps, assign, bdy, hy, hR⟩ := hY (n - 1) pre (d, .mk il it ia ic xs) _ J1 (by omega) (hM _ (List.mem_cons_self ..)) (by simp; omega)
    replace hy : (_ : Sem _).run Tryz.prog _ = _ := hy
    unfold wEnc at hy
    simp only [Im.val, Im.l, Im.t, Im.sl, Im.a, Im.xs, Im.c] at hy
    have hbx : (W.alloc (.cells #[.bool il, .string it, .slice ia xs.length ic] 47)).heap[W.heap.size]? = some (.cells #[.bool il, .string it, .slice ia xs.length ic] 47 (0, 0)) := World.alloc_heap_new W _
    gi_wp2
    refine ⟨fun h => (by cases h), hR.mono ?_⟩
    rintro e W3 (⟨rfl, hJ3, hk3⟩ | ⟨rfl, hJx3⟩)
    · have k3 : ItK n0 W W3 := (ItK.of_below hW A0).trans hk3
      have hbx3 := hk3.i _ _ _ hbx
      have x2 : W3.cell? ⟨W.heap.size, 2, none⟩ = some (.slice ia xs.length ic) := by rw [Lib.cell_of_heap hbx3]; rfl
      have hw3 : n0 ≤ W3.heap.size := Nat.le_trans hW k3.b.size
      clear hy hR hk3 hbx hbx3
      obtain ⟨Nx, hNx⟩ : ∃ N, xs.length = N := ⟨_, rfl⟩
      rw [hNx] at x2
      have HX : Hid (_ ∧ _ ∧ _) := ⟨hJ3, k3, hNx⟩
      clear hJ3 k3 hNx J1 A0 a0 hW0 h0
      have wd : IntKind.i64.wrap ((d : Int) + 1) = d1 := by rw [IntKind.wrap_i64]; omega
      have wd2 : (d : Int) + 1 = d1 := by omega
      gi_wp2
      gi_loopw [17] (fun i wr => ∃ k : Nat, k ≤ Nx ∧ i = .int .i64 (k : Int) ∧ J (pre ++ ((d, .mk il it ia ic xs) :: pros d1 (xs.take k))) wr ∧ ItK n0 W wr)
        (fun i _ => (Nx - (intOf i).toNat))
      case atStart => exact ⟨0, by omega, rfl, HX.out.1, HX.out.2.1⟩
      case round =>
        obtain ⟨k, hk, rfl, hJs, hks⟩ := hrel
        have hNb : Nx ≤ cnts xs := by rw [← HX.out.2.2]; exact len_cnts xs
        have hwr : n0 ≤ wr.heap.size := Nat.le_trans hW hks.b.size
        by_cases hlt : k < Nx
        · have l0 : (k : Int) < Nx := by omega
          obtain ⟨y, hy⟩ : ∃ y, xs[k]? = some y := ⟨xs[k]'(by have := HX.out.2.2; omega), List.getElem?_eq_getElem (by have := HX.out.2.2; omega)⟩
          obtain ⟨⟨b, o, hb, rfl, c0, c1, c2⟩, hy2⟩ := row_at xs 0 hm k y hy
          have hy3 := inMem_below hW hks.b y hy2
          replace c0 := (hks.b.cell (p := ⟨b, _, none⟩) hb).trans c0
          replace c1 := (hks.b.cell (p := ⟨b, _, none⟩) hb).trans c1
          replace c2 := (hks.b.cell (p := ⟨b, _, none⟩) hb).trans c2
          obtain ⟨p, hp⟩ : ∃ p, o + 3 * k = p := ⟨_, rfl⟩
          rw [show o + 3 * (0 + k) = p by omega] at c0 c1 c2
          have hp2 : o + k * 3 = p := by omega
          have wk : IntKind.i64.wrap ((k : Int) + 1) = ((k + 1 : Nat) : Int) := by rw [IntKind.wrap_i64]; omega
          have hcy := cnts_at xs k y hy
          have hcs := cnts_snoc xs k y hy
          have hct := cnts_take xs (k + 1)
          have hps := pros_snoc d1 xs k y hy
          have hpl := pros_len d1 (xs.take k)
          have hpt : Hid (∀ q, q ≤ cnt y → _) := fun q hq => pros_take d1 xs k y hy q hq
          have hmem : ∀ e, e ∈ pro d1 y → Mem e := fun e he => hM e (List.mem_cons_of_mem _ (pros_mem d1 xs k y hy e he))
          have IHy := IH y d1
          obtain ⟨yl, yt, ya, yc, yx⟩ := y
          simp only [Im.l, Im.t, Im.sl, Im.a, Im.xs, Im.c] at c0 c1 c2
          have A1 : Below wr.heap.size wr (wr.alloc (.cells #[.bool yl, .string yt, .slice ya yx.length yc] 47)) := (Below.refl _ wr).alloc (Nat.le_refl _) _
          have J1 := hJ _ _ _ none hJs (grown_of A1) (fun r h => by cases h)
          have m1 := inMem_below hwr (A1.mono hwr) _ hy3
          have HH : Hid (_ ∧ _ ∧ _ ∧ _) := ⟨hps, hks, A1, J1⟩
          clear hps hks A1 J1 hJs
          gi_wp2_with fail
          refine ⟨trivial, fun h => (by cases h), (IHy (pre ++ ((d, .mk il it _ ic xs) :: pros d1 (xs.take k))) (wr.alloc (.cells #[.bool yl, .string yt, .slice ya yx.length yc] 47)) (n - 1) (by omega) (by omega) hmem (by rw [List.length_append, List.length_cons, hpl]; omega) (by simp; omega) m1 HH.out.2.2.2).mono ?_⟩
          rintro e W4 (⟨rfl, hJ4, hk4⟩ | ⟨rfl, q, hq, hJx4⟩)
          · gi_wp2
            go_roundw
            case rel =>
              obtain ⟨hps, hks, A1, _⟩ := HH.out
              refine ⟨k + 1, by omega, rfl, ?_, (hks.trans (ItK.of_below hwr A1)).trans hk4⟩
              rw [hps]
              rw [List.append_assoc, List.cons_append] at hJ4
              exact hJ4
            case measure => simp [intOf]; omega
          · gi_wp2
            go_ret
            refine .inr ⟨rfl, 1 + cnts (xs.take k) + q, ?_, ?_⟩
            · show _ ≤ cnts xs + 1
              omega
            · rw [show 1 + cnts (xs.take k) + q = (cnts (xs.take k) + q) + 1 by omega, List.take_succ_cons]
              have hz := hpt.out q hq
              rw [List.append_assoc, List.cons_append] at hJx4
              show Jx (pre ++ (d, _) :: (pros d1 xs).take _) W4
              rw [hz]
              exact hJx4
        · have hk2 : k = Nx := by omega
          subst hk2
          have l0 : ¬ (k : Int) < k := by omega
          rw [← HX.out.2.2, List.take_length] at hJs
          gi_wp2
          go_ret
          exact .inl ⟨rfl, hJs, hks⟩
    · clear hy hR
      gi_wp2
      go_ret
      refine .inr ⟨rfl, 1, Nat.le_add_left _ _, ?_⟩
      rw [List.take_succ_cons, List.take_zero]
      exact hJx3
end Go.Proofs.YtbpcciifaekffaaGreatDoor
