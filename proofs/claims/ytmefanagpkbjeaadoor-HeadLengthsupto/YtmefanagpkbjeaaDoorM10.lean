/- Lemmas: Items as they lie in memory; how many bytes they take. How many bytes an item takes: sizeOf and bodySize. What stands ahead of an item: head and headOf. -/
import Derived.Test.YtmefanagpkbjeaaDoorM1
import Derived.Test.YtmefanagpkbjeaaDoorM2
import Derived.Test.YtmefanagpkbjeaaDoorM6
import Derived.Test.YtmefanagpkbjeaaDoorM7
import Derived.Test.YtmefanagpkbjeaaDoorM8
import Derived.Test.YtmefanagpkbjeaaDoorM9
import Derived.Test.YtmefanagpkbjeaaDoorRows
namespace Go.Proofs.YtmefanagpkbjeaaDoor
open Go.RowKit Go.Sort

/-- An item, with where its list lies. -/
inductive Im where
  | mk (l : Bool) (t : ByteArray) (a : Option Addr) (c : Nat) (xs : List Im)
namespace Im
def l : Im → Bool | .mk l _ _ _ _ => l
def t : Im → ByteArray | .mk _ t _ _ _ => t
def a : Im → Option Addr | .mk _ _ a _ _ => a
def c : Im → Nat | .mk _ _ _ c _ => c
def xs : Im → List Im | .mk _ _ _ _ xs => xs
def sl (x : Im) : Value := .slice x.a x.xs.length x.c
def val (x : Im) : Value := .agg #[.bool x.l, .string x.t, x.sl]
end Im
mutual
/-- It lies in memory below n. -/
def inMem (n : Nat) (W : World) : Im → Prop
  | .mk _ _ a _ xs => rowMem n W a 0 xs
def rowMem (n : Nat) (W : World) (a : Option Addr) : Nat → List Im → Prop
  | _, [] => True
  | i, x :: r => (∃ b o, b < n ∧ a = some ⟨b, o, none⟩ ∧ W.cell? ⟨b, o + 3 * i, none⟩ = some (.bool x.l) ∧ W.cell? ⟨b, o + 3 * i + 1, none⟩ = some (.string x.t) ∧ W.cell? ⟨b, o + 3 * i + 2, none⟩ = some x.sl) ∧ inMem n W x ∧ rowMem n W a (i + 1) r
/-- How many items there are. -/
def cnt : Im → Nat
  | .mk _ _ _ _ xs => cnts xs + 1
def cnts : List Im → Nat
  | [] => 0
  | x :: r => cnt x + cnts r
end
theorem inMem_eq (n : Nat) (W : World) (x : Im) : inMem n W x = rowMem n W x.a 0 x.xs := by cases x; rfl
theorem cnt_eq (x : Im) : cnt x = cnts x.xs + 1 := by cases x; rfl
theorem row_at {n : Nat} {W : World} {a : Option Addr} : ∀ (xs : List Im) (i : Nat), rowMem n W a i xs → ∀ (j : Nat) (x : Im), xs[j]? = some x →
    (∃ b o, b < n ∧ a = some ⟨b, o, none⟩ ∧ W.cell? ⟨b, o + 3 * (i + j), none⟩ = some (.bool x.l) ∧ W.cell? ⟨b, o + 3 * (i + j) + 1, none⟩ = some (.string x.t) ∧ W.cell? ⟨b, o + 3 * (i + j) + 2, none⟩ = some x.sl) ∧ inMem n W x
  | [], _, _, _, _, h => by cases h
  | y :: r, i, h, 0, x, hx => by
    cases hx
    exact ⟨h.1, h.2.1⟩
  | y :: r, i, h, j + 1, x, hx => by
    have := row_at r (i + 1) h.2.2 j x hx
    rwa [show i + 1 + j = i + (j + 1) by omega] at this
theorem cnts_at : ∀ (xs : List Im) (j : Nat) (x : Im), xs[j]? = some x → cnt x ≤ cnts xs
  | [], _, _, h => by cases h
  | y :: r, 0, x, h => by cases h; exact Nat.le_add_right _ _
  | y :: r, j + 1, x, h => Nat.le_trans (cnts_at r j x h) (Nat.le_add_left _ _)
mutual
theorem inMem_below {n : Nat} {W W' : World} (hn : n ≤ W.heap.size) (hb : Below n W W') : ∀ x, inMem n W x → inMem n W' x
  | .mk _ _ a _ xs, h => rowMem_below hn hb a 0 xs h
theorem rowMem_below {n : Nat} {W W' : World} (hn : n ≤ W.heap.size) (hb : Below n W W') (a : Option Addr) : ∀ i xs, rowMem n W a i xs → rowMem n W' a i xs
  | _, [], _ => trivial
  | i, x :: r, ⟨⟨b, o, h0, h1, h2, h3, h4⟩, h5, h6⟩ => ⟨⟨b, o, h0, h1, (hb.cell (p := ⟨b, _, none⟩) h0).trans h2, (hb.cell (p := ⟨b, _, none⟩) h0).trans h3, (hb.cell (p := ⟨b, _, none⟩) h0).trans h4⟩, inMem_below hn hb x h5, rowMem_below hn hb a (i + 1) r h6⟩
end

/-- Does a text stand for itself? -/
def bare (t : ByteArray) : Bool := decide (t.size = 1) && decide (bt t 0 < 128)
def hsz (b : Nat) : Nat := if b < 56 then 1 else 1 + blen b
mutual
/-- How many bytes an item takes; how many behind its head. -/
def szOf : Im → Nat
  | .mk l t _ _ xs => if !l && bare t then t.size else hsz (t.size + szs xs) + (t.size + szs xs)
def szs : List Im → Nat
  | [] => 0
  | x :: r => szOf x + szs r
end
def body (x : Im) : Nat := x.t.size + szs x.xs
theorem szOf_eq (x : Im) : szOf x = if !x.l && bare x.t then x.t.size else hsz (body x) + body x := by cases x; rfl
theorem szs_take (xs : List Im) : ∀ j, szs (xs.take j) ≤ szs xs := by
  induction xs with
  | nil => intro j; simp [szs]
  | cons y r ih =>
    intro j
    cases j with
    | zero => exact Nat.zero_le _
    | succ j => exact Nat.add_le_add_left (ih j) _
theorem szs_snoc (xs : List Im) : ∀ j x, xs[j]? = some x → szs (xs.take (j + 1)) = szs (xs.take j) + szOf x := by
  induction xs with
  | nil => intro j x h; cases h
  | cons y r ih =>
    intro j x h
    cases j with
    | zero => cases h; simp [szs]
    | succ j =>
      show szOf y + szs (r.take (j + 1)) = szOf y + szs (r.take j) + szOf x
      rw [ih j x h]
      omega
mutual
/-- More than all its bytes. -/
def tb : Im → Nat
  | .mk _ t _ _ xs => t.size + 9 + tbs xs
def tbs : List Im → Nat
  | [] => 0
  | x :: r => tb x + tbs r
end
theorem tb_eq (x : Im) : tb x = x.t.size + 9 + tbs x.xs := by cases x; rfl
theorem tbs_at : ∀ (xs : List Im) (j : Nat) (x : Im), xs[j]? = some x → tb x ≤ tbs xs
  | [], _, _, h => by cases h
  | y :: r, 0, x, h => by cases h; exact Nat.le_add_right _ _
  | y :: r, j + 1, x, h => Nat.le_trans (tbs_at r j x h) (Nat.le_add_left _ _)
theorem len_tbs : ∀ xs : List Im, xs.length ≤ tbs xs
  | [] => Nat.le_refl _
  | x :: r => by
    have h := len_tbs r
    have h1 := tb_eq x
    show r.length + 1 ≤ tb x + tbs r
    omega
theorem hsz_le (b : Nat) (h : b < 1000000000000000000) : 1 ≤ hsz b ∧ hsz b ≤ 9 := by
  unfold hsz
  have := blen_le b 8 (by omega)
  split <;> omega
mutual
theorem sz_tb : ∀ x, tb x < 1000000000000000000 → szOf x ≤ tb x
  | .mk l t a c xs, h => by
    have h1 : tb (.mk l t a c xs) = t.size + 9 + tbs xs := rfl
    have h2 := szs_tbs xs (by omega)
    have h3 := hsz_le (t.size + szs xs) (by omega)
    rw [szOf_eq]
    split
    · show t.size ≤ _
      omega
    · show hsz (t.size + szs xs) + (t.size + szs xs) ≤ _
      omega
theorem szs_tbs : ∀ xs, tbs xs < 1000000000000000000 → szs xs ≤ tbs xs
  | [], _ => Nat.le_refl _
  | x :: r, h => by
    have h0 : tbs (x :: r) = tb x + tbs r := rfl
    exact Nat.add_le_add (sz_tb x (by omega)) (szs_tbs r (by omega))
end
theorem body_tb (x : Im) (h : tb x < 1000000000000000000) : body x + 9 ≤ tb x := by
  have h1 := tb_eq x
  have h2 := szs_tbs x.xs (by omega)
  unfold body
  omega

set_option maxRecDepth 20000 in
set_option maxHeartbeats 1000000 in
theorem isBare_any (t : ByteArray) (w : World) :
    Calls Tryd.prog 116 #[.string t] w fun e w' => e = .returned (.bool (bare t)) ∧ Below w.heap.size w w' := by
  by_cases h1 : t.size = 1
  · have hp : 0 < t.size := by omega
    have l0 : (0 : Int) < t.size := by omega
    have l1 : (t.size : Int) = 1 := by omega
    have g0 := bt_get t 0 hp
    obtain ⟨u, hu⟩ : ∃ u, bt t 0 = u := ⟨_, rfl⟩
    rw [hu] at g0
    have hb : bare t = decide (u < 128) := by unfold bare; rw [decide_eq_true h1, Bool.true_and, hu]
    rw [hb]
    clear hu hb
    go_enter Tryd.func116, Tryd.ntmps116
    go_wp2
    go_ret
    exact ⟨rfl, Below.refl _ _⟩
  · have hb : bare t = false := by unfold bare; rw [decide_eq_false h1, Bool.false_and]
    have l1 : ¬ (t.size : Int) = 1 := by omega
    have l2 : ((t.size : Int) == 1) = false := by rw [beq_eq_false_iff_ne]; exact l1
    rw [hb]
    clear hb
    go_enter Tryd.func116, Tryd.ntmps116
    go_wp2
    go_ret
    exact ⟨rfl, Below.refl _ _⟩
set_option maxRecDepth 20000 in
set_option maxHeartbeats 1000000 in
theorem headSize_any (b : Nat) (hb : b < 1000000000000000000) (w : World) :
    Calls Tryd.prog 118 #[.int .i64 b] w fun e w' => e = .returned (.int .i64 (hsz b)) ∧ Below w.heap.size w w' := by
  by_cases h : b < 56
  · have l : (b : Int) < 56 := by omega
    have hh : hsz b = 1 := if_pos h
    rw [hh]
    go_enter Tryd.func118, Tryd.ntmps118
    go_wp2
    go_ret
    exact ⟨rfl, Below.refl _ _⟩
  · have l : ¬ (b : Int) < 56 := by omega
    have hw : IntKind.u64.wrap (b : Int) = b := by rw [IntKind.wrap_u64]; omega
    have KN : Hid (∀ w : World, _) := fun w : World => number_any b (by omega) w
    have hz : (numOf b).size = blen b := by8_size _ _
    have hm8 := blen_le b 8 (by omega)
    have hh : hsz b = 1 + (numOf b).size := by rw [hz]; exact if_neg h
    rw [hh]
    obtain ⟨s, hs⟩ : ∃ s, numOf b = s := ⟨_, rfl⟩
    rw [hs] at KN hz ⊢
    clear hs hh
    go_enter Tryd.func118, Tryd.ntmps118
    go_wp2_with fail
    refine (KN.out _).mono ?_
    rintro e w1 ⟨rfl, B1⟩
    go_wp2
    go_ret
    exact ⟨by simp [hz], B1⟩
end Go.Proofs.YtmefanagpkbjeaaDoor
namespace Go.Proofs.YtmefanagpkbjeaaDoor
open Go.RowKit Go.Sort

set_option maxRecDepth 20000 in
set_option maxHeartbeats 2000000 in
theorem bodySize_of (x : Im) (htb : tb x < 1000000000000000000) (n : Nat)
    (IH : ∀ (j : Nat) (y : Im), x.xs[j]? = some y → ∀ w : World, n ≤ w.heap.size → inMem n w y → Calls Tryd.prog 84 #[y.val] w fun e w' => e = .returned (.int .i64 (szOf y)) ∧ Below w.heap.size w w')
    (w : World) (hn : n ≤ w.heap.size) (hm : inMem n w x) :
    Calls Tryd.prog 117 #[x.val] w fun e w' => e = .returned (.int .i64 (body x)) ∧ Below w.heap.size w w' := by
  have hbt := body_tb x htb
  rw [tb_eq] at htb
  rw [inMem_eq] at hm
  obtain ⟨l, t, a, c, xs⟩ := x
  replace htb : t.size + 9 + tbs xs < 1000000000000000000 := htb
  replace hbt : t.size + szs xs + 9 ≤ t.size + 9 + tbs xs := hbt
  have hb0 : body (.mk l t a c xs) = t.size + szs xs := rfl
  rw [hb0]
  have IH' : ∀ (j : Nat) (y : Im), xs[j]? = some y → ∀ w : World, n ≤ w.heap.size → inMem n w y → Calls Tryd.prog 84 #[y.val] w fun e w' => e = .returned (.int .i64 (szOf y)) ∧ Below w.heap.size w w' := IH
  replace hm : rowMem n w a 0 xs := hm
  show Calls Tryd.prog 117 #[.agg #[.bool l, .string t, .slice a xs.length c]] w _
  clear IH hb0
  go_enter Tryd.func117, Tryd.ntmps117
  go_wp2_with fail
  refine wpOf (fun W => Below w.heap.size w W) ((Below.refl _ w).alloc (Nat.le_refl _) _) ?_
  intro w1 B1
  obtain ⟨N, hN⟩ : ∃ N, xs.length = N := ⟨_, rfl⟩
  have hNb : N < 1000000000000000000 := by have := len_tbs xs; omega
  rw [hN]
  go_loopg [3, 12] N (fun gk v i wr => ∃ k : Nat, k + gk = N ∧ i = .int .i64 k ∧ v = .int .i64 ((t.size + szs (xs.take k) : Nat) : Int) ∧ Below w.heap.size w wr)
  case atStart => exact ⟨0, by omega, rfl, by simp [szs], B1⟩
  case round =>
    obtain ⟨k, hk, rfl, rfl, BW⟩ := hrel
    by_cases hlt : k < N
    · have l0 : (k : Int) < N := by omega
      obtain ⟨y, hy⟩ : ∃ y, xs[k]? = some y := ⟨xs[k]'(by omega), List.getElem?_eq_getElem (by omega)⟩
      obtain ⟨⟨b, o, hb, rfl, c0, c1, c2⟩, hy2⟩ := row_at xs 0 hm k y hy
      have hy3 := inMem_below hn (BW.mono hn) y hy2
      have hbw : b < w.heap.size := by omega
      replace c0 := (BW.cell (p := ⟨b, _, none⟩) hbw).trans c0
      replace c1 := (BW.cell (p := ⟨b, _, none⟩) hbw).trans c1
      replace c2 := (BW.cell (p := ⟨b, _, none⟩) hbw).trans c2
      obtain ⟨p, hp⟩ : ∃ p, o + 3 * k = p := ⟨_, rfl⟩
      rw [show o + 3 * (0 + k) = p by omega] at c0 c1 c2
      have hp2 : o + k * 3 = p := by omega
      have KS := IH' k y hy
      have wk : IntKind.i64.wrap ((k : Int) + 1) = ((k + 1 : Nat) : Int) := by rw [IntKind.wrap_i64]; omega
      have hst := szs_snoc xs k y hy
      obtain ⟨q, hq⟩ : ∃ q, t.size + szs (xs.take k) = q := ⟨_, rfl⟩
      rw [hq]
      obtain ⟨yl, yt, ya, yc, yx⟩ := y
      simp only [Im.l, Im.t, Im.sl, Im.a, Im.xs, Im.c] at c0 c1 c2
      have HH : Hid (_ ∧ _) := ⟨hq, hst⟩
      have hq2 : q ≤ t.size + szs xs := by rw [← hq]; exact Nat.add_le_add_left (szs_take xs k) _
      have hq3 : q + szOf (.mk yl yt ya yc yx) ≤ t.size + szs xs := by
        have := szs_take xs (k + 1)
        omega
      clear hq hst
      go_wp2_with fail
      have a1 : Below n wr (wr.alloc (.cells #[.bool yl, .string yt, .slice ya yx.length yc] 70)) := (Below.refl n wr).alloc (by have := BW.size; omega) _
      refine (KS _ (by have := BW.size; simp; omega) (inMem_below (by have := BW.size; omega) a1 _ hy3)).mono ?_
      rintro e w3 ⟨rfl, B3⟩
      have BW3 := belowStep BW BW.size (belowStep ((Below.refl _ wr).alloc (Nat.le_refl _) (.cells #[.bool yl, .string yt, .slice ya yx.length yc] 70)) (by simp) B3)
      obtain ⟨d, hd⟩ : ∃ d, szOf (.mk yl yt ya yc yx) = d := ⟨_, rfl⟩
      rw [hd] at hq3 HH ⊢
      clear B3 a1 KS hy3 hy2 c0 c1 c2 BW hd
      go_wp2
      go_roundg (gk - 1)
      case measure => omega
      case rel =>
        refine ⟨k + 1, by omega, by first | rfl | (congr 1; omega), ?_, BW3⟩
        obtain ⟨hq, hst⟩ := HH.out
        rw [hst]
        congr 1
        omega
    · have hk2 : k = N := by omega
      subst hk2
      have l0 : ¬ (k : Int) < k := by omega
      rw [← hN, List.take_length]
      rw [← hN] at l0
      go_wp2
      go_ret
      exact ⟨rfl, BW⟩

set_option maxRecDepth 20000 in
set_option maxHeartbeats 2000000 in
theorem sizeOf_all : ∀ (N : Nat) (x : Im), cnt x ≤ N → tb x < 1000000000000000000 → ∀ (n : Nat) (w : World), n ≤ w.heap.size → inMem n w x →
    Calls Tryd.prog 84 #[x.val] w fun e w' => e = .returned (.int .i64 (szOf x)) ∧ Below w.heap.size w w'
  | 0, x, h, _, _, _, _, _ => by rw [cnt_eq] at h; omega
  | N + 1, x, h, htb, n, w, hn, hm => by
    have KB : ∀ w : World, n ≤ w.heap.size → inMem n w x → Calls Tryd.prog 117 #[x.val] w fun e w' => e = .returned (.int .i64 (body x)) ∧ Below w.heap.size w w' := fun w hn hm =>
      bodySize_of x htb n (fun j y hy w hn hm => sizeOf_all N y (by rw [cnt_eq] at h; have := cnts_at x.xs j y hy; omega) (by rw [tb_eq] at htb; have := tbs_at x.xs j y hy; omega) n w hn hm) w hn hm
    have hbt := body_tb x htb
    have hh9 := hsz_le (body x) (by omega)
    have KH : Hid (∀ w : World, _) := fun w : World => headSize_any (body x) (by omega) w
    rw [szOf_eq]
    have KX : Hid (∀ w : World, _) := fun w : World => isBare_any x.t w
    obtain ⟨bb, hbb⟩ : ∃ b, body x = b := ⟨_, rfl⟩
    obtain ⟨hz, hhz⟩ : ∃ b, hsz bb = b := ⟨_, rfl⟩
    rw [hbb] at KB KH hbt hh9 ⊢
    rw [hhz] at KH hh9 ⊢
    clear hhz hbb
    have KB' : Hid (∀ w : World, _) := KB
    clear KB
    obtain ⟨l, t, a, c, xs⟩ := x
    replace KX : Hid (∀ w : World, Calls Tryd.prog 116 #[.string t] w fun e w' => e = .returned (.bool (bare t)) ∧ Below w.heap.size w w') := KX
    show Calls Tryd.prog 84 #[.agg #[.bool l, .string t, .slice a xs.length c]] w fun e w' => e = .returned (.int .i64 ((if !l && bare t then t.size else hz + bb : Nat) : Int)) ∧ Below w.heap.size w w'
    have a0 : Below w.heap.size w (w.alloc (.cells #[.bool l, .string t, .slice a xs.length c] 70)) := (Below.refl _ w).alloc (Nat.le_refl _) _
    have hm1 := inMem_below hn (a0.mono hn) _ hm
    obtain ⟨bt0, hbt0⟩ : ∃ b, bare t = b := ⟨_, rfl⟩
    rw [hbt0] at KX ⊢
    cases l with
    | true =>
      go_enter Tryd.func84, Tryd.ntmps84
      go_wp2_with fail
      refine (KB'.out _ (by simp; omega) hm1).mono ?_
      rintro e w2 ⟨rfl, B2⟩
      have C2 := belowStep a0 a0.size B2
      clear B2 a0
      go_wp2_with fail
      refine (KH.out _).mono ?_
      rintro e w3 ⟨rfl, B3⟩
      have C3 := belowStep C2 C2.size B3
      clear B3 C2 KH KB'
      go_wp2
      go_ret
      exact ⟨by first | rfl | simp, C3⟩
    | false =>
      go_enter Tryd.func84, Tryd.ntmps84
      go_wp2_with fail
      refine (KX.out _).mono ?_
      rintro e wx ⟨rfl, BX⟩
      have ax := belowStep a0 a0.size BX
      have hmx := inMem_below (by simp; omega) (BX.mono (by simp; omega)) _ hm1
      have x0 : wx.cell? ⟨w.heap.size, 0, none⟩ = some (.bool false) := (BX.cell (p := ⟨w.heap.size, 0, none⟩) (by simp)).trans (by simp [go_sem])
      have x1 : wx.cell? ⟨w.heap.size, 1, none⟩ = some (.string t) := (BX.cell (p := ⟨w.heap.size, 1, none⟩) (by simp)).trans (by simp [go_sem])
      have x2 : wx.cell? ⟨w.heap.size, 2, none⟩ = some (.slice a xs.length c) := (BX.cell (p := ⟨w.heap.size, 2, none⟩) (by simp)).trans (by simp [go_sem])
      clear BX
      cases bt0 with
      | true =>
        go_wp2
        go_ret
        exact ⟨by first | rfl | simp, ax⟩
      | false =>
        go_wp2_with fail
        refine (KB'.out _ (by have := ax.size; omega) hmx).mono ?_
        rintro e w2 ⟨rfl, B2⟩
        have C2 := belowStep ax ax.size B2
        clear B2 ax
        go_wp2_with fail
        refine (KH.out _).mono ?_
        rintro e w3 ⟨rfl, B3⟩
        have C3 := belowStep C2 C2.size B3
        clear B3 C2 KH KB'
        go_wp2
        go_ret
        exact ⟨by first | rfl | simp, C3⟩
end Go.Proofs.YtmefanagpkbjeaaDoor
namespace Go.Proofs.YtmefanagpkbjeaaDoor
open Go.RowKit Go.Sort

theorem conv_one (w : World) (d : Nat) (hd : d < 256) : (convert 58 9 (.slice (some ⟨w.heap.size, 0, none⟩) 1 1)).run Tryd.prog (w.alloc (.cells #[.int .u8 d] 5)) = .ok (.string ⟨#[UInt8.ofNat d]⟩) (w.alloc (.cells #[.int .u8 d] 5)) := by
  have := conv_new w [UInt8.ofNat d]
  simp only [List.map_cons, List.map_nil, UInt8.toNat_ofNat'] at this
  rw [show ((d % 2 ^ 8 : Nat) : Int) = d by omega] at this
  exact this
/-- A head of so many bytes, from a number on. -/
def hdB (base size : Nat) : ByteArray := if size < 56 then ⟨#[UInt8.ofNat (base + size)]⟩ else ⟨#[UInt8.ofNat (base + 55 + blen size)]⟩ ++ numOf size
def hOf (x : Im) : ByteArray := if x.l then hdB 192 (body x) else if bare x.t then ⟨#[]⟩ else hdB 128 x.t.size

set_option maxRecDepth 20000 in
set_option maxHeartbeats 1000000 in
theorem head_any (base size : Nat) (hb : base ≤ 192) (hs : size < 1000000000000000000) (w : World) :
    Calls Tryd.prog 121 #[.int .i64 base, .int .i64 size] w fun e w' => e = .returned (.string (hdB base size)) ∧ Below w.heap.size w w' := by
  by_cases h : size < 56
  · have l : (size : Int) < 56 := by omega
    obtain ⟨d, hd⟩ : ∃ d, base + size = d := ⟨_, rfl⟩
    have hh : Hid (hdB base size = ⟨#[UInt8.ofNat d]⟩) := by unfold hdB; rw [if_pos h, hd]; exact rfl
    have w1 : IntKind.i64.wrap ((base : Int) + size) = d := by rw [IntKind.wrap_i64]; omega
    have w2 : (base : Int) + size = d := by omega
    have w3 : IntKind.u8.wrap (d : Int) = d := by rw [IntKind.wrap_u8]; omega
    have w4 : (d : Int) % 256 = d := by omega
    have hcv := conv_one w d (by omega)
    clear hd
    go_enter Tryd.func121, Tryd.ntmps121
    go_wp2
    go_ret
    exact ⟨by rw [hh.out]; rfl, (Below.refl _ w).alloc (Nat.le_refl _) _⟩
  · have l : ¬ (size : Int) < 56 := by omega
    have hw : IntKind.u64.wrap (size : Int) = size := by rw [IntKind.wrap_u64]; omega
    have KN : Hid (∀ w : World, _) := fun w : World => number_any size (by omega) w
    have hz : (numOf size).size = blen size := by8_size _ _
    have hm8 := blen_le size 8 (by omega)
    obtain ⟨d, hd⟩ : ∃ d, base + 55 + blen size = d := ⟨_, rfl⟩
    obtain ⟨s, hs'⟩ : ∃ s, numOf size = s := ⟨_, rfl⟩
    obtain ⟨one, hone, hos⟩ : ∃ x : ByteArray, ⟨#[UInt8.ofNat d]⟩ = x ∧ x.size = 1 := ⟨_, rfl, rfl⟩
    have hh : Hid (hdB base size = one ++ s) := by unfold hdB; rw [if_neg h, hd, hone, hs']; exact rfl
    rw [hs'] at KN hz
    have hz' : s.size ≤ 8 := by omega
    have hcv : ∀ w : World, _ := fun w => conv_one w d (by omega)
    rw [hone] at hcv
    have w2 : (base : Int) + 56 - 1 + s.size = d := by omega
    have w1 : IntKind.i64.wrap ((base : Int) + 56 - 1 + s.size) = d := by rw [IntKind.wrap_i64]; omega
    have w3 : IntKind.u8.wrap (d : Int) = d := by rw [IntKind.wrap_u8]; omega
    have w4 : (d : Int) % 256 = d := by omega
    have hsz : (one.size : Int) + s.size ≤ 9 := by omega
    clear hd hone hs' hz
    go_enter Tryd.func121, Tryd.ntmps121
    go_wp2_with fail
    refine (KN.out _).mono ?_
    rintro e w1 ⟨rfl, B1⟩
    have hcv1 := hcv w1
    clear hcv
    go_wp2
    go_ret
    exact ⟨by rw [hh.out]; rfl, B1.alloc B1.size _⟩

set_option maxRecDepth 20000 in
set_option maxHeartbeats 2000000 in
theorem headOf_any (x : Im) (htb : tb x < 1000000000000000000) (n : Nat) (w : World) (hn : n ≤ w.heap.size) (hm : inMem n w x) :
    Calls Tryd.prog 86 #[x.val] w fun e w' => e = .returned (.string (hOf x)) ∧ Below w.heap.size w w' := by
  have KB : ∀ w : World, n ≤ w.heap.size → inMem n w x → Calls Tryd.prog 117 #[x.val] w fun e w' => e = .returned (.int .i64 (body x)) ∧ Below w.heap.size w w' := fun w hn hm =>
    bodySize_of x htb n (fun j y hy w hn hm => sizeOf_all (cnt y) y (Nat.le_refl _) (by rw [tb_eq] at htb; have := tbs_at x.xs j y hy; omega) n w hn hm) w hn hm
  have hbt := body_tb x htb
  have KH : Hid (∀ w : World, _) := fun w : World => head_any 192 (body x) (by omega) (by omega) w
  rw [tb_eq] at htb
  have KT : Hid (∀ w : World, _) := fun w : World => head_any 128 x.t.size (by omega) (by omega) w
  have KX : Hid (∀ w : World, _) := fun w : World => isBare_any x.t w
  have hO : hOf x = if x.l then hdB 192 (body x) else if bare x.t then ⟨#[]⟩ else hdB 128 x.t.size := rfl
  obtain ⟨r1, hr1⟩ : ∃ b, hdB 192 (body x) = b := ⟨_, rfl⟩
  obtain ⟨r2, hr2⟩ : ∃ b, hdB 128 x.t.size = b := ⟨_, rfl⟩
  rw [hr1] at KH hO
  rw [hr2] at KT hO
  rw [hO]
  obtain ⟨bb, hbb⟩ : ∃ b, body x = b := ⟨_, rfl⟩
  rw [hbb] at KB KH hbt
  clear hbb hr1 hr2 hO
  have KB' : Hid (∀ w : World, _) := KB
  clear KB
  obtain ⟨l, t, a, c, xs⟩ := x
  replace KX : Hid (∀ w : World, Calls Tryd.prog 116 #[.string t] w fun e w' => e = .returned (.bool (bare t)) ∧ Below w.heap.size w w') := KX
  replace KT : Hid (∀ w : World, Calls Tryd.prog 121 #[.int .i64 128, .int .i64 t.size] w fun e w' => e = .returned (.string r2) ∧ Below w.heap.size w w') := KT
  replace KH : Hid (∀ w : World, Calls Tryd.prog 121 #[.int .i64 192, .int .i64 bb] w fun e w' => e = .returned (.string r1) ∧ Below w.heap.size w w') := KH
  show Calls Tryd.prog 86 #[.agg #[.bool l, .string t, .slice a xs.length c]] w fun e w' => e = .returned (.string (if l then r1 else if bare t then ⟨#[]⟩ else r2)) ∧ Below w.heap.size w w'
  have a0 : Below w.heap.size w (w.alloc (.cells #[.bool l, .string t, .slice a xs.length c] 70)) := (Below.refl _ w).alloc (Nat.le_refl _) _
  have hm1 := inMem_below hn (a0.mono hn) _ hm
  obtain ⟨bt0, hbt0⟩ : ∃ b, bare t = b := ⟨_, rfl⟩
  rw [hbt0] at KX ⊢
  cases l with
  | true =>
    go_enter Tryd.func86, Tryd.ntmps86
    go_wp2_with fail
    refine (KB'.out _ (by simp; omega) hm1).mono ?_
    rintro e w2 ⟨rfl, B2⟩
    have C2 := belowStep a0 a0.size B2
    clear B2 a0
    go_wp2_with fail
    refine (KH.out _).mono ?_
    rintro e w3 ⟨rfl, B3⟩
    have C3 := belowStep C2 C2.size B3
    clear B3 C2 KH KB' KX KT
    go_wp2
    go_ret
    exact ⟨rfl, C3⟩
  | false =>
    go_enter Tryd.func86, Tryd.ntmps86
    go_wp2_with fail
    refine (KX.out _).mono ?_
    rintro e wx ⟨rfl, BX⟩
    have ax := belowStep a0 a0.size BX
    have x0 : wx.cell? ⟨w.heap.size, 0, none⟩ = some (.bool false) := (BX.cell (p := ⟨w.heap.size, 0, none⟩) (by simp)).trans (by simp [go_sem])
    have x1 : wx.cell? ⟨w.heap.size, 1, none⟩ = some (.string t) := (BX.cell (p := ⟨w.heap.size, 1, none⟩) (by simp)).trans (by simp [go_sem])
    clear BX
    cases bt0 with
    | true =>
      go_wp2
      go_ret
      exact ⟨rfl, ax⟩
    | false =>
      go_wp2_with fail
      refine (KT.out _).mono ?_
      rintro e w3 ⟨rfl, B3⟩
      have C3 := belowStep ax ax.size B3
      clear B3 ax KH KB' KX KT
      go_wp2
      go_ret
      exact ⟨rfl, C3⟩
end Go.Proofs.YtmefanagpkbjeaaDoor
