/- Lemmas: Items as they lie in memory; how many bytes they take. What stands ahead of an item: head and headOf. -/
import Derived.Test.YtbmapdkcccdmfaaDoorM1
import Derived.Test.YtbmapdkcccdmfaaDoorM2
import Derived.Test.YtbmapdkcccdmfaaDoorM6
import Derived.Test.YtbmapdkcccdmfaaDoorM7
import Derived.Test.YtbmapdkcccdmfaaDoorM8
import Derived.Test.YtbmapdkcccdmfaaDoorM9
import Derived.Test.YtbmapdkcccdmfaaDoorRows
namespace Go.Proofs.YtbmapdkcccdmfaaDoor
open Go.RowKit Go.Sort

inductive Im where
 | mk (l : Bool) (t : ByteArray) (a : Option Addr) (c : Nat) (xs : List Im)
namespace Im
def l : Im → Bool | .mk l _ _ _ _ => l
def t : Im → ByteArray | .mk _ t _ _ _ => t
def a : Im → Option Addr | .mk _ _ a _ _ => a
def c : Im → Nat | .mk _ _ _ c _ => c
def xs : Im → List Im | .mk _ _ _ _ xs => xs
def sl (x : Im) : Value := .slice x.a x.xs.length x.c
def val (x : Im) : Value := .agg #[.bool x.l, .string x.t, x.sl]
end Im
mutual
def inMem (n : Nat) (W : World) : Im → Prop
 | .mk _ _ a _ xs => rowMem n W a 0 xs
def rowMem (n : Nat) (W : World) (a : Option Addr) : Nat → List Im → Prop
 | _, [] => True
 | i, x :: r => (∃ b o, b < n ∧ a = some ⟨b, o, none⟩ ∧ W.cell? ⟨b, o + 3 * i, none⟩ = some (.bool x.l) ∧ W.cell? ⟨b, o + 3 * i + 1, none⟩ = some (.string x.t) ∧ W.cell? ⟨b, o + 3 * i + 2, none⟩ = some x.sl) ∧ inMem n W x ∧ rowMem n W a (i + 1) r
def cnt : Im → Nat
 | .mk _ _ _ _ xs => cnts xs + 1
def cnts : List Im → Nat
 | [] => 0
 | x :: r => cnt x + cnts r
end
theorem inMem_eq (n : Nat) (W : World) (x : Im) : inMem n W x = rowMem n W x.a 0 x.xs := by cases x; rfl
theorem cnt_eq (x : Im) : cnt x = cnts x.xs + 1 := by cases x; rfl
theorem row_at {n : Nat} {W : World} {a : Option Addr} : ∀ (xs : List Im) (i : Nat), rowMem n W a i xs → ∀ (j : Nat) (x : Im), xs[j]? = some x →
  (∃ b o, b < n ∧ a = some ⟨b, o, none⟩ ∧ W.cell? ⟨b, o + 3 * (i + j), none⟩ = some (.bool x.l) ∧ W.cell? ⟨b, o + 3 * (i + j) + 1, none⟩ = some (.string x.t) ∧ W.cell? ⟨b, o + 3 * (i + j) + 2, none⟩ = some x.sl) ∧ inMem n W x
 | [], _, _, _, _, h => by cases h
 | y :: r, i, h, 0, x, hx => by
  cases hx
  exact ⟨h.1, h.2.1⟩
 | y :: r, i, h, j + 1, x, hx => by
  have := row_at r (i + 1) h.2.2 j x hx
  rwa [show i + 1 + j = i + (j + 1) by omega] at this
theorem cnts_at : ∀ (xs : List Im) (j : Nat) (x : Im), xs[j]? = some x → cnt x ≤ cnts xs
 | [], _, _, h => by cases h
 | y :: r, 0, x, h => by cases h; exact Nat.le_add_right _ _
 | y :: r, j + 1, x, h => Nat.le_trans (cnts_at r j x h) (Nat.le_add_left _ _)
mutual
theorem inMem_below {n : Nat} {W W' : World} (hn : n ≤ W.heap.size) (hb : Below n W W') : ∀ x, inMem n W x → inMem n W' x
 | .mk _ _ a _ xs, h => rowMem_below hn hb a 0 xs h
theorem rowMem_below {n : Nat} {W W' : World} (hn : n ≤ W.heap.size) (hb : Below n W W') (a : Option Addr) : ∀ i xs, rowMem n W a i xs → rowMem n W' a i xs
 | _, [], _ => trivial
 | i, x :: r, ⟨⟨b, o, h0, h1, h2, h3, h4⟩, h5, h6⟩ => ⟨⟨b, o, h0, h1, (hb.cell (p := ⟨b, _, none⟩) h0).trans h2, (hb.cell (p := ⟨b, _, none⟩) h0).trans h3, (hb.cell (p := ⟨b, _, none⟩) h0).trans h4⟩, inMem_below hn hb x h5, rowMem_below hn hb a (i + 1) r h6⟩
end

def bare (t : ByteArray) : Bool := decide (t.size = 1) && decide (bt t 0 < 128)
def hsz (b : Nat) : Nat := if b < 56 then 1 else 1 + blen b
mutual
def szOf : Im → Nat
 | .mk l t _ _ xs => if !l && bare t then t.size else hsz (t.size + szs xs) + (t.size + szs xs)
def szs : List Im → Nat
 | [] => 0
 | x :: r => szOf x + szs r
end
def body (x : Im) : Nat := x.t.size + szs x.xs
theorem szOf_eq (x : Im) : szOf x = if !x.l && bare x.t then x.t.size else hsz (body x) + body x := by cases x; rfl
mutual
def tb : Im → Nat
 | .mk _ t _ _ xs => t.size + 9 + tbs xs
def tbs : List Im → Nat
 | [] => 0
 | x :: r => tb x + tbs r
end
theorem tb_eq (x : Im) : tb x = x.t.size + 9 + tbs x.xs := by cases x; rfl
theorem tbs_at : ∀ (xs : List Im) (j : Nat) (x : Im), xs[j]? = some x → tb x ≤ tbs xs
 | [], _, _, h => by cases h
 | y :: r, 0, x, h => by cases h; exact Nat.le_add_right _ _
 | y :: r, j + 1, x, h => Nat.le_trans (tbs_at r j x h) (Nat.le_add_left _ _)
theorem len_tbs : ∀ xs : List Im, xs.length ≤ tbs xs
 | [] => Nat.le_refl _
 | x :: r => by
  have h := len_tbs r
  have h1 := tb_eq x
  show r.length + 1 ≤ tb x + tbs r
  omega
theorem hsz_le (b : Nat) (h : b < 1000000000000000000) : 1 ≤ hsz b ∧ hsz b ≤ 9 := by
 unfold hsz
 have := blen_le b 8 (by omega)
 split <;> omega
mutual
theorem sz_tb : ∀ x, tb x < 1000000000000000000 → szOf x ≤ tb x
 | .mk l t a c xs, h => by
  have h1 : tb (.mk l t a c xs) = t.size + 9 + tbs xs := rfl
  have h2 := szs_tbs xs (by omega)
  have h3 := hsz_le (t.size + szs xs) (by omega)
  rw [szOf_eq]
  split
  ·show t.size ≤ _
   omega
  ·show hsz (t.size + szs xs) + (t.size + szs xs) ≤ _
   omega
theorem szs_tbs : ∀ xs, tbs xs < 1000000000000000000 → szs xs ≤ tbs xs
 | [], _ => Nat.le_refl _
 | x :: r, h => by
  have h0 : tbs (x :: r) = tb x + tbs r := rfl
  exact Nat.add_le_add (sz_tb x (by omega)) (szs_tbs r (by omega))
end

set_option maxRecDepth 20000 in
set_option maxHeartbeats 1000000 in
theorem isBare_any (t : ByteArray) (w : World) :
  Calls Tryd.prog 109 #[.string t] w fun e w' => e = .returned (.bool (bare t)) ∧ Below w.heap.size w w' := by
 by_cases h1 : t.size = 1
 ·have hp : 0 < t.size := by omega
  have l0 : (0 : Int) < t.size := by omega
  have l1 : (t.size : Int) = 1 := by omega
  have g0 := bt_get t 0 hp
  obtain ⟨u, hu⟩ : ∃ u, bt t 0 = u := ⟨_, rfl⟩
  rw [hu] at g0
  have hb : bare t = decide (u < 128) := by unfold bare; rw [decide_eq_true h1, Bool.true_and, hu]
  rw [hb]
  clear hu hb
  go_enter Tryd.func109, Tryd.ntmps109
  go_wp2
  go_ret
  exact ⟨rfl, Below.refl _ _⟩
 ·have hb : bare t = false := by unfold bare; rw [decide_eq_false h1, Bool.false_and]
  have l1 : ¬ (t.size : Int) = 1 := by omega
  have l2 : ((t.size : Int) == 1) = false := by rw [beq_eq_false_iff_ne]; exact l1
  rw [hb]
  clear hb
  go_enter Tryd.func109, Tryd.ntmps109
  go_wp2
  go_ret
  exact ⟨rfl, Below.refl _ _⟩
end Go.Proofs.YtbmapdkcccdmfaaDoor
namespace Go.Proofs.YtbmapdkcccdmfaaDoor
open Go.RowKit Go.Sort

theorem conv_one (w : World) (d : Nat) (hd : d < 256) : (convert 24 9 (.slice (some ⟨w.heap.size, 0, none⟩) 1 1)).run Tryd.prog (w.alloc (.cells #[.int .u8 d] 5)) = .ok (.string ⟨#[UInt8.ofNat d]⟩) (w.alloc (.cells #[.int .u8 d] 5)) := by
 have := conv_new w [UInt8.ofNat d]
 simp only [List.map_cons, List.map_nil, UInt8.toNat_ofNat'] at this
 rw [show ((d % 2 ^ 8 : Nat) : Int) = d by omega] at this
 exact this
def hdB (base size : Nat) : ByteArray := if size < 56 then ⟨#[UInt8.ofNat (base + size)]⟩ else ⟨#[UInt8.ofNat (base + 55 + blen size)]⟩ ++ numOf size
def hOf (x : Im) : ByteArray := if x.l then hdB 192 (body x) else if bare x.t then ⟨#[]⟩ else hdB 128 x.t.size

end Go.Proofs.YtbmapdkcccdmfaaDoor
