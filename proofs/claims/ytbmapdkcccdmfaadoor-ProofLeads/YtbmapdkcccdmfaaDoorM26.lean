/- Lemmas: What Form does at this translation: a path's form, or that there is none. Condition: the path has at most 10^8 bytes. -/
import Derived.Test.YtbmapdkcccdmfaaDoorM1
import Derived.Test.YtbmapdkcccdmfaaDoorM11
import Derived.Test.YtbmapdkcccdmfaaDoorM18
import Derived.Test.YtbmapdkcccdmfaaDoorM19
import Derived.Test.YtbmapdkcccdmfaaDoorM20
import Derived.Test.YtbmapdkcccdmfaaDoorM21
import Derived.Test.YtbmapdkcccdmfaaDoorM22
import Derived.Test.YtbmapdkcccdmfaaDoorM23
import Derived.Test.YtbmapdkcccdmfaaDoorM24
import Derived.Test.YtbmapdkcccdmfaaDoorM25
import Derived.Test.YtbmapdkcccdmfaaDoorM3
import Derived.Test.YtbmapdkcccdmfaaDoorRows
import Derived.Scope
namespace Go.Proofs.YtbmapdkcccdmfaaDoor
open Go.RowKit Go.Shelf Go.Sort
attribute [local go_sem] Oper.semAt_some

def n_Bx (b : Nat) (T : TypeId) (v : Value) (W : World) : Prop := W.heap[b]? = some (.cells #[v] T (0, 0))
theorem n_Bx.cell {b : Nat} {T : TypeId} {v : Value} {W : World} (h : n_Bx b T v W) : W.cell? ⟨b, 0, none⟩ = some v := by rw [Lib.cell_of_heap h]; rfl
theorem n_Bx.fr {b : Nat} {T : TypeId} {v : Value} {W : World} (h : n_Bx b T v W) : W.frozen? ⟨b, 0, none⟩ = false := Lib.frozen_of_heap h 0
theorem n_Bx.lt {b : Nat} {T : TypeId} {v : Value} {W : World} (h : n_Bx b T v W) : b < W.heap.size := (Array.getElem?_eq_some_iff.1 h).1
theorem n_Bx.put {b : Nat} {T : TypeId} {v : Value} {W : World} (h : n_Bx b T v W) (u : Value) : n_Bx b T u (W.setCell ⟨b, 0, none⟩ u) := by
 have h' : W.heap[b]? = _ := h
 show (W.setCell ⟨b, 0, none⟩ u).heap[b]? = _
 simp [World.setCell, Array.getElem?_modify, h']
theorem n_Bx.other {b k : Nat} {T : TypeId} {v : Value} {W : World} (h : n_Bx b T v W) (hk : b ≠ k) (o : Nat) (u : Value) : n_Bx b T v (W.setCell ⟨k, o, none⟩ u) := (Below.heap_setCell _ _ _ _ hk).trans h
theorem n_Bx.own {b : Nat} {T : TypeId} {v : Value} {A C : World} {row : Option Nat} (h : n_Bx b T v A) (hg : A.grownBy C row) (hr : ∀ r, row = some r → ∃ o : Obj, A.heap[r]? = some o ∧ o.isCells = false) : n_Bx b T v C := by
 refine (hg.block b h.lt (fun e => ?_)).trans h
 obtain ⟨o, ho, hc⟩ := hr b e.symm
 rw [show A.heap[b]? = _ from h] at ho
 cases ho
 cases hc
theorem n_ko_set (W : World) (p : Addr) (u : Value) (B : Nat) : KeepsFrom B W (W.setCell p u) := (KeepsOthers.setCell W p u).from B

def stepF (f : Nat → Int) (s : Int × List Value) (x : Nat) : Int × List Value := if x % 2 = 0 then (f x, s.2) else (s.1, s.2 ++ [.int .u8 (s.1 * 16 + f x)])
def stF (f : Nat → Int) (l : List Nat) : Int × List Value := l.foldl (stepF f) (0, [])
theorem hd_le (n : Nat) (leaf : Bool) (j : Nat) : n_bt (hdOf n leaf) j ≤ 15 := by
 have e : ∀ a : ByteArray, (a = ⟨#[2, 0]⟩ ∨ a = ⟨#[3]⟩ ∨ a = ⟨#[0, 0]⟩ ∨ a = ⟨#[1]⟩) → n_bt a j ≤ 15 := by
  rintro a (rfl | rfl | rfl | rfl) <;> unfold n_bt <;> match j with
  | 0 => decide
  | 1 => decide
  | j + 2 => simp
 apply e
 cases leaf <;> unfold hdOf <;> by_cases h : n % 2 = 0 <;> simp [h]
theorem full_of_path (p : ByteArray) (leaf : Bool) (h : isP p = true) (j : Nat) (hj : j < (full p leaf).size) : n_bt (full p leaf) j ≤ 15 := by
 unfold full
 rw [n_bt_app]
 by_cases h1 : j < (hdOf p.size leaf).size
 ·rw [if_pos h1]
  exact hd_le _ _ _
 ·rw [if_neg h1]
  rw [full_size] at hj
  exact (isP_iff p).1 h _ (by omega)
theorem bt_out (s : ByteArray) (j : Nat) (h : s.size ≤ j) : n_bt s j = 0 := by
 unfold n_bt
 have h' : ¬ j < s.size := by omega
 simp [Array.getD, h']
theorem full_le (p : ByteArray) (leaf : Bool) (h : isP p = true) (j : Nat) : 0 ≤ n_bt (full p leaf) j ∧ n_bt (full p leaf) j < 16 := by
 have := n_bt_bd (full p leaf) j
 by_cases hj : j < (full p leaf).size
 ·have := full_of_path p leaf h j hj
  omega
 ·rw [bt_out _ _ (by omega)]
  omega
def fmAt (p : ByteArray) (leaf : Bool) (j : Nat) : Int := n_bt (full p leaf) (2 * j) * 16 + n_bt (full p leaf) (2 * j + 1)
def fmOf (p : ByteArray) (leaf : Bool) : ByteArray := ⟨(n_by8 ((full p leaf).size / 2) (fmAt p leaf)).toArray⟩
def fmS (p : ByteArray) (leaf : Bool) : ByteArray := if isP p then fmOf p leaf else ⟨#[]⟩
def fmE (p : ByteArray) : Int := if isP p then 0 else 2
theorem fm_bd (p : ByteArray) (leaf : Bool) (h : isP p = true) (j : Nat) : 0 ≤ fmAt p leaf j ∧ fmAt p leaf j < 256 := by
 have h1 := full_le p leaf h (2 * j)
 have h2 := full_le p leaf h (2 * j + 1)
 unfold fmAt
 omega
theorem or_16 (a b : Int) (ha : 0 ≤ a ∧ a < 16) (hb : 0 ≤ b ∧ b < 16) : bits .or .u8 (a * 16) b = a * 16 + b := by
 have e : ∀ i j : Fin 16, bits .or .u8 (((i.val : Nat) : Int) * 16) ((j.val : Nat) : Int) = ((i.val : Nat) : Int) * 16 + ((j.val : Nat) : Int) := by decide +kernel
 have := e ⟨a.toNat, by omega⟩ ⟨b.toNat, by omega⟩
 rwa [show ((a.toNat : Nat) : Int) = a by omega, show ((b.toNat : Nat) : Int) = b by omega] at this
structure FSt (f : Nat → Int) (z bH bP : Nat) (w : World) (pre : List Nat) (W : World) : Prop where
 rb : ∃ g cap, Rb z g cap (stF f pre).2 W ∧ cap ≠ 0 ∧ z < g ∧ g ≠ bH ∧ g ≠ bP
 hi : n_Bx bH 5 (.int .u8 (stF f pre).1) W
 ok : n_Bx bP 4 (.bool true) W
 bd : 0 ≤ (stF f pre).1 ∧ (stF f pre).1 < 16
 ln : (stF f pre).2.length ≤ pre.length
 all : ∀ x, x ∈ pre → f x ≤ 15
 bw : Below z w W
theorem FSt.own {f : Nat → Int} {z bH bP : Nat} {w A C : World} {pre : List Nat} {row : Option Nat} (h : FSt f z bH bP w pre A) (hg : A.grownBy C row) (hr : ∀ r, row = some r → z ≤ r ∧ ∃ o : Obj, A.heap[r]? = some o ∧ o.isCells = false) : FSt f z bH bP w pre C := by
 obtain ⟨g, cap, h1, h2⟩ := h.rb
 exact ⟨⟨g, cap, h1.own hg (fun r e => (hr r e).2), h2⟩, h.hi.own hg (fun r e => (hr r e).2), h.ok.own hg (fun r e => (hr r e).2), h.bd, h.ln, h.all, h.bw.grown hg (Nat.le_of_lt h1.lt) (fun k e => (hr k e).1)⟩

end Go.Proofs.YtbmapdkcccdmfaaDoor
