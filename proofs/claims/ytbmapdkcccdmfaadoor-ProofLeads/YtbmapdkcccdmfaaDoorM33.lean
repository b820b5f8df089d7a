/- Lemmas: Pairs gathered anew: slices.Values, AppendSeq, Collect. -/
import Derived.Test.YtbmapdkcccdmfaaDoorM1
import Derived.Test.YtbmapdkcccdmfaaDoorM10
import Derived.Test.YtbmapdkcccdmfaaDoorM11
import Derived.Test.YtbmapdkcccdmfaaDoorM12
import Derived.Test.YtbmapdkcccdmfaaDoorM13
import Derived.Test.YtbmapdkcccdmfaaDoorM14
import Derived.Test.YtbmapdkcccdmfaaDoorM15
import Derived.Test.YtbmapdkcccdmfaaDoorM2
import Derived.Test.YtbmapdkcccdmfaaDoorM3
import Derived.Test.YtbmapdkcccdmfaaDoorM32
import Derived.Test.YtbmapdkcccdmfaaDoorM6
import Derived.Test.YtbmapdkcccdmfaaDoorM7
import Derived.Test.YtbmapdkcccdmfaaDoorM8
import Derived.Test.YtbmapdkcccdmfaaDoorM9
import Derived.Test.YtbmapdkcccdmfaaDoorRows
namespace Go.Proofs.YtbmapdkcccdmfaaDoor
open Go.RowKit Go.Shelf Go.Sort
attribute [local go_sem] Oper.semAt_some


def pC (es : List (ByteArray × ByteArray)) : List Value := es.flatMap fun e => [.string e.1, .string e.2]
theorem pC_snoc (es : List (ByteArray × ByteArray)) (e : ByteArray × ByteArray) : pC (es ++ [e]) = pC es ++ [.string e.1, .string e.2] := by simp [pC]
theorem pC_at : ∀ (es : List (ByteArray × ByteArray)) (j : Nat) (e : ByteArray × ByteArray), es[j]? = some e → (pC es)[2 * j]? = some (.string e.1) ∧ (pC es)[2 * j + 1]? = some (.string e.2)
 | [], _, _, h => by cases h
 | a :: r, 0, e, h => by
  cases h
  exact ⟨rfl, rfl⟩
 | a :: r, j + 1, e, h => by
  have := pC_at r j e h
  have e1 : pC (a :: r) = .string a.1 :: .string a.2 :: pC r := rfl
  rw [e1, show 2 * (j + 1) = 2 * j + 1 + 1 by omega, List.getElem?_cons_succ, List.getElem?_cons_succ, List.getElem?_cons_succ, List.getElem?_cons_succ]
  exact this
theorem owns_kind {W : World} {zz n k : Nat} {e : TypeId} {size : Nat} {v : Value} {xs : List Value} (h : W.ownsRow zz e size v n xs) (hk : v.ownBlock = some k) : ∃ c, W.heap[k]? = some (.cells c e (0, 0)) := by
 rcases h.2 with ⟨rfl, _⟩ | ⟨g, c, cur, rfl, _, hg, _⟩
 ·cases hk
 ·injection hk with hk
  subst hk
  exact ⟨cur, hg⟩
theorem owns_owned {A C : World} {b n : Nat} {e : TypeId} {size : Nat} {v : Value} {xs : List Value} {row : Option Nat} (h : A.ownsRow b e size v n xs) (hg : A.grownBy C row) (hr : ∀ r, row = some r → ∃ o : Obj, A.heap[r]? = some o ∧ o.isCells = false) : C.ownsRow b e size v n xs := by
 refine h.kept hg ?_
 cases e' : v.ownBlock with
 | none => exact .inl rfl
 | some k =>
  obtain ⟨c, hk⟩ := owns_kind h e'
  refine .inr fun e2 => ?_
  obtain ⟨o, ho, hc⟩ := hr k e2.symm
  rw [hk] at ho
  cases ho
  cases hc
def GSt (z : Nat) (w : World) (pre : List (ByteArray × ByteArray)) (W : World) : Prop := ∃ v, Bx z 29 v W ∧ W.ownsRow (z + 1) 57 2 v pre.length (pC pre) ∧ Below z w W
theorem GSt.own {z : Nat} {w A C : World} {pre : List (ByteArray × ByteArray)} {row : Option Nat} (h : GSt z w pre A) (hg : A.grownBy C row) (hr : ∀ r, row = some r → z ≤ r ∧ ∃ o : Obj, A.heap[r]? = some o ∧ o.isCells = false) : GSt z w pre C := by
 obtain ⟨v, h1, h2, h3⟩ := h
 have := h1.lt
 exact ⟨v, h1.own hg (fun r e => (hr r e).2), owns_owned h2 hg (fun r e => (hr r e).2), h3.grown hg (by omega) (fun k e => (hr k e).1)⟩
theorem info_pair : (Tryd.prog.info? 57).map (fun i => (i.zero, i.size, i.bytes)) = some (some (.agg #[.string ⟨#[]⟩, .string ⟨#[]⟩]), 2, 32) := by kernel_rfl

end Go.Proofs.YtbmapdkcccdmfaaDoor
