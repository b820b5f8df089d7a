/- Lemmas: Pairs sorted by their keys: Collect, SortFunc, SortedFunc. Pairs sorted anew: SortedFunc; sorted. -/
import Derived.Test.YtbmapdkcccdmfaaDoorM1
import Derived.Test.YtbmapdkcccdmfaaDoorM10
import Derived.Test.YtbmapdkcccdmfaaDoorM11
import Derived.Test.YtbmapdkcccdmfaaDoorM12
import Derived.Test.YtbmapdkcccdmfaaDoorM13
import Derived.Test.YtbmapdkcccdmfaaDoorM14
import Derived.Test.YtbmapdkcccdmfaaDoorM15
import Derived.Test.YtbmapdkcccdmfaaDoorM2
import Derived.Test.YtbmapdkcccdmfaaDoorM20
import Derived.Test.YtbmapdkcccdmfaaDoorM3
import Derived.Test.YtbmapdkcccdmfaaDoorM32
import Derived.Test.YtbmapdkcccdmfaaDoorM33
import Derived.Test.YtbmapdkcccdmfaaDoorM6
import Derived.Test.YtbmapdkcccdmfaaDoorM7
import Derived.Test.YtbmapdkcccdmfaaDoorM8
import Derived.Test.YtbmapdkcccdmfaaDoorM9
import Derived.Test.YtbmapdkcccdmfaaDoorRows
import Derived.Ground.SlsfProg
import Derived.Lib.Bytealg
import Derived.Shelf.Lay
import Derived.Shelf.LaySoft
import Derived.Shelf.SlSortCmp.WholeK
namespace Go.Proofs.YtbmapdkcccdmfaaDoor
open Go.RowKit Go.Shelf Go.Sort

abbrev Pr := ByteArray × ByteArray


end Go.Proofs.YtbmapdkcccdmfaaDoor
namespace Go.Proofs.YtbmapdkcccdmfaaDoor
open Go.RowKit Go.Shelf Go.Sort

def SortedP (es : List Pr) : Prop := ∀ (i j : Nat) (x y : Pr), i < j → es[i]? = some x → es[j]? = some y → ltStr y.1.data.toList x.1.data.toList = false

theorem right_pair (es : List Pr) : RightP es ↔ es.length ≤ 200 ∧ (∀ e, e ∈ es → pOk e = true) ∧ es.Pairwise (fun a b => a.1 ≠ b.1) := by
 constructor
 ·rintro ⟨h1, h2, h3⟩
  refine ⟨h1, fun e he => ?_, ?_⟩
  ·obtain ⟨j, hj⟩ := List.mem_iff_getElem?.1 he
   exact h2 j e hj
  ·rw [List.pairwise_iff_getElem]
   intro i j hi hj hij
   exact h3 i j _ _ hij (List.getElem?_eq_getElem hi) (List.getElem?_eq_getElem hj)
 ·rintro ⟨h1, h2, h3⟩
  refine ⟨h1, fun j e he => h2 e (List.mem_of_getElem? he), fun i j e f hij he hf => ?_⟩
  rw [List.pairwise_iff_getElem] at h3
  obtain ⟨hi, rfl⟩ := List.getElem?_eq_some_iff.1 he
  obtain ⟨hj, rfl⟩ := List.getElem?_eq_some_iff.1 hf
  exact h3 i j hi hj hij
theorem right_perm {es es' : List Pr} (h : es'.Perm es) : RightP es' ↔ RightP es := by
 rw [right_pair, right_pair, h.length_eq, h.pairwise_iff (fun {a b} hab => Ne.symm hab)]
 constructor
 ·rintro ⟨h1, h2, h3⟩
  exact ⟨h1, fun e he => h2 e (h.mem_iff.2 he), h3⟩
 ·rintro ⟨h1, h2, h3⟩
  exact ⟨h1, fun e he => h2 e (h.mem_iff.1 he), h3⟩
theorem tri_ltStr : ∀ a b : List UInt8, ltStr a b = false → ltStr b a = false → a = b
 | [], [], _, _ => rfl
 | [], b :: br, h, _ => by simp [ltStr] at h
 | a :: ar, [], _, h => by simp [ltStr] at h
 | a :: ar, b :: br, h1, h2 => by
  unfold ltStr at h1 h2
  have h1' := of_decide_eq_false h1
  have h2' := of_decide_eq_false h2
  rw [List.cons_lt_cons_iff] at h1' h2'
  have hab : a = b := by
   have hlt1 : ¬ a < b := fun h => h1' (.inl h)
   have hlt2 : ¬ b < a := fun h => h2' (.inl h)
   have : a.toNat = b.toNat := by
    rw [UInt8.lt_iff_toNat_lt] at hlt1 hlt2
    omega
   exact UInt8.toNat_inj.1 this
  subst hab
  rw [tri_ltStr ar br (decide_eq_false fun h => h1' (.inr ⟨rfl, h⟩)) (decide_eq_false fun h => h2' (.inr ⟨rfl, h⟩))]
theorem bytes_inj2 {a b : ByteArray} (h : a.data.toList = b.data.toList) : a = b := by
 have h2 : a.data = b.data := Array.toList_inj.1 h
 cases a
 cases b
 cases h2
 rfl


end Go.Proofs.YtbmapdkcccdmfaaDoor
