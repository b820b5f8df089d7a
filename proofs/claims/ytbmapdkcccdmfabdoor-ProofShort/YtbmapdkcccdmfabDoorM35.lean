/- Lemmas: Pairs sorted by their keys: Collect, SortFunc, SortedFunc. Pairs sorted anew: SortedFunc; sorted. -/
import Derived.Test.YtbmapdkcccdmfabDoorM1
import Derived.Test.YtbmapdkcccdmfabDoorM10
import Derived.Test.YtbmapdkcccdmfabDoorM11
import Derived.Test.YtbmapdkcccdmfabDoorM12
import Derived.Test.YtbmapdkcccdmfabDoorM13
import Derived.Test.YtbmapdkcccdmfabDoorM14
import Derived.Test.YtbmapdkcccdmfabDoorM15
import Derived.Test.YtbmapdkcccdmfabDoorM2
import Derived.Test.YtbmapdkcccdmfabDoorM20
import Derived.Test.YtbmapdkcccdmfabDoorM3
import Derived.Test.YtbmapdkcccdmfabDoorM33
import Derived.Test.YtbmapdkcccdmfabDoorM34
import Derived.Test.YtbmapdkcccdmfabDoorM6
import Derived.Test.YtbmapdkcccdmfabDoorM7
import Derived.Test.YtbmapdkcccdmfabDoorM8
import Derived.Test.YtbmapdkcccdmfabDoorM9
import Derived.Test.YtbmapdkcccdmfabDoorRows
import Derived.Ground.SlsfProg
import Derived.Lib.Bytealg
import Derived.Shelf.Lay
import Derived.Shelf.LaySoft
import Derived.Shelf.SlSortCmp.WholeK
namespace Go.Proofs.YtbmapdkcccdmfabDoor
open Go.RowKit Go.Shelf Go.Sort

theorem cmp_lt : ∀ a b : List UInt8, decide (Lib.compareBytes a b < 0) = ltStr a b
  | [], [] => by simp [Lib.compareBytes, ltStr]
  | [], _ :: _ => by simp [Lib.compareBytes, ltStr]
  | _ :: _, [] => by simp [Lib.compareBytes, ltStr]
  | a :: ar, b :: br => by
    have ih := cmp_lt ar br
    unfold ltStr at ih ⊢
    unfold Lib.compareBytes
    by_cases h1 : a < b
    · rw [if_pos h1, decide_eq_true (show (-1 : Int) < 0 by decide), decide_eq_true (List.cons_lt_cons_iff.2 (.inl h1))]
    · rw [if_neg h1]
      by_cases h2 : b < a
      · rw [if_pos h2, decide_eq_false (show ¬ (1 : Int) < 0 by decide), decide_eq_false]
        intro h
        rcases List.cons_lt_cons_iff.1 h with h | ⟨h, _⟩
        · exact h1 h
        · subst h
          exact h1 h2
      · rw [if_neg h2, ih]
        have hab : a = b := by
          have : a.toNat = b.toNat := by
            rw [UInt8.lt_iff_toNat_lt] at h1 h2
            omega
          exact UInt8.toNat_inj.1 this
        subst hab
        congr 1
        apply propext
        constructor
        · intro h
          exact List.cons_lt_cons_iff.2 (.inr ⟨rfl, h⟩)
        · intro h
          rcases List.cons_lt_cons_iff.1 h with h | ⟨_, h⟩
          · exact absurd h h1
          · exact h
abbrev Pr := ByteArray × ByteArray
def kcf (x y : Pr) : Int := Lib.compareBytes x.1.data.toList y.1.data.toList
theorem kcf_lt (x y : Pr) : ltOf kcf x y = ltStr x.1.data.toList y.1.data.toList := cmp_lt _ _
theorem kcf_swo : SWO (ltOf kcf) where
  irrefl x := by rw [kcf_lt]; exact swo_ltStr.irrefl _
  trans x y z h1 h2 := by rw [kcf_lt] at *; exact swo_ltStr.trans _ _ _ h1 h2
  ntrans x y z h1 h2 := by rw [kcf_lt] at *; exact swo_ltStr.ntrans _ _ _ h1 h2
def pE2 (e : Pr) : List Value := [.string e.1, .string e.2]

theorem holds_prs {W : World} {g : Nat} {es : List Pr} (hp : prs W g 0 es) (hf : ∀ k, W.frozen? ⟨g, k, none⟩ = false) : HoldsK pE2 2 W g 0 es.toArray := by
  intro j hj
  rw [size_flatK, List.size_toArray] at hj
  refine ⟨?_, hf _⟩
  rw [get_flatK _ _ _ _ (by rw [List.size_toArray]; exact hj)]
  obtain ⟨e, he⟩ : ∃ e, es[j / 2]? = some e := ⟨es[j / 2]'(by omega), List.getElem?_eq_getElem (by omega)⟩
  have he2 : es.toArray[j / 2]! = e := by
    rw [getElem!_pos _ _ (by rw [List.size_toArray]; omega)]
    have := (List.getElem?_eq_some_iff.1 he).2
    simpa using this
  rw [he2]
  obtain ⟨h1, h2⟩ := hp (j / 2) e he
  have hmod : j % 2 = 0 ∨ j % 2 = 1 := by omega
  rcases hmod with hm | hm
  · rw [hm, show 0 + j = 0 + 2 * (j / 2) by omega]
    exact h1
  · rw [hm, show 0 + j = 0 + 2 * (j / 2) + 1 by omega]
    exact h2
theorem prs_holds {W : World} {g : Nat} {d : Array Pr} (h : HoldsK pE2 2 W g 0 d) : prs W g 0 d.toList := by
  intro j e he
  rw [Array.getElem?_toList] at he
  have hj := (Array.getElem?_eq_some_iff.1 he).1
  have he2 : d[j]! = e := by
    rw [getElem!_pos d j hj]
    exact (Array.getElem?_eq_some_iff.1 he).2
  have h0 : W.cell? ⟨g, 0 + 2 * j, none⟩ = some ((flatK pE2 2 d)[2 * j]!) := (h (2 * j) (by rw [size_flatK]; omega)).1
  have h1 : W.cell? ⟨g, 0 + (2 * j + 1), none⟩ = some ((flatK pE2 2 d)[2 * j + 1]!) := (h (2 * j + 1) (by rw [size_flatK]; omega)).1
  rw [get_flatK _ _ _ _ (by omega), show 2 * j / 2 = j by omega, show 2 * j % 2 = 0 by omega, he2] at h0
  rw [get_flatK _ _ _ _ (by omega), show (2 * j + 1) / 2 = j by omega, show (2 * j + 1) % 2 = 1 by omega, he2] at h1
  refine ⟨h0, ?_⟩
  rw [show 0 + 2 * j + 1 = 0 + (2 * j + 1) by omega]
  exact h1
theorem sort_below (w : World) (blk off m : Nat) (d : Array Pr) (os : Array Obj) (B : Nat) (hB : B ≤ blk) (hb : blk < w.heap.size) : Below B w (sortWorldK pE2 2 w blk off m d os) := by
  refine ⟨rfl, rfl, rfl, ?_, fun k hk => ?_⟩
  · show w.heap.size ≤ (grow (putRow id (Sort.ahead w m) blk off (flatK pE2 2 d)) os).heap.size
    rw [size_grow, size_putRow]
    exact Nat.le_add_right _ _
  · show (grow (putRow id (Sort.ahead w m) blk off (flatK pE2 2 d)) os).heap[k]? = _
    rw [heap_grow_old _ _ (by rw [size_putRow]; show k < w.heap.size; omega)]
    show (mapBlock (Sort.ahead w m) blk _).heap[k]? = _
    unfold mapBlock
    have hne : blk ≠ k := by omega
    simp [Array.getElem?_modify, hne]
theorem sort_size (w : World) (blk off m : Nat) (d : Array Pr) (os : Array Obj) : w.heap.size ≤ (sortWorldK pE2 2 w blk off m d os).heap.size := by
  show w.heap.size ≤ (grow (putRow id (Sort.ahead w m) blk off (flatK pE2 2 d)) os).heap.size
  rw [size_grow, size_putRow]
  exact Nat.le_add_right _ _

end Go.Proofs.YtbmapdkcccdmfabDoor
namespace Go.Proofs.YtbmapdkcccdmfabDoor
open Go.RowKit Go.Shelf Go.Sort

/-- Sorted by their keys. -/
def SortedP (es : List Pr) : Prop := ∀ (i j : Nat) (x y : Pr), i < j → es[i]? = some x → es[j]? = some y → ltStr y.1.data.toList x.1.data.toList = false

theorem right_pair (es : List Pr) : RightP es ↔ es.length ≤ 200 ∧ (∀ e, e ∈ es → pOk e = true) ∧ es.Pairwise (fun a b => a.1 ≠ b.1) := by
  constructor
  · rintro ⟨h1, h2, h3⟩
    refine ⟨h1, fun e he => ?_, ?_⟩
    · obtain ⟨j, hj⟩ := List.mem_iff_getElem?.1 he
      exact h2 j e hj
    · rw [List.pairwise_iff_getElem]
      intro i j hi hj hij
      exact h3 i j _ _ hij (List.getElem?_eq_getElem hi) (List.getElem?_eq_getElem hj)
  · rintro ⟨h1, h2, h3⟩
    refine ⟨h1, fun j e he => h2 e (List.mem_of_getElem? he), fun i j e f hij he hf => ?_⟩
    rw [List.pairwise_iff_getElem] at h3
    obtain ⟨hi, rfl⟩ := List.getElem?_eq_some_iff.1 he
    obtain ⟨hj, rfl⟩ := List.getElem?_eq_some_iff.1 hf
    exact h3 i j hi hj hij
theorem right_perm {es es' : List Pr} (h : es'.Perm es) : RightP es' ↔ RightP es := by
  rw [right_pair, right_pair, h.length_eq, h.pairwise_iff (fun {a b} hab => Ne.symm hab)]
  constructor
  · rintro ⟨h1, h2, h3⟩
    exact ⟨h1, fun e he => h2 e (h.mem_iff.2 he), h3⟩
  · rintro ⟨h1, h2, h3⟩
    exact ⟨h1, fun e he => h2 e (h.mem_iff.1 he), h3⟩
theorem tri_ltStr : ∀ a b : List UInt8, ltStr a b = false → ltStr b a = false → a = b
  | [], [], _, _ => rfl
  | [], b :: br, h, _ => by simp [ltStr] at h
  | a :: ar, [], _, h => by simp [ltStr] at h
  | a :: ar, b :: br, h1, h2 => by
    unfold ltStr at h1 h2
    have h1' := of_decide_eq_false h1
    have h2' := of_decide_eq_false h2
    rw [List.cons_lt_cons_iff] at h1' h2'
    have hab : a = b := by
      have hlt1 : ¬ a < b := fun h => h1' (.inl h)
      have hlt2 : ¬ b < a := fun h => h2' (.inl h)
      have : a.toNat = b.toNat := by
        rw [UInt8.lt_iff_toNat_lt] at hlt1 hlt2
        omega
      exact UInt8.toNat_inj.1 this
    subst hab
    rw [tri_ltStr ar br (decide_eq_false fun h => h1' (.inr ⟨rfl, h⟩)) (decide_eq_false fun h => h2' (.inr ⟨rfl, h⟩))]
theorem bytes_inj2 {a b : ByteArray} (h : a.data.toList = b.data.toList) : a = b := by
  have h2 : a.data = b.data := Array.toList_inj.1 h
  cases a
  cases b
  cases h2
  rfl
/-- Sorted, and none like the next one: all unlike. -/
theorem sorted_apart {es : List Pr} (hs : SortedP es) (m : Nat) (hadj : ∀ (i : Nat) (x y : Pr), i + 1 < m → es[i]? = some x → es[i + 1]? = some y → x.1 ≠ y.1) (i j : Nat) (x y : Pr) (hij : i < j) (hj : j < m) (hx : es[i]? = some x) (hy : es[j]? = some y) : x.1 ≠ y.1 := by
  intro e
  have hjl := (List.getElem?_eq_some_iff.1 hy).1
  obtain ⟨z, hz⟩ : ∃ z, es[i + 1]? = some z := ⟨es[i + 1]'(by omega), List.getElem?_eq_getElem (by omega)⟩
  have hne := hadj i x z (by omega) hx hz
  have h1 := hs i (i + 1) x z (by omega) hx hz
  have h2 : ltStr x.1.data.toList z.1.data.toList = true := by
    cases h : ltStr x.1.data.toList z.1.data.toList with
    | true => rfl
    | false => exact absurd (bytes_inj2 (tri_ltStr _ _ h h1)) hne
  by_cases hj2 : j = i + 1
  · subst hj2
    rw [hz] at hy
    cases hy
    exact hne e
  · have h3 := hs (i + 1) j z y (by omega) hz hy
    rw [← e, h2] at h3
    cases h3

/-- What sorted answers. -/
def SrP (es : List Pr) (r : Ending) (w' : World) : Prop := (¬ RightP es ∧ r = .returned (.tuple #[.slice none 0 0, .bool false])) ∨
  (RightP es ∧ ∃ (es' : List Pr) (a' : Option Addr) (c' : Nat), r = .returned (.tuple #[.slice a' es'.length c', .bool true]) ∧ es'.Perm es ∧ SortedP es' ∧ slP w'.heap.size w' a' es')

end Go.Proofs.YtbmapdkcccdmfabDoor
