/- Lemmas: The items whose bytes stand one behind the other: itemsOf. Bytes read: Decode. Numbers as bytes, and back. What bytes from a place on begin with, told by places. Where an item begins and ends: the reference's measure. How deep an item is: the reference's Deep. What the reference's take answers, by places, and that it is what the parts of bytes are. Items and their bytes, apart from all memory: what stands for an item is read as it was, and what is read is written so again. Which items are alike: the reference's Same. RlpDecodes' walk: which item bytes are, or that they are none. -/
import Derived.Test.YtbpcciifaekffaaGreatDoorM1
import Derived.Test.YtbpcciifaekffaaGreatDoorM10
import Derived.Test.YtbpcciifaekffaaGreatDoorM11
import Derived.Test.YtbpcciifaekffaaGreatDoorM12
import Derived.Test.YtbpcciifaekffaaGreatDoorM13
import Derived.Test.YtbpcciifaekffaaGreatDoorM14
import Derived.Test.YtbpcciifaekffaaGreatDoorM15
import Derived.Test.YtbpcciifaekffaaGreatDoorM16
import Derived.Test.YtbpcciifaekffaaGreatDoorM2
import Derived.Test.YtbpcciifaekffaaGreatDoorM3
import Derived.Test.YtbpcciifaekffaaGreatDoorM6
import Derived.Test.YtbpcciifaekffaaGreatDoorM8
import Derived.Test.YtbpcciifaekffaaGreatDoorM9
import Derived.Test.YtbpcciifaekffaaGreatDoorRows
namespace Go.Proofs.YtbpcciifaekffaaGreatDoor
open Go.RowKit Go.Shelf Go.Sort
attribute [local go_sem] Oper.semAt_some

def comb (g : Nat × ByteArray → Option It) : List (Nat × ByteArray) → Option (List It)
  | [] => some []
  | e :: r => match g e, comb g r with
    | some x, some l => some (x :: l)
    | _, _ => none
theorem comb_some {g : Nat × ByteArray → Option It} : ∀ (l : List (Nat × ByteArray)) (its : List It), l.map g = its.map some → comb g l = some its
  | [], [], _ => rfl
  | [], _ :: _, h => by cases h
  | _ :: _, [], h => by cases h
  | e :: r, x :: l, h => by
    injection h with h1 h2
    show (match g e, comb g r with | some x, some l => some (x :: l) | _, _ => none) = _
    rw [h1, comb_some r l h2]
theorem comb_none {g : Nat × ByteArray → Option It} : ∀ (l : List (Nat × ByteArray)) (e : Nat × ByteArray), e ∈ l → g e = none → comb g l = none
  | a :: r, e, h, hn => by
    show (match g a, comb g r with | some x, some l => some (x :: l) | _, _ => none) = _
    rcases List.mem_cons.1 h with rfl | h
    · rw [hn]
    · rw [comb_none r e h hn]
      cases g a <;> rfl
/-- The items that bytes are, read no deeper than so often. -/
def decF : Nat → ByteArray → Option (List It)
  | 0, _ => some []
  | f + 1, s => comb (fun e => if e.1 = 1 then some (.mk false e.2 []) else if e.1 = 2 then (decF f e.2).map (It.mk true ⟨#[]⟩) else none) (ps s)
def one (f : Nat) (e : Nat × ByteArray) : Option It := if e.1 = 1 then some (.mk false e.2 []) else if e.1 = 2 then (decF f e.2).map (It.mk true ⟨#[]⟩) else none

/-- A block of cells. -/
def isC (W : World) (b : Nat) : Prop := ∃ c e fz, W.heap[b]? = some (.cells c e fz)
theorem isC_of {W : World} {b k : Nat} {v : Value} (h : W.cell? ⟨b, k, none⟩ = some v) : isC W b := by
  unfold World.cell? at h
  dsimp only at h
  split at h
  · rename_i c e fz hb
    exact ⟨c, e, fz, hb⟩
  · cases h
mutual
theorem inP_cells {p : Nat → Prop} {W : World} : ∀ x, inP p W x → inP (fun b => p b ∧ isC W b) W x
  | .mk _ _ a _ xs, h => rowP_cells a 0 xs h
theorem rowP_cells {p : Nat → Prop} {W : World} (a : Option Addr) : ∀ i xs, rowP p W a i xs → rowP (fun b => p b ∧ isC W b) W a i xs
  | _, [], _ => trivial
  | i, x :: r, ⟨⟨b, o, h0, h1, h2, h3, h4⟩, h5, h6⟩ => ⟨⟨b, o, ⟨h0, isC_of h2⟩, h1, h2, h3, h4⟩, inP_cells x h5, rowP_cells a (i + 1) r h6⟩
end
theorem Held.app {cl : List Value} {ys : List Im} (h : Held cl ys) (X : Im) (hl : cl.length = ys.length * 3) : Held (cl ++ cell3 X) (ys ++ [X]) := by
  intro j x hx
  by_cases hj : j < ys.length
  · rw [List.getElem?_append_left hj] at hx
    obtain ⟨h0, h1, h2⟩ := h j x hx
    rw [List.getElem?_append_left (by omega), List.getElem?_append_left (by omega), List.getElem?_append_left (by omega)]
    exact ⟨h0, h1, h2⟩
  · have hj2 : j = ys.length := by
      have := (List.getElem?_eq_some_iff.1 hx).1
      simp at this
      omega
    subst hj2
    simp at hx
    subst hx
    rw [List.getElem?_append_right (by omega), List.getElem?_append_right (by omega), List.getElem?_append_right (by omega), show 3 * ys.length - cl.length = 0 by omega, show 3 * ys.length + 1 - cl.length = 1 by omega, show 3 * ys.length + 2 - cl.length = 2 by omega]
    exact ⟨rfl, rfl, rfl⟩
theorem rowP_owned {W : World} {zz c : Nat} {ao : Option Addr} {cl : List Value} {ys : List Im} {p q : Nat → Prop} (hown : W.ownsRow zz 47 3 (.slice ao ys.length c) ys.length cl) (hheld : Held cl ys) (hin : ∀ y, y ∈ ys → inP p W y) (hpq : ∀ b, p b → q b) (hq : ∀ g, ao = some ⟨g, 0, none⟩ → q g) : rowP q W ao 0 ys := by
  rcases hown.2 with ⟨h, h0⟩ | ⟨g, cap, cur, h, _, hg, _⟩
  · have : ys = [] := List.length_eq_zero_iff.1 h0
    subst this
    exact trivial
  · injection h with h1 h2 h3
    subst h1 h3
    have key : ∀ (r : List Im) (i : Nat), ys.drop i = r → rowP q W (some ⟨g, 0, none⟩) i r := by
      intro r
      induction r with
      | nil => intro i _; trivial
      | cons y r ih =>
        intro i hi
        have hyi : ys[i]? = some y := by
          have := congrArg (·[0]?) hi
          simpa using this
        have hil := (List.getElem?_eq_some_iff.1 hyi).1
        obtain ⟨e0, e1, e2⟩ := hheld i y hyi
        refine ⟨⟨g, 0, hq g rfl, rfl, ?_, ?_, ?_⟩, ?_, ih (i + 1) ?_⟩
        · rw [show 0 + 3 * i = 3 * i by omega, hown.cellAt _ (by omega)]; exact e0
        · rw [show 0 + 3 * i + 1 = 3 * i + 1 by omega, hown.cellAt _ (by omega)]; exact e1
        · rw [show 0 + 3 * i + 2 = 3 * i + 2 by omega, hown.cellAt _ (by omega)]; exact e2
        · exact inP_of (fun b hb => ⟨hpq b hb, fun _ => rfl⟩) y (hin y (List.mem_of_getElem? hyi))
        · rw [← List.drop_drop, hi]
          rfl
    exact key ys 0 rfl
theorem Rl.keeps {W W' : World} {v u : Value} {bI zz n : Nat} {cl : List Value} (h : Rl W W' v bI) (hB : Bx bI 45 u W) (hown : W.ownsRow zz 47 3 v n cl) (B : Nat) : KeepsFrom B W W' :=
  ⟨h.size, fun k o _ hk ho => (h.block k (Array.getElem?_eq_some_iff.1 hk).1 (fun e => by
    obtain ⟨c, hc⟩ := owns_kind3 hown k e.symm
    rw [hk] at hc
    cases hc
    cases ho) (fun e => by
    rw [e, show W.heap[bI]? = _ from hB] at hk
    cases hk
    cases ho)).trans hk⟩
theorem Rl.below {W W' : World} {v : Value} {bI zz n B : Nat} {cl : List Value} (h : Rl W W' v bI) (hown : W.ownsRow zz 47 3 v n cl) (hz : B ≤ zz) (hb : B ≤ bI) (hB : B ≤ W.heap.size) : Below B W W' :=
  ⟨h.os, h.tape, h.output, h.size, fun k hk => h.block k (by omega) (fun e => by have := (hown.lt k e.symm).1; omega) (by omega)⟩
/-- The state of a round: the items so far, and that all is well. -/
def DSt {s : ByteArray} (f z bO : Nat) (w : World) (pre : List (Pe s)) (W : World) : Prop :=
  ∃ v cl ys, Bx z 45 v W ∧ Bx bO 4 (.bool true) W ∧ W.ownsRow z 47 3 v ys.length cl ∧ Held cl ys ∧ (pre.map (·.1)).map (one f) = (ers ys).map some ∧ (∀ y, y ∈ ys → inP (fun b => bO < b ∧ b < W.heap.size ∧ some b ≠ v.ownBlock) W y) ∧ Below z w W
theorem owns_own3 {A C : World} {b n : Nat} {v : Value} {xs : List Value} {row : Option Nat} (h : A.ownsRow b 47 3 v n xs) (hg : A.grownBy C row) (hr : ∀ r, row = some r → ∃ o : Obj, A.heap[r]? = some o ∧ o.isCells = false) : C.ownsRow b 47 3 v n xs := by
  refine h.kept hg ?_
  cases e' : v.ownBlock with
  | none => exact .inl rfl
  | some k =>
    obtain ⟨c, hk⟩ := owns_kind3 h k e'
    refine .inr fun e2 => ?_
    obtain ⟨o, ho, hc⟩ := hr k e2.symm
    rw [hk] at ho
    cases ho
    cases hc
theorem DSt.own {s : ByteArray} {f z bO : Nat} {w A C : World} {pre : List (Pe s)} {row : Option Nat} (h : DSt f z bO w pre A) (hg : A.grownBy C row) (hr : ∀ r, row = some r → z ≤ r ∧ ∃ o : Obj, A.heap[r]? = some o ∧ o.isCells = false) : DSt f z bO w pre C := by
  obtain ⟨v, cl, ys, h1, h2, h3, h4, h5, h6, h7⟩ := h
  have hl := h1.lt
  refine ⟨v, cl, ys, h1.own hg (fun r e => (hr r e).2), h2.own hg (fun r e => (hr r e).2), owns_own3 h3 hg (fun r e => (hr r e).2), h4, h5, fun y hy => ?_, h7.grown hg (by omega) (fun k e => (hr k e).1)⟩
  refine inP_of (fun b hb => ?_) y (inP_cells y (h6 y hy))
  obtain ⟨⟨b1, b2, b3⟩, c, e, fz, hb⟩ := hb
  have := hg.size
  refine ⟨⟨b1, by omega, b3⟩, fun k => World.cell?_of_block (w := A) (hg.block b b2 (fun e2 => ?_))⟩
  obtain ⟨_, o, ho, hc⟩ := hr b e2.symm
  rw [hb] at ho
  cases ho
  cases hc

theorem bx_same {W : World} {b : Nat} {T : TypeId} {u : Value} (h : Bx b T u W) (k : Nat) : (W.setCell ⟨b, 0, none⟩ u).heap[k]? = W.heap[k]? := by
  by_cases e : k = b
  · subst e
    exact (show (W.setCell ⟨k, 0, none⟩ u).heap[k]? = _ from h.put u).trans (show W.heap[k]? = _ from h).symm
  · exact Below.heap_setCell _ _ _ _ e
theorem below_same {B : Nat} {A W : World} {b : Nat} {T : TypeId} {u : Value} (hA : Below B A W) (h : Bx b T u W) : Below B A (W.setCell ⟨b, 0, none⟩ u) :=
  ⟨hA.os, hA.tape, hA.output, by have := hA.size; simp [World.setCell]; omega, fun k hk => (bx_same h k).trans (hA.block k hk)⟩
theorem dst_snoc {s : ByteArray} {f z bO : Nat} {w W W7 Wf : World} {pre : List (Pe s)} {x : Pe s} {v : Value} {cl : List Value} {ys : List Im} {X : Im} {g c : Nat} (hzO : z < bO)
    (hOd : Bx bO 4 (.bool true) W) (hownd : W.ownsRow z 47 3 v ys.length cl) (hheld : Held cl ys) (hone : (pre.map (·.1)).map (one f) = (ers ys).map some) (hin : ∀ y, y ∈ ys → inP (fun b => bO < b ∧ b < W.heap.size ∧ some b ≠ v.ownBlock) W y) (BWd : Below z w W)
    (hb : Below W.heap.size W W7) (hX : inP (fun b => W.heap.size ≤ b ∧ b < W7.heap.size) W7 X) (hx : one f x.1 = some (er X))
    (h1 : Bx z 45 (.slice (some ⟨g, 0, none⟩) (ys.length + 1) c) Wf) (h2 : Wf.ownsRow z 47 3 (.slice (some ⟨g, 0, none⟩) (ys.length + 1) c) (ys.length + 1) (cl ++ cell3 X)) (h3 : some g = v.ownBlock ∨ W7.heap.size ≤ g) (h4 : Rl W7 Wf v z) : DSt f z bO w (pre ++ [x]) Wf := by
  have hOw := hOd.lt
  have hs7 := hb.size
  have hs8 := h4.size
  have hvl : ∀ k, some k = v.ownBlock → k < W.heap.size := fun k e => (hownd.lt k e.symm).2
  have hOv : some bO ≠ v.ownBlock := fun e => by
    obtain ⟨c', hk⟩ := owns_kind3 hownd bO e.symm
    rw [show W.heap[bO]? = _ from hOd] at hk
    cases hk
  refine ⟨_, _, ys ++ [X], h1, ?_, ?_, hheld.app X (by rw [hownd.1]), ?_, ?_, ?_⟩
  · exact (h4.block bO (by omega) hOv (by omega)).trans ((hb.block bO hOw).trans hOd)
  · rw [List.length_append]
    exact h2
  · rw [List.map_append, List.map_append, hone, ers_map, ers_map, List.map_append, List.map_append]
    show _ ++ [one f x.1] = _ ++ [some (er X)]
    rw [hx]
  · intro y hy
    rcases List.mem_append.1 hy with h | h
    · refine inP_of ?_ y (hin y h)
      intro b hb'
      obtain ⟨c1, c2, c3⟩ := hb'
      refine ⟨⟨c1, by omega, ?_⟩, ?_⟩
      · intro e
        injection e with e
        have e' : b = g := e
        rcases h3 with h3 | h3
        · exact c3 (by rw [e']; exact h3)
        · omega
      · intro k
        exact (World.cell?_of_block (w := W7) (a := ⟨b, k, none⟩) (h4.block b (by omega) c3 (by omega))).trans (hb.cell (p := ⟨b, k, none⟩) c2)
    · simp at h
      subst h
      refine inP_of ?_ y hX
      intro b hb'
      obtain ⟨c1, c2⟩ := hb'
      refine ⟨⟨by omega, by omega, ?_⟩, ?_⟩
      · intro e
        injection e with e
        have e' : b = g := e
        rcases h3 with h3 | h3
        · have := hvl g h3
          omega
        · omega
      · intro k
        exact World.cell?_of_block (w := W7) (a := ⟨b, k, none⟩) (h4.block b c2 (fun e => by have := hvl b e; omega) (by omega))
  · exact BWd.trans ((hb.mono (by omega)).trans (h4.below (n := ys.length) (cl := cl) (owns_below hownd hb) (Nat.le_refl _) (Nat.le_refl _) (by omega)))
theorem ItIn.set1 {b : Nat} {l : Bool} {t t' : ByteArray} {a : Option Addr} {c : Nat} {xs : List Im} {W : World} (h : ItIn b (.mk l t a c xs) W) : ItIn b (.mk l t' a c xs) (W.setCell ⟨b, 1, none⟩ (.string t')) := heap_setCell_same W b 1 _ _ _ h
theorem ItIn.set0 {b : Nat} {l l' : Bool} {t : ByteArray} {a : Option Addr} {c : Nat} {xs : List Im} {W : World} (h : ItIn b (.mk l t a c xs) W) : ItIn b (.mk l' t a c xs) (W.setCell ⟨b, 0, none⟩ (.bool l')) := heap_setCell_same W b 0 _ _ _ h
theorem ItIn.set2 {b : Nat} {l : Bool} {t : ByteArray} {a a' : Option Addr} {c c' : Nat} {xs xs' : List Im} {W : World} (h : ItIn b (.mk l t a c xs) W) : ItIn b (.mk l t a' c' xs') (W.setCell ⟨b, 2, none⟩ (.slice a' xs'.length c')) := heap_setCell_same W b 2 _ _ _ h
def DStop {s : ByteArray} (f z bO : Nat) (w : World) (c : Code) (pre : List (Pe s)) (W : World) : Prop := c = Code.exit 0 ∧ Bx bO 4 (.bool false) W ∧ Below z w W ∧ ∃ e, e ∈ pre.map (·.1) ∧ one f e = none

end Go.Proofs.YtbpcciifaekffaaGreatDoor
namespace Go.Proofs.YtbpcciifaekffaaGreatDoor
open Go.RowKit Go.Shelf Go.Sort

theorem ps_mem : ∀ (N : Nat) (s : ByteArray), s.size ≤ N → ∀ e, e ∈ ps s → e.2.size ≤ s.size ∧ (e.1 = 2 → e.2.size < s.size)
  | N, s, h, e, he => by
    rw [ps_eq] at he
    split at he
    · cases he
    · split at he
      · simp at he
        subst he
        exact ⟨Nat.zero_le _, fun h => by cases h⟩
      · rename_i h0 h1
        have h2 := cutK_lt s (by omega) h1
        rcases List.mem_cons.1 he with he | he
        · obtain ⟨q1, q2, q3⟩ := h2
          generalize (cutK s).1 = a1 at *
          generalize (cutK s).2.1 = a2 at *
          subst he
          exact ⟨q1, q2⟩
        · match N, h with
          | 0, h => omega
          | N + 1, h =>
            have := ps_mem N (cutK s).2.2 (by omega) e he
            exact ⟨by omega, fun h => by have := this.2 h; omega⟩

def zeroI : Im := .mk false ⟨#[]⟩ none 0 []
/-- What Decode answers. -/
def DecR (s : ByteArray) (x : Im) (e : Int) : Prop :=
  (65536 < s.size ∧ e = 42 ∧ x = zeroI) ∨ (s.size ≤ 65536 ∧ (∀ y, decF 65537 s ≠ some [y]) ∧ e = 40 ∧ x = zeroI) ∨
    (s.size ≤ 65536 ∧ ∃ y : Im, decF 65537 s = some [er y] ∧ ((deep y = true ∧ e = 41 ∧ x = zeroI) ∨ (deep y = false ∧ e = 0 ∧ x = y)))

end Go.Proofs.YtbpcciifaekffaaGreatDoor
namespace Go.Proofs.YtbpcciifaekffaaGreatDoor
open Go.RowKit Go.Shelf Go.Sort

theorem num_size (n : Nat) : (numOf n).size = blen n := by8_size _ _
theorem num_at (n j : Nat) (h : j < blen n) : bt (numOf n) j = nAt n (blen n) j := bt_by8 _ _ (nAt_bd n _) j h
theorem num_8 (n : Nat) (hn : n < 18446744073709551616) : blen n ≤ 8 := blen_le n 8 hn
theorem blen_zero (n : Nat) : blen n = 0 ↔ n = 0 := by
  constructor
  · intro h
    by_cases h0 : n = 0
    · exact h0
    · rw [blen_pos n h0] at h
      cases h
  · intro h
    rw [h, blen_0]
theorem num_first (n : Nat) (h : 0 < blen n) : bt (numOf n) 0 ≠ 0 := by
  rw [num_at n 0 h]
  unfold nAt
  rw [Nat.sub_zero]
  have h1 := (div_pos n (blen n - 1)).2 (by omega)
  have h2 : ¬ 0 < n / 256 ^ blen n := fun h2 => by have := (div_pos n (blen n)).1 h2; omega
  have h3 : n / 256 ^ (blen n - 1) / 256 = n / 256 ^ blen n := by
    rw [Nat.div_div_eq_div_mul, ← Nat.pow_succ, show (blen n - 1).succ = blen n by omega]
  obtain ⟨q, hq⟩ : ∃ q, n / 256 ^ (blen n - 1) = q := ⟨_, rfl⟩
  rw [hq] at h1 h3 ⊢
  omega
theorem num_good (n : Nat) (hn : n < 18446744073709551616) : vGood (numOf n) = true := by
  unfold vGood
  rw [num_size, decide_eq_true (num_8 n hn), Bool.true_and]
  by_cases h : blen n = 0
  · rw [decide_eq_true h]; rfl
  · rw [decide_eq_true (num_first n (by omega)), Bool.or_true]
theorem num_val (n : Nat) : ∀ k, k ≤ blen n → val (numOf n) k = n / 256 ^ (blen n - k)
  | 0, _ => by
    show 0 = _
    have h2 : ¬ 0 < n / 256 ^ blen n := fun h2 => by have := (div_pos n (blen n)).1 h2; omega
    rw [Nat.sub_zero]
    obtain ⟨q, hq⟩ : ∃ q, n / 256 ^ blen n = q := ⟨_, rfl⟩
    rw [hq] at h2 ⊢
    omega
  | k + 1, h => by
    show val (numOf n) k * 256 + (bt (numOf n) k).toNat = _
    rw [num_val n k (by omega), num_at n k (by omega)]
    unfold nAt
    rw [show blen n - 1 - k = blen n - (k + 1) by omega, Int.toNat_natCast]
    have h3 : n / 256 ^ (blen n - (k + 1)) / 256 = n / 256 ^ (blen n - k) := by
      rw [Nat.div_div_eq_div_mul, ← Nat.pow_succ, show (blen n - (k + 1)).succ = blen n - k by omega]
    rw [← h3]
    omega
theorem num_back (n : Nat) (hn : n < 18446744073709551616) : vN (numOf n) = n ∧ vE (numOf n) = 0 := by
  unfold vN vE
  rw [num_good n hn, if_pos rfl, if_pos rfl, num_size, num_val n _ (Nat.le_refl _), Nat.sub_self, Nat.pow_zero, Nat.div_one]
  exact ⟨rfl, rfl⟩
theorem num_inj (n m : Nat) (hn : n < 18446744073709551616) (hm : m < 18446744073709551616) (h : numOf n = numOf m) : n = m := by
  rw [← (num_back n hn).1, h, (num_back m hm).1]
theorem blen_mono (n m : Nat) (h : n ≤ m) : blen n ≤ blen m := by
  by_cases h0 : blen n = 0
  · omega
  · have h1 := (div_pos n (blen n - 1)).2 (by omega)
    have h2 : 0 < m / 256 ^ (blen n - 1) := Nat.lt_of_lt_of_le h1 (Nat.div_le_div_right h)
    have := (div_pos m (blen n - 1)).1 h2
    omega
theorem val_div (s : ByteArray) (j : Nat) : ∀ k, val s (j + k) / 256 ^ k = val s j
  | 0 => by rw [Nat.pow_zero, Nat.div_one]; rfl
  | k + 1 => by
    have h := val_div s j k
    have hb := bt_bd s (j + k)
    show (val s (j + k) * 256 + (bt s (j + k)).toNat) / 256 ^ (k + 1) = _
    rw [Nat.pow_succ, Nat.mul_comm (256 ^ k) 256, ← Nat.div_div_eq_div_mul, show (val s (j + k) * 256 + (bt s (j + k)).toNat) / 256 = val s (j + k) by omega]
    exact h
theorem val_blen (s : ByteArray) (h : s.size = 0 ∨ bt s 0 ≠ 0) : blen (val s s.size) = s.size := by
  have hlt := val_lt s s.size
  have h1 : ¬ s.size < blen (val s s.size) := fun hc => by
    have := (div_pos _ _).2 hc
    rw [Nat.div_eq_of_lt hlt] at this
    omega
  by_cases h0 : s.size = 0
  · omega
  · have h2 := val_div s 1 (s.size - 1)
    rw [show 1 + (s.size - 1) = s.size by omega] at h2
    have hb := bt_bd s 0
    have h3 : val s 1 = (bt s 0).toNat := by show 0 * 256 + (bt s 0).toNat = _; omega
    have := (div_pos (val s s.size) (s.size - 1)).1 (by rw [h2, h3]; have := h.resolve_left h0; omega)
    omega
theorem val_num (s : ByteArray) (h : vE s = 0) : numOf (vN s) = s := by
  have hg : vGood s = true := by
    unfold vE at h
    split at h
    · assumption
    · cases h
  unfold vN
  rw [hg, if_pos rfl]
  have h2 : s.size = 0 ∨ bt s 0 ≠ 0 := by
    unfold vGood at hg
    simp only [Bool.and_eq_true, Bool.or_eq_true, decide_eq_true_eq] at hg
    exact hg.2
  have hb := val_blen s h2
  refine ext_bt _ _ (by rw [num_size, hb]) fun j hj => ?_
  rw [num_size, hb] at hj
  rw [num_at _ j (by rw [hb]; exact hj), hb]
  unfold nAt
  have h3 := val_div s (j + 1) (s.size - 1 - j)
  rw [show j + 1 + (s.size - 1 - j) = s.size by omega] at h3
  rw [h3]
  have hbd := bt_bd s j
  show (((val s j * 256 + (bt s j).toNat) % 256 : Nat) : Int) = _
  omega
theorem vN_lt (s : ByteArray) : vN s < 18446744073709551616 := by
  unfold vN
  split
  · rename_i hg
    unfold vGood at hg
    simp only [Bool.and_eq_true, decide_eq_true_eq] at hg
    refine Nat.lt_of_lt_of_le (val_lt s s.size) ?_
    have : 256 ^ s.size ≤ 256 ^ 8 := Nat.pow_le_pow_right (by decide) hg.1
    exact Nat.le_trans this (by decide)
  · decide
end Go.Proofs.YtbpcciifaekffaaGreatDoor
namespace Go.Proofs.YtbpcciifaekffaaGreatDoor
open Go.RowKit Go.Shelf Go.Sort

theorem bt_ext (s : ByteArray) (p j : Nat) (h : p + j < s.size) : bt (s.extract p s.size) j = bt s (p + j) := by
  have h1 : j < (s.extract p s.size).size := by rw [ByteArray.size_extract]; omega
  rw [← bt_get _ j h1, ← bt_get _ (p + j) h]
  congr 2
  exact ByteArray.getElem_extract h1
theorem ext_ext (s : ByteArray) (p a b : Nat) (h : p + b ≤ s.size) : (s.extract p s.size).extract a b = s.extract (p + a) (p + b) := by
  rw [ByteArray.extract_extract]
  congr 1
  omega
theorem ext_end (s : ByteArray) (p a : Nat) : (s.extract p s.size).extract a (s.extract p s.size).size = s.extract (p + a) s.size := by
  rw [ByteArray.extract_extract]
  congr 1
  rw [ByteArray.size_extract]
  omega
/-- The body behind a head's first byte, by places: where it begins and ends. -/
def atP (s : ByteArray) (q k : Nat) : Option (Nat × Nat) :=
  if k < 56 then (if s.size < q + k then none else some (q, q + k))
  else if s.size < q + (k - 55) then none
  else if vE (s.extract q (q + (k - 55))) = 0 ∧ 56 ≤ vN (s.extract q (q + (k - 55))) ∧ vN (s.extract q (q + (k - 55))) ≤ s.size - (q + (k - 55)) then some (q + (k - 55), q + (k - 55) + vN (s.extract q (q + (k - 55)))) else none
theorem cutAt_at (s : ByteArray) (q k : Nat) (hq : q ≤ s.size) : cutAt k (s.extract q s.size) = (atP s q k).map fun e => (e.1 - q, e.2 - e.1) := by
  have hz : (s.extract q s.size).size = s.size - q := by rw [ByteArray.size_extract]; omega
  unfold cutAt atP
  rw [hz]
  by_cases h1 : k < 56
  · rw [if_pos h1, if_pos h1]
    by_cases h2 : s.size - q < k
    · rw [if_pos h2, if_pos (by omega)]
      rfl
    · rw [if_neg h2, if_neg (by omega)]
      show _ = some (q - q, q + k - q)
      rw [Nat.sub_self, Nat.add_sub_cancel_left]
  · rw [if_neg h1, if_neg h1]
    by_cases h2 : s.size - q < k - 55
    · rw [if_pos h2, if_pos (show s.size < q + (k - 55) by omega)]
      rfl
    · rw [if_neg h2, if_neg (show ¬ s.size < q + (k - 55) by omega), ext_ext s q 0 (k - 55) (by omega), Nat.add_zero]
      obtain ⟨v, hv⟩ : ∃ v, vN (s.extract q (q + (k - 55))) = v := ⟨_, rfl⟩
      rw [hv]
      by_cases h3 : vE (s.extract q (q + (k - 55))) = 0 ∧ 56 ≤ v ∧ v ≤ s.size - q - (k - 55)
      · rw [if_pos h3, if_pos ⟨h3.1, h3.2.1, by omega⟩]
        show _ = some (q + (k - 55) - q, q + (k - 55) + v - (q + (k - 55)))
        rw [Nat.add_sub_cancel_left, Nat.add_sub_cancel_left]
      · rw [if_neg h3, if_neg (fun h => h3 ⟨h.1, h.2.1, by omega⟩)]
        rfl
theorem atP_le {s : ByteArray} {q k f t : Nat} (h : atP s q k = some (f, t)) : q ≤ f ∧ f ≤ t ∧ t ≤ s.size := by
  unfold atP at h
  split at h
  · split at h
    · cases h
    · cases h
      omega
  · split at h
    · cases h
    · split at h
      · cases h
        omega
      · cases h
/-- The item that begins at a place, by places: where its inside begins and ends, and whether it is a list. -/
def itP (s : ByteArray) (p : Nat) : Option (Nat × Nat × Bool) :=
  if bt s p < 128 then some (p, p + 1, false)
  else if bt s p < 192 then (match atP s (p + 1) ((bt s p).toNat - 128) with | none => none | some (f, t) => if bare (s.extract f t) then none else some (f, t, false))
  else (match atP s (p + 1) ((bt s p).toNat - 192) with | none => none | some (f, t) => some (f, t, true))
def itK (s : ByteArray) : Option (Nat × Nat × Bool) → Nat × ByteArray × ByteArray
  | none => (0, ⟨#[]⟩, ⟨#[]⟩)
  | some (f, t, l) => (if l then 2 else 1, s.extract f t, s.extract t s.size)
theorem cutK_at (s : ByteArray) (p : Nat) (hp : p < s.size) : cutK (s.extract p s.size) = itK s (itP s p) := by
  have h0 := bt_ext s p 0 (by omega)
  have h1 := ext_end s p 1
  rw [Nat.add_zero] at h0
  unfold cutK itP
  rw [h0, h1]
  by_cases c1 : bt s p < 128
  · rw [if_pos c1, if_pos c1, ext_ext s p 0 1 (by omega)]
    rfl
  · rw [if_neg c1, if_neg c1]
    by_cases c2 : bt s p < 192
    · rw [if_pos c2, if_pos c2, cutAt_at s (p + 1) _ (by omega)]
      cases ha : atP s (p + 1) ((bt s p).toNat - 128) with
      | none => rfl
      | some e =>
        obtain ⟨f, t⟩ := e
        obtain ⟨k1, k2, k3⟩ := atP_le ha
        simp only [Option.map_some]
        rw [show f - (p + 1) + (t - f) = t - (p + 1) by omega, ext_ext s (p + 1) _ _ (by omega), ext_end s (p + 1) _, show p + 1 + (f - (p + 1)) = f by omega, show p + 1 + (t - (p + 1)) = t by omega]
        by_cases hb : bare (s.extract f t) = true
        · rw [if_pos hb, if_pos hb]; rfl
        · rw [if_neg hb, if_neg hb]; rfl
    · rw [if_neg c2, if_neg c2, cutAt_at s (p + 1) _ (by omega)]
      cases ha : atP s (p + 1) ((bt s p).toNat - 192) with
      | none => rfl
      | some e =>
        obtain ⟨f, t⟩ := e
        obtain ⟨k1, k2, k3⟩ := atP_le ha
        simp only [Option.map_some]
        rw [show f - (p + 1) + (t - f) = t - (p + 1) by omega, ext_ext s (p + 1) _ _ (by omega), ext_end s (p + 1) _, show p + 1 + (f - (p + 1)) = f by omega, show p + 1 + (t - (p + 1)) = t by omega]
        rfl
end Go.Proofs.YtbpcciifaekffaaGreatDoor
namespace Go.Proofs.YtbpcciifaekffaaGreatDoor
open Go.RowKit Go.Shelf Go.Sort

theorem bt_ext2 (s : ByteArray) (f t : Nat) (h : f < t) (ht : t ≤ s.size) : bt (s.extract f t) 0 = bt s f := by
  have h1 : 0 < (s.extract f t).size := by rw [ByteArray.size_extract]; omega
  rw [← bt_get _ 0 h1, ← bt_get _ f (by omega)]
  congr 2
  exact ByteArray.getElem_extract h1
theorem bare_ext (s : ByteArray) (f t : Nat) (ht : t ≤ s.size) : bare (s.extract f t) = (decide (t - f = 1) && decide (bt s f < 128)) := by
  unfold bare
  rw [ByteArray.size_extract, Nat.min_eq_left ht]
  by_cases h : t - f = 1
  · rw [bt_ext2 s f t (by omega) ht]
  · rw [decide_eq_false h, Bool.false_and, Bool.false_and]
/-- What measure answers. -/
def MsR (s : ByteArray) (p : Nat) (f t : Int) (l ok : Bool) : Prop := (ok = false ∧ (s.size ≤ p ∨ itP s p = none)) ∨ (ok = true ∧ p < s.size ∧ ∃ f' t' : Nat, f = f' ∧ t = t' ∧ itP s p = some (f', t', l))
def MsP (s : ByteArray) (p : Nat) (e : Ending) : Prop := ∃ f t l ok, e = .returned (.tuple #[.int .i64 f, .int .i64 t, .bool l, .bool ok]) ∧ MsR s p f t l ok
theorem itP_list (s : ByteArray) (p : Nat) (h : ¬ bt s p < 192) : itP s p = (match atP s (p + 1) ((bt s p).toNat - 192) with | none => none | some (f, t) => some (f, t, true)) := by
  unfold itP
  rw [if_neg (by omega), if_neg h]
  try (cases atP s (p + 1) ((bt s p).toNat - 192) <;> rfl)
theorem itP_text (s : ByteArray) (p : Nat) (h : ¬ bt s p < 128) (h2 : bt s p < 192) : itP s p = (match atP s (p + 1) ((bt s p).toNat - 128) with | none => none | some (f, t) => if bare (s.extract f t) then none else some (f, t, false)) := by
  unfold itP
  rw [if_neg h, if_pos h2]
  try (cases atP s (p + 1) ((bt s p).toNat - 128) <;> rfl)
theorem atP_short (s : ByteArray) (q k : Nat) (h : k < 56) : atP s q k = if s.size < q + k then none else some (q, q + k) := by
  unfold atP
  rw [if_pos h]
theorem atP_long (s : ByteArray) (q k : Nat) (h : ¬ k < 56) : atP s q k = if s.size < q + (k - 55) then none
  else if vE (s.extract q (q + (k - 55))) = 0 ∧ 56 ≤ vN (s.extract q (q + (k - 55))) ∧ vN (s.extract q (q + (k - 55))) ≤ s.size - (q + (k - 55)) then some (q + (k - 55), q + (k - 55) + vN (s.extract q (q + (k - 55)))) else none := by
  unfold atP
  rw [if_neg h]

end Go.Proofs.YtbpcciifaekffaaGreatDoor
namespace Go.Proofs.YtbpcciifaekffaaGreatDoor
open Go.RowKit Go.Shelf Go.Sort

/-- Deeper than so much? -/
def dpr : Nat → Im → Bool
  | 0, _ => true
  | m + 1, x => x.xs.any (dpr m)
theorem any_take (xs : List Im) (g : Im → Bool) (k : Nat) (y : Im) (h : xs[k]? = some y) : (xs.take (k + 1)).any g = ((xs.take k).any g || g y) := by
  rw [List.take_add_one, h, List.any_append]
  simp

set_option maxRecDepth 20000 in
set_option maxHeartbeats 2000000 in
theorem rdeep_any : ∀ (m : Nat) (x : Im), m < 100 → cnt x < 100000000000000000 → ∀ (n : Nat) (w : World), n ≤ w.heap.size → inMem n w x →
    Calls Tryz.prog 72 #[x.val, .int .i64 m] w fun e w' => e = .returned (.bool (dpr m x)) ∧ Below w.heap.size w w'
  | 0, x, _, _, n, w, hn, hm => by
    obtain ⟨l, t, a, c, xs⟩ := x
    show Calls Tryz.prog 72 #[.agg #[.bool l, .string t, .slice a xs.length c], .int .i64 0] w _
    go_enter Tryz.func72, Tryz.ntmps72
    go_wp2
    go_ret
    exact ⟨rfl, (Below.refl _ w).alloc (Nat.le_refl _) _⟩
  | m + 1, x, hm100, hcnt, n, w, hn, hm => by
    have IH := fun (j : Nat) (y : Im) (hy : x.xs[j]? = some y) (w : World) hn hm => rdeep_any m y (by omega) (by have := cnts_at x.xs j y hy; rw [cnt_eq] at hcnt; omega) n w hn hm
    rw [inMem_eq] at hm
    have hl := len_cnts x.xs
    rw [cnt_eq] at hcnt
    obtain ⟨l, t, a, c, xs⟩ := x
    replace hm : rowMem n w a 0 xs := hm
    replace hl : xs.length ≤ cnts xs := hl
    replace hcnt : cnts xs + 1 < 100000000000000000 := hcnt
    show Calls Tryz.prog 72 #[.agg #[.bool l, .string t, .slice a xs.length c], .int .i64 ((m + 1 : Nat) : Int)] w fun e w' => e = .returned (.bool (xs.any (dpr m))) ∧ _
    have IH' : ∀ (j : Nat) (y : Im), xs[j]? = some y → ∀ w : World, n ≤ w.heap.size → inMem n w y → Calls Tryz.prog 72 #[y.val, .int .i64 m] w fun e w' => e = .returned (.bool (dpr m y)) ∧ Below w.heap.size w w' := IH
    clear IH
    have l0 : ¬ ((m + 1 : Nat) : Int) < 1 := by omega
    have wm : ((m + 1 : Nat) : Int) - 1 = m := by omega
    obtain ⟨M, hM⟩ : ∃ M, m + 1 = M := ⟨_, rfl⟩
    rw [hM] at l0 wm ⊢
    clear hM
    go_enter Tryz.func72, Tryz.ntmps72
    go_wp2_with fail
    have hbx : ItIn w.heap.size (.mk l t a c xs) (w.alloc (.cells #[.bool l, .string t, .slice a xs.length c] 47)) := World.alloc_heap_new w _
    refine wpOf (fun W => Below w.heap.size w W ∧ ItIn w.heap.size (.mk l t a c xs) W) ⟨(Below.refl _ w).alloc (Nat.le_refl _) _, hbx⟩ ?_
    rintro w1 ⟨B1, hb1⟩
    clear hbx
    obtain ⟨z, hz⟩ : ∃ z, w.heap.size = z := ⟨_, rfl⟩
    have HZ : Hid (w.heap.size = z) := hz
    rw [hz] at B1 hb1 hn ⊢
    obtain ⟨N, hN⟩ : ∃ N, xs.length = N := ⟨_, rfl⟩
    rw [hN] at hl ⊢
    go_loopg [5] N (fun gk i wr => ∃ k : Nat, k + gk = N ∧ i = .int .i64 k ∧ (xs.take k).any (dpr m) = false ∧ Below z w wr ∧ ItIn z (.mk l t a c xs) wr)
    case atStart => exact ⟨0, by omega, rfl, rfl, B1, hb1⟩
    case round =>
      obtain ⟨k, hk, rfl, hany, BW, hbx⟩ := hrel
      have hzr := hbx.lt
      have d2 : wr.cell? ⟨z, 2, none⟩ = some (.slice a N c) := by rw [Lib.cell_of_heap hbx, ← hN]; rfl
      by_cases hlt : k < N
      · have l1 : (k : Int) < N := by omega
        obtain ⟨y, hy⟩ : ∃ y, xs[k]? = some y := ⟨xs[k]'(by omega), List.getElem?_eq_getElem (by omega)⟩
        obtain ⟨⟨b, o, hb, rfl, c0, c1, c2⟩, hy2⟩ := row_at xs 0 hm k y hy
        have hy3 := inMem_below (by rw [hz]; exact hn) (BW.mono hn) y hy2
        have hbz : b < z := by omega
        replace c0 := (BW.cell (p := ⟨b, _, none⟩) hbz).trans c0
        replace c1 := (BW.cell (p := ⟨b, _, none⟩) hbz).trans c1
        replace c2 := (BW.cell (p := ⟨b, _, none⟩) hbz).trans c2
        obtain ⟨p, hp⟩ : ∃ p, o + 3 * k = p := ⟨_, rfl⟩
        rw [show o + 3 * (0 + k) = p by omega] at c0 c1 c2
        have hp2 : o + k * 3 = p := by omega
        have KS := IH' k y hy
        have hst := any_take xs (dpr m) k y hy
        rw [hany, Bool.false_or] at hst
        obtain ⟨dy, hdy⟩ : ∃ q, dpr m y = q := ⟨_, rfl⟩
        rw [hdy] at KS hst
        have wk : IntKind.i64.wrap ((k : Int) + 1) = ((k + 1 : Nat) : Int) := by rw [IntKind.wrap_i64]; omega
        have HD : Hid _ := hdy
        clear hdy
        have hmem : Hid (y ∈ xs) := List.mem_of_getElem? hy
        obtain ⟨yl, yt, ya, yc, yx⟩ := y
        simp only [Im.l, Im.t, Im.sl, Im.a, Im.xs, Im.c] at c0 c1 c2
        have HX : Hid (_ ∧ _ ∧ _ ∧ _) := ⟨hst, BW, hbx, hany⟩
        clear hst hany
        go_wp2_with fail
        refine (KS _ (by omega) hy3).mono ?_
        rintro e w3 ⟨rfl, B3⟩
        clear KS hy3 hy2 c0 c1 c2
        cases dy with
        | true =>
          go_wp2
          go_ret
          refine ⟨?_, by rw [hz]; exact belowStep HX.out.2.1 (by omega) B3⟩
          rw [show xs.any (dpr m) = true from List.any_eq_true.2 ⟨_, hmem.out, HD.out⟩]
          rfl
        | false =>
          go_wp2
          go_roundg (gk - 1)
          case measure => omega
          case rel =>
            obtain ⟨hst, BW, hbx, _⟩ := HX.out
            exact ⟨k + 1, by omega, by first | rfl | (congr 1; omega), hst, belowStep BW (by omega) B3, (B3.block z hzr).trans hbx⟩
      · have hk2 : k = N := by omega
        have l1 : ¬ (k : Int) < N := by omega
        rw [hk2, ← hN, List.take_length] at hany
        have HX : Hid _ := hany
        clear hany
        go_wp2
        go_ret
        exact ⟨by rw [HX.out]; rfl, BW⟩
end Go.Proofs.YtbpcciifaekffaaGreatDoor
namespace Go.Proofs.YtbpcciifaekffaaGreatDoor
open Go.RowKit Go.Shelf Go.Sort

theorem itP_le {s : ByteArray} {p f t : Nat} {l : Bool} (hp : p < s.size) (h : itP s p = some (f, t, l)) : p ≤ f ∧ f ≤ t ∧ t ≤ s.size ∧ p < t ∧ (l = true → p < f) := by
  unfold itP at h
  split at h
  · cases h
    exact ⟨Nat.le_refl _, by omega, by omega, by omega, nofun⟩
  · split at h
    · cases ha : atP s (p + 1) ((bt s p).toNat - 128) with
      | none => rw [ha] at h; cases h
      | some e =>
        obtain ⟨a, b⟩ := e
        have := atP_le ha
        rw [ha] at h
        dsimp only at h
        split at h
        · cases h
        · cases h
          exact ⟨by omega, by omega, by omega, by omega, nofun⟩
    · cases ha : atP s (p + 1) ((bt s p).toNat - 192) with
      | none => rw [ha] at h; cases h
      | some e =>
        obtain ⟨a, b⟩ := e
        have := atP_le ha
        rw [ha] at h
        cases h
        exact ⟨by omega, by omega, by omega, by omega, fun _ => by omega⟩
theorem ext0_size (s : ByteArray) (e : Nat) (h : e ≤ s.size) : (s.extract 0 e).size = e := by rw [ByteArray.size_extract]; omega
theorem ext0_ext (s : ByteArray) (e a b : Nat) (h : b ≤ e) : (s.extract 0 e).extract a b = s.extract a b := by
  rw [ByteArray.extract_extract]
  congr 1 <;> omega
/-- What the reference's take answers: the item that begins at a place, and the place behind it. -/
def tkR (F : Nat) (s : ByteArray) (p e : Nat) : Option (It × Nat) :=
  if e ≤ p then none else match itP (s.extract 0 e) p with
  | none => none
  | some (f, t, l) => (one F (if l then 2 else 1, s.extract f t)).map fun x => (x, t)
theorem comb_cons (g : Nat × ByteArray → Option It) (e : Nat × ByteArray) (r : List (Nat × ByteArray)) : comb g (e :: r) = match g e, comb g r with
    | some x, some l => some (x :: l)
    | _, _ => none := rfl
theorem ps_itP (s : ByteArray) (p e : Nat) (he : e ≤ s.size) (hp : p < e) : ps (s.extract p e) = match itP (s.extract 0 e) p with
    | none => [(0, ⟨#[]⟩)]
    | some (f, t, l) => (if l then 2 else 1, s.extract f t) :: ps (s.extract t e) := by
  have hz : (s.extract p e).size ≠ 0 := by rw [ByteArray.size_extract]; omega
  have h0 := ext0_size s e he
  have hk := cutK_at (s.extract 0 e) p (by rw [h0]; exact hp)
  rw [h0, ext0_ext s e p e (Nat.le_refl _)] at hk
  rw [ps_eq, if_neg hz, hk]
  cases hi : itP (s.extract 0 e) p with
  | none => rfl
  | some q =>
    obtain ⟨f, t, l⟩ := q
    have hb := itP_le (by rw [h0]; exact hp) hi
    rw [h0] at hb
    cases l
    · show (if (1 : Nat) = 0 then _ else (1, (s.extract 0 e).extract f t) :: ps ((s.extract 0 e).extract t (s.extract 0 e).size)) = _
      rw [if_neg (by decide), h0, ext0_ext s e f t hb.2.2.1, ext0_ext s e t e (Nat.le_refl _)]
      rfl
    · show (if (2 : Nat) = 0 then _ else (2, (s.extract 0 e).extract f t) :: ps ((s.extract 0 e).extract t (s.extract 0 e).size)) = _
      rw [if_neg (by decide), h0, ext0_ext s e f t hb.2.2.1, ext0_ext s e t e (Nat.le_refl _)]
      rfl
theorem tk_none {F : Nat} {s : ByteArray} {p e : Nat} (he : e ≤ s.size) (hp : p < e) (h : tkR F s p e = none) : comb (one F) (ps (s.extract p e)) = none := by
  rw [ps_itP s p e he hp]
  unfold tkR at h
  rw [if_neg (by omega)] at h
  cases hi : itP (s.extract 0 e) p with
  | none => rfl
  | some q =>
    obtain ⟨f, t, l⟩ := q
    rw [hi] at h
    dsimp only at h ⊢
    rw [comb_cons]
    cases ho : one F (if l = true then 2 else 1, s.extract f t) with
    | none => rfl
    | some x => rw [ho] at h; cases h
theorem tk_some {F : Nat} {s : ByteArray} {p e t : Nat} {x : It} (he : e ≤ s.size) (h : tkR F s p e = some (x, t)) : p < t ∧ t ≤ e ∧ comb (one F) (ps (s.extract p e)) = (comb (one F) (ps (s.extract t e))).map (x :: ·) := by
  unfold tkR at h
  by_cases hp : e ≤ p
  · rw [if_pos hp] at h; cases h
  · rw [if_neg hp] at h
    rw [ps_itP s p e he (by omega)]
    have h0 := ext0_size s e he
    cases hi : itP (s.extract 0 e) p with
    | none => rw [hi] at h; cases h
    | some q =>
      obtain ⟨f, t', l⟩ := q
      have hb := itP_le (by rw [h0]; omega) hi
      rw [h0] at hb
      rw [hi] at h
      dsimp only at h ⊢
      cases ho : one F (if l = true then 2 else 1, s.extract f t') with
      | none => rw [ho] at h; cases h
      | some y =>
        rw [ho] at h
        cases h
        refine ⟨hb.2.2.2.1, hb.2.2.1, ?_⟩
        rw [comb_cons, ho]
        cases comb (one F) (ps (s.extract t e)) <;> rfl
theorem ps_none (s : ByteArray) (p e : Nat) (h : e ≤ p) : ps (s.extract p e) = [] := by
  rw [ps_eq, if_pos (by rw [ByteArray.size_extract]; omega)]
theorem decF_succ (F : Nat) (s : ByteArray) : decF (F + 1) s = comb (one F) (ps s) := rfl
theorem ext_all (s : ByteArray) : s.extract 0 s.size = s := by
  exact ByteArray.extract_zero_size
/-- What the whole of take says of all bytes. -/
theorem tk_all (F : Nat) (s : ByteArray) (y : It) : decF (F + 1) s = some [y] ↔ tkR F s 0 s.size = some (y, s.size) := by
  rw [decF_succ]
  by_cases hz : s.size = 0
  · have e1 : ps s = [] := by rw [ps_eq, if_pos hz]
    rw [e1]
    unfold tkR
    rw [if_pos (by omega)]
    constructor <;> intro h <;> cases h
  · cases ht : tkR F s 0 s.size with
    | none =>
      have := tk_none (Nat.le_refl _) (by omega) ht
      rw [ext_all] at this
      rw [this]
      constructor <;> intro h <;> cases h
    | some q =>
      obtain ⟨x, t⟩ := q
      obtain ⟨h1, h2, h3⟩ := tk_some (Nat.le_refl _) ht
      rw [ext_all] at h3
      rw [h3]
      by_cases h4 : t = s.size
      · subst h4
        rw [ps_none s s.size s.size (Nat.le_refl _)]
        show some [x] = some [y] ↔ some (x, s.size) = some (y, s.size)
        constructor
        · intro h; cases h; rfl
        · intro h; cases h; rfl
      · constructor
        · intro h
          exfalso
          have h5 := ps_itP s t s.size (Nat.le_refl _) (by omega)
          cases hc : comb (one F) (ps (s.extract t s.size)) with
          | none => rw [hc] at h; cases h
          | some l =>
            rw [hc] at h
            cases h
            have h6 : ps (s.extract t s.size) ≠ [] := by
              rw [h5]
              cases itP (s.extract 0 s.size) t with
              | none => exact List.cons_ne_nil _ _
              | some q => exact List.cons_ne_nil _ _
            cases hq : ps (s.extract t s.size) with
            | nil => exact h6 hq
            | cons a r =>
              rw [hq, comb_cons] at hc
              cases h7 : one F a <;> cases h8 : comb (one F) r <;> rw [h7, h8] at hc <;> cases hc
        · intro h
          cases h
          exact absurd rfl h4
end Go.Proofs.YtbpcciifaekffaaGreatDoor
namespace Go.Proofs.YtbpcciifaekffaaGreatDoor
open Go.RowKit Go.Shelf Go.Sort

mutual
/-- An item's bytes. -/
def encI : It → ByteArray
  | .mk l t xs => if l then hdB 192 (encIs xs).size ++ encIs xs else if bare t then t else hdB 128 t.size ++ t
def encIs : List It → ByteArray
  | [] => ⟨#[]⟩
  | x :: r => encI x ++ encIs r
end
mutual
/-- Is it right? -/
def rgI : It → Bool
  | .mk l t xs => (if l then decide (t.size = 0) else decide (xs.length = 0)) && rgIs xs
def rgIs : List It → Bool
  | [] => true
  | x :: r => rgI x && rgIs r
end
mutual
def cntI : It → Nat
  | .mk _ _ xs => cntIs xs + 1
def cntIs : List It → Nat
  | [] => 0
  | x :: r => cntI x + cntIs r
end
/-- Deeper than so much? -/
def dprI : Nat → It → Bool
  | 0, _ => true
  | m + 1, .mk _ _ xs => xs.any (dprI m)
mutual
theorem cnt_er : ∀ x, cnt x = cntI (er x)
  | .mk l t a c xs => by show cnts xs + 1 = cntIs (ers xs) + 1; rw [cnts_er xs]
theorem cnts_er : ∀ xs, cnts xs = cntIs (ers xs)
  | [] => rfl
  | x :: r => by show cnt x + cnts r = cntI (er x) + cntIs (ers r); rw [cnt_er x, cnts_er r]
end
theorem dpr_er : ∀ (m : Nat) (x : Im), dpr m x = dprI m (er x)
  | 0, _ => rfl
  | m + 1, .mk l t a c xs => by
    show xs.any (dpr m) = (ers xs).any (dprI m)
    rw [ers_map, List.any_map]
    congr 1
    funext y
    exact dpr_er m y
theorem any_deep (m d : Nat) (h : d + m = 13) : ∀ x, (pro d x).any (fun e => decide (12 < e.1)) = dpr m x := by
  induction m generalizing d with
  | zero =>
    intro x
    rw [pro_eq, List.any_cons]
    have : decide (12 < d) = true := decide_eq_true (by omega)
    rw [this, Bool.true_or]
    rfl
  | succ m ih =>
    intro x
    have ihl : ∀ xs, (pros (d + 1) xs).any (fun e => decide (12 < e.1)) = xs.any (dpr m) := by
      intro xs
      induction xs with
      | nil => rfl
      | cons y r ihr =>
        show (pro (d + 1) y ++ pros (d + 1) r).any _ = (dpr m y || r.any (dpr m))
        rw [List.any_append, ih (d + 1) (by omega) y, ihr]
    have : decide (12 < d) = false := decide_eq_false (by omega)
    rw [pro_eq, List.any_cons, this, Bool.false_or, ihl]
    rfl
theorem deep_er (x : Im) : deep x = dprI 12 (er x) := by
  rw [← dpr_er]
  exact any_deep 12 1 rfl x
mutual
theorem rg_er (d : Nat) : ∀ x, (pro d x).all (fun e => rgt e.2) = rgI (er x)
  | .mk l t a c xs => by
    show (rgt (.mk l t a c xs) && (pros (d + 1) xs).all (fun e => rgt e.2)) = ((if l then decide (t.size = 0) else decide ((ers xs).length = 0)) && rgIs (ers xs))
    rw [rgs_er (d + 1) xs, ers_map, List.length_map]
    rfl
theorem rgs_er (d : Nat) : ∀ xs, (pros d xs).all (fun e => rgt e.2) = rgIs (ers xs)
  | [] => rfl
  | x :: r => by
    show (pro d x ++ pros d r).all _ = (rgI (er x) && rgIs (ers r))
    rw [List.all_append, rg_er d x, rgs_er d r]
end
theorem right_er (x : Im) : right x = rgI (er x) := rg_er 1 x

theorem hdB_hsz (b n : Nat) : (hdB b n).size = hsz n := by
  unfold hdB hsz
  split
  · rfl
  · rw [ByteArray.size_append, num_size]
    rfl
mutual
theorem sz_er : ∀ x, rgI (er x) = true → szOf x = (encI (er x)).size
  | .mk l t a c xs, h => by
    have h' : ((if l then decide (t.size = 0) else decide ((ers xs).length = 0)) && rgIs (ers xs)) = true := h
    rw [Bool.and_eq_true] at h'
    have hx := szs_er xs h'.2
    rw [szOf_eq]
    show (if (!l && bare t) = true then t.size else hsz (t.size + szs xs) + (t.size + szs xs)) = (if l then hdB 192 (encIs (ers xs)).size ++ encIs (ers xs) else if bare t then t else hdB 128 t.size ++ t).size
    rw [hx]
    cases l with
    | true =>
      have h0 : t.size = 0 := of_decide_eq_true h'.1
      rw [if_neg (by simp), if_pos rfl, h0, Nat.zero_add, ByteArray.size_append, hdB_hsz]
    | false =>
      have h0 : (ers xs).length = 0 := of_decide_eq_true h'.1
      have h1 : ers xs = [] := List.length_eq_zero_iff.1 h0
      rw [h1]
      have h2 : (encIs []).size = 0 := rfl
      rw [h2, Nat.add_zero]
      cases hb : bare t with
      | true => rw [if_pos (by simp), if_neg (by simp), if_pos rfl]
      | false => rw [if_neg (by simp), if_neg (by simp), if_neg (by simp), ByteArray.size_append, hdB_hsz]
theorem szs_er : ∀ xs, rgIs (ers xs) = true → szs xs = (encIs (ers xs)).size
  | [], _ => rfl
  | x :: r, h => by
    have h' : (rgI (er x) && rgIs (ers r)) = true := h
    rw [Bool.and_eq_true] at h'
    show szOf x + szs r = (encI (er x) ++ encIs (ers r)).size
    rw [ByteArray.size_append, sz_er x h'.1, szs_er r h'.2]
end
theorem cat_go (l : List (Nat × Im)) : ∀ b : ByteArray, l.foldl (fun b e => b ++ hOf e.2 ++ e.2.t) b = b ++ cat l := by
  induction l with
  | nil => intro b; show b = b ++ ⟨#[]⟩; exact (ByteArray.append_empty).symm
  | cons e r ih =>
    intro b
    show r.foldl _ (b ++ hOf e.2 ++ e.2.t) = b ++ r.foldl _ (⟨#[]⟩ ++ hOf e.2 ++ e.2.t)
    rw [ih, ih (⟨#[]⟩ ++ hOf e.2 ++ e.2.t), show ((⟨#[]⟩ : ByteArray) ++ hOf e.2) = hOf e.2 from ByteArray.empty_append]
    simp only [ByteArray.append_assoc]
theorem cat_app (a b : List (Nat × Im)) : cat (a ++ b) = cat a ++ cat b := by
  show (a ++ b).foldl _ _ = _
  rw [List.foldl_append]
  exact cat_go b _
theorem cat_cons (e : Nat × Im) (r : List (Nat × Im)) : cat (e :: r) = hOf e.2 ++ e.2.t ++ cat r := by
  show r.foldl _ (⟨#[]⟩ ++ hOf e.2 ++ e.2.t) = _
  rw [cat_go, show ((⟨#[]⟩ : ByteArray) ++ hOf e.2) = hOf e.2 from ByteArray.empty_append]
theorem size_0 (t : ByteArray) (h : t.size = 0) : t = ⟨#[]⟩ := by
  refine ext_bt _ _ (by rw [h]; rfl) fun j hj => ?_
  omega
mutual
theorem cat_er (d : Nat) : ∀ x, rgI (er x) = true → cat (pro d x) = encI (er x)
  | .mk l t a c xs, h => by
    have h' : ((if l then decide (t.size = 0) else decide ((ers xs).length = 0)) && rgIs (ers xs)) = true := h
    rw [Bool.and_eq_true] at h'
    have hx := szs_er xs h'.2
    have hc := cats_er (d + 1) xs h'.2
    show cat ((d, Im.mk l t a c xs) :: pros (d + 1) xs) = if l then hdB 192 (encIs (ers xs)).size ++ encIs (ers xs) else if bare t then t else hdB 128 t.size ++ t
    rw [cat_cons, hc]
    show (if l then hdB 192 (t.size + szs xs) else if bare t then ⟨#[]⟩ else hdB 128 t.size) ++ t ++ encIs (ers xs) = _
    rw [hx]
    cases l with
    | true =>
      have h0 : t.size = 0 := of_decide_eq_true h'.1
      rw [if_pos rfl, if_pos rfl, h0, Nat.zero_add, size_0 t h0]
      rw [show ∀ q : ByteArray, q ++ ⟨#[]⟩ = q from fun q => ByteArray.append_empty]
    | false =>
      have h0 : (ers xs).length = 0 := of_decide_eq_true h'.1
      have h1 : ers xs = [] := List.length_eq_zero_iff.1 h0
      rw [h1]
      show (if false = true then _ else if bare t then (⟨#[]⟩ : ByteArray) else hdB 128 t.size) ++ t ++ ⟨#[]⟩ = if false = true then _ else if bare t then t else hdB 128 t.size ++ t
      rw [show ∀ q : ByteArray, q ++ ⟨#[]⟩ = q from fun q => ByteArray.append_empty]
      cases bare t with
      | true => exact ByteArray.empty_append
      | false => rfl
theorem cats_er (d : Nat) : ∀ xs, rgIs (ers xs) = true → cat (pros d xs) = encIs (ers xs)
  | [], _ => rfl
  | x :: r, h => by
    have h' : (rgI (er x) && rgIs (ers r)) = true := h
    rw [Bool.and_eq_true] at h'
    show cat (pro d x ++ pros d r) = encI (er x) ++ encIs (ers r)
    rw [cat_app, cat_er d x h'.1, cats_er d r h'.2]
end

/-- What an item comes to, or why not. -/
def eE (x : It) : Int := if dprI 12 x then 41 else if rgI x then (if 65536 < (encI x).size then 42 else 0) else 2
def eS (x : It) : ByteArray := if eE x = 0 then encI x else ⟨#[]⟩
theorem encE_er (x : Im) : encE x = eE (er x) := by
  unfold encE eE
  rw [deep_er, right_er]
  cases hr : rgI (er x) with
  | true => rw [sz_er x hr]
  | false => rfl
theorem eE_0 {x : It} (h : eE x = 0) : dprI 12 x = false ∧ rgI x = true ∧ (encI x).size ≤ 65536 := by
  unfold eE at h
  cases h1 : dprI 12 x with
  | true => rw [h1] at h; simp at h
  | false =>
    cases h2 : rgI x with
    | false => rw [h1, h2] at h; simp at h
    | true =>
      rw [h1, h2] at h
      simp only [Bool.false_eq_true, if_false, if_true] at h
      refine ⟨rfl, rfl, ?_⟩
      split at h
      · cases h
      · omega
theorem encS_er (x : Im) : encS x = eS (er x) := by
  unfold encS eS
  rw [encE_er]
  by_cases h : eE (er x) = 0
  · rw [if_pos h, if_pos h]
    exact cat_er 1 x (eE_0 h).2.1
  · rw [if_neg h, if_neg h]
theorem one_none (F : Nat) (b : ByteArray) : one F (0, b) = none := rfl
theorem one_text (F : Nat) (b : ByteArray) : one F (1, b) = some (.mk false b []) := rfl
theorem one_list (F : Nat) (b : ByteArray) : one F (2, b) = (decF F b).map (It.mk true ⟨#[]⟩) := rfl
theorem ext_size (s : ByteArray) (f t : Nat) (h : t ≤ s.size) : (s.extract f t).size = t - f := by rw [ByteArray.size_extract]; omega
/-- No more items are read than there are bytes. -/
theorem cnt_step (F : Nat) (hF : ∀ s its, decF F s = some its → cntIs its ≤ s.size) (s : ByteArray) (e : Nat) (he : e ≤ s.size) : ∀ (n p : Nat), e - p ≤ n → ∀ its, comb (one F) (ps (s.extract p e)) = some its → cntIs its ≤ e - p
  | n, p, hn, its, h => by
    by_cases hp : e ≤ p
    · rw [ps_none s p e hp] at h
      cases h
      exact Nat.zero_le _
    · rw [ps_itP s p e he (by omega)] at h
      have h0 := ext0_size s e he
      cases hi : itP (s.extract 0 e) p with
      | none => rw [hi] at h; cases h
      | some q =>
        obtain ⟨f, t, l⟩ := q
        have hb := itP_le (by rw [h0]; omega) hi
        rw [h0] at hb
        rw [hi] at h
        dsimp only at h
        rw [comb_cons] at h
        cases ho : one F (if l = true then 2 else 1, s.extract f t) with
        | none => rw [ho] at h; cases h
        | some x =>
          cases hr : comb (one F) (ps (s.extract t e)) with
          | none => rw [ho, hr] at h; cases h
          | some r =>
            rw [ho, hr] at h
            cases h
            match n, hn with
            | 0, hn => omega
            | n + 1, hn =>
              have ih := cnt_step F hF s e he n t (by omega) r hr
              show cntI x + cntIs r ≤ e - p
              cases l with
              | false =>
                cases ho
                show 1 + cntIs r ≤ _
                omega
              | true =>
                have ho' : (decF F (s.extract f t)).map (It.mk true ⟨#[]⟩) = some x := ho
                cases hd : decF F (s.extract f t) with
                | none => rw [hd] at ho'; cases ho'
                | some l =>
                  rw [hd] at ho'
                  cases ho'
                  have h1 := hF _ _ hd
                  rw [ext_size s f t (by omega)] at h1
                  have h2 := hb.2.2.2.2 rfl
                  show cntIs l + 1 + cntIs r ≤ _
                  omega
theorem cnt_dec : ∀ (F : Nat) (s : ByteArray) (its : List It), decF F s = some its → cntIs its ≤ s.size
  | 0, s, its, h => by
    cases h
    exact Nat.zero_le _
  | F + 1, s, its, h => by
    rw [decF_succ] at h
    have := cnt_step F (cnt_dec F) s s.size (Nat.le_refl _) s.size 0 (by omega) its (by rw [ext_all]; exact h)
    exact this
theorem cnt_one {F : Nat} {s : ByteArray} {y : Im} (h : decF F s = some [er y]) : cnt y ≤ s.size := by
  have := cnt_dec F s _ h
  rw [cnt_er]
  exact this
end Go.Proofs.YtbpcciifaekffaaGreatDoor
namespace Go.Proofs.YtbpcciifaekffaaGreatDoor
open Go.RowKit Go.Shelf Go.Sort

mutual
/-- Are two items alike? -/
def smI : It → It → Bool
  | .mk l t xs, .mk l' t' ys => (decide (l = l') && decide (t = t')) && smIs xs ys
def smIs : List It → List It → Bool
  | [], [] => true
  | x :: r, y :: q => smI x y && smIs r q
  | [], _ :: _ => false
  | _ :: _, [] => false
end
mutual
theorem smI_eq : ∀ a b, smI a b = true → a = b
  | .mk l t xs, .mk l' t' ys, h => by
    have h' : ((decide (l = l') && decide (t = t')) && smIs xs ys) = true := h
    rw [Bool.and_eq_true, Bool.and_eq_true] at h'
    rw [of_decide_eq_true h'.1.1, of_decide_eq_true h'.1.2, smIs_eq xs ys h'.2]
theorem smIs_eq : ∀ a b, smIs a b = true → a = b
  | [], [], _ => rfl
  | x :: r, y :: q, h => by
    have h' : (smI x y && smIs r q) = true := h
    rw [Bool.and_eq_true] at h'
    rw [smI_eq x y h'.1, smIs_eq r q h'.2]
  | [], _ :: _, h => by cases h
  | _ :: _, [], h => by cases h
end
mutual
theorem smI_refl : ∀ a, smI a a = true
  | .mk l t xs => by
    show ((decide (l = l) && decide (t = t)) && smIs xs xs) = true
    rw [decide_eq_true rfl, decide_eq_true rfl, smIs_refl xs]
    rfl
theorem smIs_refl : ∀ a, smIs a a = true
  | [] => rfl
  | x :: r => by
    show (smI x x && smIs r r) = true
    rw [smI_refl x, smIs_refl r]
    rfl
end
theorem smI_comm (a b : It) : smI a b = smI b a := by
  cases h : smI a b with
  | true => rw [smI_eq a b h, smI_refl]
  | false =>
    cases h2 : smI b a with
    | true => rw [smI_eq b a h2, smI_refl] at h; cases h
    | false => rfl
theorem smIs_len : ∀ a b, smIs a b = true → a.length = b.length := fun a b h => by rw [smIs_eq a b h]
/-- Alike so far. -/
theorem sm_take : ∀ (xs ys : List It) (k : Nat) (x y : It), xs[k]? = some x → ys[k]? = some y → smIs (xs.take (k + 1)) (ys.take (k + 1)) = (smIs (xs.take k) (ys.take k) && smI x y)
  | a :: r, b :: q, 0, x, y, h1, h2 => by
    cases h1
    cases h2
    show (smI a b && true) = (true && smI a b)
    rw [Bool.and_true, Bool.true_and]
  | a :: r, b :: q, k + 1, x, y, h1, h2 => by
    show (smI a b && smIs (r.take (k + 1)) (q.take (k + 1))) = ((smI a b && smIs (r.take k) (q.take k)) && smI x y)
    rw [sm_take r q k x y h1 h2, Bool.and_assoc]
  | [], _, _, _, _, h, _ => by cases h
  | _ :: _, [], _, _, _, _, h => by cases h
theorem sm_take_false : ∀ (xs ys : List It) (k : Nat), smIs (xs.take k) (ys.take k) = false → smIs xs ys = false
  | [], [], k, h => by
    have e : ([] : List It).take k = [] := List.take_nil
    rw [e] at h
    cases h
  | a :: r, b :: q, 0, h => by cases h
  | a :: r, b :: q, k + 1, h => by
    have h' : (smI a b && smIs (r.take k) (q.take k)) = false := h
    show (smI a b && smIs r q) = false
    cases hs : smI a b with
    | false => rfl
    | true =>
      rw [hs, Bool.true_and] at h'
      rw [sm_take_false r q k h']
      rfl
  | [], _ :: _, _, _ => rfl
  | _ :: _, [], _, _ => rfl
theorem ers_at (xs : List Im) (k : Nat) (y : Im) (h : xs[k]? = some y) : (ers xs)[k]? = some (er y) := by
  rw [ers_map, List.getElem?_map, h]
  rfl
theorem ers_len (xs : List Im) : (ers xs).length = xs.length := by rw [ers_map, List.length_map]

theorem q_toList_inj {s t : ByteArray} (h : s.toList = t.toList) : s = t := by
  rw [ByteArray.toList_eq, ByteArray.toList_eq] at h
  have h2 : s.data = t.data := Array.toList_inj.1 h
  cases s
  cases t
  cases h2
  rfl

end Go.Proofs.YtbpcciifaekffaaGreatDoor
namespace Go.Proofs.YtbpcciifaekffaaGreatDoor
open Go.RowKit Go.Shelf Go.Sort

mutual
theorem inMem_mono {n m : Nat} (h : n ≤ m) {W : World} : ∀ x, inMem n W x → inMem m W x
  | .mk _ _ a _ xs, hm => rowMem_mono h a 0 xs hm
theorem rowMem_mono {n m : Nat} (h : n ≤ m) {W : World} (a : Option Addr) : ∀ i xs, rowMem n W a i xs → rowMem m W a i xs
  | _, [], _ => trivial
  | i, x :: r, ⟨⟨b, o, h0, h1⟩, h5, h6⟩ => ⟨⟨b, o, by omega, h1⟩, inMem_mono h x h5, rowMem_mono h a (i + 1) r h6⟩
end
theorem decR_same {s : ByteArray} {x y : Im} {e f : Int} (hx : DecR s x e) (hy : DecR s y f) : e = f ∧ er x = er y := by
  rcases hx with ⟨h1, rfl, rfl⟩ | ⟨h1, h2, rfl, rfl⟩ | ⟨h1, x', h2, h3⟩
  · rcases hy with ⟨k1, rfl, rfl⟩ | ⟨k1, k2, rfl, rfl⟩ | ⟨k1, y', k2, k3⟩
    · exact ⟨rfl, rfl⟩
    · omega
    · omega
  · rcases hy with ⟨k1, rfl, rfl⟩ | ⟨k1, k2, rfl, rfl⟩ | ⟨k1, y', k2, k3⟩
    · omega
    · exact ⟨rfl, rfl⟩
    · exact absurd k2 (h2 _)
  · rcases hy with ⟨k1, rfl, rfl⟩ | ⟨k1, k2, rfl, rfl⟩ | ⟨k1, y', k2, k3⟩
    · omega
    · exact absurd h2 (k2 _)
    · have he : er x' = er y' := by
        rw [h2] at k2
        injection k2 with k2
        injection k2
      have hd : deep x' = deep y' := by rw [deep_er, deep_er, he]
      rcases h3 with ⟨a1, rfl, rfl⟩ | ⟨a1, rfl, rfl⟩
      · rcases k3 with ⟨b1, rfl, rfl⟩ | ⟨b1, rfl, rfl⟩
        · exact ⟨rfl, rfl⟩
        · rw [hd, b1] at a1; cases a1
      · rcases k3 with ⟨b1, rfl, rfl⟩ | ⟨b1, rfl, rfl⟩
        · rw [hd, b1] at a1; cases a1
        · exact ⟨rfl, he⟩
theorem decR_cnt {s : ByteArray} {x : Im} {e : Int} (hx : DecR s x e) : cnt x ≤ 65537 := by
  rcases hx with ⟨h1, rfl, rfl⟩ | ⟨h1, h2, rfl, rfl⟩ | ⟨h1, x', h2, h3⟩
  · show 1 ≤ _; omega
  · show 1 ≤ _; omega
  · rcases h3 with ⟨a1, rfl, rfl⟩ | ⟨a1, rfl, rfl⟩
    · show 1 ≤ _; omega
    · have := cnt_one h2
      omega
end Go.Proofs.YtbpcciifaekffaaGreatDoor
