/- Lemmas: An item's bytes: what Encode answers. Condition: at most four million bytes in all. Items made anew: copied, List, Text. What bytes begin with: cutBody, cut. What bytes begin with: cut. The items that stand one behind the other in bytes, gone through. A slice of items that is appended to: where it lies then. -/
import Derived.Test.YtbmapdkcccdmfaaDoorM1
import Derived.Test.YtbmapdkcccdmfaaDoorM10
import Derived.Test.YtbmapdkcccdmfaaDoorM11
import Derived.Test.YtbmapdkcccdmfaaDoorM12
import Derived.Test.YtbmapdkcccdmfaaDoorM13
import Derived.Test.YtbmapdkcccdmfaaDoorM2
import Derived.Test.YtbmapdkcccdmfaaDoorM3
import Derived.Test.YtbmapdkcccdmfaaDoorM6
import Derived.Test.YtbmapdkcccdmfaaDoorM7
import Derived.Test.YtbmapdkcccdmfaaDoorM8
import Derived.Test.YtbmapdkcccdmfaaDoorM9
import Derived.Test.YtbmapdkcccdmfaaDoorRows
import Derived.Lib.AppendStr
import Derived.Lib.OthersKept
import Derived.OwnWalk
import Derived.Deep.MidRow
import Derived.Deep.WholeRow
namespace Go.Proofs.YtbmapdkcccdmfaaDoor
open Go.RowKit Go.Shelf Go.Sort
attribute [local go_sem] Oper.semAt_some


def cat (l : List (Nat × Im)) : ByteArray := l.foldl (fun b e => b ++ hOf e.2 ++ e.2.t) ⟨#[]⟩
theorem hdB_size (b s : Nat) (h : s < 1000000000000000000) : (hdB b s).size ≤ 9 := by
 unfold hdB
 have := blen_le s 8 (by omega)
 split
 ·show 1 ≤ 9
  omega
 ·rw [ByteArray.size_append, numOf, by8_size]
  show 1 + _ ≤ 9
  omega
theorem cnt_tb : ∀ (N : Nat) (x : Im), cnt x ≤ N → cnt x ≤ tb x := by
 have key : ∀ N, (∀ x : Im, cnt x ≤ N → cnt x ≤ tb x) := by
  intro N
  induction N with
  | zero => intro x h; rw [cnt_eq] at h; omega
  | succ N ih =>
   intro x h
   rw [cnt_eq] at h ⊢
   rw [tb_eq]
   have : ∀ xs : List Im, cnts xs ≤ N → cnts xs ≤ tbs xs := by
    intro xs
    induction xs with
    | nil => intro _; exact Nat.le_refl _
    | cons y r ihr =>
     intro hc
     have h0 : cnts (y :: r) = cnt y + cnts r := rfl
     have h1 : tbs (y :: r) = tb y + tbs r := rfl
     have := ih y (by omega)
     have := ihr (by omega)
     omega
   have := this x.xs (by omega)
   omega
 exact key
def ESt {x : Im} (z zz bB n0 : Nat) (w : World) (pre : List (El x)) (W : World) : Prop :=
 ∃ v, Bx bB 24 v W ∧ W.ownsRow zz 5 1 v (cat (pre.map (·.1))).size (Lib.strCells (cat (pre.map (·.1)))) ∧ Hid (v ≠ .slice none 0 0) ∧ Below z w W ∧ inMem n0 W x
theorem owns_below {w w' : World} {b : Nat} {e : TypeId} {size : Nat} {v : Value} {n : Nat} {xs : List Value} (h : w.ownsRow b e size v n xs) (hb : Below w.heap.size w w') : w'.ownsRow b e size v n xs :=
 h.kept (row := none) ⟨hb.os, hb.tape, hb.output, hb.size, fun k hk _ => hb.block k hk⟩ (by cases v.ownBlock <;> simp)
theorem owns_own {A C : World} {b n : Nat} {e : TypeId} {v : Value} {xs : List Value} {row : Option Nat} (h : A.ownsRow b e 1 v n xs) (hg : A.grownBy C row) (hr : ∀ r, row = some r → ∃ o : Obj, A.heap[r]? = some o ∧ o.isCells = false) : C.ownsRow b e 1 v n xs := by
 refine h.kept hg ?_
 cases e' : v.ownBlock with
 | none => exact .inl rfl
 | some k =>
  obtain ⟨c, fz, hk⟩ := Lib.ownsRowF_kind (World.ownsRowF_of h) k e'
  refine .inr fun e2 => ?_
  obtain ⟨o, ho, hc⟩ := hr k e2.symm
  rw [hk] at ho
  cases ho
  cases hc
theorem ESt.own {x : Im} {z zz bB n0 : Nat} {w A C : World} {pre : List (El x)} {row : Option Nat} (h : ESt z zz bB n0 w pre A) (hz : n0 ≤ z ∧ z < bB) (hg : A.grownBy C row) (hr : ∀ r, row = some r → z ≤ r ∧ ∃ o : Obj, A.heap[r]? = some o ∧ o.isCells = false) : ESt z zz bB n0 w pre C := by
 obtain ⟨v, h1, h2, h3, h4, h5⟩ := h
 have hl := h1.lt
 refine ⟨v, h1.own hg (fun r e => (hr r e).2), owns_own h2 hg (fun r e => (hr r e).2), h3, h4.grown hg (by omega) (fun k e => (hr k e).1), inMem_below (by omega) ((Below.refl n0 A).grown hg (by omega) (fun k e => Nat.le_trans hz.1 (hr k e).1)) x h5⟩
def encE (x : Im) : Int := if deep x then 41 else if right x then (if 65536 < szOf x then 42 else 0) else 2
def encS (x : Im) : ByteArray := if encE x = 0 then cat (pro 1 x) else ⟨#[]⟩

end Go.Proofs.YtbmapdkcccdmfaaDoor
namespace Go.Proofs.YtbmapdkcccdmfaaDoor
open Go.RowKit Go.Shelf Go.Sort

inductive It where
 | mk (l : Bool) (t : ByteArray) (xs : List It)
mutual
def er : Im → It
 | .mk l t _ _ xs => .mk l t (ers xs)
def ers : List Im → List It
 | [] => []
 | x :: r => er x :: ers r
end
theorem ers_map : ∀ xs, ers xs = xs.map er
 | [] => rfl
 | x :: r => by
  show er x :: ers r = _
  rw [ers_map r]
  rfl
mutual
def inP (p : Nat → Prop) (W : World) : Im → Prop
 | .mk _ _ a _ xs => rowP p W a 0 xs
def rowP (p : Nat → Prop) (W : World) (a : Option Addr) : Nat → List Im → Prop
 | _, [] => True
 | i, x :: r => (∃ b o, p b ∧ a = some ⟨b, o, none⟩ ∧ W.cell? ⟨b, o + 3 * i, none⟩ = some (.bool x.l) ∧ W.cell? ⟨b, o + 3 * i + 1, none⟩ = some (.string x.t) ∧ W.cell? ⟨b, o + 3 * i + 2, none⟩ = some x.sl) ∧ inP p W x ∧ rowP p W a (i + 1) r
end
mutual
theorem inMem_of {p : Nat → Prop} {n : Nat} {W : World} (hp : ∀ b, p b → b < n) : ∀ x, inP p W x → inMem n W x
 | .mk _ _ a _ xs, h => rowMem_of hp a 0 xs h
theorem rowMem_of {p : Nat → Prop} {n : Nat} {W : World} (hp : ∀ b, p b → b < n) (a : Option Addr) : ∀ i xs, rowP p W a i xs → rowMem n W a i xs
 | _, [], _ => trivial
 | i, x :: r, ⟨⟨b, o, h0, h1, h2⟩, h5, h6⟩ => ⟨⟨b, o, hp b h0, h1, h2⟩, inMem_of hp x h5, rowMem_of hp a (i + 1) r h6⟩
end
mutual
theorem inP_of {p q : Nat → Prop} {W W' : World} (hp : ∀ b, p b → q b ∧ ∀ k, W'.cell? ⟨b, k, none⟩ = W.cell? ⟨b, k, none⟩) : ∀ x, inP p W x → inP q W' x
 | .mk _ _ a _ xs, h => rowP_of hp a 0 xs h
theorem rowP_of {p q : Nat → Prop} {W W' : World} (hp : ∀ b, p b → q b ∧ ∀ k, W'.cell? ⟨b, k, none⟩ = W.cell? ⟨b, k, none⟩) (a : Option Addr) : ∀ i xs, rowP p W a i xs → rowP q W' a i xs
 | _, [], _ => trivial
 | i, x :: r, ⟨⟨b, o, h0, h1, h2, h3, h4⟩, h5, h6⟩ => ⟨⟨b, o, (hp b h0).1, h1, ((hp b h0).2 _).trans h2, ((hp b h0).2 _).trans h3, ((hp b h0).2 _).trans h4⟩, inP_of hp x h5, rowP_of hp a (i + 1) r h6⟩
end

theorem info_item : (Tryd.prog.info? 55).map (fun i => (i.zero, i.size, i.bytes)) = some (some (.agg #[.bool false, .string ⟨#[]⟩, .slice none 0 0]), 3, 48) := by kernel_rfl
theorem cell_ne (W : World) (p : Addr) (u : Value) (b k : Nat) (h : b ≠ p.block) : (W.setCell p u).cell? ⟨b, k, none⟩ = W.cell? ⟨b, k, none⟩ := World.cell?_of_block (w := W) (Below.heap_setCell _ _ _ _ h)
theorem below_set {B : Nat} {A W : World} (h : Below B A W) (b o : Nat) (hb : B ≤ b) (u : Value) : Below B A (W.setCell ⟨b, o, none⟩ u) := h.setCell (p := ⟨b, o, none⟩) hb u
def Held (cl : List Value) (ys : List Im) : Prop := ∀ j y, ys[j]? = some y → cl[3 * j]? = some (.bool y.l) ∧ cl[3 * j + 1]? = some (.string y.t) ∧ cl[3 * j + 2]? = some y.sl
theorem Held.snoc {cl : List Value} {ys : List Im} (h : Held cl ys) (y : Im) (hl : 3 * ys.length + 2 < cl.length) : Held (((cl.set (3 * ys.length) (.bool y.l)).set (3 * ys.length + 1) (.string y.t)).set (3 * ys.length + 2) y.sl) (ys ++ [y]) := by
 intro j x hx
 by_cases hj : j < ys.length
 ·rw [List.getElem?_append_left hj] at hx
  have := h j x hx
  rw [List.getElem?_set_ne (by omega), List.getElem?_set_ne (by omega), List.getElem?_set_ne (by omega), List.getElem?_set_ne (by omega), List.getElem?_set_ne (by omega), List.getElem?_set_ne (by omega), List.getElem?_set_ne (by omega), List.getElem?_set_ne (by omega), List.getElem?_set_ne (by omega)]
  exact this
 ·have hj2 : j = ys.length := by
   have := (List.getElem?_eq_some_iff.1 hx).1
   simp at this
   omega
  subst hj2
  simp at hx
  subst hx
  refine ⟨?_, ?_, ?_⟩
  ·rw [List.getElem?_set_ne (by omega), List.getElem?_set_ne (by omega), List.getElem?_set_self (by omega)]
  ·rw [List.getElem?_set_ne (by omega), List.getElem?_set_self (by simp; omega)]
  ·rw [List.getElem?_set_self (by simp; omega)]

def txt (s : ByteArray) : Im := .mk false s none 0 []
end Go.Proofs.YtbmapdkcccdmfaaDoor
namespace Go.Proofs.YtbmapdkcccdmfaaDoor
open Go.RowKit Go.Shelf Go.Sort

def cutAt (told : Nat) (s : ByteArray) : Option (Nat × Nat) :=
 if told < 56 then (if s.size < told then none else some (0, told))
 else if s.size < told - 55 then none
 else if vE (s.extract 0 (told - 55)) = 0 ∧ 56 ≤ vN (s.extract 0 (told - 55)) ∧ vN (s.extract 0 (told - 55)) ≤ s.size - (told - 55) then some (told - 55, vN (s.extract 0 (told - 55))) else none
def cbR (s : ByteArray) : Option (Nat × Nat) → Value
 | none => .tuple #[.string ⟨#[]⟩, .string ⟨#[]⟩, .bool false]
 | some (d, n) => .tuple #[.string (s.extract d (d + n)), .string (s.extract (d + n) s.size), .bool true]
theorem vE_or (s : ByteArray) : vE s = 0 ∨ vE s = 40 := by
 unfold vE
 split
 ·exact .inl rfl
 ·exact .inr rfl

set_option maxRecDepth 20000 in
set_option maxHeartbeats 2000000 in
theorem cutBody_any (told : Nat) (s : ByteArray) (ht : told < 64) (hs : s.size < 1000000000000000000) (w : World) :
  Calls Tryd.prog 108 #[.int .i64 told, .string s] w fun e w' => e = .returned (cbR s (cutAt told s)) ∧ Below w.heap.size w w' := by
 have BW : Below w.heap.size w w := Below.refl _ _
 obtain ⟨co, hco⟩ : ∃ c, cutAt told s = c := ⟨_, rfl⟩
 rw [hco]
 have HE : Hid (co = (if told < 56 then (if s.size < told then none else some (0, told))
  else if s.size < told - 55 then none
  else if vE (s.extract 0 (told - 55)) = 0 ∧ 56 ≤ vN (s.extract 0 (told - 55)) ∧ vN (s.extract 0 (told - 55)) ≤ s.size - (told - 55) then some (told - 55, vN (s.extract 0 (told - 55))) else none)) := hco.symm
 clear hco
 go_enter Tryd.func108, Tryd.ntmps108
 by_cases h1 : told < 56
 ·have l0 : (told : Int) < 56 := by omega
  by_cases h2 : s.size < told
  ·have l1 : (s.size : Int) < told := by omega
   have HO : Hid (co = none) := HE.out.trans (by rw [if_pos h1, if_pos h2])
   go_wp2
   refine bodyPost_ret (v := .tuple #[.string ⟨#[]⟩, .string ⟨#[]⟩, .bool false]) (by simp [results, Tryd.results108, go_sem]) rfl ⟨by rw [HO.out]; rfl, Below.refl _ _⟩
  ·have l1 : ¬ (s.size : Int) < told := by omega
   have HO : Hid (co = some (0, told)) := HE.out.trans (by rw [if_pos h1, if_neg h2])
   go_wp2
   refine wp_region_quiet_below (by kernel_rfl) (by kernel_rfl) ?_
   repeat (quiet_step (fail))
   refine wpQuiet_nil ?_
   intro w8 hw8
   have B8 : Below w.heap.size w w8 := by
    obtain ⟨p, rfl⟩ := hw8
    exact belowStep BW BW.size (below_regrown _ _ _)
   clear hw8 BW
   go_wp2
   refine bodyPost_ret (v := .tuple #[.string (s.extract 0 told), .string (s.extract told s.size), .bool true]) (by simp [results, Tryd.results108, go_sem]) rfl ⟨by rw [HO.out]; simp [cbR], B8⟩
 ·have l0 : ¬ (told : Int) < 56 := by omega
  obtain ⟨d, hd⟩ : ∃ d, told - 55 = d := ⟨_, rfl⟩
  have wd : (told : Int) - 56 + 1 = d := by omega
  have hd8 : d < 9 ∧ 0 < d := by omega
  rw [hd] at HE
  clear hd
  by_cases h2 : s.size < d
  ·have l1 : (s.size : Int) < d := by omega
   have HO : Hid (co = none) := HE.out.trans (by rw [if_neg h1, if_pos h2])
   go_wp2
   refine bodyPost_ret (v := .tuple #[.string ⟨#[]⟩, .string ⟨#[]⟩, .bool false]) (by simp [results, Tryd.results108, go_sem]) rfl ⟨by rw [HO.out]; rfl, Below.refl _ _⟩
  ·have l1 : ¬ (s.size : Int) < d := by omega
   have HO : Hid (co = if vE (s.extract 0 d) = 0 ∧ 56 ≤ vN (s.extract 0 d) ∧ vN (s.extract 0 d) ≤ s.size - d then some (d, vN (s.extract 0 d)) else none) := HE.out.trans (by rw [if_neg h1, if_neg h2])
   clear HE
   have KV := value_any (s.extract 0 d)
   have hE := vE_or (s.extract 0 d)
   obtain ⟨v, hv⟩ : ∃ v, vN (s.extract 0 d) = v := ⟨_, rfl⟩
   obtain ⟨e, he⟩ : ∃ e, vE (s.extract 0 d) = e := ⟨_, rfl⟩
   rw [hv, he] at KV HO
   rw [he] at hE
   clear hv he
   go_wp2_with fail
   refine (KV _).mono ?_
   rintro e0 w1 ⟨rfl, B1⟩
   replace BW := B1
   clear B1 KV
   obtain ⟨r, hr⟩ : ∃ r, s.extract d s.size = r := ⟨_, rfl⟩
   have hrs : s.size - d = r.size := by rw [← hr]; simp
   have HR : Hid (r.extract 0 v = s.extract d (d + v) ∧ r.extract v r.size = s.extract (d + v) s.size ∨ r.size < v) := by
    by_cases h : r.size < v
    ·exact .inr h
    ·refine .inl ⟨?_, ?_⟩
     ·rw [← hr, ByteArray.extract_extract]
      congr 1
      omega
     ·rw [← hrs, ← hr, ByteArray.extract_extract]
      congr 1
      omega
   rw [hrs] at HO
   have hrb : r.size < 1000000000000000000 := by omega
   rcases hE with rfl | rfl
   ·by_cases h3 : v < 56
    ·have l3 : (v : Int) < 56 := by omega
     have HN : Hid (co = none) := HO.out.trans (if_neg (fun h => by omega))
     go_wp2
     refine bodyPost_ret (v := .tuple #[.string ⟨#[]⟩, .string ⟨#[]⟩, .bool false]) (by simp [results, Tryd.results108, go_sem]) rfl ⟨by rw [HN.out]; rfl, BW⟩
    ·have l3 : ¬ (v : Int) < 56 := by omega
     by_cases h4 : r.size < v
     ·have l4 : (r.size : Int) < v := by omega
      have HN : Hid (co = none) := HO.out.trans (if_neg (fun h => by omega))
      go_wp2
      refine bodyPost_ret (v := .tuple #[.string ⟨#[]⟩, .string ⟨#[]⟩, .bool false]) (by simp [results, Tryd.results108, go_sem]) rfl ⟨by rw [HN.out]; rfl, BW⟩
     ·have l4 : ¬ (r.size : Int) < v := by omega
      have HN : Hid (co = some (d, v)) := HO.out.trans (if_pos ⟨rfl, by omega, by omega⟩)
      go_wp2
      refine wp_region_quiet_below (by kernel_rfl) (by kernel_rfl) ?_
      repeat (quiet_step (fail))
      refine wpQuiet_nil ?_
      intro w8 hw8
      have B8 : Below w.heap.size w w8 := by
       obtain ⟨p, rfl⟩ := hw8
       exact belowStep BW BW.size (below_regrown _ _ _)
      clear hw8 BW
      go_wp2
      obtain ⟨hr1, hr2⟩ := HR.out.resolve_right h4
      refine bodyPost_ret (v := .tuple #[.string (r.extract 0 v), .string (r.extract v r.size), .bool true]) (by simp [results, Tryd.results108, go_sem]) rfl ⟨by rw [HN.out, hr1, hr2]; rfl, B8⟩
   ·have HN : Hid (co = none) := HO.out.trans (if_neg (fun h => by omega))
    go_wp2
    refine bodyPost_ret (v := .tuple #[.string ⟨#[]⟩, .string ⟨#[]⟩, .bool false]) (by simp [results, Tryd.results108, go_sem]) rfl ⟨by rw [HN.out]; rfl, BW⟩
end Go.Proofs.YtbmapdkcccdmfaaDoor
namespace Go.Proofs.YtbmapdkcccdmfaaDoor
open Go.RowKit Go.Shelf Go.Sort

def cutK (s : ByteArray) : Nat × ByteArray × ByteArray :=
 if bt s 0 < 128 then (1, s.extract 0 1, s.extract 1 s.size)
 else if bt s 0 < 192 then
  match cutAt ((bt s 0).toNat - 128) (s.extract 1 s.size) with
  | none => (0, ⟨#[]⟩, ⟨#[]⟩)
  | some (d, n) => if bare ((s.extract 1 s.size).extract d (d + n)) then (0, ⟨#[]⟩, ⟨#[]⟩) else (1, (s.extract 1 s.size).extract d (d + n), (s.extract 1 s.size).extract (d + n) (s.extract 1 s.size).size)
 else
  match cutAt ((bt s 0).toNat - 192) (s.extract 1 s.size) with
  | none => (0, ⟨#[]⟩, ⟨#[]⟩)
  | some (d, n) => (2, (s.extract 1 s.size).extract d (d + n), (s.extract 1 s.size).extract (d + n) (s.extract 1 s.size).size)
def ktV (k : Nat × ByteArray × ByteArray) : Value := .tuple #[.int .i64 k.1, .string k.2.1, .string k.2.2]

set_option maxRecDepth 20000 in
set_option maxHeartbeats 2000000 in
theorem cut_any (s : ByteArray) (hp : 0 < s.size) (hs : s.size < 1000000000000000000) (w : World) :
  Calls Tryd.prog 105 #[.string s] w fun e w' => e = .returned (ktV (cutK s)) ∧ Below w.heap.size w w' := by
 have BW : Below w.heap.size w w := Below.refl _ _
 have l0 : (0 : Int) < s.size := by omega
 have l1 : (1 : Int) ≤ s.size := by omega
 have l1' : ¬ (s.size : Int) < 1 := by omega
 have l1n : 1 ≤ s.size := by omega
 have g0 := bt_get s 0 hp
 have hu := bt_bd s 0
 have KC := fun told h => cutBody_any told (s.extract 1 s.size) h (by simp; omega)
 obtain ⟨co, hco⟩ : ∃ c, cutK s = c := ⟨_, rfl⟩
 rw [hco]
 unfold cutK at hco
 obtain ⟨r, hr⟩ : ∃ r, s.extract 1 s.size = r := ⟨_, rfl⟩
 rw [hr] at KC hco
 obtain ⟨i, hi⟩ : ∃ i, bt s 0 = i := ⟨_, rfl⟩
 rw [hi] at g0 hu hco
 clear hi
 obtain ⟨u, rfl⟩ : ∃ u : Nat, i = u := ⟨i.toNat, by omega⟩
 rw [Int.toNat_natCast] at hco
 by_cases h1 : (u : Int) < 128
 ·rw [if_pos h1] at hco
  have HC : Hid (_ = co) := hco
  clear hco
  go_enter Tryd.func105, Tryd.ntmps105
  go_wp2
  refine wp_region_quiet_below (by kernel_rfl) (by kernel_rfl) ?_
  repeat (quiet_step (fail))
  refine wpQuiet_nil ?_
  intro w8 hw8
  have B8 : Below w.heap.size w w8 := by
   obtain ⟨p, rfl⟩ := hw8
   exact belowStep BW BW.size (below_regrown _ _ _)
  clear hw8 BW
  go_wp2
  refine bodyPost_ret (v := .tuple #[.int .i64 1, .string (s.extract 0 1), .string r]) (by simp [results, Tryd.results105, go_sem]) rfl ⟨by rw [← HC.out]; rfl, B8⟩
 ·rw [if_neg h1] at hco
  by_cases h2 : (u : Int) < 192
  ·rw [if_pos h2] at hco
   have HC : Hid (_ = co) := hco
   clear hco
   obtain ⟨t, ht⟩ : ∃ t, u - 128 = t := ⟨_, rfl⟩
   have wt : (u : Int) - 128 = t := by omega
   have wu : IntKind.i64.wrap (u : Int) = u := by rw [IntKind.wrap_i64]; omega
   have wt2 : IntKind.i64.wrap (t : Int) = t := by rw [IntKind.wrap_i64]; omega
   have KC1 := KC t (by omega)
   rw [ht] at HC
   obtain ⟨ca, hca⟩ : ∃ c, cutAt t r = c := ⟨_, rfl⟩
   rw [hca] at HC KC1
   clear KC hca
   go_enter Tryd.func105, Tryd.ntmps105
   have cC : ∀ d os, Calls Tryd.prog 108 #[.int .i64 t, .string r] (grow (redrawn w d) os) fun e w'' => e = .returned (cbR r ca) ∧ ∃ p : Regrown, w'' = grow (redrawn w p.d) p.os := fun d os => Calls.regrown_of (KC1 _)
   clear KC1
   cases ca with
   | none =>
    dsimp only [cbR] at cC
    go_wp2_with fail
    refine wp_region_quiet_below (by kernel_rfl) (by kernel_rfl) ?_
    iterate 6 (quiet_step (fail))
    quiet_step (exact cC _ _)
    repeat (quiet_step (fail))
    refine wpQuiet_nil ?_
    rintro w1 hw1
    have BW : Below w.heap.size w w1 := by
     obtain ⟨p, rfl⟩ := hw1
     exact below_regrown _ _ _
    clear hw1 cC
    go_wp2
    refine bodyPost_ret (v := .tuple #[.int .i64 0, .string ⟨#[]⟩, .string ⟨#[]⟩]) (by simp [results, Tryd.results105, go_sem]) rfl ⟨by rw [← HC.out]; rfl, BW⟩
   | some q =>
    obtain ⟨d, n⟩ := q
    dsimp only [cbR] at cC
    obtain ⟨bo, hbo⟩ : ∃ b, r.extract d (d + n) = b := ⟨_, rfl⟩
    obtain ⟨be, hbe⟩ : ∃ b, r.extract (d + n) r.size = b := ⟨_, rfl⟩
    dsimp only at HC
    rw [hbo, hbe] at HC cC
    clear hbo hbe
    go_wp2_with fail
    refine wp_region_quiet_below (by kernel_rfl) (by kernel_rfl) ?_
    iterate 6 (quiet_step (fail))
    quiet_step (exact cC _ _)
    repeat (quiet_step (fail))
    refine wpQuiet_nil ?_
    rintro w1 hw1
    have BW : Below w.heap.size w w1 := by
     obtain ⟨p, rfl⟩ := hw1
     exact below_regrown _ _ _
    clear hw1 cC
    have KB := isBare_any bo
    obtain ⟨ib, hib⟩ : ∃ b, bare bo = b := ⟨_, rfl⟩
    rw [hib] at KB HC
    clear hib
    go_wp2_with fail
    refine (KB _).mono ?_
    rintro e0 w2 ⟨rfl, B2⟩
    replace BW := belowStep BW BW.size B2
    clear B2 KB
    cases ib with
    | true =>
     go_wp2
     refine bodyPost_ret (v := .tuple #[.int .i64 0, .string ⟨#[]⟩, .string ⟨#[]⟩]) (by simp [results, Tryd.results105, go_sem]) rfl ⟨by rw [← HC.out]; rfl, BW⟩
    | false =>
     go_wp2
     refine bodyPost_ret (v := .tuple #[.int .i64 1, .string bo, .string be]) (by simp [results, Tryd.results105, go_sem]) rfl ⟨by rw [← HC.out]; rfl, BW⟩
  ·rw [if_neg h2] at hco
   have HC : Hid (_ = co) := hco
   clear hco
   obtain ⟨t, ht⟩ : ∃ t, u - 192 = t := ⟨_, rfl⟩
   have wt : (u : Int) - 192 = t := by omega
   have wu : IntKind.i64.wrap (u : Int) = u := by rw [IntKind.wrap_i64]; omega
   have wt2 : IntKind.i64.wrap (t : Int) = t := by rw [IntKind.wrap_i64]; omega
   have KC1 := KC t (by omega)
   rw [ht] at HC
   obtain ⟨ca, hca⟩ : ∃ c, cutAt t r = c := ⟨_, rfl⟩
   rw [hca] at HC KC1
   clear KC hca
   go_enter Tryd.func105, Tryd.ntmps105
   have cC : ∀ d os, Calls Tryd.prog 108 #[.int .i64 t, .string r] (grow (redrawn w d) os) fun e w'' => e = .returned (cbR r ca) ∧ ∃ p : Regrown, w'' = grow (redrawn w p.d) p.os := fun d os => Calls.regrown_of (KC1 _)
   clear KC1
   cases ca with
   | none =>
    dsimp only [cbR] at cC
    go_wp2_with fail
    refine wp_region_quiet_below (by kernel_rfl) (by kernel_rfl) ?_
    iterate 6 (quiet_step (fail))
    quiet_step (exact cC _ _)
    repeat (quiet_step (fail))
    refine wpQuiet_nil ?_
    rintro w1 hw1
    have BW : Below w.heap.size w w1 := by
     obtain ⟨p, rfl⟩ := hw1
     exact below_regrown _ _ _
    clear hw1 cC
    go_wp2
    refine bodyPost_ret (v := .tuple #[.int .i64 0, .string ⟨#[]⟩, .string ⟨#[]⟩]) (by simp [results, Tryd.results105, go_sem]) rfl ⟨by rw [← HC.out]; rfl, BW⟩
   | some q =>
    obtain ⟨d, n⟩ := q
    dsimp only [cbR] at cC
    obtain ⟨bo, hbo⟩ : ∃ b, r.extract d (d + n) = b := ⟨_, rfl⟩
    obtain ⟨be, hbe⟩ : ∃ b, r.extract (d + n) r.size = b := ⟨_, rfl⟩
    dsimp only at HC
    rw [hbo, hbe] at HC cC
    clear hbo hbe
    go_wp2_with fail
    refine wp_region_quiet_below (by kernel_rfl) (by kernel_rfl) ?_
    iterate 6 (quiet_step (fail))
    quiet_step (exact cC _ _)
    repeat (quiet_step (fail))
    refine wpQuiet_nil ?_
    rintro w1 hw1
    have BW : Below w.heap.size w w1 := by
     obtain ⟨p, rfl⟩ := hw1
     exact below_regrown _ _ _
    clear hw1 cC
    go_wp2
    refine bodyPost_ret (v := .tuple #[.int .i64 2, .string bo, .string be]) (by simp [results, Tryd.results105, go_sem]) rfl ⟨by rw [← HC.out]; rfl, BW⟩
end Go.Proofs.YtbmapdkcccdmfaaDoor
namespace Go.Proofs.YtbmapdkcccdmfaaDoor
open Go.RowKit Go.Shelf Go.Sort
attribute [local go_sem] Oper.semAt_some

theorem cutAt_le {told : Nat} {s : ByteArray} {d n : Nat} (h : cutAt told s = some (d, n)) : d + n ≤ s.size := by
 unfold cutAt at h
 split at h
 ·split at h
  ·cases h
  ·cases h
   omega
 ·split at h
  ·cases h
  ·split at h
   ·cases h
    omega
   ·cases h
theorem cutK_lt (s : ByteArray) (hp : 0 < s.size) : (cutK s).1 ≠ 0 → (cutK s).2.1.size ≤ s.size ∧ ((cutK s).1 = 2 → (cutK s).2.1.size < s.size) ∧ (cutK s).2.2.size < s.size := by
 unfold cutK
 split
 ·intro _
  simp
  omega
 ·split
  ·split
   ·intro h
    exact absurd rfl h
   ·rename_i d n h
    have := cutAt_le h
    simp at this
    split
    ·intro h
     exact absurd rfl h
    ·intro _
     simp
     omega
  ·split
   ·intro h
    exact absurd rfl h
   ·rename_i d n h
    have := cutAt_le h
    simp at this
    intro _
    simp
    omega
def psF : Nat → ByteArray → List (Nat × ByteArray)
 | 0, _ => []
 | f + 1, s => if s.size = 0 then [] else if (cutK s).1 = 0 then [(0, ⟨#[]⟩)] else ((cutK s).1, (cutK s).2.1) :: psF f (cutK s).2.2
def ps (s : ByteArray) : List (Nat × ByteArray) := psF s.size s
theorem psF_ps : ∀ (f g : Nat) (s : ByteArray), s.size ≤ f → s.size ≤ g → psF f s = psF g s
 | 0, 0, _, _, _ => rfl
 | 0, g + 1, s, h, _ => by
  show [] = if s.size = 0 then _ else _
  rw [if_pos (by omega)]
 | f + 1, 0, s, _, h => by
  show (if s.size = 0 then _ else _) = []
  rw [if_pos (by omega)]
 | f + 1, g + 1, s, h, h' => by
  show (if s.size = 0 then _ else _) = (if s.size = 0 then _ else _)
  split
  ·rfl
  ·split
   ·rfl
   ·rename_i h0 h1
    have := cutK_lt s (by omega) h1
    rw [psF_ps f g _ (by omega) (by omega)]
theorem ps_eq (s : ByteArray) : ps s = if s.size = 0 then [] else if (cutK s).1 = 0 then [(0, ⟨#[]⟩)] else ((cutK s).1, (cutK s).2.1) :: ps (cutK s).2.2 := by
 by_cases h : s.size = 0
 ·rw [if_pos h]
  unfold ps
  rw [h]
  rfl
 ·rw [if_neg h]
  obtain ⟨f, hf⟩ : ∃ f, s.size = f + 1 := ⟨s.size - 1, by omega⟩
  have e : ps s = psF (f + 1) s := by unfold ps; rw [hf]
  rw [e]
  show (if s.size = 0 then _ else _) = _
  rw [if_neg h]
  split
  ·rfl
  ·rename_i h1
   have := cutK_lt s (by omega) h1
   show _ :: psF f _ = _ :: psF _ _
   rw [psF_ps f _ _ (by omega) (Nat.le_refl _)]
theorem cutK_zero (s : ByteArray) (h : (cutK s).1 = 0) : cutK s = (0, ⟨#[]⟩, ⟨#[]⟩) := by
 revert h
 unfold cutK
 split
 ·intro h; cases h
 ·split
  ·split
   ·intro _; rfl
   ·split
    ·intro _; rfl
    ·intro h; cases h
  ·split
   ·intro _; rfl
   ·intro h; cases h
theorem ps_len : ∀ (N : Nat) (s : ByteArray), s.size ≤ N → (ps s).length ≤ s.size
 | 0, s, h => by
  rw [ps_eq, if_pos (by omega)]
  exact Nat.zero_le _
 | N + 1, s, h => by
  rw [ps_eq]
  split
  ·exact Nat.zero_le _
  ·split
   ·show 1 ≤ _
    omega
   ·rename_i h0 h1
    have h2 := cutK_lt s (by omega) h1
    have h3 := ps_len N (cutK s).2.2 (by omega)
    show (ps _).length + 1 ≤ _
    omega
def strSz : Value → Nat
 | .string s => s.size
 | _ => 0
def pEnc (e : Nat × ByteArray) : Array Value := #[.int .i64 e.1, .string e.2]

set_option maxRecDepth 100000 in
set_option maxHeartbeats 2000000 in
theorem parts1_in (n l bX : Nat) (s : ByteArray) (hs : s.size < 1000000000000000000) (J Jx : List (Nat × ByteArray) → World → Prop) (B : Nat) (hJ : AbidesFrom B J)
  (hY : ∀ m pre e W, J pre W → pre.length < (ps s).length → e ∈ ps s → YieldAt Fence.wide m Tryd.prog l (pEnc e) W fun e' W' =>
   (e' = .returned (.bool true) ∧ J (pre ++ [e]) W') ∨ (e' = .returned (.bool false) ∧ Jx (pre ++ [e]) W'))
  (W : World) (hc : W.cell? ⟨bX, 0, none⟩ = some (.string s)) (h0 : J [] W) :
  CallsIn Fence.wide n Tryd.prog 104 #[.func (.yield l) #[] #[], .pointer (some ⟨bX, 0, none⟩)] W fun e W' => (∃ v, e = .returned v) ∧
   (J (ps s) W' ∨ (∃ q, q ≤ (ps s).length ∧ Jx ((ps s).take q) W')) := by
 refine callsIn_of_wp Tryd.func104 rfl trivial ?_ rfl
 simp only [Tryd.ntmps104, List.size_toArray, List.length_cons, List.length_nil, Nat.reduceAdd, Nat.reduceSub, Array.replicate_succ, Array.replicate_zero, List.push_toArray, List.append_toArray, List.nil_append, List.cons_append]
 gi_wp2
 gi_loopw [3] (fun v wr => ∃ (r : ByteArray) (pre : List (Nat × ByteArray)), v = .string r ∧ r.size ≤ s.size ∧ ps s = pre ++ ps r ∧ J pre wr) (fun v _ => strSz v)
 case atStart => exact ⟨s, [], rfl, Nat.le_refl _, rfl, h0⟩
 case round =>
  obtain ⟨r, pre, rfl, hr, hpre, hJs⟩ := hrel
  by_cases hz : r.size = 0
  ·have he := is_empty r hz
   have he2 := empty_list r hz
   rw [ps_eq r, if_pos hz, List.append_nil] at hpre
   subst he
   have HH : Hid _ := hpre
   clear hpre
   gi_wp2
   go_end0
   exact ⟨⟨_, rfl⟩, .inl (by rw [HH.out]; exact hJs)⟩
  ·have hrp : 0 < r.size := by omega
   have hne := ne_empty r hrp
   have KC := cut_any r hrp (by omega)
   have HK := cutK_lt r hrp
   have HZ := cutK_zero r
   rw [ps_eq r, if_neg hz] at hpre
   obtain ⟨⟨k, bo, be⟩, hk⟩ : ∃ c, cutK r = c := ⟨_, rfl⟩
   rw [hk] at KC HK HZ hpre
   dsimp only [ktV] at KC HK HZ hpre
   have HX : Hid (_ ∧ _ ∧ _) := ⟨HK, HZ, hpre⟩
   clear HK HZ hpre hk
   gi_wp2_with fail
   refine ⟨trivial, fun h => (by cases h), (callsIn_wide.2 (KC _)).mono ?_⟩
   rintro e w3 ⟨rfl, B3⟩
   have hJ3 := hJ pre wr w3 none hJs (grown_of B3) (fun _ h => by cases h)
   clear B3 hJs KC
   by_cases hk0 : k = 0
   ·subst hk0
    obtain ⟨-, HZ, hpre⟩ := HX.out
    rw [if_pos rfl] at hpre
    have hbe := HZ rfl
    injection hbe with _ hbe
    injection hbe with h1 h2
    subst h1 h2
    obtain ⟨fn, tmps, assign, body, hy, hR⟩ := hY (n - 1) pre (0, ⟨#[]⟩) w3 hJ3 (by rw [hpre, List.length_append]; simp) (by rw [hpre]; simp)
    unfold pEnc at hy
    dsimp only at hy
    rw [show ((0 : Nat) : Int) = 0 from rfl] at hy
    have HJ : Hid (_ ∧ _) := ⟨hJ3, hpre⟩
    clear hJ3 hpre HX HZ
    gi_wp2
    refine ⟨fun h => (by cases h), hR.mono ?_⟩
    rintro e W4 (⟨rfl, hJ4⟩ | ⟨rfl, hJx4⟩)
    ·clear hy hR
     gi_wp2
     refine bodyPost_ret (v := .tuple #[]) (by simp [results, Tryd.results104, go_sem]) rfl ⟨⟨_, rfl⟩, .inl ?_⟩
     rw [HJ.out.2]
     exact hJ4
    ·clear hy hR
     gi_wp2
     refine bodyPost_ret (v := .tuple #[]) (by simp [results, Tryd.results104, go_sem]) rfl ⟨⟨_, rfl⟩, .inr ⟨pre.length + 1, ?_, ?_⟩⟩
     ·rw [HJ.out.2, List.length_append, List.length_cons]
      omega
     ·rw [HJ.out.2, List.take_append, List.take_of_length_le (Nat.le_succ _), show pre.length + 1 - pre.length = 1 by omega]
      exact hJx4
   ·obtain ⟨HK, -, hpre⟩ := HX.out
    rw [if_neg hk0] at hpre
    obtain ⟨hk1, hk2, hk3⟩ := HK hk0
    have hkb : ((k : Int) == 0) = false := by rw [beq_eq_false_iff_ne]; omega
    obtain ⟨fn, tmps, assign, body, hy, hR⟩ := hY (n - 1) pre (k, bo) w3 hJ3 (by rw [hpre, List.length_append]; simp) (by rw [hpre]; simp)
    unfold pEnc at hy
    have HJ : Hid (_ ∧ _) := ⟨hJ3, hpre⟩
    clear hJ3 hpre HX HK
    gi_wp2
    refine ⟨fun h => (by cases h), hR.mono ?_⟩
    rintro e W4 (⟨rfl, hJ4⟩ | ⟨rfl, hJx4⟩)
    ·clear hy hR
     gi_wp2
     go_roundw
     case rel =>
      refine ⟨be, pre ++ [(k, bo)], rfl, by omega, ?_, hJ4⟩
      rw [HJ.out.2, List.append_assoc]
      rfl
     case measure => show be.size < r.size; omega
    ·clear hy hR
     gi_wp2
     refine bodyPost_ret (v := .tuple #[]) (by simp [results, Tryd.results104, go_sem]) rfl ⟨⟨_, rfl⟩, .inr ⟨pre.length + 1, ?_, ?_⟩⟩
     ·rw [HJ.out.2, List.length_append, List.length_cons]
      omega
     ·rw [HJ.out.2, List.take_append, List.take_of_length_le (Nat.le_succ _), show pre.length + 1 - pre.length = 1 by omega]
      exact hJx4
abbrev Pe (s : ByteArray) := { e : Nat × ByteArray // e ∈ ps s }
theorem parts_stops (n bX : Nat) (s : ByteArray) (hs : s.size < 1000000000000000000) (w : World) (hbx : Bx bX 9 (.string s) w) :
  SeqStopsK Fence.wide n Tryd.prog 104 #[.pointer (some ⟨bX, 0, none⟩)] (fun e : Pe s => pEnc e.1) (fun _ _ => True) (fun ys => ys.map (·.1) = ps s) (fun pre => ∃ q, q ≤ (ps s).length ∧ pre.map (·.1) = (ps s).take q) (ps s).length w := fun l J Jx W hW hJ hJx hY h0 => by
 refine (parts1_in n l bX s hs (fun pre0 W => ∃ pre : List (Pe s), pre.map (·.1) = pre0 ∧ J pre W) (fun pre0 W => ∃ pre : List (Pe s), pre.map (·.1) = pre0 ∧ Jx pre W) W.heap.size
  (fun s A C row hs hg hr => by obtain ⟨pre, h1, h2⟩ := hs; exact ⟨pre, h1, hJ pre A C row h2 hg hr⟩)
  (fun m pre0 e W1 hj hl he => by
   obtain ⟨pre, h1, h2⟩ := hj
   have hl' : pre.length < (ps s).length := by rw [← h1, List.length_map] at hl; exact hl
   refine (yieldAny m (hY pre ⟨e, he⟩ W1 h2 hl')).mono fun e' W' h => ?_
   rcases h with ⟨ha, hb, _⟩ | ⟨ha, hb⟩
   ·exact .inl ⟨ha, ⟨pre ++ [⟨e, he⟩], by rw [List.map_append, h1]; rfl, hb⟩⟩
   ·exact .inr ⟨ha, ⟨pre ++ [⟨e, he⟩], by rw [List.map_append, h1]; rfl, hb⟩⟩) W (Bx.cell ((hW.block bX hbx.lt).trans hbx)) ⟨[], rfl, h0⟩).mono ?_
 rintro e W' ⟨he, ⟨pre, h1, h2⟩ | ⟨q, hq, pre, h1, h2⟩⟩
 ·exact ⟨he, .inl ⟨pre, h1, h2⟩⟩
 ·exact ⟨he, .inr ⟨pre, ⟨q, hq, h1⟩, h2⟩⟩

set_option maxHeartbeats 1000000 in
theorem parts_any (s : ByteArray) (w : World) :
  Calls Tryd.prog 100 #[.string s] w fun e w' => e = .returned (.func (.func 104) #[] #[.pointer (some ⟨w.heap.size, 0, none⟩)]) ∧ w' = w.alloc (.cells #[.string s] 9) := by
 go_enter Tryd.func100, Tryd.ntmps100
 go_wp2
 go_ret
 exact ⟨rfl, rfl⟩
end Go.Proofs.YtbmapdkcccdmfaaDoor
namespace Go.Proofs.YtbmapdkcccdmfaaDoor
open Go.RowKit Go.Shelf Go.Sort

theorem append_where {P : Program} (w : World) (base : Nat) (t ty e : TypeId) (i : TypeInfo) (z : Value) (size bytes : Nat) (ht : P.underlying t = some (.slice e)) (hi : P.info? e = some i) (hz : i.zero = some z)
  (hsize : i.size = size) (hby : i.bytes = bytes) (hzs : z.cells.size = size) (hsz : 0 < size)
  (v : Value) (n : Nat) (xs : List Value) (hown : w.ownsRow base e size v n xs)
  (a : Addr) (m c : Nat) (news : List Value) (hl : news.length = m * size) (hnews : ∀ j u, news[j]? = some u → w.cell? (a.add j) = some u) (h1 : ∀ u ∈ news, u.oneCell' = true)
  (h63 : n + m ≤ maxLen) (hbytes : (n + m) * bytes ≤ 140737488355328) (hbase : base ≤ w.heap.size) (hm : 0 < m) :
  ∃ v' w', (Builtin.append_ #[t, t] ty #[v, .slice (some a) m c]).run P w = .ok v' w' ∧ w'.ownsRow base e size v' (n + m) (xs ++ news) ∧ w.grownBy w' v.ownBlock ∧
   v' ≠ .slice none 0 0 ∧ (v'.ownBlock = v.ownBlock ∨ ∃ g, v'.ownBlock = some g ∧ w.heap.size ≤ g) := by
 obtain ⟨v', w', hr, h2, h3, h4⟩ := run_append_own (P := P) w base t ty e i z size bytes ht hi hz hsize hby hzs hsz v n xs hown a m c news hl hnews h1 h63 hbytes hbase
 refine ⟨v', w', hr, h2, h3, fun e => by have := (h4.1 e).2; omega, ?_⟩
 rcases hown.2 with ⟨rfl, rfl⟩ | ⟨g, cap, cur, rfl, hbg, hg, hnc, hcm, hcs, htake⟩
 ·have hx : xs = [] := List.eq_nil_of_length_eq_zero (by simpa using hown.1)
  subst hx
  obtain ⟨v2, w2, hr2, k2, -, k4⟩ := run_append_own (P := P) w w.heap.size t ty e i z size bytes ht hi hz hsize hby hzs hsz _ 0 [] (World.ownsRow_nil w w.heap.size e size) a m c news hl hnews h1 h63 hbytes (Nat.le_refl _)
  rw [hr] at hr2
  injection hr2 with e1 e2
  subst e1 e2
  obtain ⟨g, cp, hv⟩ : ∃ g c, v' = .slice (some ⟨g, 0, none⟩) (0 + m) c := by
   rcases k2.2 with ⟨h, _⟩ | ⟨g, c, _, h, _⟩
   ·have := (k4.1 h).2
    omega
   ·exact ⟨g, c, h⟩
  exact .inr ⟨g, by rw [hv]; rfl, (k2.lt g (by rw [hv]; rfl)).1⟩
 ·by_cases hroom : n + m ≤ cap
  ·obtain ⟨w2, hr2, -, -⟩ := run_append_fits (P := P) w base t ty e i size ht hi hsize g n cap xs hown a m c news hl hnews h1 hroom
   rw [hr] at hr2
   injection hr2 with e1 e2
   exact .inl (by rw [e1]; rfl)
  ·have hr2 := run_append_grow (P := P) w t ty e i z ht hi hz ⟨g, 0, none⟩ n cap xs (by rw [hsize]; exact hown.1) (fun j u hu => hown.cells (g := g) rfl j u hu) a m c news (by rw [hsize]; exact hl) hnews (by omega) (by simp only [maxLen] at h63; omega) (growslice_fits (by omega) (by rw [hby]; omega))
   rw [hr] at hr2
   injection hr2 with e1 e2
   exact .inr ⟨w.heap.size, by rw [e1]; rfl, Nat.le_refl _⟩

theorem wpList_append_where {P : Program} (w : World) {ops : Array Oper} {rest : List Oper} {o : Oper} {a : Act} {Q : Exit → Act → World → Prop} (hgd : o.guard = none) (sl x : Operand) (t : TypeId)
  (ho : o.op = .call { callee := .builtin .append, args := #[sl, x], argTypes := #[t, t] })
  (base : Nat) (e : TypeId) (i : TypeInfo) (z : Value) (size bytes : Nat) (ht : P.underlying t = some (.slice e)) (hi : P.info? e = some i) (hz : i.zero = some z) (hsize : i.size = size) (hby : i.bytes = bytes) (hzs : z.cells.size = size) (hsz : 0 < size)
  (v : Value) (n : Nat) (xs : List Value) (hs : a.eval sl = v) (hown : w.ownsRow base e size v n xs) (ad : Addr) (m c : Nat) (news : List Value) (hx : a.eval x = .slice (some ad) m c) (hl : news.length = m * size)
  (hnews : ∀ j u, news[j]? = some u → w.cell? (ad.add j) = some u) (h1 : ∀ u ∈ news, u.oneCell' = true) (h63 : n + m ≤ maxLen) (hbytes : (n + m) * bytes ≤ 140737488355328) (hbase : base ≤ w.heap.size) (hm : 0 < m)
  (h : ∀ v' w', w'.ownsRow base e size v' (n + m) (xs ++ news) → w.grownBy w' v.ownBlock → v' ≠ .slice none 0 0 → (v'.ownBlock = v.ownBlock ∨ ∃ g, v'.ownBlock = some g ∧ w.heap.size ≤ g) → wpList P ops Q rest (a.put o.dst v') w') : wpList P ops Q (o :: rest) a w := by
 refine wpList_plain hgd fun K hK => ?_
 obtain ⟨v', w', hr, h2, h3, h4, h5⟩ := append_where (P := P) w base t o.type e i z size bytes ht hi hz hsize hby hzs hsz v n xs hown ad m c news hl hnews h1 h63 hbytes hbase hm
 unfold Oper.wp execOp
 simp only [ho, resolve, invoke, builtin, Sem.run_bind, Sem.run_pure, Result.andThen_ok, List.map_toArray, List.map_cons, List.map_nil, hs, hx, hr]
 exact hK _ _ (h v' w' h2 h3 h4 h5)
end Go.Proofs.YtbmapdkcccdmfaaDoor
