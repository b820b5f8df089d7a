/- Lemmas: Nodes in memory; formOf, newNode, standsWithin. reference, leafOf, bridgeOf. Entries parted by what their paths have at a place: parted. Sorted entries, and the node that they have: in pure terms. Right pairs, sorted, make sorted entries. nodeOf, at last. Root. -/
import Derived.Test.YtbmapdkcccdmfaaDoorM1
import Derived.Test.YtbmapdkcccdmfaaDoorM10
import Derived.Test.YtbmapdkcccdmfaaDoorM11
import Derived.Test.YtbmapdkcccdmfaaDoorM12
import Derived.Test.YtbmapdkcccdmfaaDoorM13
import Derived.Test.YtbmapdkcccdmfaaDoorM14
import Derived.Test.YtbmapdkcccdmfaaDoorM15
import Derived.Test.YtbmapdkcccdmfaaDoorM16
import Derived.Test.YtbmapdkcccdmfaaDoorM17
import Derived.Test.YtbmapdkcccdmfaaDoorM18
import Derived.Test.YtbmapdkcccdmfaaDoorM19
import Derived.Test.YtbmapdkcccdmfaaDoorM2
import Derived.Test.YtbmapdkcccdmfaaDoorM20
import Derived.Test.YtbmapdkcccdmfaaDoorM21
import Derived.Test.YtbmapdkcccdmfaaDoorM22
import Derived.Test.YtbmapdkcccdmfaaDoorM23
import Derived.Test.YtbmapdkcccdmfaaDoorM24
import Derived.Test.YtbmapdkcccdmfaaDoorM25
import Derived.Test.YtbmapdkcccdmfaaDoorM26
import Derived.Test.YtbmapdkcccdmfaaDoorM3
import Derived.Test.YtbmapdkcccdmfaaDoorM32
import Derived.Test.YtbmapdkcccdmfaaDoorM33
import Derived.Test.YtbmapdkcccdmfaaDoorM34
import Derived.Test.YtbmapdkcccdmfaaDoorM35
import Derived.Test.YtbmapdkcccdmfaaDoorM36
import Derived.Test.YtbmapdkcccdmfaaDoorM37
import Derived.Test.YtbmapdkcccdmfaaDoorM4
import Derived.Test.YtbmapdkcccdmfaaDoorM6
import Derived.Test.YtbmapdkcccdmfaaDoorM7
import Derived.Test.YtbmapdkcccdmfaaDoorM8
import Derived.Test.YtbmapdkcccdmfaaDoorM9
import Derived.Test.YtbmapdkcccdmfaaDoorRows
namespace Go.Proofs.YtbmapdkcccdmfaaDoor
open Go.RowKit Go.Shelf Go.Sort

mutual
inductive Nd where
 | mk (x : It) (ss : Sts)
inductive Sts where
 | nil
 | cons (p : ByteArray) (n : Nd) (r : Sts)
end
namespace Nd
def x : Nd → It | .mk x _ => x
def ss : Nd → Sts | .mk _ ss => ss
end Nd
def Sts.len : Sts → Nat
 | .nil => 0
 | .cons _ _ r => r.len + 1
def refI (x : It) : It := if (eS x).size < 32 then x else .mk false (sumOf (eS x)) []
theorem zero_new (w : World) : ItIn w.heap.size zeroI (w.alloc (.cells #[.bool false, .string ⟨#[]⟩, .slice none 0 0] 55)) := World.alloc_heap_new w _

end Go.Proofs.YtbmapdkcccdmfaaDoor
namespace Go.Proofs.YtbmapdkcccdmfaaDoor
open Go.RowKit Go.Shelf Go.Sort

theorem sum_one (t : ByteArray) (ht : t.size ≤ 140737488355328) (w : World) (hl : Laid w) :
  Calls Tryd.prog 21 #[.slice (some ⟨w.heap.size, 0, none⟩) 1 1] (w.alloc (.cells #[.string t] 9)) fun e w' => e = .returned (.string (sumOf t)) ∧ Below w.heap.size w w' := by
 have B0 := be_new w (.cells #[.string t] 9)
 have h := sum_list w.heap.size 0 1 [t] (w.alloc (.cells #[.string t] 9)) (hl.below B0) (fun j x hx => by
  match j, hx with
  | 0, hx => cases hx; simp) (by simp) (by simp) (by simp) (by simpa [Lib.join] using ht)
 rw [join_one] at h
 exact h.mono fun e w' ⟨he, hb⟩ => ⟨he, belowStep B0 B0.size hb⟩

theorem fm_size (p : ByteArray) (leaf : Bool) : (fmS p leaf).size ≤ p.size + 2 := by
 unfold fmS
 split
 ·unfold fmOf
  rw [n_by8_size, full_size, hd_size]
  omega
 ·exact Nat.zero_le _

def brN (p : ByteArray) (nd : Nd) : Nd := .mk (.mk true ⟨#[]⟩ [.mk false (fmS p false) [], refI nd.x]) (.cons p nd .nil)
end Go.Proofs.YtbmapdkcccdmfaaDoor
namespace Go.Proofs.YtbmapdkcccdmfaaDoor
open Go.RowKit Go.Shelf Go.Sort
attribute [local go_sem] Oper.semAt_some

def hfA (d : Nat) (es : List Pr) (k : Nat) : Int := bt (es.getD k (⟨#[]⟩, ⟨#[]⟩)).1 d
def rn (d : Nat) (h : Int) : List Pr → Nat
 | [] => 0
 | e :: r => if bt e.1 d = h then rn d h r + 1 else 0
theorem rn_le (d : Nat) (h : Int) : ∀ es : List Pr, rn d h es ≤ es.length
 | [] => Nat.le_refl _
 | e :: r => by
  have := rn_le d h r
  simp only [rn, List.length_cons]
  split <;> omega
theorem drop_at {es : List Pr} {k : Nat} {e : Pr} (h : es[k]? = some e) : es.drop k = e :: es.drop (k + 1) := by
 obtain ⟨h1, h2⟩ := List.getElem?_eq_some_iff.1 h
 rw [List.drop_eq_getElem_cons h1, h2]
theorem hfA_at {d : Nat} {es : List Pr} {k : Nat} {e : Pr} (h : es[k]? = some e) : hfA d es k = bt e.1 d := by
 unfold hfA
 rw [List.getD_eq_getElem?_getD, h]
 rfl
theorem rn_pos {d : Nat} {es : List Pr} {k : Nat} (h : k < es.length) : 1 ≤ rn d (hfA d es k) (es.drop k) := by
 have he : es[k]? = some es[k] := List.getElem?_eq_getElem h
 rw [drop_at he, hfA_at he]
 show 1 ≤ (if _ then _ else _)
 rw [if_pos rfl]
 omega
def pgF (d : Nat) (es : List Pr) : Nat → Nat → List (Nat × Nat)
 | 0, _ => []
 | f + 1, k => if k < es.length then (k, rn d (hfA d es k) (es.drop k)) :: pgF d es f (k + rn d (hfA d es k) (es.drop k)) else []
theorem pgF_pg (d : Nat) (es : List Pr) : ∀ (f g k : Nat), es.length ≤ f + k → es.length ≤ g + k → pgF d es f k = pgF d es g k
 | 0, 0, _, _, _ => rfl
 | 0, g + 1, k, h, _ => by
  show [] = if _ then _ else _
  rw [if_neg (by omega)]
 | f + 1, 0, k, _, h => by
  show (if _ then _ else _) = []
  rw [if_neg (by omega)]
 | f + 1, g + 1, k, h, h' => by
  show (if _ then _ else _) = (if _ then _ else _)
  split
  ·rename_i hk
   have := rn_pos (d := d) hk
   rw [pgF_pg d es f g _ (by omega) (by omega)]
  ·rfl
def pg (d : Nat) (es : List Pr) (k : Nat) : List (Nat × Nat) := pgF d es (es.length - k) k
theorem pg_eq (d : Nat) (es : List Pr) (k : Nat) : pg d es k = if k < es.length then (k, rn d (hfA d es k) (es.drop k)) :: pg d es (k + rn d (hfA d es k) (es.drop k)) else [] := by
 by_cases h : k < es.length
 ·have := rn_pos (d := d) h
  obtain ⟨f, hf⟩ : ∃ f, es.length - k = f + 1 := ⟨es.length - k - 1, by omega⟩
  rw [if_pos h]
  unfold pg
  rw [hf]
  show (if _ then _ else _) = _
  rw [if_pos h, pgF_pg d es f (es.length - (k + rn d (hfA d es k) (es.drop k))) _ (by omega) (by omega)]
 ·rw [if_neg h]
  unfold pg
  rw [show es.length - k = 0 by omega]
  rfl
theorem pg_mem (d : Nat) (es : List Pr) : ∀ (f k : Nat) (e : Nat × Nat), e ∈ pgF d es f k → k ≤ e.1 ∧ e.1 < es.length ∧ e.2 = rn d (hfA d es e.1) (es.drop e.1)
 | 0, _, _, h => by cases h
 | f + 1, k, e, h => by
  have h' : e ∈ (if _ then _ else _ : List (Nat × Nat)) := h
  split at h'
  ·rename_i hk
   rcases List.mem_cons.1 h' with rfl | h2
   ·exact ⟨Nat.le_refl _, hk, rfl⟩
   ·have := pg_mem d es f _ e h2
    exact ⟨by omega, this.2⟩
  ·cases h'

def Kp (b bY : Nat) (X1 X2 : World) : Prop := X1.heap.size ≤ X2.heap.size ∧ X2.heap[b]? = X1.heap[b]? ∧ X2.heap[bY]? = X1.heap[bY]?
theorem Kp.refl (b bY : Nat) (X1 : World) : Kp b bY X1 X1 := ⟨Nat.le_refl _, rfl, rfl⟩
theorem Kp.trans {b bY : Nat} {X1 X2 X3 : World} (h : Kp b bY X1 X2) (h' : Kp b bY X2 X3) : Kp b bY X1 X3 := ⟨Nat.le_trans h.1 h'.1, h'.2.1.trans h.2.1, h'.2.2.trans h.2.2⟩
theorem Kp.below {b bY n : Nat} {X1 X2 : World} (h : Below n X1 X2) (hb : b < n) (hY : bY < n) : Kp b bY X1 X2 := ⟨h.size, h.block b hb, h.block bY hY⟩
theorem Kp.prs {b bY o : Nat} {X1 X2 : World} {es : List Pr} (h : Kp b bY X1 X2) (hp : prs X1 b o es) : prs X2 b o es := fun j e he => ⟨(World.cell?_of_block (w := X1) (a := ⟨b, _, none⟩) h.2.1).trans (hp j e he).1, (World.cell?_of_block (w := X1) (a := ⟨b, _, none⟩) h.2.1).trans (hp j e he).2⟩
theorem Kp.cell {b bY : Nat} {X1 X2 : World} (h : Kp b bY X1 X2) (k : Nat) : X2.cell? ⟨bY, k, none⟩ = X1.cell? ⟨bY, k, none⟩ := World.cell?_of_block (w := X1) (a := ⟨bY, k, none⟩) h.2.2

end Go.Proofs.YtbmapdkcccdmfaaDoor
namespace Go.Proofs.YtbmapdkcccdmfaaDoor
open Go.RowKit Go.Shelf Go.Sort

def LtB (a b : ByteArray) : Prop := ∃ t, t ≤ a.size ∧ t < b.size ∧ (∀ s, s < t → bt a s = bt b s) ∧ (t = a.size ∨ bt a t < bt b t)
structure Ok (d : Nat) (es : List Pr) : Prop where
 pos : 1 ≤ es.length
 few : es.length ≤ 200
 sz : ∀ (j : Nat) (e : Pr), es[j]? = some e → d ≤ e.1.size ∧ e.1.size ≤ 128 ∧ e.2.size ≤ 1000
 srt : ∀ (i j : Nat) (e f : Pr), i < j → es[i]? = some e → es[j]? = some f → LtB e.1 f.1
 alk : ∀ (i j : Nat) (e f : Pr) (t : Nat), es[i]? = some e → es[j]? = some f → t < d → bt e.1 t = bt f.1 t
 hlf : ∀ (j : Nat) (e : Pr) (t : Nat), es[j]? = some e → 0 ≤ bt e.1 t ∧ bt e.1 t < 16
theorem Ok.longer {d : Nat} {es : List Pr} (h : Ok d es) {i j : Nat} {e f : Pr} (hij : i < j) (he : es[i]? = some e) (hf : es[j]? = some f) : d < f.1.size := by
 obtain ⟨t, h1, h2, h3, h4⟩ := h.srt i j e f hij he hf
 by_cases ht : t < d
 ·have h5 := (h.sz i e he).1
  have h6 := h.alk i j e f t he hf ht
  rcases h4 with h4 | h4 <;> omega
 ·omega
theorem Ok.next {d : Nat} {es : List Pr} (h : Ok d es) (x : Int) (hx : ∀ (j : Nat) (e : Pr), es[j]? = some e → d < e.1.size ∧ bt e.1 d = x) : Ok (d + 1) es where
 pos := h.pos
 few := h.few
 sz j e he := ⟨(hx j e he).1, (h.sz j e he).2⟩
 srt := h.srt
 hlf := h.hlf
 alk i j e f t he hf ht := by
  by_cases h1 : t < d
  ·exact h.alk i j e f t he hf h1
  ·obtain rfl : t = d := by omega
   rw [(hx i e he).2, (hx j f hf).2]
theorem part_at (es : List Pr) (k m j : Nat) : ((es.drop k).take m)[j]? = if j < m then es[k + j]? else none := by
 rw [List.getElem?_take]
 split
 ·rw [List.getElem?_drop]
 ·rfl
theorem part_get {es : List Pr} {k m j : Nat} {e : Pr} (h : ((es.drop k).take m)[j]? = some e) : j < m ∧ es[k + j]? = some e := by
 rw [part_at] at h
 split at h
 ·rename_i hj
  exact ⟨hj, h⟩
 ·cases h
theorem part_len (es : List Pr) (k m : Nat) (h : k + m ≤ es.length) : ((es.drop k).take m).length = m := by
 rw [List.length_take, List.length_drop]
 omega
theorem Ok.part {d : Nat} {es : List Pr} (h : Ok d es) {k m : Nat} (hm : 1 ≤ m) (hk : k + m ≤ es.length) : Ok d ((es.drop k).take m) where
 pos := by rw [part_len es k m hk]; exact hm
 few := by rw [part_len es k m hk]; have := h.few; omega
 sz j e he := h.sz _ e (part_get he).2
 srt i j e f hij he hf := h.srt _ _ e f (by omega) (part_get he).2 (part_get hf).2
 alk i j e f t he hf ht := h.alk _ _ e f t (part_get he).2 (part_get hf).2 ht
 hlf j e t he := h.hlf _ e t (part_get he).2
theorem rn_all (d : Nat) (x : Int) : ∀ (es : List Pr) (j : Nat) (e : Pr), j < rn d x es → es[j]? = some e → bt e.1 d = x
 | [], j, e, h, _ => by simp [rn] at h
 | a :: r, j, e, h, he => by
  simp only [rn] at h
  split at h
  ·rename_i ha
   match j, he with
   | 0, he =>
    cases he
    exact ha
   | j + 1, he => exact rn_all d x r j e (by omega) he
  ·omega
theorem Ok.bridge {d : Nat} {es : List Pr} (h : Ok d es) {e g : Pr} (he : es[0]? = some e) (hg : es[es.length - 1]? = some g) (a : Nat) (h1 : d + a ≤ e.1.size) (h2 : d + a ≤ g.1.size) (hc : ∀ s, s < a → bt e.1 (d + s) = bt g.1 (d + s)) : Ok (d + a) es := by
 have hc' : ∀ t, t < d + a → bt e.1 t = bt g.1 t := fun t ht => by
  by_cases h3 : t < d
  ·exact h.alk _ _ e g t he hg h3
  ·have := hc (t - d) (by omega)
   rw [show d + (t - d) = t by omega] at this
   exact this
 have key : ∀ (j : Nat) (f : Pr), es[j]? = some f → d + a ≤ f.1.size ∧ ∀ t, t < d + a → bt e.1 t = bt f.1 t := fun j f hf => by
  have hjl := (List.getElem?_eq_some_iff.1 hf).1
  by_cases hj0 : j = 0
  ·subst hj0
   rw [he] at hf
   cases hf
   exact ⟨h1, fun _ _ => rfl⟩
  ·by_cases hjn : j = es.length - 1
   ·subst hjn
    rw [hg] at hf
    cases hf
    exact ⟨h2, hc'⟩
   ·obtain ⟨t1, p1, p2, p3, p4⟩ := h.srt 0 j e f (by omega) he hf
    obtain ⟨t2, q1, q2, q3, q4⟩ := h.srt j (es.length - 1) f g (by omega) hf hg
    have ht : d + a ≤ t1 := by
     by_cases ht : d + a ≤ t1
     ·exact ht
     ·exfalso
      have p5 : bt e.1 t1 < bt f.1 t1 := by
       rcases p4 with p4 | p4
       ·omega
       ·exact p4
      have p6 := hc' t1 (by omega)
      by_cases h3 : t2 < t1
      ·have h4 := p3 t2 h3
       have h5 := hc' t2 (by omega)
       rcases q4 with q4 | q4 <;> omega
      ·by_cases h4 : t2 = t1
       ·subst h4
        rcases q4 with q4 | q4 <;> omega
       ·have := q3 t1 (by omega)
        omega
    exact ⟨by omega, fun t h3 => p3 t (by omega)⟩
 exact ⟨h.pos, h.few, fun j f hf => ⟨(key j f hf).1, (h.sz j f hf).2⟩, h.srt, fun i j f f2 t hf hf2 ht => by rw [← (key i f hf).2 t ht, ← (key j f2 hf2).2 t ht], h.hlf⟩

def lfN (p v : ByteArray) : Nd := .mk (.mk true ⟨#[]⟩ [.mk false (fmS p true) [], .mk false v []]) .nil
def Sts.snoc : Sts → ByteArray → Nd → Sts
 | .nil, p, n => .cons p n .nil
 | .cons q m r, p, n => .cons q m (r.snoc p n)
theorem Sts.snoc_len : ∀ (s : Sts) (p : ByteArray) (n : Nd), (s.snoc p n).len = s.len + 1
 | .nil, _, _ => rfl
 | .cons _ _ r, p, n => by
  show (r.snoc p n).len + 1 = r.len + 1 + 1
  rw [Sts.snoc_len r p n]
def zIt : It := .mk false ⟨#[]⟩ []
def oneB (h : Int) : ByteArray := ⟨#[UInt8.ofNat h.toNat]⟩
def fkI (v : ByteArray) (ks : List (Int × Nd)) : List It := ks.foldl (fun l k => l.set k.1.toNat (refI k.2.x)) (List.replicate 16 zIt ++ [.mk false v []])
def fkS (ks : List (Int × Nd)) : Sts := ks.foldl (fun s k => s.snoc (oneB k.1) k.2) .nil
theorem fold_len (ks : List (Int × Nd)) : ∀ l : List It, (ks.foldl (fun l k => l.set k.1.toNat (refI k.2.x)) l).length = l.length := by
 induction ks with
 | nil => intro l; rfl
 | cons k r ih => intro l; rw [List.foldl_cons, ih, List.length_set]
theorem fkI_len (v : ByteArray) (ks : List (Int × Nd)) : (fkI v ks).length = 17 := by unfold fkI; rw [fold_len]; rfl
def vlE (d : Nat) (es : List Pr) : ByteArray := match es with
 | e :: _ => if e.1.size = d then e.2 else ⟨#[]⟩
 | [] => ⟨#[]⟩
def rsE (d : Nat) (es : List Pr) : List Pr := match es with
 | e :: r => if e.1.size = d then r else es
 | [] => []
def kdE (nd : List Pr → Nd) (d : Nat) (rs : List Pr) (g : Nat × Nat) : Int × Nd := (hfA d rs g.1, nd ((rs.drop g.1).take g.2))
def fkN (nd : List Pr → Nd) (d : Nat) (es : List Pr) : Nd :=
 .mk (.mk true ⟨#[]⟩ (fkI (vlE d es) ((pg d (rsE d es) 0).map (kdE nd d (rsE d es))))) (fkS ((pg d (rsE d es) 0).map (kdE nd d (rsE d es))))
def tl (d : Nat) (e : Pr) : ByteArray := e.1.extract d e.1.size
def ndF : Nat → Nat → List Pr → Nd
 | 0, _, _ => .mk zIt .nil
 | _ + 1, _, [] => .mk zIt .nil
 | _ + 1, d, [e] => lfN (tl d e) e.2
 | f + 1, d, e :: e2 :: r =>
  if common (tl d e) (tl d ((e2 :: r).getLastD e2)) = 0 then fkN (ndF f (d + 1)) d (e :: e2 :: r)
  else brN ((tl d e).extract 0 (common (tl d e) (tl d ((e2 :: r).getLastD e2)))) (ndF f (d + common (tl d e) (tl d ((e2 :: r).getLastD e2))) (e :: e2 :: r))
theorem tl_size (d : Nat) (e : Pr) : (tl d e).size = e.1.size - d := by unfold tl; rw [ByteArray.size_extract]; omega
theorem tl_bt (d : Nat) (e : Pr) (j : Nat) (h : d + j < e.1.size) : bt (tl d e) j = bt e.1 (d + j) := by
 rw [← bt_get (tl d e) j (by rw [tl_size]; omega), ← bt_get e.1 (d + j) h]
 unfold tl
 rw [ByteArray.getElem_extract]
theorem eS_size (x : It) : (eS x).size ≤ 65536 := by
 unfold eS
 split
 ·rename_i h
  unfold eE at h
  split at h
  ·cases h
  ·split at h
   ·split at h
    ·cases h
    ·omega
   ·cases h
 ·exact Nat.zero_le _
theorem tbIs_set : ∀ (l : List It) (i : Nat) (x : It), tbIs (l.set i x) ≤ tbIs l + tbI x
 | [], i, x => by simp [tbIs]
 | a :: r, 0, x => by simp only [List.set_cons_zero, tbIs]; omega
 | a :: r, i + 1, x => by
  have := tbIs_set r i x
  simp only [List.set_cons_succ, tbIs]
  omega
theorem fold_tb : ∀ (ks : List (Int × Nd)) (l : List It), tbIs (ks.foldl (fun l k => l.set k.1.toNat (refI k.2.x)) l) ≤ tbIs l + (ks.map fun k => tbI (refI k.2.x)).sum
 | [], l => by simp
 | k :: r, l => by
  have h1 := fold_tb r (l.set k.1.toNat (refI k.2.x))
  have h2 := tbIs_set l k.1.toNat (refI k.2.x)
  simp only [List.foldl_cons, List.map_cons, List.sum_cons]
  omega
theorem fkI_tb (v : ByteArray) (ks : List (Int × Nd)) : tbIs (fkI v ks) ≤ 153 + v.size + (ks.map fun k => tbI (refI k.2.x)).sum := by
 have h := fold_tb ks (List.replicate 16 zIt ++ [.mk false v []])
 have e : tbIs (List.replicate 16 zIt ++ [.mk false v []]) = 153 + v.size := by
  show tbIs [zIt, zIt, zIt, zIt, zIt, zIt, zIt, zIt, zIt, zIt, zIt, zIt, zIt, zIt, zIt, zIt, .mk false v []] = _
  have : tbI zIt = 9 := rfl
  simp only [tbIs, this, tbI]
  omega
 unfold fkI
 omega
theorem refI_tb (x : It) (B : Nat) (h : tbI x + 400 ≤ B) (hB : 441 ≤ B) : tbI (refI x) + 400 ≤ B := by
 unfold refI
 split
 ·exact h
 ·simp only [tbI, tbIs]
  rw [sum_size]
  omega
theorem pg_sum (d : Nat) (es : List Pr) : ∀ (f k : Nat), es.length ≤ f + k → k ≤ es.length → ((pgF d es f k).map fun g => g.2).sum + k = es.length
 | 0, k, h, h' => by
  simp only [pgF, List.map_nil, List.sum_nil]
  omega
 | f + 1, k, h, h' => by
  simp only [pgF]
  split
  ·rename_i hk
   have h1 := rn_pos (d := d) hk
   have h2 := rn_le d (hfA d es k) (es.drop k)
   rw [List.length_drop] at h2
   have h3 := pg_sum d es f (k + rn d (hfA d es k) (es.drop k)) (by omega) (by omega)
   simp only [List.map_cons, List.sum_cons]
   omega
  ·simp only [List.map_nil, List.sum_nil]
   omega
set_option maxRecDepth 20000 in
theorem sum_step (A C P Q n : Nat) (h1 : A + 400 ≤ P) (h2 : C + 400 * n ≤ Q) : A + C + 400 * (n + 1) ≤ P + Q := by omega
theorem sum_of (B : Nat) (F : Nat × Nat → Nat) : ∀ gs : List (Nat × Nat), (∀ g ∈ gs, F g + 400 ≤ B * g.2) → (gs.map F).sum + 400 * gs.length ≤ B * (gs.map fun g => g.2).sum
 | [], _ => by simp
 | g :: r, h => by
  have h1 := h g (by simp)
  have h2 := sum_of B F r (fun g hg => h g (by simp [hg]))
  simp only [List.map_cons, List.sum_cons, List.length_cons]
  rw [Nat.mul_add B]
  exact sum_step _ _ _ _ _ h1 h2
theorem sum_le (B : Nat) (nd : List Pr → Nd) (d : Nat) (rs : List Pr) (gs : List (Nat × Nat)) (h : ∀ g ∈ gs, tbI (refI (nd ((rs.drop g.1).take g.2)).x) + 400 ≤ B * g.2) : (gs.map fun g => tbI (refI (kdE nd d rs g).2.x)).sum + 400 * gs.length ≤ B * (gs.map fun g => g.2).sum := sum_of B _ gs h
theorem Ok.group {d : Nat} {rs : List Pr} (h : Ok d rs) (hl : ∀ (j : Nat) (e : Pr), rs[j]? = some e → d < e.1.size) {g : Nat × Nat} (hg : g ∈ pg d rs 0) : 1 ≤ g.2 ∧ g.1 + g.2 ≤ rs.length ∧ Ok (d + 1) ((rs.drop g.1).take g.2) := by
 obtain ⟨_, h1, h2⟩ := pg_mem d rs _ _ g hg
 have h3 := rn_pos (d := d) h1
 have h4 := rn_le d (hfA d rs g.1) (rs.drop g.1)
 rw [List.length_drop] at h4
 have h5 : 1 ≤ g.2 := by omega
 have h6 : g.1 + g.2 ≤ rs.length := by omega
 refine ⟨h5, h6, (h.part h5 h6).next (hfA d rs g.1) fun j e he => ?_⟩
 obtain ⟨hj, he'⟩ := part_get he
 refine ⟨hl _ e he', rn_all d _ (rs.drop g.1) j e (by omega) ?_⟩
 rw [List.getElem?_drop]
 exact he'
theorem Ok.rest {d : Nat} {es : List Pr} (h : Ok d es) (h2 : 2 ≤ es.length) : Ok d (rsE d es) ∧ (∀ (j : Nat) (e : Pr), (rsE d es)[j]? = some e → d < e.1.size) ∧ (vlE d es).size ≤ 1000 ∧ (rsE d es = es ∧ vlE d es = ⟨#[]⟩ ∨ (rsE d es).length + 1 = es.length) := by
 match es, h, h2 with
 | e :: r, h, h2 =>
  have he : (e :: r)[0]? = some e := rfl
  unfold rsE vlE
  dsimp only
  split
  ·have hr : Ok d r := by
    have := h.part (k := 1) (m := r.length) (by simp at h2; omega) (by simp; omega)
    simpa using this
   refine ⟨hr, fun j f hf => h.longer (i := 0) (j := j + 1) (by omega) he (by simpa using hf), (h.sz 0 e he).2.2, .inr rfl⟩
  ·rename_i hne
   refine ⟨h, fun j f hf => ?_, Nat.zero_le _, .inl ⟨rfl, rfl⟩⟩
   by_cases hj : j = 0
   ·subst hj
    rw [he] at hf
    cases hf
    have := (h.sz 0 e he).1
    omega
   ·exact h.longer (i := 0) (j := j) (by omega) he hf
theorem fork_tb (nd : List Pr → Nd) (d : Nat) (es : List Pr) (h : Ok d es) (h2 : 2 ≤ es.length) (hg : rsE d es = es → 2 ≤ (pg d es 0).length)
  (hn : ∀ gs : List Pr, Ok (d + 1) gs → tbI (nd gs).x + 400 ≤ 1600 * gs.length) : tbI (fkN nd d es).x + 600 ≤ 1600 * es.length := by
 obtain ⟨k1, k2, k3, k4⟩ := h.rest h2
 have hs := pg_sum d (rsE d es) ((rsE d es).length - 0) 0 (by omega) (Nat.zero_le _)
 have hle := sum_le 1600 nd d (rsE d es) (pg d (rsE d es) 0) (fun g hg => by
  obtain ⟨g1, g2, g3⟩ := k1.group k2 hg
  have h3 := hn _ g3
  rw [part_len _ _ _ g2] at h3
  exact refI_tb _ _ h3 (by omega))
 have hf := fkI_tb (vlE d es) ((pg d (rsE d es) 0).map (kdE nd d (rsE d es)))
 rw [List.map_map] at hf
 have e : ((fun k : Int × Nd => tbI (refI k.2.x)) ∘ kdE nd d (rsE d es)) = fun g => tbI (refI (kdE nd d (rsE d es) g).2.x) := rfl
 rw [e] at hf
 have et : tbI (fkN nd d es).x = 0 + 9 + tbIs (fkI (vlE d es) ((pg d (rsE d es) 0).map (kdE nd d (rsE d es)))) := by unfold fkN; rfl
 rw [et]
 change ((pg d (rsE d es) 0).map fun g => g.2).sum + 0 = _ at hs
 have hp := k1.pos
 have hp1 : 1 ≤ (pg d (rsE d es) 0).length := by
  rw [pg_eq, if_pos (by omega)]
  simp
 rcases k4 with ⟨k4, k5⟩ | k4
 ·have := hg k4
  rw [k5] at hf ⊢
  simp only [k4] at hf hle hs hp1 ⊢
  have : (⟨#[]⟩ : ByteArray).size = 0 := rfl
  omega
 ·omega
theorem n_bt_eq (s : ByteArray) (j : Nat) : n_bt s j = bt s j := rfl
theorem parts_two {d : Nat} {es : List Pr} (h : Ok d es) (h2 : 2 ≤ es.length) {e g : Pr} (he : es[0]? = some e) (hg : es[es.length - 1]? = some g) (hd : d < e.1.size) (hc : common (tl d e) (tl d g) = 0) : 2 ≤ (pg d es 0).length := by
 have hd2 : d < g.1.size := h.longer (i := 0) (j := es.length - 1) (by omega) he hg
 have hs := (common_spec (tl d e) (tl d g)).2.2.2
 rw [hc, n_bt_eq, n_bt_eq, tl_size, tl_size, tl_bt d e 0 (by omega), tl_bt d g 0 (by omega)] at hs
 have hne : bt e.1 d ≠ bt g.1 d := fun h' => hs ⟨by omega, by omega, h'⟩
 have h1 := pg_eq d es 0
 rw [if_pos (by omega)] at h1
 have hr := rn_le d (hfA d es 0) (es.drop 0)
 rw [List.length_drop] at hr
 have hlt : rn d (hfA d es 0) (es.drop 0) < es.length := by
  by_cases h3 : rn d (hfA d es 0) (es.drop 0) < es.length
  ·exact h3
  ·have h4 := rn_all d (hfA d es 0) (es.drop 0) (es.length - 1) g (by omega) (by rw [List.drop_zero]; exact hg)
   rw [hfA_at he] at h4
   exact absurd h4.symm hne
 rw [h1, pg_eq d es (0 + _), if_pos (by omega)]
 simp
theorem brN_tb (q : ByteArray) (n : Nd) (hq : q.size ≤ 128) (B : Nat) (h : tbI n.x + 600 ≤ B) (hB : 641 ≤ B) : tbI (brN q n).x + 400 ≤ B := by
 have h1 := fm_size q false
 have h2 := refI_tb n.x (B - 200) (by omega) (by omega)
 have e : tbI (brN q n).x = 0 + 9 + (((fmS q false).size + 9 + 0) + (tbI (refI n.x) + 0)) := by unfold brN; rfl
 rw [e]
 clear e
 generalize tbI (refI n.x) = A at h2 ⊢
 omega
theorem lfN_tb (q v : ByteArray) (hq : q.size ≤ 128) (hv : v.size ≤ 1000) : tbI (lfN q v).x + 400 ≤ 1600 := by
 have h1 := fm_size q true
 have e : tbI (lfN q v).x = 0 + 9 + (((fmS q true).size + 9 + 0) + ((v.size + 9 + 0) + 0)) := by unfold lfN; rfl
 rw [e]
 clear e
 omega
theorem last_at (e e2 : Pr) (r : List Pr) : (e :: e2 :: r)[(e :: e2 :: r).length - 1]? = some ((e2 :: r).getLastD e2) := by
 rw [← List.getLast?_eq_getElem?]
 simp only [List.getLastD]
 rw [List.getLast?_cons_cons]
 exact List.getLast?_eq_some_getLast _
theorem common_ends (d : Nat) (e g : Pr) (hd : d ≤ e.1.size) (hd2 : d ≤ g.1.size) : common (tl (d + common (tl d e) (tl d g)) e) (tl (d + common (tl d e) (tl d g)) g) = 0 := by
 obtain ⟨h1, h2, h3, h4⟩ := common_spec (tl d e) (tl d g)
 obtain ⟨a, ha⟩ : ∃ a, common (tl d e) (tl d g) = a := ⟨_, rfl⟩
 rw [ha] at h1 h2 h3 h4 ⊢
 rw [tl_size] at h1 h2 h4
 rw [tl_size] at h4
 refine (common_is _ _ 0 (Nat.zero_le _) (Nat.zero_le _) (fun j hj => by omega) fun h => h4 ?_).symm
 rw [tl_size, tl_size, n_bt_eq, n_bt_eq] at h
 obtain ⟨k1, k2, k3⟩ := h
 refine ⟨by omega, by omega, ?_⟩
 rw [tl_bt _ e 0 (by omega), tl_bt _ g 0 (by omega)] at k3
 rw [n_bt_eq, n_bt_eq, tl_bt d e a (by omega), tl_bt d g a (by omega)]
 exact k3
theorem common_ok {d : Nat} {es : List Pr} (h : Ok d es) {e g : Pr} (he : es[0]? = some e) (hg : es[es.length - 1]? = some g) : Ok (d + common (tl d e) (tl d g)) es := by
 obtain ⟨h1, h2, h3, h4⟩ := common_spec (tl d e) (tl d g)
 rw [tl_size] at h1 h2
 have k1 := (h.sz _ e he).1
 have k2 := (h.sz _ g hg).1
 refine h.bridge he hg _ (by omega) (by omega) fun s hs => ?_
 have := h3 s hs
 rw [n_bt_eq, n_bt_eq, tl_bt d e s (by omega), tl_bt d g s (by omega)] at this
 exact this
theorem nd_fork (f d : Nat) (e e2 : Pr) (r : List Pr) (h : common (tl d e) (tl d ((e2 :: r).getLastD e2)) = 0) : ndF (f + 1) d (e :: e2 :: r) = fkN (ndF f (d + 1)) d (e :: e2 :: r) := by
 simp only [ndF]
 rw [if_pos h]
theorem nd_bridge (f d : Nat) (e e2 : Pr) (r : List Pr) (a : Nat) (ha : common (tl d e) (tl d ((e2 :: r).getLastD e2)) = a) (h : a ≠ 0) : ndF (f + 1) d (e :: e2 :: r) = brN ((tl d e).extract 0 a) (ndF f (d + a) (e :: e2 :: r)) := by
 simp only [ndF]
 rw [ha, if_neg h]
theorem nd_tb : ∀ (N f : Nat), f ≤ N → ∀ (d : Nat) (es : List Pr), Ok d es → tbI (ndF f d es).x + 400 ≤ 1600 * es.length ∧ (∀ e g : Pr, es[0]? = some e → es[es.length - 1]? = some g → 2 ≤ es.length → common (tl d e) (tl d g) = 0 → tbI (ndF f d es).x + 600 ≤ 1600 * es.length) := by
 intro N
 induction N with
 | zero =>
  intro f hf d es h
  obtain rfl : f = 0 := by omega
  have := h.pos
  have e : tbI (ndF 0 d es).x = 9 := rfl
  rw [e]
  exact ⟨by omega, fun _ _ _ _ _ _ => by omega⟩
 | succ N IH =>
  intro f hf d es h
  match f, es, h with
  | 0, es, h =>
   have := h.pos
   have e : tbI (ndF 0 d es).x = 9 := rfl
   rw [e]
   exact ⟨by omega, fun _ _ _ _ _ _ => by omega⟩
  | f + 1, [], h => exact absurd h.pos (by simp)
  | f + 1, [e], h =>
   have h0 := h.sz 0 e rfl
   exact ⟨lfN_tb _ _ (by rw [tl_size]; omega) h0.2.2, fun _ _ _ _ h2 _ => by simp at h2⟩
  | f + 1, e :: e2 :: r, h =>
   have he : (e :: e2 :: r)[0]? = some e := rfl
   have hg := last_at e e2 r
   have h2 : 2 ≤ (e :: e2 :: r).length := by simp
   obtain ⟨g, hgg⟩ : ∃ g, (e2 :: r).getLastD e2 = g := ⟨_, rfl⟩
   rw [hgg] at hg
   have fork : common (tl d e) (tl d g) = 0 → tbI (ndF (f + 1) d (e :: e2 :: r)).x + 600 ≤ 1600 * (e :: e2 :: r).length := fun hc => by
    rw [nd_fork f d e e2 r (by rw [hgg]; exact hc)]
    refine fork_tb _ _ _ h h2 (fun hr => ?_) (fun gs hgs => (IH f (by omega) (d + 1) gs hgs).1)
    have hd : d < e.1.size := by
     have := (h.rest h2).2.1 0 e (by rw [hr]; rfl)
     exact this
    exact parts_two h h2 he hg hd hc
   by_cases hc : common (tl d e) (tl d g) = 0
   ·have h3 := fork hc
    exact ⟨by omega, fun _ _ _ _ _ _ => h3⟩
   ·refine ⟨?_, fun e' g' he' hg' _ hc' => ?_⟩
    ·rw [nd_bridge f d e e2 r _ (by rw [hgg]) hc]
     have hok := common_ok h he hg
     have hend := common_ends d e g (h.sz _ e he).1 (h.sz _ g hg).1
     have h4 := (IH f (by omega) _ _ hok).2 e g he hg h2 hend
     refine brN_tb _ _ ?_ _ h4 (by omega)
     have := (h.sz _ e he).2.1
     rw [ByteArray.size_extract, tl_size]
     omega
    ·rw [he] at he'
     rw [hg] at hg'
     cases he'
     cases hg'
     exact absurd hc' hc
end Go.Proofs.YtbmapdkcccdmfaaDoor
namespace Go.Proofs.YtbmapdkcccdmfaaDoor
open Go.RowKit Go.Shelf Go.Sort

theorem lt_lists : ∀ a b : List UInt8, a < b → ∃ t, t ≤ a.length ∧ t < b.length ∧ (∀ s, s < t → a.getD s 0 = b.getD s 0) ∧ (t = a.length ∨ (a.getD t 0).toNat < (b.getD t 0).toNat)
 | [], [], h => absurd h (List.lt_irrefl _)
 | [], b :: br, _ => ⟨0, Nat.le_refl _, by simp, fun s hs => by omega, .inl rfl⟩
 | a :: ar, [], h => absurd h (List.not_lt_nil _)
 | a :: ar, b :: br, h => by
  rw [List.cons_lt_cons_iff] at h
  rcases h with h | ⟨rfl, h⟩
  ·exact ⟨0, Nat.zero_le _, by simp, fun s hs => by omega, .inr (UInt8.lt_iff_toNat_lt.1 h)⟩
  ·obtain ⟨t, h1, h2, h3, h4⟩ := lt_lists ar br h
   refine ⟨t + 1, by simp; omega, by simp; omega, fun s hs => ?_, ?_⟩
   ·match s with
    | 0 => rfl
    | s + 1 => exact h3 s (by omega)
   ·rcases h4 with h4 | h4
    ·exact .inl (by simp [h4])
    ·exact .inr h4
theorem bt_list (s : ByteArray) (i : Nat) : bt s i = ((s.data.toList.getD i 0).toNat : Int) := by
 unfold bt
 congr 2
 rw [Array.getD_eq_getD_getElem?, List.getD_eq_getElem?_getD, Array.getElem?_toList]
theorem ltB_str {a b : ByteArray} (h : ltStr a.data.toList b.data.toList = true) : LtB a b := by
 obtain ⟨t, h1, h2, h3, h4⟩ := lt_lists _ _ (of_decide_eq_true h)
 refine ⟨t, by simpa using h1, by simpa using h2, fun s hs => ?_, ?_⟩
 ·rw [bt_list, bt_list, h3 s hs]
 ·rcases h4 with h4 | h4
  ·exact .inl (by simpa using h4)
  ·right
   rw [bt_list, bt_list]
   omega
theorem of_bt (s : ByteArray) (j : Nat) (h : j < 2 * s.size) : bt (ofOf s) j = if j % 2 = 0 then bt s (j / 2) / 16 else bt s (j / 2) % 16 :=
 (n_bt_by8 (2 * s.size) (half s) (fun j => by have := half_bd s j; omega) j h)
theorem of_sz (s : ByteArray) : (ofOf s).size = 2 * s.size := n_by8_size _ _
theorem bt_big (s : ByteArray) (i : Nat) : 0 ≤ bt s i ∧ bt s i < 256 := bt_bd s i
theorem ltB_of {a b : ByteArray} (h : LtB a b) : LtB (ofOf a) (ofOf b) := by
 obtain ⟨t, h1, h2, h3, h4⟩ := h
 have key : ∀ s, s < 2 * t → bt (ofOf a) s = bt (ofOf b) s := fun s hs => by
  rw [of_bt a s (by omega), of_bt b s (by omega), h3 (s / 2) (by omega)]
 by_cases ht : t = a.size
 ·exact ⟨2 * t, by rw [of_sz]; omega, by rw [of_sz]; omega, key, .inl (by rw [of_sz]; omega)⟩
 ·have h5 : bt a t < bt b t := by
   rcases h4 with h4 | h4
   ·exact absurd h4 ht
   ·exact h4
  have ba := bt_big a t
  have bb := bt_big b t
  have e0 : bt (ofOf a) (2 * t) = bt a t / 16 := by rw [of_bt a _ (by omega), if_pos (by omega), show 2 * t / 2 = t by omega]
  have e1 : bt (ofOf b) (2 * t) = bt b t / 16 := by rw [of_bt b _ (by omega), if_pos (by omega), show 2 * t / 2 = t by omega]
  have e2 : bt (ofOf a) (2 * t + 1) = bt a t % 16 := by rw [of_bt a _ (by omega), if_neg (by omega), show (2 * t + 1) / 2 = t by omega]
  have e3 : bt (ofOf b) (2 * t + 1) = bt b t % 16 := by rw [of_bt b _ (by omega), if_neg (by omega), show (2 * t + 1) / 2 = t by omega]
  by_cases h6 : bt a t / 16 < bt b t / 16
  ·exact ⟨2 * t, by rw [of_sz]; omega, by rw [of_sz]; omega, key, .inr (by omega)⟩
  ·refine ⟨2 * t + 1, by rw [of_sz]; omega, by rw [of_sz]; omega, fun s hs => ?_, .inr (by omega)⟩
   by_cases h7 : s < 2 * t
   ·exact key s h7
   ·obtain rfl : s = 2 * t := by omega
    omega
theorem ents_get {es : List Pr} {j : Nat} {e : Pr} (h : (ents es)[j]? = some e) : ∃ x, es[j]? = some x ∧ e = (ofOf x.1, x.2) := by
 unfold ents at h
 rw [List.getElem?_map] at h
 cases hx : es[j]? with
 | none => rw [hx] at h; cases h
 | some x => rw [hx] at h; cases h; exact ⟨x, rfl, rfl⟩
theorem ok_ents (es : List Pr) (h0 : 0 < es.length) (hr : RightP es) (hs : SortedP es) : Ok 0 (ents es) where
 pos := by rw [ents_len]; exact h0
 few := by rw [ents_len]; exact hr.1
 sz j e he := by
  obtain ⟨x, hx, rfl⟩ := ents_get he
  have := (pOk_iff x).1 (hr.2.1 j x hx)
  exact ⟨Nat.zero_le _, by show (ofOf x.1).size ≤ 128; rw [of_sz]; omega, this.2.2.2⟩
 srt i j e f hij he hf := by
  obtain ⟨x, hx, rfl⟩ := ents_get he
  obtain ⟨y, hy, rfl⟩ := ents_get hf
  refine ltB_of (ltB_str ?_)
  cases hxy : ltStr x.1.data.toList y.1.data.toList with
  | true => rfl
  | false => exact absurd (bytes_inj2 (tri_ltStr _ _ hxy (hs i j x y hij hx hy))) (hr.2.2 i j x y hij hx hy)
 alk i j e f t _ _ ht := by omega
 hlf j e t he := by
  obtain ⟨x, hx, rfl⟩ := ents_get he
  show 0 ≤ bt (ofOf x.1) t ∧ bt (ofOf x.1) t < 16
  by_cases ht : t < 2 * x.1.size
  ·rw [of_bt x.1 t ht]
   have := bt_big x.1 (t / 2)
   split <;> omega
  ·have : bt (ofOf x.1) t = 0 := bt_out _ _ (by rw [of_sz]; omega)
   omega
end Go.Proofs.YtbmapdkcccdmfaaDoor
namespace Go.Proofs.YtbmapdkcccdmfaaDoor
open Go.RowKit Go.Shelf Go.Sort

def topN (es : List Pr) : Nd := ndF 129 0 (ents es)
end Go.Proofs.YtbmapdkcccdmfaaDoor
namespace Go.Proofs.YtbmapdkcccdmfaaDoor
open Go.RowKit Go.Shelf Go.Sort

def topB (es : List Pr) : ByteArray := if es.length = 0 then ⟨#[128]⟩ else eS (topN es).x
def RtP (es : List Pr) (e : Ending) : Prop := (¬ RightP es ∧ e = .returned (.tuple #[.string ⟨#[]⟩, .int .i64 60])) ∨
 (RightP es ∧ ∃ es' : List Pr, es'.Perm es ∧ SortedP es' ∧ e = .returned (.tuple #[.string (sumOf (topB es')), .int .i64 0]))

end Go.Proofs.YtbmapdkcccdmfaaDoor
