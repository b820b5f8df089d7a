/- Lemmas: Nodes as they are read from items: pure. No condition. readReference, readLeafOrBridge, at what readNode does to smaller items. readLeafOrBridge, at what readNode does to smaller items. readFork, at what readNode does to smaller items. readNode; the node whose bytes a text is. -/
import Derived.Test.YtbmapdkcccdmfaaDoorM1
import Derived.Test.YtbmapdkcccdmfaaDoorM10
import Derived.Test.YtbmapdkcccdmfaaDoorM11
import Derived.Test.YtbmapdkcccdmfaaDoorM12
import Derived.Test.YtbmapdkcccdmfaaDoorM13
import Derived.Test.YtbmapdkcccdmfaaDoorM14
import Derived.Test.YtbmapdkcccdmfaaDoorM15
import Derived.Test.YtbmapdkcccdmfaaDoorM16
import Derived.Test.YtbmapdkcccdmfaaDoorM17
import Derived.Test.YtbmapdkcccdmfaaDoorM18
import Derived.Test.YtbmapdkcccdmfaaDoorM19
import Derived.Test.YtbmapdkcccdmfaaDoorM2
import Derived.Test.YtbmapdkcccdmfaaDoorM20
import Derived.Test.YtbmapdkcccdmfaaDoorM21
import Derived.Test.YtbmapdkcccdmfaaDoorM22
import Derived.Test.YtbmapdkcccdmfaaDoorM23
import Derived.Test.YtbmapdkcccdmfaaDoorM24
import Derived.Test.YtbmapdkcccdmfaaDoorM25
import Derived.Test.YtbmapdkcccdmfaaDoorM26
import Derived.Test.YtbmapdkcccdmfaaDoorM27
import Derived.Test.YtbmapdkcccdmfaaDoorM28
import Derived.Test.YtbmapdkcccdmfaaDoorM29
import Derived.Test.YtbmapdkcccdmfaaDoorM3
import Derived.Test.YtbmapdkcccdmfaaDoorM30
import Derived.Test.YtbmapdkcccdmfaaDoorM6
import Derived.Test.YtbmapdkcccdmfaaDoorM7
import Derived.Test.YtbmapdkcccdmfaaDoorM8
import Derived.Test.YtbmapdkcccdmfaaDoorM9
import Derived.Test.YtbmapdkcccdmfaaDoorRows
import Derived.BigQuiet
namespace Go.Proofs.YtbmapdkcccdmfaaDoor
open Go.RowKit Go.Shelf

mutual
inductive PN where
 | mk (path val : ByteArray) (ss : PS)
inductive PS where
 | nil
 | cons (p : ByteArray) (r : PR) (s : PS)
inductive PR where
 | dig (d : ByteArray)
 | win (n : PN)
end
namespace PN
def path : PN → ByteArray | .mk p _ _ => p
def val : PN → ByteArray | .mk _ v _ => v
def ss : PN → PS | .mk _ _ s => s
end PN
def PS.len : PS → Nat
 | .nil => 0
 | .cons _ _ s => s.len + 1
def PS.snoc : PS → ByteArray → PR → PS
 | .nil, p, r => .cons p r .nil
 | .cons q t s, p, r => .cons q t (s.snoc p r)
theorem PS.snoc_len : ∀ (s : PS) (p : ByteArray) (r : PR), (s.snoc p r).len = s.len + 1
 | .nil, _, _ => rfl
 | .cons _ _ s, p, r => by show (s.snoc p r).len + 1 = s.len + 1 + 1; rw [PS.snoc_len s p r]
namespace It
def l : It → Bool | .mk l _ _ => l
def t : It → ByteArray | .mk _ t _ => t
def xs : It → List It | .mk _ _ xs => xs
end It
def b1 (i : Nat) : ByteArray := ⟨#[UInt8.ofNat i]⟩
def lbN (f b : It) (r : Option PR) : Option PN :=
 if rdGood f.t then (if rdL f.t then (if 0 < b.t.size then some (.mk (rdS f.t) b.t .nil) else none) else if 0 < (rdS f.t).size then r.map (fun q => .mk ⟨#[]⟩ ⟨#[]⟩ (.cons (rdS f.t) q .nil)) else none) else none
def qfkS : Nat → PS → List It → List (Option PR) → Option PS
 | _, s, [], _ => some s
 | _, _, _ :: _, [] => none
 | i, s, x :: xs, r :: rs => if x.l = false ∧ x.t.size = 0 then qfkS (i + 1) s xs rs else match r with
  | none => none
  | some q => qfkS (i + 1) (s.snoc (b1 i) q) xs rs
def qfkN (xs : List It) (v : It) (rs : List (Option PR)) : Option PN := if v.l then none else (qfkS 0 .nil xs rs).map (fun s => .mk ⟨#[]⟩ v.t s)
def asmN (xs : List It) (rs : List (Option PR)) : Option PN :=
 if xs.length = 2 then lbN (xs.getD 0 (.mk false ⟨#[]⟩ [])) (xs.getD 1 (.mk false ⟨#[]⟩ [])) (rs.getD 1 none)
 else if xs.length = 17 then qfkN (xs.take 16) (xs.getD 16 (.mk false ⟨#[]⟩ [])) (rs.take 16)
 else none
def dgR (t : ByteArray) : Option PR := if t.size = 32 then some (.dig t) else none
mutual
def rdR : It → Option PR
 | .mk l t xs => if l then (asmN xs (rdRs xs)).map .win else dgR t
def rdRs : List It → List (Option PR)
 | [] => []
 | x :: r => rdR x :: rdRs r
end
theorem rdRs_map : ∀ xs, rdRs xs = xs.map rdR
 | [] => rfl
 | x :: r => by rw [rdRs, List.map_cons, rdRs_map r]
def rdN (x : It) : Option PN := asmN x.xs (rdRs x.xs)
theorem rdR_list (x : It) (h : x.l = true) : rdR x = (rdN x).map .win := by
 obtain ⟨l, t, xs⟩ := x
 have hl : l = true := h
 subst hl
 rw [rdR, if_pos rfl]
 rfl
theorem rdR_text (x : It) (h : x.l = false) : rdR x = dgR x.t := by
 obtain ⟨l, t, xs⟩ := x
 have hl : l = false := h
 subst hl
 rw [rdR, if_neg (by decide)]
 rfl
theorem er_l (x : Im) : (er x).l = x.l := by cases x; rfl
theorem er_t (x : Im) : (er x).t = x.t := by cases x; rfl
theorem er_xs (x : Im) : (er x).xs = ers x.xs := by cases x; rfl

mutual
def pnIn (p : Nat → Prop) (W : World) (b : Nat) : PN → Prop
 | .mk path val ss => ∃ (a : Option Addr) (c : Nat), p b ∧ W.heap[b]? = some (.cells #[.string path, .string val, .slice a ss.len c] 77 (0, 0)) ∧ psIn p W a 0 ss
def psIn (p : Nat → Prop) (W : World) (a : Option Addr) : Nat → PS → Prop
 | _, .nil => True
 | i, .cons t r s => (∃ b o d q, p b ∧ a = some ⟨b, o, none⟩ ∧ W.cell? ⟨b, o + 3 * i, none⟩ = some (.string t) ∧ W.cell? ⟨b, o + 3 * i + 1, none⟩ = some (.string d) ∧ W.cell? ⟨b, o + 3 * i + 2, none⟩ = some (.pointer q) ∧ prIn p W d q r) ∧ psIn p W a (i + 1) s
def prIn (p : Nat → Prop) (W : World) (d : ByteArray) (q : Option Addr) : PR → Prop
 | .dig x => d = x ∧ q = none
 | .win n => d = ⟨#[]⟩ ∧ ∃ b, q = some ⟨b, 0, none⟩ ∧ pnIn p W b n
end
mutual
theorem pnIn_of {p q : Nat → Prop} {W W' : World} (hp : ∀ b, p b → q b ∧ W'.heap[b]? = W.heap[b]?) : ∀ (n : PN) (b : Nat), pnIn p W b n → pnIn q W' b n
 | .mk _ _ ss, b, ⟨a, c, h1, h2, h3⟩ => ⟨a, c, (hp b h1).1, (hp b h1).2.trans h2, psIn_of hp ss a 0 h3⟩
theorem psIn_of {p q : Nat → Prop} {W W' : World} (hp : ∀ b, p b → q b ∧ W'.heap[b]? = W.heap[b]?) : ∀ (s : PS) (a : Option Addr) (i : Nat), psIn p W a i s → psIn q W' a i s
 | .nil, _, _, _ => trivial
 | .cons _ r s, a, i, ⟨⟨b, o, d, x, h1, h2, h3, h4, h5, h6⟩, h7⟩ => ⟨⟨b, o, d, x, (hp b h1).1, h2, (World.cell?_of_block (w := W) (a := ⟨b, _, none⟩) (hp b h1).2).trans h3, (World.cell?_of_block (w := W) (a := ⟨b, _, none⟩) (hp b h1).2).trans h4, (World.cell?_of_block (w := W) (a := ⟨b, _, none⟩) (hp b h1).2).trans h5, prIn_of hp r d x h6⟩, psIn_of hp s a (i + 1) h7⟩
theorem prIn_of {p q : Nat → Prop} {W W' : World} (hp : ∀ b, p b → q b ∧ W'.heap[b]? = W.heap[b]?) : ∀ (r : PR) (d : ByteArray) (x : Option Addr), prIn p W d x r → prIn q W' d x r
 | .dig _, _, _, h => h
 | .win n, _, _, ⟨h1, b, h2, h3⟩ => ⟨h1, b, h2, pnIn_of hp n b h3⟩
end
theorem pnIn_below {p : Nat → Prop} {n : Nat} {W W' : World} (hb : Below n W W') (hp : ∀ b, p b → b < n) (nd : PN) (b : Nat) (h : pnIn p W b nd) : pnIn p W' b nd := pnIn_of (fun b hb' => ⟨hb', hb.block b (hp b hb')⟩) nd b h
def RdP (o : Option PN) (w : World) (e : Ending) (w' : World) : Prop :=
 match o with
 | none => e = .returned (.pointer none)
 | some nd => ∃ b, e = .returned (.pointer (some ⟨b, 0, none⟩)) ∧ pnIn (fun b => w.heap.size ≤ b ∧ b < w'.heap.size) w' b nd
def RrP (o : Option PR) (w : World) (e : Ending) (w' : World) : Prop :=
 match o with
 | none => ∃ d q, e = .returned (.tuple #[.agg #[.string d, .pointer q], .bool false])
 | some r => ∃ d q, e = .returned (.tuple #[.agg #[.string d, .pointer q], .bool true]) ∧ prIn (fun b => w.heap.size ≤ b ∧ b < w'.heap.size) w' d q r
def Bq (b : Nat) (T : TypeId) (cs : Array Value) (W : World) : Prop := W.heap[b]? = some (.cells cs T (0, 0))
theorem Bq.cell {b : Nat} {T : TypeId} {cs : Array Value} {W : World} (h : Bq b T cs W) (j : Nat) : W.cell? ⟨b, j, none⟩ = cs[j]? := Lib.cell_of_heap h j
theorem Bq.fr {b : Nat} {T : TypeId} {cs : Array Value} {W : World} (h : Bq b T cs W) (o : Nat) : W.frozen? ⟨b, o, none⟩ = false := Lib.frozen_of_heap h o
theorem Bq.lt {b : Nat} {T : TypeId} {cs : Array Value} {W : World} (h : Bq b T cs W) : b < W.heap.size := (Array.getElem?_eq_some_iff.1 h).1
theorem Bq.below {b : Nat} {T : TypeId} {cs : Array Value} {W W' : World} (h : Bq b T cs W) (hb : Below W.heap.size W W') : Bq b T cs W' := (hb.block b h.lt).trans h
theorem Bq.put {b : Nat} {T : TypeId} {v : Value} {W : World} (h : Bq b T #[v] W) (u : Value) : Bq b T #[u] (W.setCell ⟨b, 0, none⟩ u) := by
 have h' : W.heap[b]? = _ := h
 show (W.setCell ⟨b, 0, none⟩ u).heap[b]? = _
 simp [World.setCell, Array.getElem?_modify, h']
theorem Bq.put2 {b : Nat} {T : TypeId} {v0 v1 : Value} {W : World} (h : Bq b T #[v0, v1] W) (u0 u1 : Value) : Bq b T #[u0, u1] ((W.setCell ⟨b, 0, none⟩ u0).setCell ⟨b, 1, none⟩ u1) := by
 have h' : W.heap[b]? = _ := h
 show ((W.setCell ⟨b, 0, none⟩ u0).setCell ⟨b, 1, none⟩ u1).heap[b]? = _
 simp [World.setCell, Array.getElem?_modify, h']
theorem Bq.other {b k : Nat} {T : TypeId} {cs : Array Value} {W : World} (h : Bq b T cs W) (hk : b ≠ k) (o : Nat) (u : Value) : Bq b T cs (W.setCell ⟨k, o, none⟩ u) := (Below.heap_setCell _ _ _ _ hk).trans h
theorem Bq.own {b : Nat} {T : TypeId} {cs : Array Value} {A C : World} {row : Option Nat} (h : Bq b T cs A) (hg : A.grownBy C row) (hr : ∀ r, row = some r → ∃ o : Obj, A.heap[r]? = some o ∧ o.isCells = false) : Bq b T cs C := by
 refine (hg.block b h.lt (fun e => ?_)).trans h
 obtain ⟨o, ho, hc⟩ := hr b e.symm
 rw [show A.heap[b]? = _ from h] at ho
 cases ho
 cases hc
theorem alloc_two7 (w : World) (o1 o2 : Obj) : ((w.alloc o1).alloc o2).heap[w.heap.size]? = some o1 ∧ ((w.alloc o1).alloc o2).heap[w.heap.size + 1]? = some o2 := by
 constructor
 ·rw [((Below.refl _ (w.alloc o1)).alloc (Nat.le_refl _) o2).block w.heap.size (by simp)]
  exact World.alloc_heap_new w o1
 ·have h := World.alloc_heap_new (w.alloc o1) o2
  simpa using h
end Go.Proofs.YtbmapdkcccdmfaaDoor
namespace Go.Proofs.YtbmapdkcccdmfaaDoor
open Go.RowKit Go.Shelf Go.Sort

def RnC (k : Nat) : Prop := ∀ im : Im, tb im ≤ k → capI im → ∀ (n : Nat) (w : World), n ≤ w.heap.size → inMem n w im →
 Calls Tryd.prog 80 #[im.val] w fun e w' => Below w.heap.size w w' ∧ RdP (rdN (er im)) w e w'

set_option maxRecDepth 20000 in
set_option maxHeartbeats 1000000 in
theorem readRef_of (k : Nat) (hk : RnC k) (im : Im) (hc : tb im ≤ k) (hcp : capI im) (n : Nat) (w : World) (hn : n ≤ w.heap.size) (hm : inMem n w im) :
  Calls Tryd.prog 103 #[im.val] w fun e w' => Below w.heap.size w w' ∧ RrP (rdR (er im)) w e w' := by
 have KN := hk im hc hcp
 have h1 := rdR_list (er im)
 have h2 := rdR_text (er im)
 rw [er_l] at h1 h2
 rw [er_t] at h2
 have hl0 : im.val = .agg #[.bool im.l, .string im.t, im.sl] := rfl
 rw [hl0] at KN ⊢
 obtain ⟨il, it, ia, ic, ix⟩ := im
 dsimp only [Im.l, Im.t, Im.sl, Im.a, Im.c, Im.xs] at *
 have A0 : Below w.heap.size w ((w.alloc (.cells #[.bool il, .string it, .slice ia ix.length ic] 55)).alloc (.cells #[.string ⟨#[]⟩, .pointer none] 73)) := ((Below.refl _ w).alloc (Nat.le_refl _) _).alloc (by simp) _
 have T2 := alloc_two7 w (.cells #[.bool il, .string it, .slice ia ix.length ic] 55) (.cells #[.string ⟨#[]⟩, .pointer none] 73)
 cases il with
 | true =>
  rw [h1 rfl]
  obtain ⟨nd, hnd⟩ : ∃ o, rdN (er (Im.mk true it ia ic ix)) = o := ⟨_, rfl⟩
  rw [hnd] at KN ⊢
  clear hnd
  go_enter Tryd.func103, Tryd.ntmps103
  go_wp2_with fail
  refine (KN n _ (Nat.le_trans hn A0.size) (inMem_below hn (A0.mono hn) _ hm)).mono ?_
  rintro e w1 ⟨B1, hR⟩
  have R1 : Bq (w.heap.size + 1) 73 #[.string ⟨#[]⟩, .pointer none] w1 := Bq.below T2.2 B1
  have r0 : w1.cell? ⟨w.heap.size + 1, 0, none⟩ = some (.string ⟨#[]⟩) := R1.cell 0
  have r1 : w1.cell? ⟨w.heap.size + 1, 1, none⟩ = some (.pointer none) := R1.cell 1
  have f0 := R1.fr 0
  have f1 := R1.fr 1
  have BW := belowStep A0 A0.size B1
  have hsz : w.heap.size + 2 ≤ w1.heap.size := by have := B1.size; simp at this; omega
  have hs0 : ((w.alloc (.cells #[.bool true, .string it, .slice ia ix.length ic] 55)).alloc (.cells #[.string ⟨#[]⟩, .pointer none] 73)).heap.size = w.heap.size + 2 := by simp
  cases nd with
  | none =>
   obtain rfl := hR
   clear A0 T2 B1 KN hm
   go_wp2
   refine bodyPost_ret (v := .tuple #[.agg #[.string ⟨#[]⟩, .pointer none], .bool false]) (by simp [results, Tryd.results103, go_sem, *]) rfl ⟨?_, ⟨#[]⟩, none, rfl⟩
   exact (BW.setCell (p := ⟨w.heap.size + 1, 0, none⟩) (by show _ ≤ w.heap.size + 1; omega) _).setCell (p := ⟨w.heap.size + 1, 1, none⟩) (by show _ ≤ w.heap.size + 1; omega) _
  | some nd =>
   obtain ⟨b, rfl, hb⟩ := hR
   rw [hs0] at hb
   have hne : ∀ q, w.heap.size + 2 ≤ q → ∀ (W : World) o v, (W.setCell ⟨w.heap.size + 1, o, none⟩ v).heap[q]? = W.heap[q]? := fun q hq W o v => Below.heap_setCell _ _ _ _ (by show q ≠ w.heap.size + 1; omega)
   have hb2 : pnIn (fun b => w.heap.size ≤ b ∧ b < w1.heap.size) ((w1.setCell ⟨w.heap.size + 1, 0, none⟩ (.string ⟨#[]⟩)).setCell ⟨w.heap.size + 1, 1, none⟩ (.pointer (some ⟨b, 0, none⟩))) b nd := pnIn_of (fun q hq => ⟨⟨by omega, hq.2⟩, (hne q hq.1 _ _ _).trans (hne q hq.1 _ _ _)⟩) nd b hb
   have HB : Hid _ := hb2
   clear A0 T2 B1 KN hm hb hb2 hne hs0
   go_wp2
   refine bodyPost_ret (v := .tuple #[.agg #[.string ⟨#[]⟩, .pointer (some ⟨b, 0, none⟩)], .bool true]) (by simp [results, Tryd.results103, go_sem, *]) rfl ⟨?_, ⟨#[]⟩, some ⟨b, 0, none⟩, rfl, rfl, b, rfl, ?_⟩
   ·exact (BW.setCell (p := ⟨w.heap.size + 1, 0, none⟩) (by show _ ≤ w.heap.size + 1; omega) _).setCell (p := ⟨w.heap.size + 1, 1, none⟩) (by show _ ≤ w.heap.size + 1; omega) _
   ·exact pnIn_of (fun q hq => ⟨⟨hq.1, by simpa [World.setCell] using hq.2⟩, rfl⟩) nd b HB.out
 | false =>
  rw [h2 rfl]
  obtain ⟨oo, bb, hoo, hbi, HB⟩ : ∃ (o : Option PR) (b : Bool), dgR it = o ∧ ((it.size : Int) == 32) = b ∧ Hid (∀ d : World, RrP o w (.returned (.tuple #[.agg #[.string it, .pointer none], .bool b])) d) := by
   by_cases h : it.size = 32
   ·exact ⟨_, true, if_pos h, by rw [h]; rfl, fun d => ⟨_, _, rfl, rfl, rfl⟩⟩
   ·exact ⟨_, false, if_neg h, by rw [beq_eq_false_iff_ne]; omega, fun d => ⟨_, _, rfl⟩⟩
  rw [hoo]
  clear hoo
  go_enter Tryd.func103, Tryd.ntmps103
  go_wp2
  go_region
  all_goals go_wp2
  all_goals (refine bodyPost_ret (v := .tuple #[.agg #[.string it, .pointer none], .bool bb]) (by simp [results, Tryd.results103, go_sem, *]) rfl ⟨?_, HB.out _⟩)
  all_goals exact (((Below.refl _ w).alloc (Nat.le_refl _) _).alloc (by simp) _).drew
end Go.Proofs.YtbmapdkcccdmfaaDoor
namespace Go.Proofs.YtbmapdkcccdmfaaDoor
open Go.RowKit Go.Shelf

theorem rdE_yes {s : ByteArray} (h : rdGood s = true) : rdE s = 0 := by unfold rdE; rw [if_pos h]
theorem rdE_no {s : ByteArray} (h : ¬ rdGood s = true) : rdE s = 50 := by unfold rdE; rw [if_neg h]
theorem empty_iff (s : ByteArray) (h : ¬ 0 < s.size) : s = ⟨#[]⟩ := by
 obtain ⟨⟨l⟩⟩ := s
 cases l with
 | nil => rfl
 | cons a r => exact absurd (Nat.succ_pos r.length) h
theorem ne_empty7 (s : ByteArray) (h : 0 < s.size) : s.toList.isEmpty = false := by
 rw [← decide_eq_emptyBytes s]
 exact decide_eq_false fun e => by rw [e] at h; exact absurd h (by decide)

set_option maxRecDepth 20000 in
set_option maxHeartbeats 2000000 in
theorem readLB_of (k : Nat) (hk : RnC k) (hkb : k ≤ 100000000) (f b : Im) (hf : tb f ≤ k) (hb : tb b ≤ k) (hcp : capI b) (n : Nat) (w : World) (hn : n ≤ w.heap.size) (hm : inMem n w b) :
  Calls Tryd.prog 94 #[f.val, b.val] w fun e w' => Below w.heap.size w w' ∧ RdP (lbN (er f) (er b) (rdR (er b))) w e w' := by
 have KR := readRef_of k hk b hb hcp n
 have hfs : f.t.size ≤ 100000000 := by have := tb_eq f; omega
 have KD := fun w => readAll_any f.t hfs w
 obtain ⟨o, ho⟩ : ∃ o, lbN (er f) (er b) (rdR (er b)) = o := ⟨_, rfl⟩
 rw [ho]
 unfold lbN at ho
 rw [er_t, er_t] at ho
 obtain ⟨r, hr⟩ : ∃ r, rdR (er b) = r := ⟨_, rfl⟩
 rw [hr] at ho KR
 clear hr hf hb hfs
 have hfv : f.val = .agg #[.bool f.l, .string f.t, .slice f.a f.xs.length f.c] := rfl
 have hbv : b.val = .agg #[.bool b.l, .string b.t, .slice b.a b.xs.length b.c] := rfl
 have A0 : Below w.heap.size w ((w.alloc (.cells #[.bool f.l, .string f.t, .slice f.a f.xs.length f.c] 55)).alloc (.cells #[.bool b.l, .string b.t, .slice b.a b.xs.length b.c] 55)) := ((Below.refl _ w).alloc (Nat.le_refl _) _).alloc (by simp) _
 have T2 := alloc_two7 w (.cells #[.bool f.l, .string f.t, .slice f.a f.xs.length f.c] 55) (.cells #[.bool b.l, .string b.t, .slice b.a b.xs.length b.c] 55)
 have HM : Hid _ := inMem_below hn (A0.mono hn) _ hm
 rw [hfv, hbv]
 rw [hbv] at KR
 clear hm hfv hbv
 obtain ⟨fl0, e1⟩ : ∃ s, f.l = s := ⟨_, rfl⟩
 obtain ⟨ft, e2⟩ : ∃ s, f.t = s := ⟨_, rfl⟩
 obtain ⟨fs, e3⟩ : ∃ s, Value.slice f.a f.xs.length f.c = s := ⟨_, rfl⟩
 rw [e1, e2, e3] at A0 T2 HM
 rw [e1, e2, e3]
 rw [e2] at ho KD
 obtain ⟨bl, e4⟩ : ∃ s, b.l = s := ⟨_, rfl⟩
 obtain ⟨bt0, e5⟩ : ∃ s, b.t = s := ⟨_, rfl⟩
 obtain ⟨bs, e6⟩ : ∃ s, Value.slice b.a b.xs.length b.c = s := ⟨_, rfl⟩
 rw [e4, e5, e6] at A0 T2 HM KR
 rw [e4, e5, e6]
 rw [e5] at ho
 clear e1 e2 e3 e4 e5 e6
 by_cases hg : rdGood ft = true
 ·rw [if_pos hg] at ho
  have he := rdE_yes hg
  rw [he] at KD
  obtain ⟨path, hpath⟩ : ∃ p, rdS ft = p := ⟨_, rfl⟩
  rw [hpath] at KD ho
  cases hlf : rdL ft with
  | true =>
   rw [hlf, if_pos rfl] at ho
   rw [hlf] at KD
   by_cases hv : 0 < bt0.size
   ·rw [if_pos hv] at ho
    have hne := ne_empty7 _ hv
    subst ho
    clear he hg hlf hpath KR
    go_enter Tryd.func94, Tryd.ntmps94
    go_wp2_with fail
    refine (KD _).mono ?_
    rintro e w1 ⟨rfl, B1⟩
    have Q1 : Bq (w.heap.size + 1) 55 #[.bool bl, .string bt0, bs] w1 := Bq.below T2.2 B1
    have q1 : w1.cell? ⟨w.heap.size + 1, 1, none⟩ = some (.string bt0) := Q1.cell 1
    have BW := belowStep A0 A0.size B1
    clear A0 T2 B1 KD
    have hA1 := (Below.refl _ w1).alloc (Nat.le_refl _) (.cells #[.string path, .string bt0, .slice none 0 0] 77)
    have hN1 := World.alloc_heap_new w1 (.cells #[.string path, .string bt0, .slice none 0 0] 77)
    go_wp2
    go_ret
    exact ⟨belowStep BW BW.size hA1, w1.heap.size, rfl, none, 0, ⟨BW.size, by simp⟩, hN1, trivial⟩
   ·rw [if_neg hv] at ho
    obtain rfl := empty_iff _ hv
    subst ho
    clear he hg hlf hpath KR
    go_enter Tryd.func94, Tryd.ntmps94
    go_wp2_with fail
    refine (KD _).mono ?_
    rintro e w1 ⟨rfl, B1⟩
    have Q1 : Bq (w.heap.size + 1) 55 #[.bool bl, .string ⟨#[]⟩, bs] w1 := Bq.below T2.2 B1
    have q1 : w1.cell? ⟨w.heap.size + 1, 1, none⟩ = some (.string ⟨#[]⟩) := Q1.cell 1
    have BW := belowStep A0 A0.size B1
    clear A0 T2 B1 KD
    go_wp2
    go_ret
    exact ⟨BW, rfl⟩
  | false =>
   rw [hlf, if_neg (by decide)] at ho
   rw [hlf] at KD
   by_cases hv : 0 < path.size
   ·rw [if_pos hv] at ho
    have hne := ne_empty7 _ hv
    clear he hg hlf hpath
    go_enter Tryd.func94, Tryd.ntmps94
    go_wp2_with fail
    refine (KD _).mono ?_
    rintro e w1 ⟨rfl, B1⟩
    have Q1 : Bq (w.heap.size + 1) 55 #[.bool bl, .string bt0, bs] w1 := Bq.below T2.2 B1
    have q0 : w1.cell? ⟨w.heap.size + 1, 0, none⟩ = some (.bool bl) := Q1.cell 0
    have q1 : w1.cell? ⟨w.heap.size + 1, 1, none⟩ = some (.string bt0) := Q1.cell 1
    have q2 : w1.cell? ⟨w.heap.size + 1, 2, none⟩ = some bs := Q1.cell 2
    have BW := belowStep A0 A0.size B1
    have hM1 := inMem_below (Nat.le_trans hn A0.size) (B1.mono (Nat.le_trans hn A0.size)) _ HM.out
    have KR1 := KR w1 (Nat.le_trans hn BW.size) hM1
    clear A0 T2 B1 KD KR
    go_wp2_with fail
    refine KR1.mono ?_
    rintro e w2 ⟨B2, hR⟩
    replace B2 : Below w1.heap.size w1 w2 := B2
    cases r with
    | none =>
     obtain ⟨d, q, rfl⟩ := hR
     subst ho
     have BW2 := belowStep BW BW.size B2
     clear KR1 q0 q1 q2
     go_wp2
     go_ret
     exact ⟨BW2.alloc BW2.size _, rfl⟩
    | some r =>
     obtain ⟨d, q, rfl, hR⟩ := hR
     subst ho
     have BW2 := belowStep BW BW.size B2
     clear KR1 q0 q1 q2
     have hA3 : Below w2.heap.size w2 (((w2.alloc (.cells #[.string d, .pointer q] 73)).alloc (.cells #[.string path, .string d, .pointer q] 79)).alloc (.cells #[.string ⟨#[]⟩, .string ⟨#[]⟩, .slice (some ⟨w2.heap.size + 1, 0, none⟩) 1 1] 77)) := (((Below.refl _ w2).alloc (Nat.le_refl _) _).alloc (by simp) _).alloc (by simp; omega) _
     have T3 := alloc_two7 (w2.alloc (.cells #[.string d, .pointer q] 73)) (.cells #[.string path, .string d, .pointer q] 79) (.cells #[.string ⟨#[]⟩, .string ⟨#[]⟩, .slice (some ⟨w2.heap.size + 1, 0, none⟩) 1 1] 77)
     rw [World.size_alloc] at T3
     have hz2 := BW2.size
     have hz1 := B2.size
     have hr2 := prIn_of (q := fun b => w.heap.size ≤ b ∧ b < (((w2.alloc (.cells #[.string d, .pointer q] 73)).alloc (.cells #[.string path, .string d, .pointer q] 79)).alloc (.cells #[.string ⟨#[]⟩, .string ⟨#[]⟩, .slice (some ⟨w2.heap.size + 1, 0, none⟩) 1 1] 77)).heap.size) (fun b hb => ⟨⟨Nat.le_trans BW.size hb.1, by simp; omega⟩, hA3.block b hb.2⟩) r d q hR
     have HX : Hid (_ ∧ _ ∧ _) := ⟨hA3, T3, hr2⟩
     clear hA3 T3 hr2 hR
     go_wp2
     go_ret
     obtain ⟨hA3, T3, hr2⟩ := HX.out
     have Q3 : Bq (w2.heap.size + 1) 79 #[.string path, .string d, .pointer q] _ := T3.1
     exact ⟨belowStep BW2 BW2.size hA3, w2.heap.size + 1 + 1, rfl, some ⟨w2.heap.size + 1, 0, none⟩, 1, ⟨by omega, by simp⟩, T3.2, ⟨w2.heap.size + 1, 0, d, q, ⟨by omega, by simp⟩, rfl, Q3.cell 0, Q3.cell 1, Q3.cell 2, hr2⟩, trivial⟩
   ·rw [if_neg hv] at ho
    obtain rfl := empty_iff _ hv
    subst ho
    clear he hg hlf hpath KR
    go_enter Tryd.func94, Tryd.ntmps94
    go_wp2_with fail
    refine (KD _).mono ?_
    rintro e w1 ⟨rfl, B1⟩
    have Q1 : Bq (w.heap.size + 1) 55 #[.bool bl, .string bt0, bs] w1 := Bq.below T2.2 B1
    have q1 : w1.cell? ⟨w.heap.size + 1, 1, none⟩ = some (.string bt0) := Q1.cell 1
    have BW := belowStep A0 A0.size B1
    clear A0 T2 B1 KD
    go_wp2
    go_ret
    exact ⟨BW, rfl⟩
 ·rw [if_neg hg] at ho
  have he := rdE_no hg
  rw [he] at KD
  subst ho
  clear he hg KR
  go_enter Tryd.func94, Tryd.ntmps94
  go_wp2_with fail
  refine (KD _).mono ?_
  rintro e w1 ⟨rfl, B1⟩
  have BW := belowStep A0 A0.size B1
  clear A0 T2 B1 KD
  go_wp2
  go_ret
  exact ⟨BW, rfl⟩
end Go.Proofs.YtbmapdkcccdmfaaDoor
namespace Go.Proofs.YtbmapdkcccdmfaaDoor
open Go.RowKit Go.Shelf Go.Sort

theorem own_none7 (W : World) (z : Nat) (t : TypeId) (k : Nat) : W.ownsRow z t k (.slice none 0 0) 0 [] := by
 refine ⟨?_, .inl ⟨rfl, rfl⟩⟩
 simp
abbrev Stp := ByteArray × ByteArray × Option Addr
def stC (l : List Stp) : List Value := l.flatMap fun x => [.string x.1, .string x.2.1, .pointer x.2.2]
theorem stC_snoc (l : List Stp) (x : Stp) : stC (l ++ [x]) = stC l ++ [.string x.1, .string x.2.1, .pointer x.2.2] := by unfold stC; rw [List.flatMap_append]; simp
def psR (p : Nat → Prop) (W : World) : PS → List Stp → Prop
 | .nil, [] => True
 | .cons t r s, x :: l => t = x.1 ∧ prIn p W x.2.1 x.2.2 r ∧ psR p W s l
 | _, _ => False
theorem psR_of {p q : Nat → Prop} {W W' : World} (hp : ∀ b, p b → q b ∧ W'.heap[b]? = W.heap[b]?) : ∀ (s : PS) (l : List Stp), psR p W s l → psR q W' s l
 | .nil, [], _ => trivial
 | .cons _ r s, _ :: l, ⟨h1, h2, h3⟩ => ⟨h1, prIn_of hp r _ _ h2, psR_of hp s l h3⟩
 | .nil, _ :: _, h => h.elim
 | .cons _ _ _, [], h => h.elim
theorem psR_snoc {p : Nat → Prop} {W : World} : ∀ (s : PS) (l : List Stp) (t : ByteArray) (r : PR) (d : ByteArray) (q : Option Addr), psR p W s l → prIn p W d q r → psR p W (s.snoc t r) (l ++ [(t, d, q)])
 | .nil, [], _, _, _, _, _, h => ⟨rfl, h, trivial⟩
 | .cons _ _ s, _ :: l, t, r, d, q, ⟨h1, h2, h3⟩, h => ⟨h1, h2, psR_snoc s l t r d q h3 h⟩
 | .nil, _ :: _, _, _, _, _, h, _ => h.elim
 | .cons _ _ _, [], _, _, _, _, h, _ => h.elim
theorem psR_in {p : Nat → Prop} {W : World} {b o : Nat} (hb : p b) : ∀ (s : PS) (l : List Stp) (i : Nat), psR p W s l → (∀ j u, (stC l)[j]? = some u → W.cell? ⟨b, o + 3 * i + j, none⟩ = some u) → psIn p W (some ⟨b, o, none⟩) i s
 | .nil, [], _, _, _ => trivial
 | .cons t r s, x :: l, i, ⟨h1, h2, h3⟩, hc => by
  subst h1
  refine ⟨⟨b, o, x.2.1, x.2.2, hb, rfl, hc 0 _ rfl, hc 1 _ rfl, hc 2 _ rfl, h2⟩, psR_in hb s l (i + 1) h3 fun j u hu => ?_⟩
  have := hc (j + 3) u (by rw [← hu]; rfl)
  rw [← this]
  congr 2
  omega
 | .nil, _ :: _, _, h, _ => h.elim
 | .cons _ _ _, [], _, h, _ => h.elim
structure QfI (z : Nat) (w : World) (vt : ByteArray) (s : PS) (l : List Stp) (sv : Value) (W : World) : Prop where
 b : Below z w W
 n : Bq (z + 1) 77 #[.string ⟨#[]⟩, .string vt, sv] W
 o : W.ownsRow (z + 2) 79 3 sv s.len (stC l)
 r : psR (fun q => z + 2 ≤ q ∧ q < W.heap.size ∧ sv.ownBlock ≠ some q) W s l
theorem QfI.below {z : Nat} {w : World} {vt : ByteArray} {s : PS} {l : List Stp} {sv : Value} {W W' : World} (h : QfI z w vt s l sv W) (hz : z ≤ W.heap.size) (hb : Below W.heap.size W W') : QfI z w vt s l sv W' :=
 ⟨belowStep h.b hz hb, h.n.below hb, owns_below h.o hb, psR_of (fun q hq => ⟨⟨hq.1, Nat.lt_of_lt_of_le hq.2.1 hb.size, hq.2.2⟩, hb.block q hq.2.1⟩) s l h.r⟩
theorem qfkS_step (j : Nat) (s : PS) (X : List It) (rs : List (Option PR)) (x : It) (r : Option PR) (xl : Bool) (xt : ByteArray) (el : x.l = xl) (et : x.t = xt) (hx : X[j]? = some x) (hr : rs[j]? = some r) : qfkS j s (X.drop j) (rs.drop j) = if xl = false ∧ xt.size = 0 then qfkS (j + 1) s (X.drop (j + 1)) (rs.drop (j + 1)) else match r with
  | none => none
  | some q => qfkS (j + 1) (s.snoc (b1 j) q) (X.drop (j + 1)) (rs.drop (j + 1)) := by
 subst el et
 have h1 : X.drop j = x :: X.drop (j + 1) := by
  obtain ⟨hj, e⟩ := List.getElem?_eq_some_iff.1 hx
  rw [List.drop_eq_getElem_cons hj, e]
 have h2 : rs.drop j = r :: rs.drop (j + 1) := by
  obtain ⟨hj, e⟩ := List.getElem?_eq_some_iff.1 hr
  rw [List.drop_eq_getElem_cons hj, e]
 rw [h1, h2]
 cases r <;> rfl

theorem info_pstep : (Tryd.prog.info? 79).map (fun i => (i.zero, i.size, i.bytes)) = some (some (.agg #[.string ⟨#[]⟩, .string ⟨#[]⟩, .pointer none]), 3, 40) := by kernel_rfl
theorem op_append {P : Program} {o : Oper} {a : Act} {W : World} {K : Act → World → Prop} {Q : Exit → Act → World → Prop} (sl x : Operand) (t : TypeId) (ho : o.op = .call { callee := .builtin .append, args := #[sl, x], argTypes := #[t, t] }) {v' : Value} {w' : World} (hr : (Builtin.append_ #[t, t] o.type #[a.eval sl, a.eval x]).run P W = .ok v' w') (h : K (a.put o.dst v') w') : o.wp P a W K Q := by
 unfold Oper.wp execOp
 simp only [ho, resolve, invoke, builtin, Sem.run_bind, Sem.run_pure, Result.andThen_ok, List.map_toArray, List.map_cons, List.map_nil, hr]
 exact h
theorem wanted_all {o : Oper} (hg : o.guard = none) (f : Nat → Option Bool) {A B : Prop} (h : A) : if Region.wanted o f then A else B := by
 have hw : Region.wanted o f = true := by unfold Region.wanted; rw [hg]
 rw [if_pos hw]
 exact h
theorem Bq.put3 {b : Nat} {T : TypeId} {v0 v1 v2 : Value} {W : World} (h : Bq b T #[v0, v1, v2] W) (u : Value) : Bq b T #[v0, v1, u] (W.setCell ⟨b, 2, none⟩ u) := by
 have h' : W.heap[b]? = _ := h
 show (W.setCell ⟨b, 2, none⟩ u).heap[b]? = _
 simp [World.setCell, Array.getElem?_modify, h']
structure FkJ (V : World) (z j : Nat) (sv : Value) (d : ByteArray) (q : Option Addr) (N : Nat) (L : List Value) (S : Nat → Bool) (x38 x39 x40 x41 x42 x43 x44 x45 x46 x47 x48 x49 x50 : Value) (W : World) : Prop where
 e : S 12 = false → Below V.heap.size V W
 cl : S 12 = true → S 1 = true ∧ S 2 = true ∧ S 3 = true ∧ S 4 = true ∧ S 5 = true ∧ S 6 = true ∧ S 7 = true ∧ S 8 = true ∧ S 9 = true ∧ S 10 = true ∧ S 11 = true
 k2 : S 2 = true → S 1 = true
 k3 : S 3 = true → S 2 = true
 k4 : S 4 = true → S 3 = true
 k6 : S 6 = true → S 5 = true
 k7 : S 7 = true → S 6 = true
 k8 : S 8 = true → S 7 = true
 k9 : S 10 = true → S 9 = true
 k10 : S 10 = true → S 8 = true
 k11 : S 11 = true → S 10 = true
 f0 : S 0 = true → x38 = .pointer (some ⟨z + 1, 0, none⟩)
 f1 : S 1 = true → x39 = .pointer (some ⟨z + 1, 0, none⟩)
 f2 : S 2 = true → x40 = .pointer (some ⟨z + 1, 0, none⟩)
 f3 : S 3 = true → x41 = .pointer (some ⟨z + 1, 2, none⟩)
 f4 : S 4 = true → x42 = sv
 f5 : S 5 = true → x43 = .int .i64 (j : Int)
 f6 : S 6 = true → x44 = .int .u8 (j : Int)
 f7 : S 7 = true → ∃ g, x45 = .slice (some ⟨g, 0, none⟩) 1 1 ∧ (S 12 = false → W.heap[g]? = some (.cells #[.int .u8 (j : Int)] 5 (0, 0)))
 f8 : S 8 = true → x46 = .string (b1 j)
 f9 : S 9 = true → x47 = .agg #[.string d, .pointer q]
 f10 : S 10 = true → x48 = .agg #[.string (b1 j), .string d, .pointer q]
 f11 : S 11 = true → ∃ g, x49 = .slice (some ⟨g, 0, none⟩) 1 1 ∧ (S 12 = false → W.heap[g]? = some (.cells #[.string (b1 j), .string d, .pointer q] 79 (0, 0)))
 f12 : S 12 = true → ∃ U : World, Below V.heap.size V U ∧ U.grownBy W sv.ownBlock ∧ W.ownsRow (z + 2) 79 3 x50 (N + 1) (L ++ [.string (b1 j), .string d, .pointer q]) ∧ x50 ≠ .slice none 0 0 ∧ (x50.ownBlock = sv.ownBlock ∨ ∃ g, x50.ownBlock = some g ∧ U.heap.size ≤ g)
theorem FkJ.init (V : World) (z j : Nat) (sv : Value) (d : ByteArray) (q : Option Addr) (N : Nat) (L : List Value) (x38 x39 x40 x41 x42 x43 x44 x45 x46 x47 x48 x49 x50 : Value) : FkJ V z j sv d q N L (fun _ => false) x38 x39 x40 x41 x42 x43 x44 x45 x46 x47 x48 x49 x50 V.drew :=
 ⟨fun _ => (Below.refl _ V).drew, nofun, nofun, nofun, nofun, nofun, nofun, nofun, nofun, nofun, nofun, nofun, nofun, nofun, nofun, nofun, nofun, nofun, nofun, nofun, nofun, nofun, nofun, nofun⟩

set_option pp.maxSteps 400000 in
set_option pp.deepTerms true in
set_option maxRecDepth 20000 in
set_option maxHeartbeats 2000000 in
theorem readFork_of (k : Nat) (hk : RnC k) (xs : List Im) (hxs : xs.length = 16) (v : Im) (hf : tbs xs ≤ k) (hcs : capIs xs) (a : Option Addr) (c n : Nat) (w : World) (hn : n ≤ w.heap.size) (hm : rowMem n w a 0 xs) :
  Calls Tryd.prog 95 #[.slice a xs.length c, v.val] w fun e w' => Below w.heap.size w w' ∧ RdP (qfkN (ers xs) (er v) (rdRs (ers xs))) w e w' := by
 have hvv : v.val = .agg #[.bool v.l, .string v.t, .slice v.a v.xs.length v.c] := rfl
 rw [hvv]
 obtain ⟨o, ho⟩ : ∃ o, qfkN (ers xs) (er v) (rdRs (ers xs)) = o := ⟨_, rfl⟩
 rw [ho]
 unfold qfkN at ho
 rw [er_l, er_t] at ho
 obtain ⟨vl, e1⟩ : ∃ s, v.l = s := ⟨_, rfl⟩
 obtain ⟨vt, e2⟩ : ∃ s, v.t = s := ⟨_, rfl⟩
 obtain ⟨vs, e3⟩ : ∃ s, Value.slice v.a v.xs.length v.c = s := ⟨_, rfl⟩
 rw [e1, e2, e3]
 rw [e1, e2] at ho
 clear e1 e2 e3 hvv
 rw [hxs]
 cases vl with
 | true =>
  rw [if_pos rfl] at ho
  subst ho
  go_enter Tryd.func95, Tryd.ntmps95
  go_wp2
  go_ret
  exact ⟨((Below.refl _ w).alloc (Nat.le_refl _) _), rfl⟩
 | false =>
  rw [if_neg (by decide)] at ho
  go_enter Tryd.func95, Tryd.ntmps95
  go_wp2
  obtain ⟨z, hz⟩ : ∃ c, w.heap.size = c := ⟨_, rfl⟩
  have HZ : Hid (w.heap.size = z) := hz
  have hX : (ers xs).length = 16 := by rw [ers_len]; exact hxs
  obtain ⟨X, hXX⟩ : ∃ q, ers xs = q := ⟨_, rfl⟩
  obtain ⟨rs, hrs⟩ : ∃ q, rdRs X = q := ⟨_, rfl⟩
  rw [hXX] at ho hX
  rw [hrs] at ho
  refine wpOf (fun W => QfI z w vt .nil [] (.slice none 0 0) W) ?_ ?_
  ·have T2 := alloc_two7 w (.cells #[.bool false, .string vt, vs] 55) (.cells #[.string ⟨#[]⟩, .string vt, .slice none 0 0] 77)
   rw [hz] at T2
   refine ⟨?_, T2.2, own_none7 _ _ _ _ , trivial⟩
   rw [← hz]
   exact ((Below.refl _ w).alloc (Nat.le_refl _) _).alloc (by simp) _
  rintro V HV
  rw [hz]
  have hnz : n ≤ z := by rw [← hz]; exact hn
  clear hz hn
  go_loopg [18] 16 (fun gk i wr => ∃ (j : Nat) (s : PS) (l : List Stp) (sv : Value), j + gk = 16 ∧ i = .int .i64 (j : Int) ∧ QfI z w vt s l sv wr ∧ Hid (s.len ≤ j) ∧ Hid (qfkS 0 .nil X rs = qfkS j s (X.drop j) (rs.drop j)))
  case atStart => exact ⟨0, .nil, [], .slice none 0 0, rfl, rfl, HV, Nat.le_refl _, rfl⟩
  case round =>
   clear HV
   obtain ⟨j, s, l, sv, hjg, rfl, HF, HL0, hfk⟩ := hrel
   have HL : Hid (s.len ≤ 16) := by have := HL0.out; show s.len ≤ 16; omega
   by_cases hj : j < 16
   ·have l0 : (j : Int) < 16 := by omega
    obtain ⟨x, hx⟩ : ∃ x, xs[j]? = some x := ⟨xs[j]'(by omega), List.getElem?_eq_getElem (by omega)⟩
    obtain ⟨⟨b, o', hbn, rfl, m0, m1, m2⟩, hmx⟩ := row_at xs 0 hm j x hx
    rw [Nat.zero_add, Nat.mul_comm 3 j] at m0 m1 m2
    have hXj : X[j]? = some (er x) := by rw [← hXX]; exact ers_at xs j x hx
    have hrj : rs[j]? = some (rdR (er x)) := by rw [← hrs, rdRs_map, List.getElem?_map, hXj]; rfl
    have hBz := HF.b
    have n0 := (hBz.cell (p := ⟨b, o' + j * 3, none⟩) (by show b < z; omega)).trans m0
    have n1 := (hBz.cell (p := ⟨b, o' + j * 3 + 1, none⟩) (by show b < z; omega)).trans m1
    have n2 := (hBz.cell (p := ⟨b, o' + j * 3 + 2, none⟩) (by show b < z; omega)).trans m2
    have hxt : tb x ≤ k := Nat.le_trans (tbs_at xs j x hx) hf
    have KR := readRef_of k hk x hxt (capIs_at xs j x hcs hx) n
    obtain ⟨rx, hrx⟩ : ∃ q, rdR (er x) = q := ⟨_, rfl⟩
    rw [hrx] at KR
    have hxv : x.val = .agg #[.bool x.l, .string x.t, .slice x.a x.xs.length x.c] := rfl
    have hxs2 : x.sl = .slice x.a x.xs.length x.c := rfl
    rw [hxv] at KR
    obtain ⟨xl, e1⟩ : ∃ q, x.l = q := ⟨_, rfl⟩
    obtain ⟨xt, e2⟩ : ∃ q, x.t = q := ⟨_, rfl⟩
    obtain ⟨xa, e3⟩ : ∃ q, x.a = q := ⟨_, rfl⟩
    obtain ⟨xn, e4⟩ : ∃ q, x.xs.length = q := ⟨_, rfl⟩
    obtain ⟨xc, e5⟩ : ∃ q, x.c = q := ⟨_, rfl⟩
    have hst : Hid _ := qfkS_step j s X rs (er x) rx xl xt ((er_l x).trans e1) ((er_t x).trans e2) hXj (hrj.trans (congrArg some hrx))
    replace hst := hst.out
    rw [e1] at KR n0
    rw [e2] at KR n1
    rw [e3, e4, e5] at KR hxs2
    rw [hxs2] at n2
    have A1 := (Below.refl wr.heap.size wr).alloc (Nat.le_refl _) (.cells #[.bool xl, .string xt, .slice xa xn xc] 55)
    have hN1 := World.alloc_heap_new wr (.cells #[.bool xl, .string xt, .slice xa xn xc] 55)
    have HX : Hid (_ ∧ _ ∧ _ ∧ _ ∧ _ ∧ _ ∧ _) := ⟨A1, hN1, hst, hmx, hfk, HF, hBz⟩
    clear A1 hN1 hst hmx hfk HF hBz m0 m1 m2 hm
    by_cases hem : xl = false ∧ xt.size = 0
    ·obtain ⟨rfl, h0⟩ := hem
     obtain rfl := empty_iff xt (by omega)
     go_wp2
     go_roundg (gk - 1)
     case measure => omega
     case rel =>
      obtain ⟨A1, hN1, hst, hmx, hfk, HF, hBz⟩ := HX.out
      refine ⟨j + 1, s, l, sv, by omega, rfl, HF.below (Nat.le_of_lt (Nat.lt_of_succ_lt HF.n.lt)) A1, Nat.le_succ_of_le HL0.out, ?_⟩
      show _ = _
      rw [hfk, hst]
      rw [if_pos]
      first | exact ⟨rfl, rfl⟩ | exact ⟨trivial, rfl⟩ | simp
    ·have hst2 := HX.out.2.2.1
     rw [if_neg hem] at hst2
     have HS : Hid _ := hst2
     clear hst2
     cases xl with
     | true =>
      clear hem
      obtain ⟨A1, hN1, hst, hmx, hfk, HF, hBz⟩ := HX.out
      have hzw : z + 1 < wr.heap.size := HF.n.lt
      have hM1 : inMem n (wr.alloc (.cells #[.bool true, .string xt, .slice xa xn xc] 55)) x := inMem_below (Nat.le_trans hnz (by omega)) (A1.mono (by omega)) _ (inMem_below (by rw [HZ.out]; exact hnz) (hBz.mono hnz) _ hmx)
      have KR1 := KR _ (by simp; omega) hM1
      have H1 : Hid (_ ∧ _ ∧ _ ∧ _) := ⟨A1, HF, hfk, hN1⟩
      clear A1 hN1 hst hmx hfk HF hBz HX hM1 KR
      go_wp2_with fail
      refine KR1.mono ?_
      rintro e w2 ⟨B2, hR⟩
      clear KR1
      obtain ⟨A1, HF, hfk, hN1⟩ := H1.out
      have BA := belowStep A1 A1.size B2
      have HF2 := HF.below (by omega) BA
      have hz2 : wr.heap.size < w2.heap.size := by have := B2.size; simp at this; omega
      clear H1 hN1
      cases rx with
      | none =>
       obtain ⟨d, q, rfl⟩ := hR
       have BW := HF2.b.alloc (by omega) (.cells #[.string d, .pointer q] 73)
       have hon : o = none := by rw [← ho, hfk, HS.out]; rfl
       subst hon
       go_wp2
       go_ret
       rw [HZ.out]
       exact ⟨BW, rfl⟩
      | some r =>
       obtain ⟨d, q, rfl, hR⟩ := hR
       have A3 := (Below.refl w2.heap.size w2).alloc (Nat.le_refl _) (.cells #[.string d, .pointer q] 73)
       have hQ3 : Bq w2.heap.size 73 #[.string d, .pointer q] (w2.alloc (.cells #[.string d, .pointer q] 73)) := World.alloc_heap_new w2 _
       have HF3 := HF2.below (by omega) A3
       have hown2 : ∀ g, sv.ownBlock = some g → g < wr.heap.size := fun g hg => (HF.o.lt g hg).2
       have hr3 : prIn (fun b => z + 2 ≤ b ∧ b < (w2.alloc (.cells #[.string d, .pointer q] 73)).heap.size ∧ sv.ownBlock ≠ some b) (w2.alloc (.cells #[.string d, .pointer q] 73)) d q r := prIn_of (fun b hb => ⟨⟨by have := hb.1; simp at this; omega, by simp; omega, fun e => by have h1 := hown2 b e; have h2 := hb.1; simp at h2; omega⟩, A3.block b hb.2⟩) r d q hR
       have hsz3 : (w2.alloc (.cells #[.string d, .pointer q] 73)).heap.size = w2.heap.size + 1 := by simp
       obtain ⟨g8, hg8⟩ : ∃ g, w2.heap.size = g := ⟨_, rfl⟩
       have H3 : Hid (_ ∧ _ ∧ _ ∧ _ ∧ _) := ⟨hQ3, HF3, hr3, hfk, hsz3⟩
       clear A3 hQ3 HF3 hr3 hR hsz3 HF2 HF BA B2 A1 hfk hown2
       go_wp2
       obtain ⟨V, hV⟩ : ∃ V, w2.alloc (.cells #[.string d, .pointer q] 73) = V := ⟨_, rfl⟩
       rw [hV] at H3
       rw [hV]
       rw [hg8] at H3
       obtain ⟨hQ3, HF3, hr3, hfk, hsz3⟩ := H3.out
       have hz3 : z + 1 < V.heap.size := HF3.n.lt
       have hsl : s.len ≤ 16 := HL.out
       have hj256 : j < 256 := by omega
       have HQ : Hid (_ ∧ _ ∧ _ ∧ _ ∧ _) := ⟨hQ3, HF3, hr3, hfk, hV⟩
       clear hQ3 HF3 hr3 hfk hV H3
       refine region_inv_tail 13 (fun S aa W => ∃ x38 x39 x40 x41 x42 x43 x44 x45 x46 x47 x48 x49 x50 : Value, aa = { tmps := #[Value.slice (some { block := b, off := o' }) 16 c, Value.agg #[Value.bool false, Value.string vt, vs], undef, Value.pointer (some { block := z, off := 0 }), u4, Value.pointer (some { block := z + 1, off := 0 }), Value.int IntKind.i64 ↑j, Value.pointer (some { block := wr.heap.size, off := 0 }), Value.pointer (some { block := g8, off := 0 }), Value.bool true, Value.pointer (some { block := z, off := 0 }), Value.bool false, Value.pointer (some { block := z, off := 1 }), Value.string vt, Value.agg #[Value.string { data := #[] }, Value.string vt, Value.slice none 0 0], Value.pointer (some { block := z + 1, off := 0 }), Value.slice (some { block := b, off := o' }) 16 c, Value.int IntKind.i64 16, Value.int IntKind.i64 ↑j, Value.bool true, Value.int IntKind.i64 ↑j, Value.pointer (some { block := b, off := o' + j * 3 }), Value.agg #[Value.bool true, Value.string xt, Value.slice xa xn xc], Value.pointer (some { block := wr.heap.size, off := 0 }), Value.bool true, Value.bool false, Value.bool false, undef, undef, undef, Value.bool false, Value.tuple #[Value.agg #[Value.string d, Value.pointer q], Value.bool true], Value.agg #[Value.bool true, Value.string xt, Value.slice xa xn xc], Value.tuple #[Value.agg #[Value.string d, Value.pointer q], Value.bool true], Value.agg #[Value.string d, Value.pointer q], Value.bool true, Value.bool true, Value.bool false, x38, x39, x40, x41, x42, x43, x44, x45, x46, x47, x48, x49, x50, u51, u52, u53, undef], defers := [] } ∧ FkJ V z j sv d q s.len (stC l) S x38 x39 x40 x41 x42 x43 x44 x45 x46 x47 x48 x49 x50 W) (by kernel_rfl) (by kernel_rfl) ?_ ?_ ?_
       ·exact ⟨u38, u39, u40, u41, u42, u43, u44, u45, u46, u47, u48, u49, u50, rfl, FkJ.init V z j sv d q s.len (stC l) u38 u39 u40 u41 u42 u43 u44 u45 u46 u47 u48 u49 u50⟩
       ·intro i o S aa W hin hi hun hJ hall K hK
        obtain ⟨x38, x39, x40, x41, x42, x43, x44, x45, x46, x47, x48, x49, x50, rfl, h⟩ := hJ
        have hcase : i = 0 ∨ i = 1 ∨ i = 2 ∨ i = 3 ∨ i = 4 ∨ i = 5 ∨ i = 6 ∨ i = 7 ∨ i = 8 ∨ i = 9 ∨ i = 10 ∨ i = 11 ∨ i = 12 := by omega
        rcases hcase with rfl | rfl | rfl | rfl | rfl | rfl | rfl | rfl | rfl | rfl | rfl | rfl | rfl
        all_goals (have ho := (Option.some.inj hi).symm; subst ho; clear hi hin)
        ·go_simp
         exact hK _ _ ⟨_, x39, x40, x41, x42, x43, x44, x45, x46, x47, x48, x49, x50, rfl, ⟨h.e, h.cl, h.k2, h.k3, h.k4, h.k6, h.k7, h.k8, h.k9, h.k10, h.k11, fun _ => rfl, h.f1, h.f2, h.f3, h.f4, h.f5, h.f6, h.f7, h.f8, h.f9, h.f10, h.f11, h.f12⟩⟩
        ·have n12 : S 12 = false := by
          cases hh : S 12 with
          | false => rfl
          | true => exact absurd ((h.cl hh).1) (by rw [hun]; decide)
         have hE := h.e n12
         go_simp
         exact hK _ _ ⟨x38, _, x40, x41, x42, x43, x44, x45, x46, x47, x48, x49, x50, rfl, ⟨h.e, fun hh => absurd ((h.cl hh).1) (by rw [hun]; decide), fun _ => rfl, h.k3, h.k4, h.k6, h.k7, h.k8, h.k9, h.k10, h.k11, h.f0, fun _ => rfl, h.f2, h.f3, h.f4, h.f5, h.f6, h.f7, h.f8, h.f9, h.f10, h.f11, h.f12⟩⟩
        ·have s_1 : S 1 = true := hall ⟨1, .data⟩ (by simp) rfl
         obtain rfl := (h.f1 s_1)
         have n12 : S 12 = false := by
          cases hh : S 12 with
          | false => rfl
          | true => exact absurd ((h.cl hh).2.1) (by rw [hun]; decide)
         have hE := h.e n12
         go_simp
         exact hK _ _ ⟨x38, _, _, x41, x42, x43, x44, x45, x46, x47, x48, x49, x50, rfl, ⟨h.e, fun hh => absurd ((h.cl hh).2.1) (by rw [hun]; decide), fun _ => s_1, fun _ => rfl, h.k4, h.k6, h.k7, h.k8, h.k9, h.k10, h.k11, h.f0, h.f1, fun _ => rfl, h.f3, h.f4, h.f5, h.f6, h.f7, h.f8, h.f9, h.f10, h.f11, h.f12⟩⟩
        ·have s_2 : S 2 = true := hall ⟨2, .data⟩ (by simp) rfl
         obtain rfl := (h.f2 s_2)
         have n12 : S 12 = false := by
          cases hh : S 12 with
          | false => rfl
          | true => exact absurd ((h.cl hh).2.2.1) (by rw [hun]; decide)
         have hE := h.e n12
         go_simp
         exact hK _ _ ⟨x38, x39, _, _, x42, x43, x44, x45, x46, x47, x48, x49, x50, rfl, ⟨h.e, fun hh => absurd ((h.cl hh).2.2.1) (by rw [hun]; decide), h.k2, fun _ => s_2, fun _ => rfl, h.k6, h.k7, h.k8, h.k9, h.k10, h.k11, h.f0, h.f1, h.f2, fun _ => rfl, h.f4, h.f5, h.f6, h.f7, h.f8, h.f9, h.f10, h.f11, h.f12⟩⟩
        ·have s_3 : S 3 = true := hall ⟨3, .data⟩ (by simp) rfl
         obtain rfl := (h.f3 s_3)
         have n12 : S 12 = false := by
          cases hh : S 12 with
          | false => rfl
          | true => exact absurd ((h.cl hh).2.2.2.1) (by rw [hun]; decide)
         have hE := h.e n12
         have c4 : W.cell? ⟨z + 1, 2, none⟩ = some sv := (hE.cell (p := ⟨z + 1, 2, none⟩) hz3).trans (HQ.out.2.1.n.cell 2)
         go_simp
         exact hK _ _ ⟨x38, x39, x40, _, _, x43, x44, x45, x46, x47, x48, x49, x50, rfl, ⟨h.e, fun hh => absurd ((h.cl hh).2.2.2.1) (by rw [hun]; decide), h.k2, h.k3, fun _ => s_3, h.k6, h.k7, h.k8, h.k9, h.k10, h.k11, h.f0, h.f1, h.f2, h.f3, fun _ => rfl, h.f5, h.f6, h.f7, h.f8, h.f9, h.f10, h.f11, h.f12⟩⟩
        ·have n12 : S 12 = false := by
          cases hh : S 12 with
          | false => rfl
          | true => exact absurd ((h.cl hh).2.2.2.2.1) (by rw [hun]; decide)
         have hE := h.e n12
         go_simp
         exact hK _ _ ⟨x38, x39, x40, x41, x42, _, x44, x45, x46, x47, x48, x49, x50, rfl, ⟨h.e, fun hh => absurd ((h.cl hh).2.2.2.2.1) (by rw [hun]; decide), h.k2, h.k3, h.k4, fun _ => rfl, h.k7, h.k8, h.k9, h.k10, h.k11, h.f0, h.f1, h.f2, h.f3, h.f4, fun _ => rfl, h.f6, h.f7, h.f8, h.f9, h.f10, h.f11, h.f12⟩⟩
        ·have s_5 : S 5 = true := hall ⟨5, .data⟩ (by simp) rfl
         obtain rfl := (h.f5 s_5)
         have n12 : S 12 = false := by
          cases hh : S 12 with
          | false => rfl
          | true => exact absurd ((h.cl hh).2.2.2.2.2.1) (by rw [hun]; decide)
         have hE := h.e n12
         have hw : IntKind.u8.wrap (j : Int) = (j : Int) := by rw [IntKind.wrap_u8]; omega
         go_simp
         exact hK _ _ ⟨x38, x39, x40, x41, x42, _, _, x45, x46, x47, x48, x49, x50, rfl, ⟨h.e, fun hh => absurd ((h.cl hh).2.2.2.2.2.1) (by rw [hun]; decide), h.k2, h.k3, h.k4, fun _ => s_5, fun _ => rfl, h.k8, h.k9, h.k10, h.k11, h.f0, h.f1, h.f2, h.f3, h.f4, h.f5, fun _ => rfl, h.f7, h.f8, h.f9, h.f10, h.f11, h.f12⟩⟩
        ·have s_6 : S 6 = true := hall ⟨6, .data⟩ (by simp) rfl
         obtain rfl := (h.f6 s_6)
         have n12 : S 12 = false := by
          cases hh : S 12 with
          | false => rfl
          | true => exact absurd ((h.cl hh).2.2.2.2.2.2.1) (by rw [hun]; decide)
         have hE := h.e n12
         go_simp
         exact hK _ _ ⟨x38, x39, x40, x41, x42, x43, _, _, x46, x47, x48, x49, x50, rfl, ⟨fun _ => hE.alloc hE.size _, fun hh => absurd ((h.cl hh).2.2.2.2.2.2.1) (by rw [hun]; decide), h.k2, h.k3, h.k4, h.k6, fun _ => s_6, fun _ => rfl, h.k9, h.k10, h.k11, h.f0, h.f1, h.f2, h.f3, h.f4, h.f5, h.f6, fun _ => ⟨W.heap.size, rfl, fun _ => World.alloc_heap_new W _⟩, h.f8, h.f9, h.f10, fun s => (let ⟨g, e1, e2⟩ := h.f11 s; ⟨g, e1, fun _ => (((Below.refl _ W).alloc (Nat.le_refl _) _).block g (Array.getElem?_eq_some_iff.1 (e2 n12)).1).trans (e2 n12)⟩), fun hh => absurd ((h.cl hh).2.2.2.2.2.2.1) (by rw [hun]; decide)⟩⟩
        ·have s_7 : S 7 = true := hall ⟨7, .data⟩ (by simp) rfl
         obtain ⟨g7, rfl, hg7⟩ := (h.f7 s_7)
         have n12 : S 12 = false := by
          cases hh : S 12 with
          | false => rfl
          | true => exact absurd ((h.cl hh).2.2.2.2.2.2.2.1) (by rw [hun]; decide)
         have hE := h.e n12
         have conv : (convert 24 9 (.slice (some ⟨g7, 0, none⟩) 1 1)).run Tryd.prog W = .ok (.string (b1 j)) W := by
          have hh := run_convert_bytes_back (P := Tryd.prog) W 24 9 5 ⟨g7, 0, none⟩ 1 [UInt8.ofNat j] Tryd.underlying24 Tryd.underlying5 Tryd.underlying9 (fun i hi => by
           have hi0 : i = 0 := by simp at hi; omega
           subst hi0
           rw [Addr.add_lit, Lib.cell_of_heap (hg7 n12)]
           simp
           omega)
          exact hh
         go_simp
         exact hK _ _ ⟨x38, x39, x40, x41, x42, x43, x44, _, _, x47, x48, x49, x50, rfl, ⟨h.e, fun hh => absurd ((h.cl hh).2.2.2.2.2.2.2.1) (by rw [hun]; decide), h.k2, h.k3, h.k4, h.k6, h.k7, fun _ => s_7, h.k9, fun _ => rfl, h.k11, h.f0, h.f1, h.f2, h.f3, h.f4, h.f5, h.f6, h.f7, fun _ => rfl, h.f9, h.f10, h.f11, h.f12⟩⟩
        ·have n12 : S 12 = false := by
          cases hh : S 12 with
          | false => rfl
          | true => exact absurd ((h.cl hh).2.2.2.2.2.2.2.2.1) (by rw [hun]; decide)
         have hE := h.e n12
         have c90 : W.cell? ⟨g8, 0, none⟩ = some (.string d) := (hE.cell (p := ⟨g8, 0, none⟩) HQ.out.1.lt).trans (HQ.out.1.cell 0)
         have c91 : W.cell? ⟨g8, 1, none⟩ = some (.pointer q) := (hE.cell (p := ⟨g8, 1, none⟩) HQ.out.1.lt).trans (HQ.out.1.cell 1)
         go_simp
         exact hK _ _ ⟨x38, x39, x40, x41, x42, x43, x44, x45, x46, _, x48, x49, x50, rfl, ⟨h.e, fun hh => absurd ((h.cl hh).2.2.2.2.2.2.2.2.1) (by rw [hun]; decide), h.k2, h.k3, h.k4, h.k6, h.k7, h.k8, fun _ => rfl, h.k10, h.k11, h.f0, h.f1, h.f2, h.f3, h.f4, h.f5, h.f6, h.f7, h.f8, fun _ => rfl, h.f10, h.f11, h.f12⟩⟩
        ·have s_8 : S 8 = true := hall ⟨8, .data⟩ (by simp) rfl
         obtain rfl := (h.f8 s_8)
         have s_9 : S 9 = true := hall ⟨9, .data⟩ (by simp) rfl
         obtain rfl := (h.f9 s_9)
         have n12 : S 12 = false := by
          cases hh : S 12 with
          | false => rfl
          | true => exact absurd ((h.cl hh).2.2.2.2.2.2.2.2.2.1) (by rw [hun]; decide)
         have hE := h.e n12
         go_simp
         exact hK _ _ ⟨x38, x39, x40, x41, x42, x43, x44, x45, _, _, _, x49, x50, rfl, ⟨h.e, fun hh => absurd ((h.cl hh).2.2.2.2.2.2.2.2.2.1) (by rw [hun]; decide), h.k2, h.k3, h.k4, h.k6, h.k7, h.k8, fun _ => s_9, fun _ => s_8, fun _ => rfl, h.f0, h.f1, h.f2, h.f3, h.f4, h.f5, h.f6, h.f7, h.f8, h.f9, fun _ => rfl, h.f11, h.f12⟩⟩
        ·have s_10 : S 10 = true := hall ⟨10, .data⟩ (by simp) rfl
         obtain rfl := (h.f10 s_10)
         have n12 : S 12 = false := by
          cases hh : S 12 with
          | false => rfl
          | true => exact absurd ((h.cl hh).2.2.2.2.2.2.2.2.2.2) (by rw [hun]; decide)
         have hE := h.e n12
         go_simp
         exact hK _ _ ⟨x38, x39, x40, x41, x42, x43, x44, x45, x46, x47, _, _, x50, rfl, ⟨fun _ => hE.alloc hE.size _, fun hh => absurd ((h.cl hh).2.2.2.2.2.2.2.2.2.2) (by rw [hun]; decide), h.k2, h.k3, h.k4, h.k6, h.k7, h.k8, h.k9, h.k10, fun _ => s_10, h.f0, h.f1, h.f2, h.f3, h.f4, h.f5, h.f6, fun s => (let ⟨g, e1, e2⟩ := h.f7 s; ⟨g, e1, fun _ => (((Below.refl _ W).alloc (Nat.le_refl _) _).block g (Array.getElem?_eq_some_iff.1 (e2 n12)).1).trans (e2 n12)⟩), h.f8, h.f9, h.f10, fun _ => ⟨W.heap.size, rfl, fun _ => World.alloc_heap_new W _⟩, fun hh => absurd ((h.cl hh).2.2.2.2.2.2.2.2.2.2) (by rw [hun]; decide)⟩⟩
        ·have s_4 : S 4 = true := hall ⟨4, .data⟩ (by simp) rfl
         obtain rfl := (h.f4 s_4).symm
         have s_11 : S 11 = true := hall ⟨11, .data⟩ (by simp) rfl
         obtain ⟨g11, rfl, hg11⟩ := (h.f11 s_11)
         have n12 : S 12 = false := hun
         have hE := h.e n12
         obtain ⟨i1, hj0, hj1, hj2, hj3⟩ := info_parts info_pstep
         have hsz := hE.size
         obtain ⟨v', w', hr, h2, h3, h4, h5⟩ := append_where (P := Tryd.prog) W (z + 2) 75 75 79 i1 _ 3 40 Tryd.underlying75 hj0 hj1 hj2 hj3 rfl (by decide) sv s.len (stC l) (owns_below HQ.out.2.1.o hE) ⟨g11, 0, none⟩ 1 1 [.string (b1 j), .string d, .pointer q] rfl
          (fun i u hi => by rw [Addr.add_lit, Nat.zero_add, Lib.cell_of_heap (hg11 n12)]; simpa using hi) (fun u hu => by simp only [List.mem_cons, List.not_mem_nil, or_false] at hu; rcases hu with rfl | rfl | rfl <;> rfl)
          (by unfold maxLen; omega) (by omega) (by omega) (by decide)
         refine wanted_all (by rfl) _ ?_
         refine op_append (.tmp 42) (.tmp 49) 75 rfl hr ?_
         exact hK _ _ ⟨x38, x39, x40, x41, _, x43, x44, x45, x46, x47, x48, _, _, rfl, ⟨nofun, fun _ => ⟨h.k2 (h.k3 (h.k4 s_4)), h.k3 (h.k4 s_4), h.k4 s_4, s_4, h.k6 (h.k7 (h.k8 (h.k10 (h.k11 s_11)))), h.k7 (h.k8 (h.k10 (h.k11 s_11))), h.k8 (h.k10 (h.k11 s_11)), h.k10 (h.k11 s_11), h.k9 (h.k11 s_11), h.k11 s_11, s_11⟩, h.k2, h.k3, h.k4, h.k6, h.k7, h.k8, h.k9, h.k10, h.k11, h.f0, h.f1, h.f2, h.f3, h.f4, h.f5, h.f6, fun s => (let ⟨g, e1, e2⟩ := h.f7 s; ⟨g, e1, nofun⟩), h.f8, h.f9, h.f10, fun s => (let ⟨g, e1, e2⟩ := h.f11 s; ⟨g, e1, nofun⟩), fun _ => ⟨W, hE, h3, h2, h4, h5⟩⟩⟩
       ·rintro S aa W hall ⟨x38, x39, x40, x41, x42, x43, x44, x45, x46, x47, x48, x49, x50, rfl, h⟩
        obtain rfl := h.f0 (hall 0 (by decide))
        obtain ⟨U, BU, hgU, hown, hnn, hob⟩ := h.f12 (hall 12 (by decide))
        clear h hall
        obtain ⟨g, cp, rfl⟩ : ∃ g c, x50 = .slice (some ⟨g, 0, none⟩) (s.len + 1) c := by
         rcases hown.2 with ⟨h, _⟩ | ⟨g, c, _, h, _⟩
         ·exact absurd h hnn
         ·exact ⟨g, c, h⟩
        have HW : Hid (_ ∧ _ ∧ _ ∧ _) := ⟨BU, hgU, hown, hob⟩
        clear BU hgU hown hob hnn
        obtain ⟨hQ3, HF3, hr3, hfk, hV⟩ := HQ.out
        obtain ⟨BU, hgU, hown, hob⟩ := HW.out
        have FU := HF3.below (by omega) BU
        have hsvb : ∀ b, sv.ownBlock = some b → z + 2 ≤ b ∧ b < V.heap.size := fun b e => HF3.o.lt b e
        have hUz := BU.size
        have hWz := hgU.size
        have nW : Bq (z + 1) 77 #[.string ⟨#[]⟩, .string vt, sv] W := (hgU.block (z + 1) (by omega) (fun e => by have := hsvb _ e.symm; omega)).trans FU.n
        have c2 : W.cell? ⟨z + 1, 2, none⟩ = some sv := nW.cell 2
        have f2 := nW.fr 2
        have hgl := hown.lt g rfl
        have hgS : W.grownBy (W.setCell ⟨z + 1, 2, none⟩ (.slice (some ⟨g, 0, none⟩) (s.len + 1) cp)) (some (z + 1)) := ⟨rfl, rfl, rfl, by simp [World.setCell], fun q _ hq => Below.heap_setCell _ _ _ _ (fun e => hq (by simp [e]))⟩
        have nF := nW.put3 (.slice (some ⟨g, 0, none⟩) (s.len + 1) cp)
        have oF := hown.kept hgS (.inr fun e => by injection e with e; have e' : g = z + 1 := e; omega)
        have bF : Below z w (W.setCell ⟨z + 1, 2, none⟩ (.slice (some ⟨g, 0, none⟩) (s.len + 1) cp)) := (FU.b.grown hgU (by omega) (fun b e => by have := hsvb b e; omega)).setCell (p := ⟨z + 1, 2, none⟩) (by show z ≤ z + 1; omega) _
        have hkq : ∀ b, z + 2 ≤ b ∧ b < U.heap.size ∧ sv.ownBlock ≠ some b → (z + 2 ≤ b ∧ b < (W.setCell ⟨z + 1, 2, none⟩ (.slice (some ⟨g, 0, none⟩) (s.len + 1) cp)).heap.size ∧ (Value.slice (some ⟨g, 0, none⟩) (s.len + 1) cp).ownBlock ≠ some b) ∧ (W.setCell ⟨z + 1, 2, none⟩ (.slice (some ⟨g, 0, none⟩) (s.len + 1) cp)).heap[b]? = U.heap[b]? := fun b hb => ⟨⟨hb.1, by rw [show (W.setCell ⟨z + 1, 2, none⟩ (.slice (some ⟨g, 0, none⟩) (s.len + 1) cp)).heap.size = W.heap.size by simp [World.setCell]]; omega, fun e => by
          rcases hob with h | ⟨g', h1, h2⟩
          ·exact hb.2.2 (h.symm.trans e)
          ·rw [e] at h1
           injection h1 with h1
           omega⟩, (hgS.block b (by omega) (fun e => by injection e with e; omega)).trans (hgU.block b hb.2.1 (fun e => hb.2.2 e.symm))⟩
        have rF := psR_snoc s l (b1 j) r d q (psR_of hkq s l FU.r) (prIn_of (fun b hb => hkq b ⟨hb.1, by omega, hb.2.2⟩) r d q (prIn_of (q := fun b => z + 2 ≤ b ∧ b < V.heap.size ∧ sv.ownBlock ≠ some b) (fun b hb => ⟨hb, BU.block b hb.2.1⟩) r d q hr3))
        have hcs : stC (l ++ [(b1 j, d, q)]) = stC l ++ [.string (b1 j), .string d, .pointer q] := stC_snoc l (b1 j, d, q)
        have QF : QfI z w vt (s.snoc (b1 j) r) (l ++ [(b1 j, d, q)]) (.slice (some ⟨g, 0, none⟩) (s.len + 1) cp) (W.setCell ⟨z + 1, 2, none⟩ (.slice (some ⟨g, 0, none⟩) (s.len + 1) cp)) := ⟨bF, nF, by rw [PS.snoc_len, hcs]; exact oF, rF⟩
        have HFin : Hid (_ ∧ _) := ⟨QF, hfk⟩
        clear QF hfk bF nF oF rF hkq hgS FU hsvb nW hQ3 HF3 hr3 hV BU hgU hown hob HQ HW hcs hgl
        go_wp2
        go_roundg (gk - 1)
        case measure => omega
        case rel =>
         obtain ⟨QF, hfk⟩ := HFin.out
         refine ⟨j + 1, s.snoc (b1 j) r, l ++ [(b1 j, d, q)], _, by omega, rfl, QF, ?_, ?_⟩
         ·show (s.snoc (b1 j) r).len ≤ j + 1
          rw [PS.snoc_len]
          have := HL0.out
          omega
         ·show _ = _
          rw [hfk]
          exact HS.out
     | false =>
      have hne := ne_empty7 xt (by rcases Nat.eq_zero_or_pos xt.size with h | h; exact absurd ⟨rfl, h⟩ hem; exact h)
      clear hem
      obtain ⟨A1, hN1, hst, hmx, hfk, HF, hBz⟩ := HX.out
      have hzw : z + 1 < wr.heap.size := HF.n.lt
      have hM1 : inMem n (wr.alloc (.cells #[.bool false, .string xt, .slice xa xn xc] 55)) x := inMem_below (Nat.le_trans hnz (by omega)) (A1.mono (by omega)) _ (inMem_below (by rw [HZ.out]; exact hnz) (hBz.mono hnz) _ hmx)
      have KR1 := KR _ (by simp; omega) hM1
      have H1 : Hid (_ ∧ _ ∧ _ ∧ _) := ⟨A1, HF, hfk, hN1⟩
      clear A1 hN1 hst hmx hfk HF hBz HX hM1 KR
      go_wp2_with fail
      refine KR1.mono ?_
      rintro e w2 ⟨B2, hR⟩
      clear KR1
      obtain ⟨A1, HF, hfk, hN1⟩ := H1.out
      have BA := belowStep A1 A1.size B2
      have HF2 := HF.below (by omega) BA
      have hz2 : wr.heap.size < w2.heap.size := by have := B2.size; simp at this; omega
      clear H1 hN1
      cases rx with
      | none =>
       obtain ⟨d, q, rfl⟩ := hR
       have BW := HF2.b.alloc (by omega) (.cells #[.string d, .pointer q] 73)
       have hon : o = none := by rw [← ho, hfk, HS.out]; rfl
       subst hon
       go_wp2
       go_ret
       rw [HZ.out]
       exact ⟨BW, rfl⟩
      | some r =>
       obtain ⟨d, q, rfl, hR⟩ := hR
       have A3 := (Below.refl w2.heap.size w2).alloc (Nat.le_refl _) (.cells #[.string d, .pointer q] 73)
       have hQ3 : Bq w2.heap.size 73 #[.string d, .pointer q] (w2.alloc (.cells #[.string d, .pointer q] 73)) := World.alloc_heap_new w2 _
       have HF3 := HF2.below (by omega) A3
       have hown2 : ∀ g, sv.ownBlock = some g → g < wr.heap.size := fun g hg => (HF.o.lt g hg).2
       have hr3 : prIn (fun b => z + 2 ≤ b ∧ b < (w2.alloc (.cells #[.string d, .pointer q] 73)).heap.size ∧ sv.ownBlock ≠ some b) (w2.alloc (.cells #[.string d, .pointer q] 73)) d q r := prIn_of (fun b hb => ⟨⟨by have := hb.1; simp at this; omega, by simp; omega, fun e => by have h1 := hown2 b e; have h2 := hb.1; simp at h2; omega⟩, A3.block b hb.2⟩) r d q hR
       have hsz3 : (w2.alloc (.cells #[.string d, .pointer q] 73)).heap.size = w2.heap.size + 1 := by simp
       obtain ⟨g8, hg8⟩ : ∃ g, w2.heap.size = g := ⟨_, rfl⟩
       have H3 : Hid (_ ∧ _ ∧ _ ∧ _ ∧ _) := ⟨hQ3, HF3, hr3, hfk, hsz3⟩
       clear A3 hQ3 HF3 hr3 hR hsz3 HF2 HF BA B2 A1 hfk hown2
       go_wp2
       obtain ⟨V, hV⟩ : ∃ V, w2.alloc (.cells #[.string d, .pointer q] 73) = V := ⟨_, rfl⟩
       rw [hV] at H3
       rw [hV]
       rw [hg8] at H3
       obtain ⟨hQ3, HF3, hr3, hfk, hsz3⟩ := H3.out
       have hz3 : z + 1 < V.heap.size := HF3.n.lt
       have hsl : s.len ≤ 16 := HL.out
       have hj256 : j < 256 := by omega
       have HQ : Hid (_ ∧ _ ∧ _ ∧ _ ∧ _) := ⟨hQ3, HF3, hr3, hfk, hV⟩
       clear hQ3 HF3 hr3 hfk hV H3
       refine region_inv_tail 13 (fun S aa W => ∃ x38 x39 x40 x41 x42 x43 x44 x45 x46 x47 x48 x49 x50 : Value, aa = { tmps := #[Value.slice (some { block := b, off := o' }) 16 c, Value.agg #[Value.bool false, Value.string vt, vs], undef, Value.pointer (some { block := z, off := 0 }), u4, Value.pointer (some { block := z + 1, off := 0 }), Value.int IntKind.i64 ↑j, Value.pointer (some { block := wr.heap.size, off := 0 }), Value.pointer (some { block := g8, off := 0 }), Value.bool true, Value.pointer (some { block := z, off := 0 }), Value.bool false, Value.pointer (some { block := z, off := 1 }), Value.string vt, Value.agg #[Value.string { data := #[] }, Value.string vt, Value.slice none 0 0], Value.pointer (some { block := z + 1, off := 0 }), Value.slice (some { block := b, off := o' }) 16 c, Value.int IntKind.i64 16, Value.int IntKind.i64 ↑j, Value.bool true, Value.int IntKind.i64 ↑j, Value.pointer (some { block := b, off := o' + j * 3 }), Value.agg #[Value.bool false, Value.string xt, Value.slice xa xn xc], Value.pointer (some { block := wr.heap.size, off := 0 }), Value.bool false, Value.bool true, Value.bool true, Value.pointer (some { block := wr.heap.size, off := 1 }), Value.string xt, Value.bool false, Value.bool false, Value.tuple #[Value.agg #[Value.string d, Value.pointer q], Value.bool true], Value.agg #[Value.bool false, Value.string xt, Value.slice xa xn xc], Value.tuple #[Value.agg #[Value.string d, Value.pointer q], Value.bool true], Value.agg #[Value.string d, Value.pointer q], Value.bool true, Value.bool true, Value.bool false, x38, x39, x40, x41, x42, x43, x44, x45, x46, x47, x48, x49, x50, u51, u52, u53, undef], defers := [] } ∧ FkJ V z j sv d q s.len (stC l) S x38 x39 x40 x41 x42 x43 x44 x45 x46 x47 x48 x49 x50 W) (by kernel_rfl) (by kernel_rfl) ?_ ?_ ?_
       ·exact ⟨u38, u39, u40, u41, u42, u43, u44, u45, u46, u47, u48, u49, u50, rfl, FkJ.init V z j sv d q s.len (stC l) u38 u39 u40 u41 u42 u43 u44 u45 u46 u47 u48 u49 u50⟩
       ·intro i o S aa W hin hi hun hJ hall K hK
        obtain ⟨x38, x39, x40, x41, x42, x43, x44, x45, x46, x47, x48, x49, x50, rfl, h⟩ := hJ
        have hcase : i = 0 ∨ i = 1 ∨ i = 2 ∨ i = 3 ∨ i = 4 ∨ i = 5 ∨ i = 6 ∨ i = 7 ∨ i = 8 ∨ i = 9 ∨ i = 10 ∨ i = 11 ∨ i = 12 := by omega
        rcases hcase with rfl | rfl | rfl | rfl | rfl | rfl | rfl | rfl | rfl | rfl | rfl | rfl | rfl
        all_goals (have ho := (Option.some.inj hi).symm; subst ho; clear hi hin)
        ·go_simp
         exact hK _ _ ⟨_, x39, x40, x41, x42, x43, x44, x45, x46, x47, x48, x49, x50, rfl, ⟨h.e, h.cl, h.k2, h.k3, h.k4, h.k6, h.k7, h.k8, h.k9, h.k10, h.k11, fun _ => rfl, h.f1, h.f2, h.f3, h.f4, h.f5, h.f6, h.f7, h.f8, h.f9, h.f10, h.f11, h.f12⟩⟩
        ·have n12 : S 12 = false := by
          cases hh : S 12 with
          | false => rfl
          | true => exact absurd ((h.cl hh).1) (by rw [hun]; decide)
         have hE := h.e n12
         go_simp
         exact hK _ _ ⟨x38, _, x40, x41, x42, x43, x44, x45, x46, x47, x48, x49, x50, rfl, ⟨h.e, fun hh => absurd ((h.cl hh).1) (by rw [hun]; decide), fun _ => rfl, h.k3, h.k4, h.k6, h.k7, h.k8, h.k9, h.k10, h.k11, h.f0, fun _ => rfl, h.f2, h.f3, h.f4, h.f5, h.f6, h.f7, h.f8, h.f9, h.f10, h.f11, h.f12⟩⟩
        ·have s_1 : S 1 = true := hall ⟨1, .data⟩ (by simp) rfl
         obtain rfl := (h.f1 s_1)
         have n12 : S 12 = false := by
          cases hh : S 12 with
          | false => rfl
          | true => exact absurd ((h.cl hh).2.1) (by rw [hun]; decide)
         have hE := h.e n12
         go_simp
         exact hK _ _ ⟨x38, _, _, x41, x42, x43, x44, x45, x46, x47, x48, x49, x50, rfl, ⟨h.e, fun hh => absurd ((h.cl hh).2.1) (by rw [hun]; decide), fun _ => s_1, fun _ => rfl, h.k4, h.k6, h.k7, h.k8, h.k9, h.k10, h.k11, h.f0, h.f1, fun _ => rfl, h.f3, h.f4, h.f5, h.f6, h.f7, h.f8, h.f9, h.f10, h.f11, h.f12⟩⟩
        ·have s_2 : S 2 = true := hall ⟨2, .data⟩ (by simp) rfl
         obtain rfl := (h.f2 s_2)
         have n12 : S 12 = false := by
          cases hh : S 12 with
          | false => rfl
          | true => exact absurd ((h.cl hh).2.2.1) (by rw [hun]; decide)
         have hE := h.e n12
         go_simp
         exact hK _ _ ⟨x38, x39, _, _, x42, x43, x44, x45, x46, x47, x48, x49, x50, rfl, ⟨h.e, fun hh => absurd ((h.cl hh).2.2.1) (by rw [hun]; decide), h.k2, fun _ => s_2, fun _ => rfl, h.k6, h.k7, h.k8, h.k9, h.k10, h.k11, h.f0, h.f1, h.f2, fun _ => rfl, h.f4, h.f5, h.f6, h.f7, h.f8, h.f9, h.f10, h.f11, h.f12⟩⟩
        ·have s_3 : S 3 = true := hall ⟨3, .data⟩ (by simp) rfl
         obtain rfl := (h.f3 s_3)
         have n12 : S 12 = false := by
          cases hh : S 12 with
          | false => rfl
          | true => exact absurd ((h.cl hh).2.2.2.1) (by rw [hun]; decide)
         have hE := h.e n12
         have c4 : W.cell? ⟨z + 1, 2, none⟩ = some sv := (hE.cell (p := ⟨z + 1, 2, none⟩) hz3).trans (HQ.out.2.1.n.cell 2)
         go_simp
         exact hK _ _ ⟨x38, x39, x40, _, _, x43, x44, x45, x46, x47, x48, x49, x50, rfl, ⟨h.e, fun hh => absurd ((h.cl hh).2.2.2.1) (by rw [hun]; decide), h.k2, h.k3, fun _ => s_3, h.k6, h.k7, h.k8, h.k9, h.k10, h.k11, h.f0, h.f1, h.f2, h.f3, fun _ => rfl, h.f5, h.f6, h.f7, h.f8, h.f9, h.f10, h.f11, h.f12⟩⟩
        ·have n12 : S 12 = false := by
          cases hh : S 12 with
          | false => rfl
          | true => exact absurd ((h.cl hh).2.2.2.2.1) (by rw [hun]; decide)
         have hE := h.e n12
         go_simp
         exact hK _ _ ⟨x38, x39, x40, x41, x42, _, x44, x45, x46, x47, x48, x49, x50, rfl, ⟨h.e, fun hh => absurd ((h.cl hh).2.2.2.2.1) (by rw [hun]; decide), h.k2, h.k3, h.k4, fun _ => rfl, h.k7, h.k8, h.k9, h.k10, h.k11, h.f0, h.f1, h.f2, h.f3, h.f4, fun _ => rfl, h.f6, h.f7, h.f8, h.f9, h.f10, h.f11, h.f12⟩⟩
        ·have s_5 : S 5 = true := hall ⟨5, .data⟩ (by simp) rfl
         obtain rfl := (h.f5 s_5)
         have n12 : S 12 = false := by
          cases hh : S 12 with
          | false => rfl
          | true => exact absurd ((h.cl hh).2.2.2.2.2.1) (by rw [hun]; decide)
         have hE := h.e n12
         have hw : IntKind.u8.wrap (j : Int) = (j : Int) := by rw [IntKind.wrap_u8]; omega
         go_simp
         exact hK _ _ ⟨x38, x39, x40, x41, x42, _, _, x45, x46, x47, x48, x49, x50, rfl, ⟨h.e, fun hh => absurd ((h.cl hh).2.2.2.2.2.1) (by rw [hun]; decide), h.k2, h.k3, h.k4, fun _ => s_5, fun _ => rfl, h.k8, h.k9, h.k10, h.k11, h.f0, h.f1, h.f2, h.f3, h.f4, h.f5, fun _ => rfl, h.f7, h.f8, h.f9, h.f10, h.f11, h.f12⟩⟩
        ·have s_6 : S 6 = true := hall ⟨6, .data⟩ (by simp) rfl
         obtain rfl := (h.f6 s_6)
         have n12 : S 12 = false := by
          cases hh : S 12 with
          | false => rfl
          | true => exact absurd ((h.cl hh).2.2.2.2.2.2.1) (by rw [hun]; decide)
         have hE := h.e n12
         go_simp
         exact hK _ _ ⟨x38, x39, x40, x41, x42, x43, _, _, x46, x47, x48, x49, x50, rfl, ⟨fun _ => hE.alloc hE.size _, fun hh => absurd ((h.cl hh).2.2.2.2.2.2.1) (by rw [hun]; decide), h.k2, h.k3, h.k4, h.k6, fun _ => s_6, fun _ => rfl, h.k9, h.k10, h.k11, h.f0, h.f1, h.f2, h.f3, h.f4, h.f5, h.f6, fun _ => ⟨W.heap.size, rfl, fun _ => World.alloc_heap_new W _⟩, h.f8, h.f9, h.f10, fun s => (let ⟨g, e1, e2⟩ := h.f11 s; ⟨g, e1, fun _ => (((Below.refl _ W).alloc (Nat.le_refl _) _).block g (Array.getElem?_eq_some_iff.1 (e2 n12)).1).trans (e2 n12)⟩), fun hh => absurd ((h.cl hh).2.2.2.2.2.2.1) (by rw [hun]; decide)⟩⟩
        ·have s_7 : S 7 = true := hall ⟨7, .data⟩ (by simp) rfl
         obtain ⟨g7, rfl, hg7⟩ := (h.f7 s_7)
         have n12 : S 12 = false := by
          cases hh : S 12 with
          | false => rfl
          | true => exact absurd ((h.cl hh).2.2.2.2.2.2.2.1) (by rw [hun]; decide)
         have hE := h.e n12
         have conv : (convert 24 9 (.slice (some ⟨g7, 0, none⟩) 1 1)).run Tryd.prog W = .ok (.string (b1 j)) W := by
          have hh := run_convert_bytes_back (P := Tryd.prog) W 24 9 5 ⟨g7, 0, none⟩ 1 [UInt8.ofNat j] Tryd.underlying24 Tryd.underlying5 Tryd.underlying9 (fun i hi => by
           have hi0 : i = 0 := by simp at hi; omega
           subst hi0
           rw [Addr.add_lit, Lib.cell_of_heap (hg7 n12)]
           simp
           omega)
          exact hh
         go_simp
         exact hK _ _ ⟨x38, x39, x40, x41, x42, x43, x44, _, _, x47, x48, x49, x50, rfl, ⟨h.e, fun hh => absurd ((h.cl hh).2.2.2.2.2.2.2.1) (by rw [hun]; decide), h.k2, h.k3, h.k4, h.k6, h.k7, fun _ => s_7, h.k9, fun _ => rfl, h.k11, h.f0, h.f1, h.f2, h.f3, h.f4, h.f5, h.f6, h.f7, fun _ => rfl, h.f9, h.f10, h.f11, h.f12⟩⟩
        ·have n12 : S 12 = false := by
          cases hh : S 12 with
          | false => rfl
          | true => exact absurd ((h.cl hh).2.2.2.2.2.2.2.2.1) (by rw [hun]; decide)
         have hE := h.e n12
         have c90 : W.cell? ⟨g8, 0, none⟩ = some (.string d) := (hE.cell (p := ⟨g8, 0, none⟩) HQ.out.1.lt).trans (HQ.out.1.cell 0)
         have c91 : W.cell? ⟨g8, 1, none⟩ = some (.pointer q) := (hE.cell (p := ⟨g8, 1, none⟩) HQ.out.1.lt).trans (HQ.out.1.cell 1)
         go_simp
         exact hK _ _ ⟨x38, x39, x40, x41, x42, x43, x44, x45, x46, _, x48, x49, x50, rfl, ⟨h.e, fun hh => absurd ((h.cl hh).2.2.2.2.2.2.2.2.1) (by rw [hun]; decide), h.k2, h.k3, h.k4, h.k6, h.k7, h.k8, fun _ => rfl, h.k10, h.k11, h.f0, h.f1, h.f2, h.f3, h.f4, h.f5, h.f6, h.f7, h.f8, fun _ => rfl, h.f10, h.f11, h.f12⟩⟩
        ·have s_8 : S 8 = true := hall ⟨8, .data⟩ (by simp) rfl
         obtain rfl := (h.f8 s_8)
         have s_9 : S 9 = true := hall ⟨9, .data⟩ (by simp) rfl
         obtain rfl := (h.f9 s_9)
         have n12 : S 12 = false := by
          cases hh : S 12 with
          | false => rfl
          | true => exact absurd ((h.cl hh).2.2.2.2.2.2.2.2.2.1) (by rw [hun]; decide)
         have hE := h.e n12
         go_simp
         exact hK _ _ ⟨x38, x39, x40, x41, x42, x43, x44, x45, _, _, _, x49, x50, rfl, ⟨h.e, fun hh => absurd ((h.cl hh).2.2.2.2.2.2.2.2.2.1) (by rw [hun]; decide), h.k2, h.k3, h.k4, h.k6, h.k7, h.k8, fun _ => s_9, fun _ => s_8, fun _ => rfl, h.f0, h.f1, h.f2, h.f3, h.f4, h.f5, h.f6, h.f7, h.f8, h.f9, fun _ => rfl, h.f11, h.f12⟩⟩
        ·have s_10 : S 10 = true := hall ⟨10, .data⟩ (by simp) rfl
         obtain rfl := (h.f10 s_10)
         have n12 : S 12 = false := by
          cases hh : S 12 with
          | false => rfl
          | true => exact absurd ((h.cl hh).2.2.2.2.2.2.2.2.2.2) (by rw [hun]; decide)
         have hE := h.e n12
         go_simp
         exact hK _ _ ⟨x38, x39, x40, x41, x42, x43, x44, x45, x46, x47, _, _, x50, rfl, ⟨fun _ => hE.alloc hE.size _, fun hh => absurd ((h.cl hh).2.2.2.2.2.2.2.2.2.2) (by rw [hun]; decide), h.k2, h.k3, h.k4, h.k6, h.k7, h.k8, h.k9, h.k10, fun _ => s_10, h.f0, h.f1, h.f2, h.f3, h.f4, h.f5, h.f6, fun s => (let ⟨g, e1, e2⟩ := h.f7 s; ⟨g, e1, fun _ => (((Below.refl _ W).alloc (Nat.le_refl _) _).block g (Array.getElem?_eq_some_iff.1 (e2 n12)).1).trans (e2 n12)⟩), h.f8, h.f9, h.f10, fun _ => ⟨W.heap.size, rfl, fun _ => World.alloc_heap_new W _⟩, fun hh => absurd ((h.cl hh).2.2.2.2.2.2.2.2.2.2) (by rw [hun]; decide)⟩⟩
        ·have s_4 : S 4 = true := hall ⟨4, .data⟩ (by simp) rfl
         obtain rfl := (h.f4 s_4).symm
         have s_11 : S 11 = true := hall ⟨11, .data⟩ (by simp) rfl
         obtain ⟨g11, rfl, hg11⟩ := (h.f11 s_11)
         have n12 : S 12 = false := hun
         have hE := h.e n12
         obtain ⟨i1, hj0, hj1, hj2, hj3⟩ := info_parts info_pstep
         have hsz := hE.size
         obtain ⟨v', w', hr, h2, h3, h4, h5⟩ := append_where (P := Tryd.prog) W (z + 2) 75 75 79 i1 _ 3 40 Tryd.underlying75 hj0 hj1 hj2 hj3 rfl (by decide) sv s.len (stC l) (owns_below HQ.out.2.1.o hE) ⟨g11, 0, none⟩ 1 1 [.string (b1 j), .string d, .pointer q] rfl
          (fun i u hi => by rw [Addr.add_lit, Nat.zero_add, Lib.cell_of_heap (hg11 n12)]; simpa using hi) (fun u hu => by simp only [List.mem_cons, List.not_mem_nil, or_false] at hu; rcases hu with rfl | rfl | rfl <;> rfl)
          (by unfold maxLen; omega) (by omega) (by omega) (by decide)
         refine wanted_all (by rfl) _ ?_
         refine op_append (.tmp 42) (.tmp 49) 75 rfl hr ?_
         exact hK _ _ ⟨x38, x39, x40, x41, _, x43, x44, x45, x46, x47, x48, _, _, rfl, ⟨nofun, fun _ => ⟨h.k2 (h.k3 (h.k4 s_4)), h.k3 (h.k4 s_4), h.k4 s_4, s_4, h.k6 (h.k7 (h.k8 (h.k10 (h.k11 s_11)))), h.k7 (h.k8 (h.k10 (h.k11 s_11))), h.k8 (h.k10 (h.k11 s_11)), h.k10 (h.k11 s_11), h.k9 (h.k11 s_11), h.k11 s_11, s_11⟩, h.k2, h.k3, h.k4, h.k6, h.k7, h.k8, h.k9, h.k10, h.k11, h.f0, h.f1, h.f2, h.f3, h.f4, h.f5, h.f6, fun s => (let ⟨g, e1, e2⟩ := h.f7 s; ⟨g, e1, nofun⟩), h.f8, h.f9, h.f10, fun s => (let ⟨g, e1, e2⟩ := h.f11 s; ⟨g, e1, nofun⟩), fun _ => ⟨W, hE, h3, h2, h4, h5⟩⟩⟩
       ·rintro S aa W hall ⟨x38, x39, x40, x41, x42, x43, x44, x45, x46, x47, x48, x49, x50, rfl, h⟩
        obtain rfl := h.f0 (hall 0 (by decide))
        obtain ⟨U, BU, hgU, hown, hnn, hob⟩ := h.f12 (hall 12 (by decide))
        clear h hall
        obtain ⟨g, cp, rfl⟩ : ∃ g c, x50 = .slice (some ⟨g, 0, none⟩) (s.len + 1) c := by
         rcases hown.2 with ⟨h, _⟩ | ⟨g, c, _, h, _⟩
         ·exact absurd h hnn
         ·exact ⟨g, c, h⟩
        have HW : Hid (_ ∧ _ ∧ _ ∧ _) := ⟨BU, hgU, hown, hob⟩
        clear BU hgU hown hob hnn
        obtain ⟨hQ3, HF3, hr3, hfk, hV⟩ := HQ.out
        obtain ⟨BU, hgU, hown, hob⟩ := HW.out
        have FU := HF3.below (by omega) BU
        have hsvb : ∀ b, sv.ownBlock = some b → z + 2 ≤ b ∧ b < V.heap.size := fun b e => HF3.o.lt b e
        have hUz := BU.size
        have hWz := hgU.size
        have nW : Bq (z + 1) 77 #[.string ⟨#[]⟩, .string vt, sv] W := (hgU.block (z + 1) (by omega) (fun e => by have := hsvb _ e.symm; omega)).trans FU.n
        have c2 : W.cell? ⟨z + 1, 2, none⟩ = some sv := nW.cell 2
        have f2 := nW.fr 2
        have hgl := hown.lt g rfl
        have hgS : W.grownBy (W.setCell ⟨z + 1, 2, none⟩ (.slice (some ⟨g, 0, none⟩) (s.len + 1) cp)) (some (z + 1)) := ⟨rfl, rfl, rfl, by simp [World.setCell], fun q _ hq => Below.heap_setCell _ _ _ _ (fun e => hq (by simp [e]))⟩
        have nF := nW.put3 (.slice (some ⟨g, 0, none⟩) (s.len + 1) cp)
        have oF := hown.kept hgS (.inr fun e => by injection e with e; have e' : g = z + 1 := e; omega)
        have bF : Below z w (W.setCell ⟨z + 1, 2, none⟩ (.slice (some ⟨g, 0, none⟩) (s.len + 1) cp)) := (FU.b.grown hgU (by omega) (fun b e => by have := hsvb b e; omega)).setCell (p := ⟨z + 1, 2, none⟩) (by show z ≤ z + 1; omega) _
        have hkq : ∀ b, z + 2 ≤ b ∧ b < U.heap.size ∧ sv.ownBlock ≠ some b → (z + 2 ≤ b ∧ b < (W.setCell ⟨z + 1, 2, none⟩ (.slice (some ⟨g, 0, none⟩) (s.len + 1) cp)).heap.size ∧ (Value.slice (some ⟨g, 0, none⟩) (s.len + 1) cp).ownBlock ≠ some b) ∧ (W.setCell ⟨z + 1, 2, none⟩ (.slice (some ⟨g, 0, none⟩) (s.len + 1) cp)).heap[b]? = U.heap[b]? := fun b hb => ⟨⟨hb.1, by rw [show (W.setCell ⟨z + 1, 2, none⟩ (.slice (some ⟨g, 0, none⟩) (s.len + 1) cp)).heap.size = W.heap.size by simp [World.setCell]]; omega, fun e => by
          rcases hob with h | ⟨g', h1, h2⟩
          ·exact hb.2.2 (h.symm.trans e)
          ·rw [e] at h1
           injection h1 with h1
           omega⟩, (hgS.block b (by omega) (fun e => by injection e with e; omega)).trans (hgU.block b hb.2.1 (fun e => hb.2.2 e.symm))⟩
        have rF := psR_snoc s l (b1 j) r d q (psR_of hkq s l FU.r) (prIn_of (fun b hb => hkq b ⟨hb.1, by omega, hb.2.2⟩) r d q (prIn_of (q := fun b => z + 2 ≤ b ∧ b < V.heap.size ∧ sv.ownBlock ≠ some b) (fun b hb => ⟨hb, BU.block b hb.2.1⟩) r d q hr3))
        have hcs : stC (l ++ [(b1 j, d, q)]) = stC l ++ [.string (b1 j), .string d, .pointer q] := stC_snoc l (b1 j, d, q)
        have QF : QfI z w vt (s.snoc (b1 j) r) (l ++ [(b1 j, d, q)]) (.slice (some ⟨g, 0, none⟩) (s.len + 1) cp) (W.setCell ⟨z + 1, 2, none⟩ (.slice (some ⟨g, 0, none⟩) (s.len + 1) cp)) := ⟨bF, nF, by rw [PS.snoc_len, hcs]; exact oF, rF⟩
        have HFin : Hid (_ ∧ _) := ⟨QF, hfk⟩
        clear QF hfk bF nF oF rF hkq hgS FU hsvb nW hQ3 HF3 hr3 hV BU hgU hown hob HQ HW hcs hgl
        go_wp2
        go_roundg (gk - 1)
        case measure => omega
        case rel =>
         obtain ⟨QF, hfk⟩ := HFin.out
         refine ⟨j + 1, s.snoc (b1 j) r, l ++ [(b1 j, d, q)], _, by omega, rfl, QF, ?_, ?_⟩
         ·show (s.snoc (b1 j) r).len ≤ j + 1
          rw [PS.snoc_len]
          have := HL0.out
          omega
         ·show _ = _
          rw [hfk]
          exact HS.out
   ·have hj16 : j = 16 := by omega
    subst hj16
    have l0 : ¬ ((16 : Nat) : Int) < 16 := by omega
    have hz1 : z + 1 < wr.heap.size := HF.n.lt
    have hos : o = some (.mk ⟨#[]⟩ vt s) := by
     rw [← ho, hfk.out, List.drop_eq_nil_of_le (by omega)]
     rfl
    subst hos
    have HF' : Hid _ := HF
    clear HF hfk
    go_wp2
    go_ret
    have HF := HF'.out
    have hzz := HZ.out
    rw [hzz]
    refine ⟨HF.b, z + 1, rfl, ?_⟩
    rcases HF.o.2 with ⟨hv, h0⟩ | ⟨g, cp, cur, hv, hx⟩
    ·subst hv
     cases s with
     | nil => exact ⟨none, 0, ⟨by omega, hz1⟩, HF.n, trivial⟩
     | cons _ _ _ => exact absurd h0 (Nat.succ_ne_zero _)
    ·subst hv
     have hlt := HF.o.lt g rfl
     refine ⟨some ⟨g, 0, none⟩, cp, ⟨by omega, hz1⟩, HF.n, ?_⟩
     refine psR_in (b := g) (o := 0) ⟨by omega, hlt.2⟩ s l 0 (psR_of (fun q hq => ⟨⟨by omega, hq.2.1⟩, rfl⟩) s l HF.r) fun j u hu => ?_
     have := HF.o.cells (g := g) rfl j u hu
     rw [Addr.add_lit, Nat.zero_add] at this
     rw [← this]
     congr 2
     omega
end Go.Proofs.YtbmapdkcccdmfaaDoor
namespace Go.Proofs.YtbmapdkcccdmfaaDoor
open Go.RowKit Go.Shelf Go.Sort

theorem rowMem_take {n : Nat} {W : World} {a : Option Addr} : ∀ (m : Nat) (xs : List Im) (i : Nat), rowMem n W a i xs → rowMem n W a i (xs.take m)
 | 0, _, _, _ => by rw [List.take_zero]; trivial
 | _ + 1, [], _, _ => trivial
 | m + 1, _ :: r, i, ⟨h1, h2, h3⟩ => ⟨h1, h2, rowMem_take m r (i + 1) h3⟩
theorem tbs_take : ∀ (m : Nat) (xs : List Im), tbs (xs.take m) ≤ tbs xs
 | 0, _ => Nat.zero_le _
 | _ + 1, [] => Nat.le_refl _
 | m + 1, _ :: r => Nat.add_le_add_left (tbs_take m r) _
theorem capIs_take : ∀ (m : Nat) (xs : List Im), capIs xs → capIs (xs.take m)
 | 0, _, _ => trivial
 | _ + 1, [], _ => trivial
 | m + 1, _ :: r, ⟨h1, h2⟩ => ⟨h1, capIs_take m r h2⟩

theorem RdP.mono {o : Option PN} {w w8 : World} {e : Ending} {w' : World} (h : RdP o w8 e w') (hs : w.heap.size ≤ w8.heap.size) : RdP o w e w' := by
 cases o with
 | none => exact h
 | some nd =>
  obtain ⟨b, h1, h2⟩ := h
  exact ⟨b, h1, pnIn_of (fun q hq => ⟨⟨Nat.le_trans hs hq.1, hq.2⟩, rfl⟩) nd b h2⟩

set_option maxRecDepth 20000 in
set_option maxHeartbeats 2000000 in
theorem rnc_step (k : Nat) (hk : RnC k) (hkb : k ≤ 100000000) : RnC (k + 1) := by
 intro im hc hcp n w hn hm
 have hcx : im.xs.length ≤ im.c ∧ capIs im.xs := by cases im; exact hcp
 have htb : tbs im.xs ≤ k := by have := tb_eq im; omega
 rw [inMem_eq] at hm
 have hrd : rdN (er im) = asmN (ers im.xs) (rdRs (ers im.xs)) := by unfold rdN; rw [er_xs]
 rw [hrd]
 have hiv : im.val = .agg #[.bool im.l, .string im.t, .slice im.a im.xs.length im.c] := rfl
 rw [hiv]
 obtain ⟨il, e1⟩ : ∃ s, im.l = s := ⟨_, rfl⟩
 obtain ⟨it, e2⟩ : ∃ s, im.t = s := ⟨_, rfl⟩
 obtain ⟨ia, e3⟩ : ∃ s, im.a = s := ⟨_, rfl⟩
 obtain ⟨ic, e4⟩ : ∃ s, im.c = s := ⟨_, rfl⟩
 obtain ⟨xs, e5⟩ : ∃ s, im.xs = s := ⟨_, rfl⟩
 rw [e3, e5] at hm
 rw [e4, e5] at hcx
 rw [e5] at htb
 rw [e1, e2, e3, e4, e5]
 clear e1 e2 e3 e4 e5 hiv hrd hc hcp
 have A0 := (Below.refl w.heap.size w).alloc (Nat.le_refl _) (.cells #[.bool il, .string it, .slice ia xs.length ic] 55)
 have hm0 := rowMem_below hn (A0.mono hn) _ _ _ hm
 have hn0 : n ≤ (w.alloc (.cells #[.bool il, .string it, .slice ia xs.length ic] 55)).heap.size := Nat.le_trans hn A0.size
 by_cases h2 : xs.length = 2
 ·obtain ⟨f, b, rfl⟩ : ∃ f b, xs = [f, b] := by
   match xs, h2 with
   | [f, b], _ => exact ⟨f, b, rfl⟩
  obtain ⟨⟨b0, o0, hb0, rfl, c0, c1, c2⟩, hmf⟩ := row_at [f, b] 0 hm0 0 f rfl
  obtain ⟨⟨b1', o1, hb1, hae, c3, c4, c5⟩, hmb⟩ := row_at [f, b] 0 hm0 1 b rfl
  injection hae with hae
  injection hae with e1 e2
  subst e1 e2
  have KL := readLB_of k hk hkb f b (Nat.le_trans (tbs_at [f, b] 0 f rfl) htb) (Nat.le_trans (tbs_at [f, b] 1 b rfl) htb) (capIs_at [f, b] 1 b hcx.2 rfl) n
  have KL : ∀ W, Below (w.alloc (.cells #[.bool il, .string it, .slice (some ⟨b0, o0, none⟩) [f, b].length ic] 55)).heap.size (w.alloc (.cells #[.bool il, .string it, .slice (some ⟨b0, o0, none⟩) [f, b].length ic] 55)) W → _ := fun W hW => KL W (Nat.le_trans hn0 hW.size) (inMem_below hn0 (hW.mono hn0) _ hmb)
  have has : asmN (ers [f, b]) (rdRs (ers [f, b])) = lbN (er f) (er b) (rdR (er b)) := rfl
  rw [has]
  clear has
  obtain ⟨oo, hoo⟩ : ∃ q, lbN (er f) (er b) (rdR (er b)) = q := ⟨_, rfl⟩
  rw [hoo] at KL ⊢
  clear hoo
  have hfv : f.val = .agg #[.bool f.l, .string f.t, .slice f.a f.xs.length f.c] := rfl
  have hbv : b.val = .agg #[.bool b.l, .string b.t, .slice b.a b.xs.length b.c] := rfl
  have hfs : f.sl = .slice f.a f.xs.length f.c := rfl
  have hbs : b.sl = .slice b.a b.xs.length b.c := rfl
  rw [hfs] at c2
  rw [hbs] at c5
  rw [hfv, hbv] at KL
  have z0 : o0 + 3 * (0 + 0) = o0 := by omega
  have z1 : o0 + 3 * (0 + 1) = o0 + 3 := by omega
  rw [z0] at c0 c1 c2
  rw [z1] at c3 c4 c5
  obtain ⟨q0, e0⟩ : ∃ s, f.l = s := ⟨_, rfl⟩
  obtain ⟨q1, e1⟩ : ∃ s, f.t = s := ⟨_, rfl⟩
  obtain ⟨q2, e2⟩ : ∃ s, f.a = s := ⟨_, rfl⟩
  obtain ⟨q3, e3⟩ : ∃ s, f.xs.length = s := ⟨_, rfl⟩
  obtain ⟨q4, e4⟩ : ∃ s, f.c = s := ⟨_, rfl⟩
  obtain ⟨r0, g0⟩ : ∃ s, b.l = s := ⟨_, rfl⟩
  obtain ⟨r1, g1⟩ : ∃ s, b.t = s := ⟨_, rfl⟩
  obtain ⟨r2, g2⟩ : ∃ s, b.a = s := ⟨_, rfl⟩
  obtain ⟨r3, g3⟩ : ∃ s, b.xs.length = s := ⟨_, rfl⟩
  obtain ⟨r4, g4⟩ : ∃ s, b.c = s := ⟨_, rfl⟩
  rw [e0, e1, e2, e3, e4, g0, g1, g2, g3, g4] at KL
  rw [e0] at c0
  rw [e1] at c1
  rw [e2, e3, e4] at c2
  rw [g0] at c3
  rw [g1] at c4
  rw [g2, g3, g4] at c5
  dsimp only [List.length_cons, List.length_nil] at KL A0 c0 c1 c2 c3 c4 c5 ⊢
  have HA : Hid _ := A0
  clear hm hm0 hmf hmb hn0 hn A0 hcx htb hfv hbv hfs hbs z0 z1 e0 e1 e2 e3 e4 g0 g1 g2 g3 g4
  go_enter Tryd.func80, Tryd.ntmps80
  go_wp2_with fail
  have hbx := World.alloc_heap_new w (.cells #[.bool il, .string it, .slice (some ⟨b0, o0, none⟩) 2 ic] 55)
  obtain ⟨V, hV⟩ : ∃ V, w.alloc (.cells #[.bool il, .string it, .slice (some ⟨b0, o0, none⟩) 2 ic] 55) = V := ⟨_, rfl⟩
  rw [hV] at HA KL c0 c1 c2 c3 c4 c5 hbx
  rw [hV]
  have d2 : V.cell? ⟨w.heap.size, 2, none⟩ = some (.slice (some ⟨b0, o0, none⟩) 2 ic) := by rw [Lib.cell_of_heap hbx]; rfl
  have k0 := cell_regrown c0
  have k1 := cell_regrown c1
  have k2 := cell_regrown c2
  have k3 := cell_regrown c3
  have k4 := cell_regrown c4
  have k5 := cell_regrown c5
  have k6 := cell_regrown d2
  clear c0 c1 c2 c3 c4 c5 d2 hbx hV
  refine region_tail 8 (by kernel_rfl) (by kernel_rfl) ?_
  simp only [List.take_succ_cons, List.take_zero, List.drop_succ_cons, List.drop_zero]
  iterate 8 (quiet_step (fail))
  refine wpQuiet_nil ?_
  intro w8 hw8
  have B8 : Below V.heap.size V w8 := by
   obtain ⟨p, rfl⟩ := hw8
   exact below_regrown _ _ _
  clear hw8 k0 k1 k2 k3 k4 k5 k6
  go_wp2_with fail
  refine (KL w8 B8).mono ?_
  rintro e w9 ⟨B9, hR⟩
  have BW := belowStep HA.out HA.out.size B8
  have BX := belowStep BW BW.size B9
  have hR2 := hR.mono BW.size
  cases oo with
  | none =>
   obtain rfl := hR2
   go_wp2
   go_ret
   exact ⟨BX, rfl⟩
  | some nd =>
   obtain ⟨b', rfl, hb'⟩ := hR2
   go_wp2
   go_ret
   exact ⟨BX, b', rfl, hb'⟩
 ·by_cases h17 : xs.length = 17
  ·obtain ⟨v, hv⟩ : ∃ v, xs[16]? = some v := ⟨xs[16]'(by omega), List.getElem?_eq_getElem (by omega)⟩
   obtain ⟨⟨b0, o0, hb0, rfl, c0, c1, c2⟩, hmv⟩ := row_at xs 0 hm0 16 v hv
   have htk : (xs.take 16).length = 16 := by rw [List.length_take]; omega
   have hmt := rowMem_take 16 xs 0 hm0
   have KL := readFork_of k hk (xs.take 16) htk v (Nat.le_trans (tbs_take 16 xs) htb) (capIs_take 16 xs hcx.2) (some ⟨b0, o0, none⟩) ic n
   have has : asmN (ers xs) (rdRs (ers xs)) = qfkN (ers (xs.take 16)) (er v) (rdRs (ers (xs.take 16))) := by
    have h1 : (ers xs).getD 16 (.mk false ⟨#[]⟩ []) = er v := by rw [List.getD_eq_getElem?_getD, ers_at xs 16 v hv]; rfl
    have h2' : (ers xs).take 16 = ers (xs.take 16) := by rw [ers_map, ers_map, List.map_take]
    have h3 : (rdRs (ers xs)).take 16 = rdRs (ers (xs.take 16)) := by rw [rdRs_map, rdRs_map, ← h2', List.map_take]
    unfold asmN
    rw [ers_len, if_neg h2, if_pos h17, h1, h2', h3]
   rw [has]
   clear has
   obtain ⟨oo, hoo⟩ : ∃ q, qfkN (ers (xs.take 16)) (er v) (rdRs (ers (xs.take 16))) = q := ⟨_, rfl⟩
   rw [hoo] at KL
   rw [hoo]
   rw [htk] at KL
   have KL : ∀ W, Below (w.alloc (.cells #[.bool il, .string it, .slice (some ⟨b0, o0, none⟩) xs.length ic] 55)).heap.size (w.alloc (.cells #[.bool il, .string it, .slice (some ⟨b0, o0, none⟩) xs.length ic] 55)) W → _ := fun W hW => KL W (Nat.le_trans hn0 hW.size) (rowMem_below hn0 (hW.mono hn0) _ _ _ hmt)
   have hbv : v.val = .agg #[.bool v.l, .string v.t, .slice v.a v.xs.length v.c] := rfl
   have hbs : v.sl = .slice v.a v.xs.length v.c := rfl
   rw [hbs] at c2
   rw [hbv] at KL
   have z1 : o0 + 3 * (0 + 16) = o0 + 48 := by omega
   rw [z1] at c0 c1 c2
   obtain ⟨r0, g0⟩ : ∃ s, v.l = s := ⟨_, rfl⟩
   obtain ⟨r1, g1⟩ : ∃ s, v.t = s := ⟨_, rfl⟩
   obtain ⟨r2, g2⟩ : ∃ s, v.a = s := ⟨_, rfl⟩
   obtain ⟨r3, g3⟩ : ∃ s, v.xs.length = s := ⟨_, rfl⟩
   obtain ⟨r4, g4⟩ : ∃ s, v.c = s := ⟨_, rfl⟩
   rw [g0, g1, g2, g3, g4] at KL
   rw [g0] at c0
   rw [g1] at c1
   rw [g2, g3, g4] at c2
   rw [h17] at KL A0 c0 c1 c2 hcx
   rw [h17]
   have hi16 : 16 ≤ ic := by omega
   have hi16' : (16 : Int) ≤ ic := by omega
   have HA : Hid _ := A0
   clear hm hm0 hmv hmt hn0 hn A0 hcx htb hbv hbs z1 g0 g1 g2 g3 g4 htk hoo hv
   go_enter Tryd.func80, Tryd.ntmps80
   go_wp2_with fail
   have hbx := World.alloc_heap_new w (.cells #[.bool il, .string it, .slice (some ⟨b0, o0, none⟩) 17 ic] 55)
   obtain ⟨V, hV⟩ : ∃ V, w.alloc (.cells #[.bool il, .string it, .slice (some ⟨b0, o0, none⟩) 17 ic] 55) = V := ⟨_, rfl⟩
   rw [hV] at HA KL c0 c1 c2 hbx
   rw [hV]
   have d2 : V.cell? ⟨w.heap.size, 2, none⟩ = some (.slice (some ⟨b0, o0, none⟩) 17 ic) := by rw [Lib.cell_of_heap hbx]; rfl
   have k0 := cell_regrown c0
   have k1 := cell_regrown c1
   have k2 := cell_regrown c2
   have k6 := cell_regrown d2
   clear c0 c1 c2 d2 hbx hV
   refine region_tail 7 (by kernel_rfl) (by kernel_rfl) ?_
   simp only [List.take_succ_cons, List.take_zero, List.drop_succ_cons, List.drop_zero]
   iterate 7 (quiet_step (fail))
   refine wpQuiet_nil ?_
   intro w8 hw8
   have B8 : Below V.heap.size V w8 := by
    obtain ⟨p, rfl⟩ := hw8
    exact below_regrown _ _ _
   clear hw8 k0 k1 k2 k6
   go_wp2_with fail
   refine (KL w8 B8).mono ?_
   rintro e w9 ⟨B9, hR⟩
   have BW := belowStep HA.out HA.out.size B8
   have BX := belowStep BW BW.size B9
   have hR2 := hR.mono BW.size
   cases oo with
   | none =>
    obtain rfl := hR2
    go_wp2
    go_ret
    exact ⟨BX, rfl⟩
   | some nd =>
    obtain ⟨b', rfl, hb'⟩ := hR2
    go_wp2
    go_ret
    exact ⟨BX, b', rfl, hb'⟩
  ·have h2i : ((xs.length : Int) == 2) = false := by rw [beq_eq_false_iff_ne]; omega
   have h17i : ((xs.length : Int) == 17) = false := by rw [beq_eq_false_iff_ne]; omega
   have has : asmN (ers xs) (rdRs (ers xs)) = none := by
    unfold asmN
    rw [ers_len, if_neg h2, if_neg h17]
   rw [has]
   go_enter Tryd.func80, Tryd.ntmps80
   go_wp2
   go_ret
   exact ⟨A0, rfl⟩
theorem rnc_0 : RnC 0 := fun im h => by have := tb_eq im; omega
theorem rnc_all : ∀ k, k ≤ 100000000 → RnC k
 | 0, _ => rnc_0
 | k + 1, h => rnc_step k (rnc_all k (by omega)) (by omega)

def ndOf (s : ByteArray) : Option PN := if s.size ≤ 65536 then match decF 65537 s with
  | some [y] => if dprI 12 y then none else rdN y
  | _ => none
 else none
theorem ndOf_big {s : ByteArray} (h : 65536 < s.size) : ndOf s = none := by unfold ndOf; rw [if_neg (by omega)]
theorem ndOf_one {s : ByteArray} {y : It} (h : s.size ≤ 65536) (hd : decF 65537 s = some [y]) : ndOf s = if dprI 12 y then none else rdN y := by unfold ndOf; rw [if_pos h, hd]
theorem ndOf_no {s : ByteArray} (h : ∀ y, decF 65537 s ≠ some [y]) : ndOf s = none := by
 unfold ndOf
 split
 ·split
  ·next y hy => exact absurd hy (h y)
  ·rfl
 ·rfl
set_option maxRecDepth 20000 in
set_option maxHeartbeats 2000000 in
theorem nodeOf_any (s : ByteArray) (w : World) :
  Calls Tryd.prog 57 #[.string s] w fun e w' => Below w.heap.size w w' ∧ RdP (ndOf s) w e w' := by
 have KD : ∀ w : World, Calls Tryd.prog 79 #[.string s] w fun r w' => Below w.heap.size w w' ∧ ∃ x e, r = .returned (.tuple #[x.val, .int .i64 e]) ∧ ((e ≠ 0 ∧ ndOf s = none) ∨ (e = 0 ∧ ndOf s = rdN (er x) ∧ tb x ≤ 1000000 ∧ inMem w'.heap.size w' x ∧ capI x)) := fun w => by
  by_cases h0 : 65536 < s.size
  ·refine (decode_all s w).mono ?_
   rintro r w' ⟨B, x, e, hr, hd, hm⟩
   refine ⟨B, x, e, hr, .inl ⟨?_, ndOf_big h0⟩⟩
   rcases hd with ⟨_, rfl, _⟩ | ⟨h, _⟩ | ⟨h, _⟩
   ·decide
   ·omega
   ·omega
  ·refine (C.decode_any s (fun y hy => by have := cnt_one hy; omega) w).mono ?_
   rintro r w' ⟨B, x, e, hr, hd, hm, hc⟩
   refine ⟨B, x, e, hr, ?_⟩
   rcases hd with ⟨h, _, _⟩ | ⟨_, h, rfl, _⟩ | ⟨hs, y, hy, ⟨h1, rfl, _⟩ | ⟨h1, rfl, rfl⟩⟩
   ·omega
   ·exact .inl ⟨by decide, ndOf_no h⟩
   ·exact .inl ⟨by decide, by rw [ndOf_one hs hy, ← deep_er, h1, if_pos rfl]⟩
   ·refine .inr ⟨rfl, by rw [ndOf_one hs hy, ← deep_er, h1, if_neg (by decide)], ?_, hm, hc⟩
    have h2 := enc_dec hs hy
    have h3 := tb_enc _ h2.2
    rw [tb_er]
    rw [h2.1] at h3
    omega
 obtain ⟨o, ho⟩ : ∃ o, ndOf s = o := ⟨_, rfl⟩
 rw [ho] at KD ⊢
 clear ho
 go_enter Tryd.func57, Tryd.ntmps57
 go_wp2_with fail
 refine (KD _).mono ?_
 rintro r w1 ⟨B1, x, e, rfl, hcase⟩
 have hxv : x.val = .agg #[.bool x.l, .string x.t, .slice x.a x.xs.length x.c] := rfl
 rw [hxv]
 rcases hcase with ⟨he, rfl⟩ | ⟨rfl, hoe, htb, hm, hc⟩
 ·have he' : (e == 0) = false := by rw [beq_eq_false_iff_ne]; exact he
  have he2 : (e != 0) = true := by rw [bne_iff_ne]; exact he
  obtain ⟨q0, e0⟩ : ∃ s, x.l = s := ⟨_, rfl⟩
  obtain ⟨q1, e1⟩ : ∃ s, x.t = s := ⟨_, rfl⟩
  obtain ⟨q2, e2⟩ : ∃ s, x.a = s := ⟨_, rfl⟩
  obtain ⟨q3, e3⟩ : ∃ s, x.xs.length = s := ⟨_, rfl⟩
  obtain ⟨q4, e4⟩ : ∃ s, x.c = s := ⟨_, rfl⟩
  rw [e0, e1, e2, e3, e4]
  clear KD hxv e0 e1 e2 e3 e4
  go_wp2
  go_ret
  exact ⟨B1.alloc B1.size _, rfl⟩
 ·have A1 := (Below.refl w1.heap.size w1).alloc (Nat.le_refl _) (.cells #[.bool x.l, .string x.t, .slice x.a x.xs.length x.c] 55)
  have KN := rnc_all 1000000 (by omega) x htb hc w1.heap.size _ A1.size (inMem_below (Nat.le_refl _) A1 _ hm)
  rw [hxv, ← hoe] at KN
  obtain ⟨q0, e0⟩ : ∃ s, x.l = s := ⟨_, rfl⟩
  obtain ⟨q1, e1⟩ : ∃ s, x.t = s := ⟨_, rfl⟩
  obtain ⟨q2, e2⟩ : ∃ s, x.a = s := ⟨_, rfl⟩
  obtain ⟨q3, e3⟩ : ∃ s, x.xs.length = s := ⟨_, rfl⟩
  obtain ⟨q4, e4⟩ : ∃ s, x.c = s := ⟨_, rfl⟩
  rw [e0, e1, e2, e3, e4] at KN A1
  rw [e0, e1, e2, e3, e4]
  have HA : Hid _ := A1
  clear KD hxv e0 e1 e2 e3 e4 hoe hm A1 htb hc
  go_wp2_with fail
  refine KN.mono ?_
  rintro e w2 ⟨B2, hR⟩
  have BW := belowStep B1 B1.size (belowStep HA.out HA.out.size B2)
  have hR2 := hR.mono (w := w) (Nat.le_trans B1.size HA.out.size)
  cases o with
  | none =>
   obtain rfl := hR2
   go_wp2
   go_ret
   exact ⟨BW, rfl⟩
  | some nd =>
   obtain ⟨b', rfl, hb'⟩ := hR2
   go_wp2
   go_ret
   exact ⟨BW, b', rfl, hb'⟩
end Go.Proofs.YtbmapdkcccdmfaaDoor
