/- Lemmas: askedNode; walk. The walk along nodes: pure. walk: what it answers. areRight; Check: what it answers. Check: what it answers. -/
import Derived.Test.YtbmapdkcccdmfaaDoorM1
import Derived.Test.YtbmapdkcccdmfaaDoorM10
import Derived.Test.YtbmapdkcccdmfaaDoorM11
import Derived.Test.YtbmapdkcccdmfaaDoorM12
import Derived.Test.YtbmapdkcccdmfaaDoorM13
import Derived.Test.YtbmapdkcccdmfaaDoorM14
import Derived.Test.YtbmapdkcccdmfaaDoorM15
import Derived.Test.YtbmapdkcccdmfaaDoorM16
import Derived.Test.YtbmapdkcccdmfaaDoorM17
import Derived.Test.YtbmapdkcccdmfaaDoorM18
import Derived.Test.YtbmapdkcccdmfaaDoorM19
import Derived.Test.YtbmapdkcccdmfaaDoorM2
import Derived.Test.YtbmapdkcccdmfaaDoorM20
import Derived.Test.YtbmapdkcccdmfaaDoorM21
import Derived.Test.YtbmapdkcccdmfaaDoorM22
import Derived.Test.YtbmapdkcccdmfaaDoorM23
import Derived.Test.YtbmapdkcccdmfaaDoorM24
import Derived.Test.YtbmapdkcccdmfaaDoorM25
import Derived.Test.YtbmapdkcccdmfaaDoorM26
import Derived.Test.YtbmapdkcccdmfaaDoorM27
import Derived.Test.YtbmapdkcccdmfaaDoorM28
import Derived.Test.YtbmapdkcccdmfaaDoorM29
import Derived.Test.YtbmapdkcccdmfaaDoorM3
import Derived.Test.YtbmapdkcccdmfaaDoorM30
import Derived.Test.YtbmapdkcccdmfaaDoorM31
import Derived.Test.YtbmapdkcccdmfaaDoorM32
import Derived.Test.YtbmapdkcccdmfaaDoorM33
import Derived.Test.YtbmapdkcccdmfaaDoorM34
import Derived.Test.YtbmapdkcccdmfaaDoorM35
import Derived.Test.YtbmapdkcccdmfaaDoorM36
import Derived.Test.YtbmapdkcccdmfaaDoorM37
import Derived.Test.YtbmapdkcccdmfaaDoorM38
import Derived.Test.YtbmapdkcccdmfaaDoorM39
import Derived.Test.YtbmapdkcccdmfaaDoorM4
import Derived.Test.YtbmapdkcccdmfaaDoorM40
import Derived.Test.YtbmapdkcccdmfaaDoorM41
import Derived.Test.YtbmapdkcccdmfaaDoorM42
import Derived.Test.YtbmapdkcccdmfaaDoorM43
import Derived.Test.YtbmapdkcccdmfaaDoorM44
import Derived.Test.YtbmapdkcccdmfaaDoorM5
import Derived.Test.YtbmapdkcccdmfaaDoorM6
import Derived.Test.YtbmapdkcccdmfaaDoorM7
import Derived.Test.YtbmapdkcccdmfaaDoorM8
import Derived.Test.YtbmapdkcccdmfaaDoorM9
import Derived.Test.YtbmapdkcccdmfaaDoorRows
namespace Go.Proofs.YtbmapdkcccdmfaaDoor
open Go.RowKit Go.Shelf Go.Sort

theorem ne_list {s t : ByteArray} (h : ¬ s = t) : (s.toList == t.toList) = false := by rw [beq_eq_false_iff_ne]; exact fun e => h (q_toList_inj e)
def askN (d : ByteArray) : List ByteArray → Option PN
 | [] => none
 | x :: _ => if sumOf x = d then ndOf x else none

set_option maxRecDepth 20000 in
set_option maxHeartbeats 2000000 in
theorem asked_any (d : ByteArray) (xs : List ByteArray) (hx : ∀ x, x ∈ xs → x.size ≤ 65536) (a : Option Addr) (c n : Nat) (w : World) (hn : n ≤ w.heap.size) (hl : Laid w) (hs : slS n w a xs) :
  Calls Tryd.prog 38 #[.string d, .slice a xs.length c] w fun e w' => Below w.heap.size w w' ∧ RdP (askN d xs) w e w' := by
 cases xs with
 | nil =>
  dsimp only [List.length_nil]
  go_enter Tryd.func38, Tryd.ntmps38
  go_wp2
  go_ret
  exact ⟨Below.refl _ _, rfl⟩
 | cons x r =>
  obtain ⟨b, o, rfl, hb, hc⟩ : ∃ b o, a = some ⟨b, o, none⟩ ∧ b < n ∧ ∀ j y, (x :: r)[j]? = some y → w.cell? ⟨b, o + j, none⟩ = some (.string y) := by
   rcases hs with h | h
   ·cases h
   ·exact h
  have c0 : w.cell? ⟨b, o, none⟩ = some (.string x) := hc 0 x rfl
  have hx0 := hx x (List.mem_cons_self ..)
  have KS := sum_one x (by omega) w hl
  have KN := nodeOf_any x
  obtain ⟨N, hN⟩ : ∃ N, (x :: r).length = N + 1 := ⟨r.length, rfl⟩
  rw [hN]
  obtain ⟨s, hsum⟩ : ∃ s, sumOf x = s := ⟨_, rfl⟩
  have hask : askN d (x :: r) = if s = d then ndOf x else none := by rw [← hsum]; rfl
  rw [hask]
  rw [hsum] at KS
  clear hask hsum hN hc
  have hN0 : ((N : Int) + 1 == 0) = false := by rw [beq_eq_false_iff_ne]; omega
  by_cases hsd : s = d
  ·subst hsd
   rw [if_pos rfl]
   have hse : (s.toList == s.toList) = true := beq_self_eq_true _
   obtain ⟨oo, hoo⟩ : ∃ q, ndOf x = q := ⟨_, rfl⟩
   rw [hoo] at KN ⊢
   clear hoo
   go_enter Tryd.func38, Tryd.ntmps38
   go_wp2_with fail
   refine KS.mono ?_
   rintro e w1 ⟨rfl, B1⟩
   have c1 := (B1.cell (p := ⟨b, o, none⟩) (by show b < w.heap.size; omega)).trans c0
   go_wp2_with fail
   refine (KN w1).mono ?_
   rintro e w2 ⟨B2, hR⟩
   have BW := belowStep B1 B1.size B2
   have hR2 := hR.mono (w := w) B1.size
   cases oo with
   | none =>
    obtain rfl := hR2
    go_wp2
    go_ret
    exact ⟨BW, rfl⟩
   | some nd =>
    obtain ⟨b', rfl, hb'⟩ := hR2
    go_wp2
    go_ret
    exact ⟨BW, b', rfl, hb'⟩
  ·rw [if_neg hsd]
   have hse := ne_list hsd
   go_enter Tryd.func38, Tryd.ntmps38
   go_wp2_with fail
   refine KS.mono ?_
   rintro e w1 ⟨rfl, B1⟩
   go_wp2_with fail
   go_ret
   exact ⟨B1, rfl⟩
end Go.Proofs.YtbmapdkcccdmfaaDoor
namespace Go.Proofs.YtbmapdkcccdmfaaDoor
open Go.RowKit Go.Shelf Go.Sort

def pfB (s p : ByteArray) : Bool := Lib.hasPrefix s.data.toList p.data.toList
def pfR (s p : ByteArray) : ByteArray := ⟨(Lib.trimPrefix s.data.toList p.data.toList).toArray⟩
def stepTo (path : ByteArray) : PS → Option (PR × ByteArray)
 | .nil => none
 | .cons p r s => if pfB path p then some (r, pfR path p) else stepTo path s
def atN (to : PR) (ts : List ByteArray) : Option (PN × List ByteArray) :=
 match to with
 | .win n => some (n, ts)
 | .dig d => (askN d ts).map fun n => (n, ts.tail)
def wkF : Nat → PR → ByteArray → List ByteArray → ByteArray × Bool
 | 0, _, _, _ => (⟨#[]⟩, false)
 | f + 1, to, path, ts => match atN to ts with
  | none => (⟨#[]⟩, false)
  | some (n, ts') => if path = n.path then (n.val, ts'.isEmpty) else match stepTo path n.ss with
   | none => (⟨#[]⟩, ts'.isEmpty)
   | some (r, rest) => wkF f r rest ts'
theorem pf_size {s p : ByteArray} (h : pfB s p = true) (hp : 0 < p.size) : (pfR s p).size < s.size := by
 unfold pfB at h
 unfold pfR
 have h1 : s.data.toList.length = s.size := rfl
 have h2 : p.data.toList.length = p.size := rfl
 show (Lib.trimPrefix s.data.toList p.data.toList).toArray.size < _
 have h3 : p.data.toList <+: s.data.toList := List.isPrefixOf_iff_prefix.1 h
 have h4 := h3.length_le
 rw [List.size_toArray]
 unfold Lib.trimPrefix
 rw [if_pos h, List.length_drop]
 omega
mutual
def gdN : PN → Prop
 | .mk _ _ ss => ss.len ≤ 16 ∧ gdS ss
def gdS : PS → Prop
 | .nil => True
 | .cons p r s => 0 < p.size ∧ gdR r ∧ gdS s
def gdR : PR → Prop
 | .dig _ => True
 | .win n => gdN n
end
theorem gdS_snoc : ∀ (s : PS) (p : ByteArray) (r : PR), gdS s → 0 < p.size → gdR r → gdS (s.snoc p r)
 | .nil, _, _, _, h1, h2 => ⟨h1, h2, trivial⟩
 | .cons _ _ s, p, r, ⟨h3, h4, h5⟩, h1, h2 => ⟨h3, h4, gdS_snoc s p r h5 h1 h2⟩
theorem qfkS_good : ∀ (xs : List It) (rs : List (Option PR)) (i : Nat) (s t : PS), (∀ r, some r ∈ rs → gdR r) → gdS s → qfkS i s xs rs = some t → gdS t
 | [], _, _, s, t, _, hs, h => by
  have : some s = some t := h
  cases this
  exact hs
 | _ :: _, [], _, _, _, _, _, h => by cases h
 | x :: xs, r :: rs, i, s, t, hr, hs, h => by
  have hr' : ∀ q, some q ∈ rs → gdR q := fun q hq => hr q (List.mem_cons_of_mem _ hq)
  cases r with
  | none =>
   have h' : (if x.l = false ∧ x.t.size = 0 then qfkS (i + 1) s xs rs else none) = some t := h
   split at h'
   ·exact qfkS_good xs rs (i + 1) s t hr' hs h'
   ·cases h'
  | some q =>
   have h' : (if x.l = false ∧ x.t.size = 0 then qfkS (i + 1) s xs rs else qfkS (i + 1) (s.snoc (b1 i) q) xs rs) = some t := h
   split at h'
   ·exact qfkS_good xs rs (i + 1) s t hr' hs h'
   ·exact qfkS_good xs rs (i + 1) _ t hr' (gdS_snoc s _ q hs (by show 0 < 1; decide) (hr q (List.mem_cons_self ..))) h'
theorem qfkS_len : ∀ (xs : List It) (rs : List (Option PR)) (i : Nat) (s t : PS), qfkS i s xs rs = some t → t.len ≤ s.len + xs.length
 | [], _, _, s, t, h => by
  have : some s = some t := h
  cases this
  exact Nat.le_refl _
 | _ :: _, [], _, _, _, h => by cases h
 | x :: xs, r :: rs, i, s, t, h => by
  rw [List.length_cons]
  cases r with
  | none =>
   have h' : (if x.l = false ∧ x.t.size = 0 then qfkS (i + 1) s xs rs else none) = some t := h
   split at h'
   ·have := qfkS_len xs rs (i + 1) s t h'
    omega
   ·cases h'
  | some q =>
   have h' : (if x.l = false ∧ x.t.size = 0 then qfkS (i + 1) s xs rs else qfkS (i + 1) (s.snoc (b1 i) q) xs rs) = some t := h
   split at h'
   ·have := qfkS_len xs rs (i + 1) s t h'
    omega
   ·have := qfkS_len xs rs (i + 1) _ t h'
    rw [PS.snoc_len] at this
    omega
theorem asm_good (xs : List It) (rs : List (Option PR)) (n : PN) (hr : ∀ r, some r ∈ rs → gdR r) (h : asmN xs rs = some n) : gdN n := by
 unfold asmN at h
 split at h
 ·unfold lbN at h
  split at h
  ·split at h
   ·split at h
    ·cases h; exact ⟨Nat.zero_le _, trivial⟩
    ·cases h
   ·split at h
    ·next hp =>
     rw [Option.map_eq_some_iff] at h
     obtain ⟨q, hq, rfl⟩ := h
     refine ⟨by show 1 ≤ 16; decide, hp, ?_, trivial⟩
     refine hr q ?_
     rw [List.getD_eq_getElem?_getD] at hq
     cases hg : rs[1]? with
     | none => rw [hg] at hq; cases hq
     | some o =>
      rw [hg] at hq
      have : o = some q := hq
      subst this
      exact List.mem_of_getElem? hg
    ·cases h
  ·cases h
 ·split at h
  ·unfold qfkN at h
   split at h
   ·cases h
   ·rw [Option.map_eq_some_iff] at h
    obtain ⟨s, hs, rfl⟩ := h
    refine ⟨?_, qfkS_good _ _ 0 .nil s (fun r hr' => hr r (List.mem_of_mem_take hr')) trivial hs⟩
    have := qfkS_len _ _ _ _ _ hs
    rw [List.length_take] at this
    have h0 : PS.nil.len = 0 := rfl
    omega
  ·cases h
mutual
theorem rdR_good : ∀ (x : It) (r : PR), rdR x = some r → gdR r
 | .mk l t xs, r, h => by
  rw [rdR] at h
  split at h
  ·rw [Option.map_eq_some_iff] at h
   obtain ⟨n, hn, rfl⟩ := h
   exact asm_good xs _ n (rdRs_good xs) hn
  ·unfold dgR at h
   split at h
   ·cases h; trivial
   ·cases h
theorem rdRs_good : ∀ (xs : List It) (r : PR), some r ∈ rdRs xs → gdR r
 | [], _, h => by cases h
 | x :: xs, r, h => by
  rw [rdRs] at h
  rcases List.mem_cons.1 h with h | h
  ·exact rdR_good x r h.symm
  ·exact rdRs_good xs r h
end
theorem rdN_good (x : It) (n : PN) (h : rdN x = some n) : gdN n := asm_good _ _ n (rdRs_good _) h
theorem ndOf_good (s : ByteArray) (n : PN) (h : ndOf s = some n) : gdN n := by
 unfold ndOf at h
 split at h
 ·split at h
  ·split at h
   ·cases h
   ·exact rdN_good _ n h
  ·cases h
 ·cases h
theorem askN_good (d : ByteArray) (ts : List ByteArray) (n : PN) (h : askN d ts = some n) : gdN n := by
 cases ts with
 | nil => cases h
 | cons x r =>
  have h' : (if sumOf x = d then ndOf x else none) = some n := h
  split at h'
  ·exact ndOf_good x n h'
  ·cases h'
end Go.Proofs.YtbmapdkcccdmfaaDoor
namespace Go.Proofs.YtbmapdkcccdmfaaDoor
open Go.RowKit Go.Shelf Go.Sort

theorem slS_tail {n : Nat} {W : World} {b o : Nat} {x : ByteArray} {r : List ByteArray} (h : slS n W (some ⟨b, o, none⟩) (x :: r)) : slS n W (some ⟨b, o + 1, none⟩) r := by
 rcases h with h | ⟨b', o', e, hb, hc⟩
 ·cases h
 ·injection e with e
  injection e with e1 e2
  subst e1 e2
  refine .inr ⟨b, o + 1, rfl, hb, fun j y hy => ?_⟩
  have := hc (j + 1) y hy
  rw [← this]
  congr 2
  omega
structure WkI (z n : Nat) (w : World) (p : ByteArray) (ts : List ByteArray) (a : Option Addr) (c : Nat) (d : ByteArray) (q : Option Addr) (to : PR) (W : World) : Prop where
 b : Below z w W
 t : Bq z 73 #[.string d, .pointer q] W
 r : prIn (fun k => z < k ∧ k < W.heap.size) W d q to
 g : gdR to
 s : slS n W a ts
 k : ts.length ≤ c
 x : ∀ y, y ∈ ts → y.size ≤ 65536
theorem wk_win (f : Nat) (nd : PN) (p : ByteArray) (ts : List ByteArray) : wkF (f + 1) (.win nd) p ts = if p = nd.path then (nd.val, ts.isEmpty) else match stepTo p nd.ss with
   | none => (⟨#[]⟩, ts.isEmpty)
   | some (r, rest) => wkF f r rest ts := rfl
theorem wk_dig (f : Nat) (d : ByteArray) (p x : ByteArray) (r : List ByteArray) (nd : PN) (h : askN d (x :: r) = some nd) : wkF (f + 1) (.dig d) p (x :: r) = wkF (f + 1) (.win nd) p r := by
 have e : atN (.dig d) (x :: r) = some (nd, r) := by
  show (askN d (x :: r)).map _ = _
  rw [h]
  rfl
 (rw [wk_win, wkF, e]) <;> rfl
theorem wk_no (f : Nat) (d : ByteArray) (p : ByteArray) (ts : List ByteArray) (h : askN d ts = none) : wkF (f + 1) (.dig d) p ts = (⟨#[]⟩, false) := by
 have e : atN (.dig d) ts = none := by
  show (askN d ts).map _ = _
  rw [h]
  rfl
 rw [wkF, e]
theorem isEmpty_int (ts : List ByteArray) : ((ts.length : Int) == 0) = ts.isEmpty := by
 cases ts with
 | nil => rfl
 | cons x r => rw [beq_eq_false_iff_ne.2 (by rw [List.length_cons]; omega)]; rfl

set_option maxRecDepth 20000 in
set_option maxHeartbeats 8000000 in
theorem walk_any (root path : ByteArray) (xs : List ByteArray) (hx : ∀ x, x ∈ xs → x.size ≤ 65536) (a : Option Addr) (c n : Nat) (hcap : xs.length ≤ c) (w : World) (hn : n ≤ w.heap.size) (hl : Laid w) (hs : slS n w a xs) :
  Calls Tryd.prog 22 #[.string root, .string path, .slice a xs.length c] w fun e w' => e = .returned (.tuple #[.string (wkF (path.size + 1) (.dig root) path xs).1, .bool (wkF (path.size + 1) (.dig root) path xs).2]) ∧ Below w.heap.size w w' := by
 obtain ⟨⟨rv, rb⟩, hres⟩ : ∃ q, wkF (path.size + 1) (.dig root) path xs = q := ⟨_, rfl⟩
 rw [hres]
 obtain ⟨z, hz⟩ : ∃ z, w.heap.size = z := ⟨_, rfl⟩
 have HZ : Hid (w.heap.size = z) := hz
 have A0 := (Below.refl w.heap.size w).alloc (Nat.le_refl _) (.cells #[.string root, .pointer none] 73)
 have hB0 := World.alloc_heap_new w (.cells #[.string root, .pointer none] 73)
 rw [hz] at hB0 A0
 have HI : Hid (WkI z n w path xs a c root none (.dig root) (w.alloc (.cells #[.string root, .pointer none] 73)) ∧ _) := ⟨⟨A0, hB0, ⟨rfl, rfl⟩, trivial, slS_below (A0.mono (by omega)) hs, hcap, hx⟩, hl⟩
 have hnz : n ≤ z := by omega
 clear A0 hB0 hs hx hcap hl hn
 go_enter Tryd.func22, Tryd.ntmps22
 go_wp2_with fail
 refine wp_scope_straight ?_
 go_wp2_with fail
 refine wp_label ?_
 go_wp2_with fail
 refine wpOf (fun W => WkI z n w path xs a c root none (.dig root) W) HI.out.1 ?_
 intro V HV
 have HLd : Hid (Laid w) := HI.out.2
 clear HI hz
 go_loopg [1, 2, 8] (path.size + 1) (fun gk s1 s2 s8 wr => ∃ (p : ByteArray) (ts : List ByteArray) (a' : Option Addr) (c' : Nat) (d : ByteArray) (q : Option Addr) (to : PR), s1 = .string p ∧ s2 = .slice a' ts.length c' ∧ s8 = .string ⟨#[]⟩ ∧ p.size < gk ∧ WkI z n w p ts a' c' d q to wr ∧ Hid (wkF gk to p ts = (rv, rb)))
 case atStart => exact ⟨path, xs, a, c, root, none, .dig root, rfl, rfl, rfl, by omega, HV, hres⟩
 case round =>
  clear HV hres
  obtain ⟨p, ts, a', c', d, q, to, rfl, rfl, rfl, hpg, HW, hwk⟩ := hrel
  obtain ⟨g, rfl⟩ : ∃ g, gk = g + 1 := ⟨gk - 1, by omega⟩
  have hzW := HW.t.lt
  have b0 : wr.cell? ⟨z, 0, none⟩ = some (.string d) := HW.t.cell 0
  have b1 : wr.cell? ⟨z, 1, none⟩ = some (.pointer q) := HW.t.cell 1
  cases to with
  | dig d' =>
   obtain ⟨rfl, rfl⟩ := HW.r
   have KA := asked_any d ts HW.x a' c' n wr (by omega) (HLd.out.below (by rw [← HZ.out] at HW; exact HW.b)) HW.s
   obtain ⟨oo, hoo⟩ : ∃ o, askN d ts = o := ⟨_, rfl⟩
   rw [hoo] at KA
   have HH : Hid (_ ∧ _ ∧ _) := ⟨HW, hwk, hoo⟩
   clear HW hwk hoo
   go_wp2_with fail
   refine KA.mono ?_
   rintro e w1 ⟨B1, hR⟩
   clear KA
   cases oo with
   | none =>
    obtain rfl := hR
    obtain ⟨HW, hwk, hoo⟩ := HH.out
    have hv := hwk.out
    rw [wk_no g d p ts hoo] at hv
    injection hv with e1 e2
    subst e1 e2
    have BW := belowStep HW.b (by omega) B1
    clear HW hwk hoo HH B1
    go_wp2
    try rw [Exit.noGoto_ret]
    refine bodyPost_ret (v := .tuple #[.string ⟨#[]⟩, .bool false]) (by simp [results, Tryd.results22, go_sem]) rfl ⟨rfl, ?_⟩
    rw [HZ.out]
    exact BW
   | some nd =>
    obtain ⟨b, rfl, hb⟩ := hR
    obtain ⟨HW, hwk, hoo⟩ := HH.out
    obtain ⟨x, r, rfl⟩ : ∃ x r, ts = x :: r := by
     cases ts with
     | nil => cases hoo
     | cons x r => exact ⟨x, r, rfl⟩
    obtain ⟨bs, os, rfl⟩ : ∃ b o, a' = some ⟨b, o, none⟩ := by
     rcases HW.s with h | ⟨b, o, h, _⟩
     ·cases h
     ·exact ⟨b, o, h⟩
    have hwk2 := hwk.out
    rw [wk_dig g d p x r nd hoo] at hwk2
    have hgn := askN_good d _ nd hoo
    have HW1 : WkI z n w p r (some ⟨bs, os + 1, none⟩) (c' - 1) d none (.win nd) w1 → True := fun _ => trivial
    have hk := HW.k
    have hBz := belowStep HW.b (by omega) B1
    have hT1 := HW.t.below B1
    have hS1 : slS n w1 (some ⟨bs, os + 1, none⟩) r := slS_tail (slS_below (B1.mono (by omega)) HW.s)
    have hX1 : ∀ y, y ∈ r → y.size ≤ 65536 := fun y hy => HW.x y (List.mem_cons_of_mem _ hy)
    have hb1 : pnIn (fun k => z < k ∧ k < w1.heap.size) w1 b nd := pnIn_of (fun k hk => ⟨⟨by omega, hk.2⟩, rfl⟩) nd b hb
    have hkr : r.length ≤ c' - 1 := by rw [List.length_cons] at hk; omega
    have hk' : r.length + 1 ≤ c' := hk
    have hki : (r.length : Int) + 1 ≤ c' := by omega
    have hL : (x :: r).length = r.length + 1 := rfl
    rw [hL]
    have HC : Hid (_ ∧ _ ∧ _ ∧ _ ∧ _ ∧ _ ∧ _ ∧ _) := ⟨hwk2, hgn, hBz, hT1, hS1, hX1, hb1, hkr⟩
    have hzw1 := hT1.lt
    clear HW hwk hoo HH B1 hb hwk2 hgn hBz hT1 hS1 hX1 hb1 hkr HW1 hk hL b0 b1
    obtain ⟨np, nv, ss⟩ := nd
    obtain ⟨a3, c3, hbp, hbh, hps⟩ := HC.out.2.2.2.2.2.2.1
    have e0 : w1.cell? ⟨b, 0, none⟩ = some (.string np) := by rw [Lib.cell_of_heap hbh]; rfl
    have e1 : w1.cell? ⟨b, 1, none⟩ = some (.string nv) := by rw [Lib.cell_of_heap hbh]; rfl
    have e2 : w1.cell? ⟨b, 2, none⟩ = some (.slice a3 ss.len c3) := by rw [Lib.cell_of_heap hbh]; rfl
    have HP : Hid _ := hps
    clear hps hbh
    by_cases hc1 : c' = 1
    ·subst hc1
     have hr0 : r = [] := List.eq_nil_of_length_eq_zero (by omega)
     subst hr0
     have hSS : Hid (slS n w1 (some ⟨bs, os, none⟩) [] ∧ ([] : List ByteArray).length ≤ 0) := ⟨.inl rfl, Nat.le_refl _⟩
     dsimp only [List.length_nil]
     by_cases hpn : p = np
     ·subst hpn
      obtain ⟨hwk2, hgn, hBz, hT1, hS1, hX1, hb1, hkr⟩ := HC.out
      replace hwk2 : (nv, ([] : List ByteArray).isEmpty) = (rv, rb) := by rw [← hwk2, wk_win]; exact (if_pos rfl).symm
      have h1 : nv = rv := congrArg Prod.fst hwk2
      have h2 : ([] : List ByteArray).isEmpty = rb := congrArg Prod.snd hwk2
      subst h1
      have hlen := isEmpty_int ([] : List ByteArray)
      rw [h2] at hlen
      have hse : (p.toList == p.toList) = true := beq_self_eq_true _
      clear hwk2 hgn hT1 hS1 hX1 hb1 hkr HC HP hSS
      go_wp2
      try rw [Exit.noGoto_ret]
      refine bodyPost_ret (v := .tuple #[.string nv, .bool rb]) (by simp [results, Tryd.results22, go_sem]; try exact h2.symm) rfl ⟨rfl, ?_⟩
      rw [HZ.out]
      exact hBz
     ·have hse := ne_list hpn
      obtain ⟨g0, hg0⟩ : ∃ q, g = q := ⟨_, rfl⟩
      have hwk3 := HC.out.1
      rw [wk_win] at hwk3
      replace hwk3 : (match stepTo p ss with | none => ((⟨#[]⟩ : ByteArray), ([] : List ByteArray).isEmpty) | some (rr, rest) => wkF g rr rest ([] : List ByteArray)) = (rv, rb) := by rw [← hwk3]; exact (if_neg hpn).symm
      have HK : Hid _ := hwk3
      have h16 : ss.len ≤ 16 := HC.out.2.1.1
      clear hwk3
      go_wp2
      go_loopg [1, 44] ss.len (fun gi s1 s44 wi => ∃ (i : Nat) (s' : PS), s1 = .string p ∧ s44 = .int .i64 (i : Int) ∧ i + s'.len = ss.len ∧ gi = s'.len ∧ Below w1.heap.size w1 wi ∧ psIn (fun k => z < k ∧ k < w1.heap.size) wi a3 i s' ∧ gdS s' ∧ Hid (stepTo p ss = stepTo p s'))
      case atStart => exact ⟨0, ss, rfl, rfl, by omega, rfl, Below.refl _ _, HP.out, HC.out.2.1.2, rfl⟩
      case round =>
       obtain ⟨i, s', rfl, rfl, hil, hgi, Bi, hpi, hgs, hst⟩ := hrel
       cases s' with
       | nil =>
        have hi0 : i = ss.len := hil
        have l0 : ¬ (i : Int) < ss.len := by omega
        have hwk4 := HK.out
        rw [hst.out] at hwk4
        have h1 : (⟨#[]⟩ : ByteArray) = rv := congrArg Prod.fst hwk4
        have h2 : ([] : List ByteArray).isEmpty = rb := congrArg Prod.snd hwk4
        subst h1
        have hlen := isEmpty_int ([] : List ByteArray)
        rw [h2] at hlen
        have BW := belowStep HC.out.2.2.1 (by omega) Bi
        clear hwk4 HC HP HK hst hpi hgs Bi hSS
        go_wp2
        try rw [Exit.noGoto_ret]
        refine bodyPost_ret (v := .tuple #[.string ⟨#[]⟩, .bool rb]) (by simp [results, Tryd.results22, go_sem]; try exact h2.symm) rfl ⟨rfl, ?_⟩
        rw [HZ.out]
        exact BW
       | cons t2 r2 s2 =>
        have hsl : (PS.cons t2 r2 s2).len = s2.len + 1 := rfl
        rw [hsl] at hil hgi
        have l0 : (i : Int) < ss.len := by omega
        obtain ⟨⟨b4, o4, d4, q4, hp4, rfl, m0, m1, m2, hr4⟩, hps2⟩ := hpi
        rw [Nat.mul_comm 3 i] at m0 m1 m2
        have KC := Tryd.strings_CutPrefix p t2
        have hCB : Lib.hasPrefix p.data.toList t2.data.toList = pfB p t2 := rfl
        have hCR : (⟨(Lib.trimPrefix p.data.toList t2.data.toList).toArray⟩ : ByteArray) = pfR p t2 := rfl
        rw [hCB, hCR] at KC
        have hstp : stepTo p (.cons t2 r2 s2) = if pfB p t2 then some (r2, pfR p t2) else stepTo p s2 := rfl
        have A4 := (Below.refl wr.heap.size wr).alloc (Nat.le_refl _) (.cells #[.string t2, .string d4, .pointer q4] 79)
        have hzi : z < wr.heap.size := by have := Bi.size; omega
        have t0 : wr.cell? ⟨z, 0, none⟩ = some (.string d) := (Bi.cell (p := ⟨z, 0, none⟩) hzw1).trans (HC.out.2.2.2.1.cell 0)
        have t1 : wr.cell? ⟨z, 1, none⟩ = some (.pointer none) := (Bi.cell (p := ⟨z, 1, none⟩) hzw1).trans (HC.out.2.2.2.1.cell 1)
        have tf0 : wr.frozen? ⟨z, 0, none⟩ = false := (HC.out.2.2.2.1.below Bi).fr 0
        have tf1 : wr.frozen? ⟨z, 1, none⟩ = false := (HC.out.2.2.2.1.below Bi).fr 1
        obtain ⟨fb, hfb⟩ : ∃ q, pfB p t2 = q := ⟨_, rfl⟩
        obtain ⟨fr, hfr⟩ : ∃ q, pfR p t2 = q := ⟨_, rfl⟩
        rw [hfb, hfr] at KC hstp
        have HR : Hid (_ ∧ _ ∧ _ ∧ _ ∧ _ ∧ _ ∧ _) := ⟨hr4, hps2, hstp, A4, Bi, hgs, hfb⟩
        have HS2 : Hid (_ ∧ _) := ⟨hst, hfr⟩
        clear hr4 hps2 hstp A4 Bi hgs hfb hst hfr hCB hCR hsl
        cases fb with
        | true =>
         go_wp2_with fail
         refine (KC _).mono ?_
         rintro e w4 ⟨rfl, rfl⟩
         go_wp2
         go_roundg g
         case measure => omega
         case rel =>
          obtain ⟨hr4, hps2, hstp, A4, Bi, hgs, hfb⟩ := HR.out
          obtain ⟨hst, hfr⟩ := HS2.out
          obtain ⟨hwk2, hgn, hBz, hT1, hS1, hX1, hb1, hkr⟩ := HC.out
          have hwk5 := HK.out
          rw [hst.out, hstp] at hwk5
          have hTi := (hT1.below Bi).put2 (.string d4) (.pointer q4)
          have hzs := Bi.size
          have hfs : fr.size < p.size := by rw [← hfr]; exact pf_size hfb hgs.1
          have hne : ∀ k, z < k → ∀ (U : World) o v, (U.setCell ⟨z, o, none⟩ v).heap[k]? = U.heap[k]? := fun k hk U o v => Below.heap_setCell _ _ _ _ (by show k ≠ z; omega)
          have hsz2 : ((wr.setCell ⟨z, 0, none⟩ (.string d4)).setCell ⟨z, 1, none⟩ (.pointer q4)).heap.size = wr.heap.size := by simp [World.setCell]
          have A5 := (Below.refl ((wr.setCell ⟨z, 0, none⟩ (.string d4)).setCell ⟨z, 1, none⟩ (.pointer q4)).heap.size ((wr.setCell ⟨z, 0, none⟩ (.string d4)).setCell ⟨z, 1, none⟩ (.pointer q4))).alloc (Nat.le_refl _) (.cells #[.string t2, .string d4, .pointer q4] 79)
          refine ⟨fr, ([] : List ByteArray), (some ⟨bs, os, none⟩), 0, d4, q4, r2, rfl, rfl, rfl, by omega, ⟨?_, hTi.below A5, ?_, hgs.2.1, ?_, hSS.out.2, (fun y hy => by cases hy)⟩, hwk5⟩
          ·exact belowStep (((belowStep hBz (by omega) Bi).setCell (p := ⟨z, 0, none⟩) (Nat.le_refl _) _).setCell (p := ⟨z, 1, none⟩) (Nat.le_refl _) _) (by omega) A5
          ·exact prIn_of (fun k hk => ⟨⟨hk.1, by have := A5.size; omega⟩, (A5.block k (by omega)).trans ((hne k hk.1 _ _ _).trans (hne k hk.1 _ _ _))⟩) r2 d4 q4 hr4
          ·exact slS_below (A5.mono (by omega)) (slS_below (((Bi.mono (by omega)).setCell (p := ⟨z, 0, none⟩) hnz _).setCell (p := ⟨z, 1, none⟩) hnz _) hSS.out.1)
        | false =>
         go_wp2_with fail
         refine (KC _).mono ?_
         rintro e w4 ⟨rfl, rfl⟩
         go_wp2
         go_roundg (gk - 1)
         case measure => omega
         case rel =>
          obtain ⟨hr4, hps2, hstp, A4, Bi, hgs, hfb⟩ := HR.out
          obtain ⟨hst, hfr⟩ := HS2.out
          refine ⟨i + 1, s2, rfl, rfl, by omega, by omega, belowStep Bi Bi.size A4, psIn_of (fun k hk => ⟨hk, A4.block k (by have := Bi.size; omega)⟩) s2 _ _ hps2, hgs.2.2, ?_⟩
          show _ = _
          rw [hst.out, hstp]
          rfl
    ·have hc2 : ¬ c' - 1 = 0 := by omega
     have hc3 : ¬ (c' : Int) = 1 := by omega
     have hSS : Hid (_ ∧ _) := ⟨HC.out.2.2.2.2.1, HC.out.2.2.2.2.2.2.2⟩
     by_cases hpn : p = np
     ·subst hpn
      obtain ⟨hwk2, hgn, hBz, hT1, hS1, hX1, hb1, hkr⟩ := HC.out
      replace hwk2 : (nv, r.isEmpty) = (rv, rb) := by rw [← hwk2, wk_win]; exact (if_pos rfl).symm
      have h1 : nv = rv := congrArg Prod.fst hwk2
      have h2 : r.isEmpty = rb := congrArg Prod.snd hwk2
      subst h1
      have hlen := isEmpty_int r
      rw [h2] at hlen
      have hse : (p.toList == p.toList) = true := beq_self_eq_true _
      clear hwk2 hgn hT1 hS1 hX1 hb1 hkr HC HP hSS
      go_wp2
      try rw [Exit.noGoto_ret]
      refine bodyPost_ret (v := .tuple #[.string nv, .bool rb]) (by simp [results, Tryd.results22, go_sem]; try exact h2.symm) rfl ⟨rfl, ?_⟩
      rw [HZ.out]
      exact hBz
     ·have hse := ne_list hpn
      obtain ⟨g0, hg0⟩ : ∃ q, g = q := ⟨_, rfl⟩
      have hwk3 := HC.out.1
      rw [wk_win] at hwk3
      replace hwk3 : (match stepTo p ss with | none => ((⟨#[]⟩ : ByteArray), r.isEmpty) | some (rr, rest) => wkF g rr rest r) = (rv, rb) := by rw [← hwk3]; exact (if_neg hpn).symm
      have HK : Hid _ := hwk3
      have h16 : ss.len ≤ 16 := HC.out.2.1.1
      clear hwk3
      go_wp2
      go_loopg [1, 44] ss.len (fun gi s1 s44 wi => ∃ (i : Nat) (s' : PS), s1 = .string p ∧ s44 = .int .i64 (i : Int) ∧ i + s'.len = ss.len ∧ gi = s'.len ∧ Below w1.heap.size w1 wi ∧ psIn (fun k => z < k ∧ k < w1.heap.size) wi a3 i s' ∧ gdS s' ∧ Hid (stepTo p ss = stepTo p s'))
      case atStart => exact ⟨0, ss, rfl, rfl, by omega, rfl, Below.refl _ _, HP.out, HC.out.2.1.2, rfl⟩
      case round =>
       obtain ⟨i, s', rfl, rfl, hil, hgi, Bi, hpi, hgs, hst⟩ := hrel
       cases s' with
       | nil =>
        have hi0 : i = ss.len := hil
        have l0 : ¬ (i : Int) < ss.len := by omega
        have hwk4 := HK.out
        rw [hst.out] at hwk4
        have h1 : (⟨#[]⟩ : ByteArray) = rv := congrArg Prod.fst hwk4
        have h2 : r.isEmpty = rb := congrArg Prod.snd hwk4
        subst h1
        have hlen := isEmpty_int r
        rw [h2] at hlen
        have BW := belowStep HC.out.2.2.1 (by omega) Bi
        clear hwk4 HC HP HK hst hpi hgs Bi hSS
        go_wp2
        try rw [Exit.noGoto_ret]
        refine bodyPost_ret (v := .tuple #[.string ⟨#[]⟩, .bool rb]) (by simp [results, Tryd.results22, go_sem]; try exact h2.symm) rfl ⟨rfl, ?_⟩
        rw [HZ.out]
        exact BW
       | cons t2 r2 s2 =>
        have hsl : (PS.cons t2 r2 s2).len = s2.len + 1 := rfl
        rw [hsl] at hil hgi
        have l0 : (i : Int) < ss.len := by omega
        obtain ⟨⟨b4, o4, d4, q4, hp4, rfl, m0, m1, m2, hr4⟩, hps2⟩ := hpi
        rw [Nat.mul_comm 3 i] at m0 m1 m2
        have KC := Tryd.strings_CutPrefix p t2
        have hCB : Lib.hasPrefix p.data.toList t2.data.toList = pfB p t2 := rfl
        have hCR : (⟨(Lib.trimPrefix p.data.toList t2.data.toList).toArray⟩ : ByteArray) = pfR p t2 := rfl
        rw [hCB, hCR] at KC
        have hstp : stepTo p (.cons t2 r2 s2) = if pfB p t2 then some (r2, pfR p t2) else stepTo p s2 := rfl
        have A4 := (Below.refl wr.heap.size wr).alloc (Nat.le_refl _) (.cells #[.string t2, .string d4, .pointer q4] 79)
        have hzi : z < wr.heap.size := by have := Bi.size; omega
        have t0 : wr.cell? ⟨z, 0, none⟩ = some (.string d) := (Bi.cell (p := ⟨z, 0, none⟩) hzw1).trans (HC.out.2.2.2.1.cell 0)
        have t1 : wr.cell? ⟨z, 1, none⟩ = some (.pointer none) := (Bi.cell (p := ⟨z, 1, none⟩) hzw1).trans (HC.out.2.2.2.1.cell 1)
        have tf0 : wr.frozen? ⟨z, 0, none⟩ = false := (HC.out.2.2.2.1.below Bi).fr 0
        have tf1 : wr.frozen? ⟨z, 1, none⟩ = false := (HC.out.2.2.2.1.below Bi).fr 1
        obtain ⟨fb, hfb⟩ : ∃ q, pfB p t2 = q := ⟨_, rfl⟩
        obtain ⟨fr, hfr⟩ : ∃ q, pfR p t2 = q := ⟨_, rfl⟩
        rw [hfb, hfr] at KC hstp
        have HR : Hid (_ ∧ _ ∧ _ ∧ _ ∧ _ ∧ _ ∧ _) := ⟨hr4, hps2, hstp, A4, Bi, hgs, hfb⟩
        have HS2 : Hid (_ ∧ _) := ⟨hst, hfr⟩
        clear hr4 hps2 hstp A4 Bi hgs hfb hst hfr hCB hCR hsl
        cases fb with
        | true =>
         go_wp2_with fail
         refine (KC _).mono ?_
         rintro e w4 ⟨rfl, rfl⟩
         go_wp2
         go_roundg g
         case measure => omega
         case rel =>
          obtain ⟨hr4, hps2, hstp, A4, Bi, hgs, hfb⟩ := HR.out
          obtain ⟨hst, hfr⟩ := HS2.out
          obtain ⟨hwk2, hgn, hBz, hT1, hS1, hX1, hb1, hkr⟩ := HC.out
          have hwk5 := HK.out
          rw [hst.out, hstp] at hwk5
          have hTi := (hT1.below Bi).put2 (.string d4) (.pointer q4)
          have hzs := Bi.size
          have hfs : fr.size < p.size := by rw [← hfr]; exact pf_size hfb hgs.1
          have hne : ∀ k, z < k → ∀ (U : World) o v, (U.setCell ⟨z, o, none⟩ v).heap[k]? = U.heap[k]? := fun k hk U o v => Below.heap_setCell _ _ _ _ (by show k ≠ z; omega)
          have hsz2 : ((wr.setCell ⟨z, 0, none⟩ (.string d4)).setCell ⟨z, 1, none⟩ (.pointer q4)).heap.size = wr.heap.size := by simp [World.setCell]
          have A5 := (Below.refl ((wr.setCell ⟨z, 0, none⟩ (.string d4)).setCell ⟨z, 1, none⟩ (.pointer q4)).heap.size ((wr.setCell ⟨z, 0, none⟩ (.string d4)).setCell ⟨z, 1, none⟩ (.pointer q4))).alloc (Nat.le_refl _) (.cells #[.string t2, .string d4, .pointer q4] 79)
          refine ⟨fr, r, (some ⟨bs, os + 1, none⟩), (c' - 1), d4, q4, r2, rfl, rfl, rfl, by omega, ⟨?_, hTi.below A5, ?_, hgs.2.1, ?_, hSS.out.2, hX1⟩, hwk5⟩
          ·exact belowStep (((belowStep hBz (by omega) Bi).setCell (p := ⟨z, 0, none⟩) (Nat.le_refl _) _).setCell (p := ⟨z, 1, none⟩) (Nat.le_refl _) _) (by omega) A5
          ·exact prIn_of (fun k hk => ⟨⟨hk.1, by have := A5.size; omega⟩, (A5.block k (by omega)).trans ((hne k hk.1 _ _ _).trans (hne k hk.1 _ _ _))⟩) r2 d4 q4 hr4
          ·exact slS_below (A5.mono (by omega)) (slS_below (((Bi.mono (by omega)).setCell (p := ⟨z, 0, none⟩) hnz _).setCell (p := ⟨z, 1, none⟩) hnz _) hSS.out.1)
        | false =>
         go_wp2_with fail
         refine (KC _).mono ?_
         rintro e w4 ⟨rfl, rfl⟩
         go_wp2
         go_roundg (gk - 1)
         case measure => omega
         case rel =>
          obtain ⟨hr4, hps2, hstp, A4, Bi, hgs, hfb⟩ := HR.out
          obtain ⟨hst, hfr⟩ := HS2.out
          refine ⟨i + 1, s2, rfl, rfl, by omega, by omega, belowStep Bi Bi.size A4, psIn_of (fun k hk => ⟨hk, A4.block k (by have := Bi.size; omega)⟩) s2 _ _ hps2, hgs.2.2, ?_⟩
          show _ = _
          rw [hst.out, hstp]
          rfl
  | win nd =>
   obtain ⟨w1, rfl⟩ : ∃ W, W = wr := ⟨_, rfl⟩
   obtain ⟨rfl, b, rfl, hb1⟩ := HW.r
   have HC : Hid (_ ∧ _ ∧ _ ∧ _ ∧ _ ∧ _ ∧ _ ∧ _) := ⟨hwk.out, HW.g, HW.b, HW.t, HW.s, HW.x, hb1, HW.k⟩
   have hzw1 := hzW
   have hSS : Hid (_ ∧ _) := ⟨HW.s, HW.k⟩
   clear HW hwk hb1
   obtain ⟨np, nv, ss⟩ := nd
   obtain ⟨a3, c3, hbp, hbh, hps⟩ := HC.out.2.2.2.2.2.2.1
   have e0 : w1.cell? ⟨b, 0, none⟩ = some (.string np) := by rw [Lib.cell_of_heap hbh]; rfl
   have e1 : w1.cell? ⟨b, 1, none⟩ = some (.string nv) := by rw [Lib.cell_of_heap hbh]; rfl
   have e2 : w1.cell? ⟨b, 2, none⟩ = some (.slice a3 ss.len c3) := by rw [Lib.cell_of_heap hbh]; rfl
   have HP : Hid _ := hps
   clear hps hbh
   by_cases hpn : p = np
   ·subst hpn
    obtain ⟨hwk2, hgn, hBz, hT1, hS1, hX1, hb1, hkr⟩ := HC.out
    replace hwk2 : (nv, ts.isEmpty) = (rv, rb) := by rw [← hwk2, wk_win]; exact (if_pos rfl).symm
    have h1 : nv = rv := congrArg Prod.fst hwk2
    have h2 : ts.isEmpty = rb := congrArg Prod.snd hwk2
    subst h1
    have hlen := isEmpty_int ts
    rw [h2] at hlen
    have hse : (p.toList == p.toList) = true := beq_self_eq_true _
    clear hwk2 hgn hT1 hS1 hX1 hb1 hkr HC HP hSS
    go_wp2
    try rw [Exit.noGoto_ret]
    refine bodyPost_ret (v := .tuple #[.string nv, .bool rb]) (by simp [results, Tryd.results22, go_sem]; try exact h2.symm) rfl ⟨rfl, ?_⟩
    rw [HZ.out]
    exact hBz
   ·have hse := ne_list hpn
    obtain ⟨g0, hg0⟩ : ∃ q, g = q := ⟨_, rfl⟩
    have hwk3 := HC.out.1
    rw [wk_win] at hwk3
    replace hwk3 : (match stepTo p ss with | none => ((⟨#[]⟩ : ByteArray), ts.isEmpty) | some (rr, rest) => wkF g rr rest ts) = (rv, rb) := by rw [← hwk3]; exact (if_neg hpn).symm
    have HK : Hid _ := hwk3
    have h16 : ss.len ≤ 16 := HC.out.2.1.1
    clear hwk3
    go_wp2
    go_loopg [1, 44] ss.len (fun gi s1 s44 wi => ∃ (i : Nat) (s' : PS), s1 = .string p ∧ s44 = .int .i64 (i : Int) ∧ i + s'.len = ss.len ∧ gi = s'.len ∧ Below w1.heap.size w1 wi ∧ psIn (fun k => z < k ∧ k < w1.heap.size) wi a3 i s' ∧ gdS s' ∧ Hid (stepTo p ss = stepTo p s'))
    case atStart => exact ⟨0, ss, rfl, rfl, by omega, rfl, Below.refl _ _, HP.out, HC.out.2.1.2, rfl⟩
    case round =>
     obtain ⟨i, s', rfl, rfl, hil, hgi, Bi, hpi, hgs, hst⟩ := hrel
     cases s' with
     | nil =>
      have hi0 : i = ss.len := hil
      have l0 : ¬ (i : Int) < ss.len := by omega
      have hwk4 := HK.out
      rw [hst.out] at hwk4
      have h1 : (⟨#[]⟩ : ByteArray) = rv := congrArg Prod.fst hwk4
      have h2 : ts.isEmpty = rb := congrArg Prod.snd hwk4
      subst h1
      have hlen := isEmpty_int ts
      rw [h2] at hlen
      have BW := belowStep HC.out.2.2.1 (by omega) Bi
      clear hwk4 HC HP HK hst hpi hgs Bi hSS
      go_wp2
      try rw [Exit.noGoto_ret]
      refine bodyPost_ret (v := .tuple #[.string ⟨#[]⟩, .bool rb]) (by simp [results, Tryd.results22, go_sem]; try exact h2.symm) rfl ⟨rfl, ?_⟩
      rw [HZ.out]
      exact BW
     | cons t2 r2 s2 =>
      have hsl : (PS.cons t2 r2 s2).len = s2.len + 1 := rfl
      rw [hsl] at hil hgi
      have l0 : (i : Int) < ss.len := by omega
      obtain ⟨⟨b4, o4, d4, q4, hp4, rfl, m0, m1, m2, hr4⟩, hps2⟩ := hpi
      rw [Nat.mul_comm 3 i] at m0 m1 m2
      have KC := Tryd.strings_CutPrefix p t2
      have hCB : Lib.hasPrefix p.data.toList t2.data.toList = pfB p t2 := rfl
      have hCR : (⟨(Lib.trimPrefix p.data.toList t2.data.toList).toArray⟩ : ByteArray) = pfR p t2 := rfl
      rw [hCB, hCR] at KC
      have hstp : stepTo p (.cons t2 r2 s2) = if pfB p t2 then some (r2, pfR p t2) else stepTo p s2 := rfl
      have A4 := (Below.refl wr.heap.size wr).alloc (Nat.le_refl _) (.cells #[.string t2, .string d4, .pointer q4] 79)
      have hzi : z < wr.heap.size := by have := Bi.size; omega
      have t0 : wr.cell? ⟨z, 0, none⟩ = some (.string ⟨#[]⟩) := (Bi.cell (p := ⟨z, 0, none⟩) hzw1).trans (HC.out.2.2.2.1.cell 0)
      have t1 : wr.cell? ⟨z, 1, none⟩ = some (.pointer (some ⟨b, 0, none⟩)) := (Bi.cell (p := ⟨z, 1, none⟩) hzw1).trans (HC.out.2.2.2.1.cell 1)
      have tf0 : wr.frozen? ⟨z, 0, none⟩ = false := (HC.out.2.2.2.1.below Bi).fr 0
      have tf1 : wr.frozen? ⟨z, 1, none⟩ = false := (HC.out.2.2.2.1.below Bi).fr 1
      obtain ⟨fb, hfb⟩ : ∃ q, pfB p t2 = q := ⟨_, rfl⟩
      obtain ⟨fr, hfr⟩ : ∃ q, pfR p t2 = q := ⟨_, rfl⟩
      rw [hfb, hfr] at KC hstp
      have HR : Hid (_ ∧ _ ∧ _ ∧ _ ∧ _ ∧ _ ∧ _) := ⟨hr4, hps2, hstp, A4, Bi, hgs, hfb⟩
      have HS2 : Hid (_ ∧ _) := ⟨hst, hfr⟩
      clear hr4 hps2 hstp A4 Bi hgs hfb hst hfr hCB hCR hsl
      cases fb with
      | true =>
       go_wp2_with fail
       refine (KC _).mono ?_
       rintro e w4 ⟨rfl, rfl⟩
       go_wp2
       go_roundg g
       case measure => omega
       case rel =>
        obtain ⟨hr4, hps2, hstp, A4, Bi, hgs, hfb⟩ := HR.out
        obtain ⟨hst, hfr⟩ := HS2.out
        obtain ⟨hwk2, hgn, hBz, hT1, hS1, hX1, hb1, hkr⟩ := HC.out
        have hwk5 := HK.out
        rw [hst.out, hstp] at hwk5
        have hTi := (hT1.below Bi).put2 (.string d4) (.pointer q4)
        have hzs := Bi.size
        have hfs : fr.size < p.size := by rw [← hfr]; exact pf_size hfb hgs.1
        have hne : ∀ k, z < k → ∀ (U : World) o v, (U.setCell ⟨z, o, none⟩ v).heap[k]? = U.heap[k]? := fun k hk U o v => Below.heap_setCell _ _ _ _ (by show k ≠ z; omega)
        have hsz2 : ((wr.setCell ⟨z, 0, none⟩ (.string d4)).setCell ⟨z, 1, none⟩ (.pointer q4)).heap.size = wr.heap.size := by simp [World.setCell]
        have A5 := (Below.refl ((wr.setCell ⟨z, 0, none⟩ (.string d4)).setCell ⟨z, 1, none⟩ (.pointer q4)).heap.size ((wr.setCell ⟨z, 0, none⟩ (.string d4)).setCell ⟨z, 1, none⟩ (.pointer q4))).alloc (Nat.le_refl _) (.cells #[.string t2, .string d4, .pointer q4] 79)
        refine ⟨fr, ts, a', c', d4, q4, r2, rfl, rfl, rfl, by omega, ⟨?_, hTi.below A5, ?_, hgs.2.1, ?_, hSS.out.2, hX1⟩, hwk5⟩
        ·exact belowStep (((belowStep hBz (by omega) Bi).setCell (p := ⟨z, 0, none⟩) (Nat.le_refl _) _).setCell (p := ⟨z, 1, none⟩) (Nat.le_refl _) _) (by omega) A5
        ·exact prIn_of (fun k hk => ⟨⟨hk.1, by have := A5.size; omega⟩, (A5.block k (by omega)).trans ((hne k hk.1 _ _ _).trans (hne k hk.1 _ _ _))⟩) r2 d4 q4 hr4
        ·exact slS_below (A5.mono (by omega)) (slS_below (((Bi.mono (by omega)).setCell (p := ⟨z, 0, none⟩) hnz _).setCell (p := ⟨z, 1, none⟩) hnz _) hSS.out.1)
      | false =>
       go_wp2_with fail
       refine (KC _).mono ?_
       rintro e w4 ⟨rfl, rfl⟩
       go_wp2
       go_roundg (gk - 1)
       case measure => omega
       case rel =>
        obtain ⟨hr4, hps2, hstp, A4, Bi, hgs, hfb⟩ := HR.out
        obtain ⟨hst, hfr⟩ := HS2.out
        refine ⟨i + 1, s2, rfl, rfl, by omega, by omega, belowStep Bi Bi.size A4, psIn_of (fun k hk => ⟨hk, A4.block k (by have := Bi.size; omega)⟩) s2 _ _ hps2, hgs.2.2, ?_⟩
        show _ = _
        rw [hst.out, hstp]
        rfl
end Go.Proofs.YtbmapdkcccdmfaaDoor
namespace Go.Proofs.YtbmapdkcccdmfaaDoor
open Go.RowKit Go.Shelf Go.Sort

def rgT (root : ByteArray) (xs : List ByteArray) : Bool := decide (root.size = 32) && (decide (xs.length ≤ 140) && xs.all fun x => decide (x.size ≤ 65536))

set_option maxRecDepth 20000 in
set_option maxHeartbeats 2000000 in
theorem areRight_any (root : ByteArray) (xs : List ByteArray) (hxl : xs.length < 1000000000) (a : Option Addr) (c n : Nat) (w : World) (hn : n ≤ w.heap.size) (hs : slS n w a xs) :
  Calls Tryd.prog 20 #[.string root, .slice a xs.length c] w fun e w' => e = .returned (.bool (rgT root xs)) ∧ Below w.heap.size w w' := by
 obtain ⟨N, hN⟩ : ∃ N, xs.length = N := ⟨_, rfl⟩
 rw [hN]
 by_cases h1 : root.size = 32
 ·by_cases h2 : N ≤ 140
  ·have hr : rgT root xs = xs.all fun x => decide (x.size ≤ 65536) := by
    unfold rgT
    rw [decide_eq_true h1, hN, decide_eq_true h2]
    rfl
   rw [hr]
   have l1 : ¬ (140 : Int) < N := by omega
   have l2 : ((root.size : Int) != 32) = false := by simp; omega
   have l3 : ((root.size : Int) == 32) = true := by simp; omega
   go_enter Tryd.func20, Tryd.ntmps20
   go_wp2
   go_loopg [17] N (fun gk i wr => ∃ j : Nat, j + gk = N ∧ i = .int .i64 (j : Int) ∧ Below w.heap.size w wr ∧ Hid ((xs.all fun x => decide (x.size ≤ 65536)) = ((xs.drop j).all fun x => decide (x.size ≤ 65536))))
   case atStart => exact ⟨0, by omega, rfl, Below.refl _ _, rfl⟩
   case round =>
    obtain ⟨j, hjg, rfl, BW, hal⟩ := hrel
    by_cases hj : j < N
    ·have l0 : (j : Int) < N := by omega
     obtain ⟨x, hx⟩ : ∃ x, xs[j]? = some x := ⟨xs[j]'(by omega), List.getElem?_eq_getElem (by omega)⟩
     obtain ⟨b, o, rfl, hb, hc⟩ := slS_at hs j x hx
     have c0 := (BW.cell (p := ⟨b, o + j, none⟩) (by show b < w.heap.size; omega)).trans hc
     have hd : xs.drop j = x :: xs.drop (j + 1) := by
      obtain ⟨h, e⟩ := List.getElem?_eq_some_iff.1 hx
      rw [List.drop_eq_getElem_cons h, e]
     have hal2 := hal.out
     rw [hd, List.all_cons] at hal2
     by_cases hx2 : x.size ≤ 65536
     ·have l4 : ¬ (65536 : Int) < x.size := by omega
      rw [decide_eq_true hx2, Bool.true_and] at hal2
      have HA : Hid _ := hal2
      clear hal2 hal
      go_wp2
      go_roundg (gk - 1)
      case measure => omega
      case rel => exact ⟨j + 1, by omega, rfl, BW, HA.out⟩
     ·have l4 : (65536 : Int) < x.size := by omega
      rw [decide_eq_false hx2, Bool.false_and] at hal2
      have HA : Hid _ := hal2
      clear hal2 hal
      go_wp2
      go_ret
      exact ⟨by rw [HA.out]; rfl, BW⟩
    ·have hjN : j = N := by omega
     subst hjN
     have l0 : ¬ (j : Int) < j := by omega
     have HA : Hid _ := hal.out
     clear hal
     go_wp2
     go_ret
     refine ⟨?_, BW⟩
     rw [HA.out, List.drop_eq_nil_of_le (by omega)]
     rfl
  ·have hr : rgT root xs = false := by
    unfold rgT
    rw [hN, decide_eq_false h2]
    simp
   rw [hr]
   have l1 : (140 : Int) < N := by omega
   have l3 : ((root.size : Int) == 32) = true := by simp; omega
   go_enter Tryd.func20, Tryd.ntmps20
   go_wp2
   go_ret
   exact ⟨rfl, Below.refl _ _⟩
 ·have hr : rgT root xs = false := by
   unfold rgT
   rw [decide_eq_false h1]
   rfl
  rw [hr]
  have l3 : ((root.size : Int) == 32) = false := by rw [beq_eq_false_iff_ne]; omega
  go_enter Tryd.func20, Tryd.ntmps20
  go_wp2
  go_ret
  exact ⟨rfl, Below.refl _ _⟩
end Go.Proofs.YtbmapdkcccdmfaaDoor
namespace Go.Proofs.YtbmapdkcccdmfaaDoor
open Go.RowKit Go.Shelf Go.Sort

def chkF (root key : ByteArray) (xs : List ByteArray) : ByteArray × Bool × Int :=
 if 0 < key.size ∧ key.size ≤ 64 ∧ rgT root xs = true then
  (if xs = [] ∧ root = sumOf ⟨#[128]⟩ then (⟨#[]⟩, false, 0)
  else if (wkF (2 * key.size + 1) (.dig root) (ofOf key) xs).2 then ((wkF (2 * key.size + 1) (.dig root) (ofOf key) xs).1, decide (0 < (wkF (2 * key.size + 1) (.dig root) (ofOf key) xs).1.size), 0) else (⟨#[]⟩, false, 70))
 else (⟨#[]⟩, false, 2)

set_option maxRecDepth 20000 in
set_option maxHeartbeats 4000000 in
theorem check_any (root key : ByteArray) (xs : List ByteArray) (hxl : xs.length < 1000000000) (a : Option Addr) (c n : Nat) (hcap : xs.length ≤ c) (w : World) (hn : n ≤ w.heap.size) (hl : Laid w) (hs : slS n w a xs) :
  Calls Tryd.prog 8 #[.string root, .string key, .slice a xs.length c] w fun e w' => e = .returned (.tuple #[.string (chkF root key xs).1, .bool (chkF root key xs).2.1, .int .i64 (chkF root key xs).2.2]) ∧ Below w.heap.size w w' := by
 obtain ⟨⟨rv, rb, re⟩, hres⟩ : ∃ q, chkF root key xs = q := ⟨_, rfl⟩
 rw [hres]
 dsimp only
 unfold chkF at hres
 have KR : Hid _ := areRight_any root xs hxl a c n w hn hs
 have KR := KR.out
 obtain ⟨N, hN⟩ : ∃ N, xs.length = N := ⟨_, rfl⟩
 by_cases hk0 : 0 < key.size
 ·have hke := ne_empty7 key hk0
  by_cases hk1 : key.size ≤ 64
  ·have l1 : ¬ (64 : Int) < key.size := by omega
   cases hrg : rgT root xs with
   | false =>
    rw [hrg] at KR
    rw [if_neg (by rw [hrg]; simp)] at hres
    injection hres with e1 e2
    injection e2 with e2 e3
    subst e1 e2 e3
    rw [hN] at KR ⊢
    clear hs hl hrg
    go_enter Tryd.func8, Tryd.ntmps8
    go_wp2_with fail
    refine Calls.mono KR ?_
    rintro e w1 ⟨rfl, B1⟩
    go_wp2_with fail
    refine bodyPost_ret (v := .tuple #[.string ⟨#[]⟩, .bool false, .int .i64 2]) (by simp [results, Tryd.results8, go_sem]) rfl ⟨rfl, B1⟩
   | true =>
    rw [hrg] at KR
    rw [if_pos ⟨hk0, hk1, hrg⟩] at hres
    have hall : ∀ x, x ∈ xs → x.size ≤ 65536 := fun x hx => by
     unfold rgT at hrg
     simp only [Bool.and_eq_true, List.all_eq_true, decide_eq_true_eq] at hrg
     exact hrg.2.2 x hx
    have HKR : Hid _ := KR
    clear KR
    by_cases hxe : xs = []
    ·have hN0 : N = 0 := by rw [← hN, hxe]; rfl
     subst hN0
     rw [hN] at HKR
     rw [hN]
     have BK : ∀ W : World, Below w.heap.size w W → Calls Tryd.prog 21 #[.slice (some ⟨W.heap.size, 0, none⟩) 1 1] (W.alloc (.cells #[.string ⟨#[128]⟩] 9)) fun e w' => e = .returned (.string (sumOf ⟨#[128]⟩)) ∧ Below W.heap.size W w' := fun W hW => sum_one ⟨#[128]⟩ (by decide) W (hl.below hW)
     obtain ⟨sm, hsm⟩ : ∃ q, sumOf ⟨#[128]⟩ = q := ⟨_, rfl⟩
     rw [hsm] at BK hres
     by_cases hrs : root = sm
     ·rw [if_pos ⟨hxe, hrs⟩] at hres
      injection hres with e1 e2
      injection e2 with e2 e3
      subst e1 e2 e3
      have hse : (root.toList == sm.toList) = true := by rw [hrs]; exact beq_self_eq_true _
      clear hrg hall hxe hs hl hrs
      go_enter Tryd.func8, Tryd.ntmps8
      go_wp2_with fail
      refine Calls.mono HKR.out ?_
      rintro e w1 ⟨rfl, BW⟩
      go_wp2_with fail
      refine (BK w1 BW).mono ?_
      rintro e w2 ⟨rfl, B2⟩
      go_wp2_with fail
      refine bodyPost_ret (v := .tuple #[.string ⟨#[]⟩, .bool false, .int .i64 0]) (by simp [results, Tryd.results8, go_sem]) rfl ⟨rfl, belowStep BW BW.size B2⟩
     ·rw [if_neg (fun h => hrs h.2)] at hres
      have hse := ne_list hrs
      obtain ⟨⟨wv, wb⟩, hwk⟩ : ∃ q, wkF (2 * key.size + 1) (.dig root) (ofOf key) xs = q := ⟨_, rfl⟩
      rw [hwk] at hres
      dsimp only at hres
      have KW := fun W hW hLd hSl => walk_any root (ofOf key) xs hall a c n hcap W hW hLd hSl
      rw [of_size, hwk] at KW
      dsimp only at KW
      have HL : Hid _ := hl
      have HS : Hid _ := hs
      rw [hN] at KW
      clear hrg hall hxe hs hl hrs hwk
      go_enter Tryd.func8, Tryd.ntmps8
      go_wp2_with fail
      refine Calls.mono HKR.out ?_
      rintro e w1 ⟨rfl, BW1⟩
      go_wp2_with fail
      refine (BK w1 BW1).mono ?_
      rintro e w2 ⟨rfl, B2'⟩
      have BW := belowStep BW1 BW1.size B2'
      clear BW1 B2' BK
      go_wp2_with fail
      refine (of_any key (by omega) _).mono ?_
      rintro e W2 ⟨rfl, B2⟩
      have BA := belowStep BW BW.size B2
      go_wp2_with fail
      refine (KW W2 (Nat.le_trans hn BA.size) (HL.out.below BA) (slS_below (BA.mono hn) HS.out)).mono ?_
      rintro e W3 ⟨rfl, B3⟩
      have BB := belowStep BA BA.size B3
      clear KW
      cases wb with
      | false =>
       rw [if_neg (by decide)] at hres
       injection hres with e1 e2
       injection e2 with e2 e3
       subst e1 e2 e3
       go_wp2_with fail
       refine bodyPost_ret (v := .tuple #[.string ⟨#[]⟩, .bool false, .int .i64 70]) (by simp [results, Tryd.results8, go_sem]) rfl ⟨rfl, BB⟩
      | true =>
       rw [if_pos rfl] at hres
       injection hres with e1 e2
       injection e2 with e2 e3
       subst e1 e3
       by_cases hv : 0 < wv.size
       ·rw [decide_eq_true hv] at e2
        subst e2
        have hve := ne_empty7 wv hv
        go_wp2_with fail
        refine bodyPost_ret (v := .tuple #[.string wv, .bool true, .int .i64 0]) (by simp [results, Tryd.results8, go_sem]) rfl ⟨rfl, BB⟩
       ·rw [decide_eq_false hv] at e2
        subst e2
        obtain rfl := empty_iff wv hv
        go_wp2_with fail
        refine bodyPost_ret (v := .tuple #[.string ⟨#[]⟩, .bool false, .int .i64 0]) (by simp [results, Tryd.results8, go_sem]) rfl ⟨rfl, BB⟩
    ·rw [if_neg (fun h => hxe h.1)] at hres
     have hN0 : ((N : Int) == 0) = false := by
      rw [beq_eq_false_iff_ne]
      have : 0 < xs.length := List.length_pos_iff.2 hxe
      omega
     rw [hN] at HKR
     rw [hN]
     obtain ⟨⟨wv, wb⟩, hwk⟩ : ∃ q, wkF (2 * key.size + 1) (.dig root) (ofOf key) xs = q := ⟨_, rfl⟩
     rw [hwk] at hres
     dsimp only at hres
     have KW := fun W hW hLd hSl => walk_any root (ofOf key) xs hall a c n hcap W hW hLd hSl
     rw [of_size, hwk] at KW
     dsimp only at KW
     have HL : Hid _ := hl
     have HS : Hid _ := hs
     rw [hN] at KW
     clear hrg hall hxe hs hl hwk
     go_enter Tryd.func8, Tryd.ntmps8
     go_wp2_with fail
     refine Calls.mono HKR.out ?_
     rintro e w1 ⟨rfl, BW⟩
     go_wp2_with fail
     refine (of_any key (by omega) _).mono ?_
     rintro e W2 ⟨rfl, B2⟩
     have BA := belowStep BW BW.size B2
     go_wp2_with fail
     refine (KW W2 (Nat.le_trans hn BA.size) (HL.out.below BA) (slS_below (BA.mono hn) HS.out)).mono ?_
     rintro e W3 ⟨rfl, B3⟩
     have BB := belowStep BA BA.size B3
     clear KW
     cases wb with
     | false =>
      rw [if_neg (by decide)] at hres
      injection hres with e1 e2
      injection e2 with e2 e3
      subst e1 e2 e3
      go_wp2_with fail
      refine bodyPost_ret (v := .tuple #[.string ⟨#[]⟩, .bool false, .int .i64 70]) (by simp [results, Tryd.results8, go_sem]) rfl ⟨rfl, BB⟩
     | true =>
      rw [if_pos rfl] at hres
      injection hres with e1 e2
      injection e2 with e2 e3
      subst e1 e3
      by_cases hv : 0 < wv.size
      ·rw [decide_eq_true hv] at e2
       subst e2
       have hve := ne_empty7 wv hv
       go_wp2_with fail
       refine bodyPost_ret (v := .tuple #[.string wv, .bool true, .int .i64 0]) (by simp [results, Tryd.results8, go_sem]) rfl ⟨rfl, BB⟩
      ·rw [decide_eq_false hv] at e2
       subst e2
       obtain rfl := empty_iff wv hv
       go_wp2_with fail
       refine bodyPost_ret (v := .tuple #[.string ⟨#[]⟩, .bool false, .int .i64 0]) (by simp [results, Tryd.results8, go_sem]) rfl ⟨rfl, BB⟩
  ·have l1 : (64 : Int) < key.size := by omega
   rw [if_neg (fun h => hk1 h.2.1)] at hres
   injection hres with e1 e2
   injection e2 with e2 e3
   subst e1 e2 e3
   clear KR hs hl
   go_enter Tryd.func8, Tryd.ntmps8
   go_wp2_with fail
   refine bodyPost_ret (v := .tuple #[.string ⟨#[]⟩, .bool false, .int .i64 2]) (by simp [results, Tryd.results8, go_sem]) rfl ⟨rfl, Below.refl _ _⟩
 ·obtain rfl := empty_iff key hk0
  rw [if_neg (fun h => hk0 h.1)] at hres
  injection hres with e1 e2
  injection e2 with e2 e3
  subst e1 e2 e3
  clear KR hs hl
  go_enter Tryd.func8, Tryd.ntmps8
  go_wp2_with fail
  refine bodyPost_ret (v := .tuple #[.string ⟨#[]⟩, .bool false, .int .i64 2]) (by simp [results, Tryd.results8, go_sem]) rfl ⟨rfl, Below.refl _ _⟩
end Go.Proofs.YtbmapdkcccdmfaaDoor
