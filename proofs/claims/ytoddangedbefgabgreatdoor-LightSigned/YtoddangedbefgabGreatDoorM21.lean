/- Lemmas: What the packages' variables of sign hold; a text's tries and point, pure. No condition. What the package's lifted does. No condition. What the package's tries does: a text's tries, one by one. No condition. What the package's firstOf, Hash do: a text's point. No condition. What slices.Contains of points, the package's handOn and total do. No condition. What the package's handOn hands on. No condition. -/
import Derived.Test.YtoddangedbefgabGreatDoorM13
import Derived.Test.YtoddangedbefgabGreatDoorM20
import Derived.Test.YtoddangedbefgabGreatDoorM4
set_option maxRecDepth 100000
set_option maxHeartbeats 4000000
namespace Go.Proofs.YtoddangedbefgabGreatDoor
open Go.RowKit Go.Shelf Go.Sort
structure Ls (w : World) : Prop where
 p : Lp w
 s : Laid w
 zg : 3 < w.heap.size
 g0 : w.cell? ⟨3, 0, none⟩ = some (.int .u64 1846166884)
 g1 : w.cell? ⟨3, 1, none⟩ = some (.int .u64 1411018613)
 g2 : w.cell? ⟨3, 2, none⟩ = some (.bool false)
 og : ∃ cs t, w.heap[3]? = some (.cells cs t (0, 0))
 zi : 1 < w.heap.size
 i0 : w.cell? ⟨1, 0, none⟩ = some (.int .u64 0)
 i1 : w.cell? ⟨1, 1, none⟩ = some (.int .u64 0)
 i2 : w.cell? ⟨1, 2, none⟩ = some (.bool true)
 oi : ∃ cs t, w.heap[1]? = some (.cells cs t (0, 0))
theorem Ls.ne {w : World} (h : Ls w) : 0 < w.heap.size ∧ 0 ≤ w.heap.size ∧ w.heap.size ≠ 0 ∧ 0 ≠ w.heap.size ∧ 1 < w.heap.size ∧ 1 ≤ w.heap.size ∧ w.heap.size ≠ 1 ∧ 1 ≠ w.heap.size ∧ 2 < w.heap.size ∧ 2 ≤ w.heap.size ∧ w.heap.size ≠ 2 ∧ 2 ≠ w.heap.size ∧ 3 < w.heap.size ∧ 3 ≤ w.heap.size ∧ w.heap.size ≠ 3 ∧ 3 ≠ w.heap.size ∧ 3 < w.heap.size + 1 ∧ 3 < w.heap.size + 1 + 1 ∧ 3 < w.heap.size + 1 + 1 + 1 ∧ 3 < w.heap.size + 1 + 1 + 1 + 1 ∧ 3 < w.heap.size + 1 + 1 + 1 + 1 + 1 ∧ 4 < w.heap.size ∧ 4 ≤ w.heap.size ∧ w.heap.size ≠ 4 ∧ 4 ≠ w.heap.size ∧ 4 < w.heap.size + 1 ∧ 4 < w.heap.size + 1 + 1 ∧ 4 < w.heap.size + 1 + 1 + 1 ∧ 4 < w.heap.size + 1 + 1 + 1 + 1 ∧ 4 < w.heap.size + 1 + 1 + 1 + 1 + 1 ∧ 5 < w.heap.size ∧ 5 ≤ w.heap.size ∧ w.heap.size ≠ 5 ∧ 5 ≠ w.heap.size ∧ 5 < w.heap.size + 1 ∧ 5 < w.heap.size + 1 + 1 ∧ 5 < w.heap.size + 1 + 1 + 1 ∧ 5 < w.heap.size + 1 + 1 + 1 + 1 ∧ 5 < w.heap.size + 1 + 1 + 1 + 1 + 1 ∧ 6 < w.heap.size ∧ 6 ≤ w.heap.size ∧ w.heap.size ≠ 6 ∧ 6 ≠ w.heap.size ∧ 6 < w.heap.size + 1 ∧ 6 < w.heap.size + 1 + 1 ∧ 6 < w.heap.size + 1 + 1 + 1 ∧ 6 < w.heap.size + 1 + 1 + 1 + 1 ∧ 6 < w.heap.size + 1 + 1 + 1 + 1 + 1 := by
 have h1 := h.p.l.z
 have h2 := h.p.za
 have h3 := h.p.zb
 have h4 := h.zg
 have h5 := h.zi
 have h6 := h.s.k.z
 have h7 := h.s.h.z
 omega
theorem Ls.mk' {w W : World} (h : Ls w) (hp : Lp W) (hs : Laid W) (e1 : W.heap[3]? = w.heap[3]?) (e2 : W.heap[1]? = w.heap[1]?) : Ls W := by
 obtain ⟨_, _, za, a0, a1, a2, ⟨cs, t, o⟩, zb, b0, b1, b2, ⟨cs', t', o'⟩⟩ := h
 have k1 := e1.trans o
 have k2 := e2.trans o'
 exact ⟨hp, hs, (Array.getElem?_eq_some_iff.1 k1).1, (Lib.cell_of_heap k1 0).trans ((Lib.cell_of_heap o 0).symm.trans a0), (Lib.cell_of_heap k1 1).trans ((Lib.cell_of_heap o 1).symm.trans a1), (Lib.cell_of_heap k1 2).trans ((Lib.cell_of_heap o 2).symm.trans a2), ⟨cs, t, k1⟩,
  (Array.getElem?_eq_some_iff.1 k2).1, (Lib.cell_of_heap k2 0).trans ((Lib.cell_of_heap o' 0).symm.trans b0), (Lib.cell_of_heap k2 1).trans ((Lib.cell_of_heap o' 1).symm.trans b1), (Lib.cell_of_heap k2 2).trans ((Lib.cell_of_heap o' 2).symm.trans b2), ⟨cs', t', k2⟩⟩
theorem Ls.below {w W : World} (h : Ls w) (hb : Below w.heap.size w W) : Ls W := h.mk' (h.p.below hb) (h.s.below hb) (hb.block 3 h.zg) (hb.block 1 h.zi)
theorem Ls.alloc {w : World} (h : Ls w) (o : Obj) : Ls (w.alloc o) := h.below ((Below.refl _ _).alloc (Nat.le_refl _) _)
theorem Ls.own {A C : World} {row : Option Nat} (h : Ls A) (hg : A.grownBy C row) (hr : ∀ r, row = some r → ∃ o : Obj, A.heap[r]? = some o ∧ o.isCells = false) : Ls C := by
 refine h.mk' (h.p.own hg hr) (h.s.own hg hr) (hg.block 3 h.zg (fun e => ?_)) (hg.block 1 h.zi (fun e => ?_))
 ·obtain ⟨o, ho, hc⟩ := hr 3 e.symm
  obtain ⟨cs, t, k⟩ := h.og
  rw [k] at ho
  cases ho
  cases hc
 ·obtain ⟨o, ho, hc⟩ := hr 1 e.symm
  obtain ⟨cs, t, k⟩ := h.oi
  rw [k] at ho
  cases ho
  cases hc
theorem Ls.top {w : World} (h : Ls w) : 4 < w.heap.size ∧ 5 < w.heap.size ∧ 6 < w.heap.size ∧ 3 < w.heap.size ∧ 1 < w.heap.size ∧ 0 < w.heap.size ∧ 2 < w.heap.size := ⟨h.p.l.z, h.p.za, h.p.zb, h.zg, h.zi, h.s.h.z, h.s.k.z⟩
theorem inClassS {f : Nat} {args : Array Value} {v : Value} {w : World} (h : ∀ W, Ls W → Calls Tryz.prog f args W fun e w' => e = .returned v ∧ Below W.heap.size W w') (hL : Ls w) :
  ∀ d os, Calls Tryz.prog f args (grow (redrawn w d) os) fun e w'' => e = .returned v ∧ ∃ p : Regrown, w'' = grow (redrawn w p.d) p.os := fun _ _ => Calls.regrown_of (h _ (hL.below (below_regrown _ _ _)))
theorem Ls.other {W : World} (h : Ls W) {k : Nat} (hk : 4 < k ∧ 5 < k ∧ 6 < k ∧ 3 < k ∧ 1 < k ∧ 0 < k ∧ 2 < k) (o : Nat) (u : Value) : Ls (W.setCell ⟨k, o, none⟩ u) := by
 obtain ⟨k1, k2, k3, k4, k5, k6, k7⟩ := hk
 refine h.mk' (h.p.other k1 k2 k3 o u) ⟨?_, ?_⟩ (Below.heap_setCell _ _ _ _ (Nat.ne_of_lt k4)) (Below.heap_setCell _ _ _ _ (Nat.ne_of_lt k5))
 ·have e := Below.heap_setCell W ⟨k, o, none⟩ u 2 (Nat.ne_of_lt k7)
  exact ⟨by have := h.s.k.z; simpa [World.setCell] using this, fun j hj => by rw [← h.s.k.c j hj]; simp only [World.cell?, e], fun q => by rw [← h.s.k.f q]; simp only [World.frozen?, e]⟩
 ·have e := Below.heap_setCell W ⟨k, o, none⟩ u 0 (Nat.ne_of_lt k6)
  exact ⟨by have := h.s.h.z; simpa [World.setCell] using this, fun j hj => by rw [← h.s.h.c j hj]; simp only [World.cell?, e], fun q => by rw [← h.s.h.f q]; simp only [World.frozen?, e]⟩
/- Pure. -/
def lfN (x : Nat) : Pt := if roB (sqN x) = true then tmN ⟨x, roN (sqN x), false⟩ 4 else iN
def trX (s : ByteArray) : Nat := fourN (btN s 0) (btN s 1) (btN s 2) (btN s 3) % PM
def oneB (n : Nat) : ByteArray := ⟨#[UInt8.ofNat n]⟩
def trN (t : ByteArray) (n : Nat) : Nat := trX (jco (jcm [t, oneB n]))
def trsN (t : ByteArray) (q : Nat) : List Nat := (List.range q).map (trN t)
theorem trN_lt (t : ByteArray) (n : Nat) : trN t n < PM := Nat.mod_lt _ (by decide)
def fsL : List Nat → Pt
 | [] => gN
 | x :: l => if lfN x = iN then fsL l else lfN x
def hsN (t : ByteArray) : Pt := fsL (trsN t 256)
theorem fs_app (l m : List Nat) (h : ∀ x ∈ l, lfN x = iN) : fsL (l ++ m) = fsL m := by
 induction l with
 | nil => rfl
 | cons x l ih => rw [List.cons_append, fsL, if_pos (h x (.head _)), ih fun y hy => h y (.tail _ hy)]
theorem fs_hit (l m : List Nat) (x : Nat) (h : ∀ x ∈ l, lfN x = iN) (hx : lfN x ≠ iN) : fsL (l ++ x :: m) = lfN x := by
 rw [fs_app l _ h, fsL, if_neg hx]
theorem lf_gr {x : Nat} (hx : x < PM) : grN (lfN x) = true := by
 unfold lfN
 split
 ·next h => exact gr_four (on_ro hx h)
 ·exact gr_inf
theorem fs_gr : ∀ l : List Nat, (∀ x ∈ l, x < PM) → grN (fsL l) = true ∧ fsL l ≠ iN
 | [], _ => ⟨gr_gen, by decide⟩
 | x :: l, h => by
  rw [fsL]
  split
  ·exact fs_gr l fun y hy => h y (.tail _ hy)
  ·next e => exact ⟨lf_gr (h x (.head _)), e⟩
theorem trs_lt {t : ByteArray} {q x : Nat} (h : x ∈ trsN t q) : x < PM := by
 unfold trsN at h
 obtain ⟨n, _, rfl⟩ := List.mem_map.1 h
 exact trN_lt t n
theorem hs_gr (t : ByteArray) : grN (hsN t) = true ∧ hsN t ≠ iN := fs_gr _ fun _ hx => trs_lt hx
theorem lifted_any (x : Nat) (hx : x < PM) (w : World) (hL : Ls w) :
  Calls Tryz.prog 179 #[.int .u64 x] w fun e w' => e = .returned (vT (lfN x)) ∧ Below w.heap.size w w' := by
 have ux : U64 x := pm_u _ hx
 have C1 := jbn x x ux ux
 have C2 := jbn (muN x x) x (pm_u _ (jbq _ _)) ux
 have C3 := jev (muN (muN x x) x) x (pm_u _ (jbq _ _)) ux
 rw [show adN (muN (muN x x) x) x = sqN x from rfl] at C3
 have C4 := root_any (sqN x) (pm_u _ (sq_lt _))
 have ho : roB (sqN x) = true → onN ⟨x, roN (sqN x), false⟩ = true := fun h => on_ro hx h
 have eL : lfN x = if roB (sqN x) = true then tmN ⟨x, roN (sqN x), false⟩ 4 else iN := rfl
 rw [eL]
 have hr := ro_lt (sqN x)
 obtain ⟨y, hy⟩ : ∃ y, sqN x = y := ⟨_, rfl⟩
 rw [hy] at C3 C4 ho hr ⊢
 obtain ⟨a, ea⟩ : ∃ a, muN x x = a := ⟨_, rfl⟩
 rw [ea] at C1 C2 C3
 obtain ⟨b, eb⟩ : ∃ b, muN a x = b := ⟨_, rfl⟩
 rw [eb] at C2 C3
 obtain ⟨r, er⟩ : ∃ r, roN y = r := ⟨_, rfl⟩
 rw [er] at C4 ho hr ⊢
 clear hy ea eb er eL
 have AL : Below w.heap.size w (w.alloc (.cells #[.int .u64 0, .int .u64 0, .bool false] 72)) := (Below.refl _ _).alloc (Nat.le_refl _) _
 cases hb : roB y
 ·rw [hb] at C4
  clear ho
  rw [if_neg (by simp)]
  go_enter Tryz.func179, Tryz.ntmps179
  go_wp2_with fail
  refine (C1 _).mono ?_
  rintro e w1 ⟨rfl, B1⟩
  have BW1 := jaa AL AL.size B1
  go_wp2_with fail
  refine (C2 _).mono ?_
  rintro e w2 ⟨rfl, B2⟩
  have BW2 := jaa BW1 BW1.size B2
  go_wp2_with fail
  refine (C3 _).mono ?_
  rintro e w3 ⟨rfl, B3⟩
  have BW3 := jaa BW2 BW2.size B3
  go_wp2_with fail
  refine (C4 _).mono ?_
  rintro e w4 ⟨rfl, B4⟩
  have BW4 := jaa BW3 BW3.size B4
  have L4' := hL.below BW4
  have lq := L4'.ne
  have i0 := L4'.i0
  have i1 := L4'.i1
  have i2 := L4'.i2
  have HB : Hid _ := BW4
  have f0 : Tb w.heap.size oP w4 := (Tb.new' w oP 72 _ rfl).below (jaa (jaa (jaa B1 B1.size B2) (Nat.le_trans B1.size B2.size) B3) (Nat.le_trans B1.size (Nat.le_trans B2.size B3.size)) B4)
  have ⟨tz, t0, t1, t2, tf⟩ := f0
  clear BW1 BW2 BW3 BW4 B1 B2 B3 B4 AL L4' hL C1 C2 C3 C4 f0
  go_wp2_with fail
  refine bodyPost_ret (v := vT iN) (by simp [results, Tryz.results179, go_sem, iN, *]) rfl ⟨rfl, ?_⟩
  exact ((HB.out.setCell (p := ⟨w.heap.size, 0, none⟩) (Nat.le_refl _) _).setCell (p := ⟨w.heap.size, 1, none⟩) (Nat.le_refl _) _).setCell (p := ⟨w.heap.size, 2, none⟩) (Nat.le_refl _) _
 ·rw [hb] at C4
  rw [if_pos rfl]
  have ho := ho hb
  have CT : ∀ W, Ls W → _ := fun W hW => times_any 4 (by decide) ⟨x, r, false⟩ ⟨ux, pm_u _ hr⟩ W hW.p.l ho
  obtain ⟨q, hq⟩ : ∃ q, tmN ⟨x, r, false⟩ 4 = q := ⟨_, rfl⟩
  rw [hq] at CT ⊢
  clear hq ho hb
  obtain ⟨qX, qY, qI⟩ := q
  simp only [vT] at CT
  go_enter Tryz.func179, Tryz.ntmps179
  go_wp2_with fail
  refine (C1 _).mono ?_
  rintro e w1 ⟨rfl, B1⟩
  have BW1 := jaa AL AL.size B1
  go_wp2_with fail
  refine (C2 _).mono ?_
  rintro e w2 ⟨rfl, B2⟩
  have BW2 := jaa BW1 BW1.size B2
  go_wp2_with fail
  refine (C3 _).mono ?_
  rintro e w3 ⟨rfl, B3⟩
  have BW3 := jaa BW2 BW2.size B3
  go_wp2_with fail
  refine (C4 _).mono ?_
  rintro e w4 ⟨rfl, B4⟩
  have BW4 := jaa BW3 BW3.size B4
  have L4' := hL.below BW4
  have f0 : Tb w.heap.size oP w4 := (Tb.new' w oP 72 _ rfl).below (jaa (jaa (jaa B1 B1.size B2) (Nat.le_trans B1.size B2.size) B3) (Nat.le_trans B1.size (Nat.le_trans B2.size B3.size)) B4)
  clear BW1 BW2 BW3 B1 B2 B3 B4 AL C1 C2 C3 C4
  go_wp2_with fail
  refine (CT _ L4').mono ?_
  rintro e w5 ⟨rfl, B5⟩
  have BW5 := jaa BW4 BW4.size B5
  have f5 := f0.below B5
  have ⟨tz, t0, t1, t2, tf⟩ := f5
  have HB : Hid _ := BW5
  clear BW4 L4' B5 f0 hL CT
  go_wp2_with fail
  refine bodyPost_ret (v := vT ⟨qX, qY, qI⟩) (by simp [results, Tryz.results179, go_sem, *]) rfl ⟨rfl, ?_⟩
  have b3 := ((HB.out.setCell (p := ⟨w.heap.size, 0, none⟩) (Nat.le_refl _) (.int .u64 (qX : Int))).setCell (p := ⟨w.heap.size, 1, none⟩) (Nat.le_refl _) (.int .u64 (qY : Int))).setCell (p := ⟨w.heap.size, 2, none⟩) (Nat.le_refl _) (.bool qI)
  exact b3.alloc b3.size _
attribute [local go_sem] Oper.semAt_some
theorem tries_any (t : ByteArray) (w : World) :
  Calls Tryz.prog 161 #[.string t] w fun e w' => e = .returned (.func (.func 180) #[] #[.pointer (some ⟨w.heap.size, 0, none⟩)]) ∧ w' = w.alloc (.cells #[.string t] 9) := by
 go_enter Tryz.func161, Tryz.ntmps161
 go_wp2
 go_ret
 exact ⟨rfl, rfl⟩
def TxIn (bX : Nat) (t : ByteArray) (W : World) : Prop := Bq bX 9 #[.string t] W ∧ Ls W
def TxK (bX : Nat) (t : ByteArray) (W W' : World) : Prop := TxIn bX t W → TxIn bX t W'
theorem TxIn.below {bX : Nat} {t : ByteArray} {W W' : World} (hc : TxIn bX t W) (h : Below W.heap.size W W') : TxIn bX t W' := ⟨hc.1.below h, hc.2.below h⟩
theorem TxK.of_below {bX : Nat} {t : ByteArray} {W W' : World} (h : Below W.heap.size W W') : TxK bX t W W' := fun hc => hc.below h
theorem TxK.trans {bX : Nat} {t : ByteArray} {W W' V : World} (h : TxK bX t W W') (g : TxK bX t W' V) : TxK bX t W V := fun hc => g (h hc)
abbrev Tx : Type := {x : Nat // x < PM}
def xEnc (x : Tx) : Array Value := #[.int .u64 (x.val : Int)]
def trT (t : ByteArray) (n : Nat) : Tx := ⟨trN t n, trN_lt t n⟩
def trsT (t : ByteArray) (q : Nat) : List Tx := (List.range q).map (trT t)
theorem trsT_succ (t : ByteArray) (q : Nat) : trsT t (q + 1) = trsT t q ++ [trT t q] := by unfold trsT; rw [List.range_succ, List.map_append]; rfl
theorem trsT_len (t : ByteArray) (q : Nat) : (trsT t q).length = q := by unfold trsT; rw [List.length_map, List.length_range]
theorem trsT_val (t : ByteArray) (q : Nat) : (trsT t q).map (·.val) = trsN t q := by unfold trsT trsN; rw [List.map_map]; rfl
theorem one_text (q : Nat) (hq : q < 256) (W : World) (ty : TypeId) :
  (convert 116 9 (.slice (some ⟨W.heap.size, 0, none⟩) 1 1)).run Tryz.prog (W.alloc (.cells #[.int .u8 (q : Int)] ty)) = .ok (.string (oneB q)) (W.alloc (.cells #[.int .u8 (q : Int)] ty)) := by
 exact run_convert_bytes_back (P := Tryz.prog) (W.alloc (.cells #[.int .u8 (q : Int)] ty)) 116 9 5 ⟨W.heap.size, 0, none⟩ 1 [UInt8.ofNat q] Tryz.underlying116 Tryz.underlying5 Tryz.underlying9 (fun j hj => by
  match j, hj with
  | 0, _ =>
   have : (UInt8.ofNat q).toNat = q := by rw [UInt8.toNat_ofNat', Nat.mod_eq_of_lt hq]
   simp [go_sem, this])
theorem tries1_in (n l bX : Nat) (t : ByteArray) (ht : t.size ≤ 10000) (J Jx : List Tx → World → Prop) (B : Nat) (hJ : AbidesFrom B J)
  (hY : ∀ m pre x W, J pre W → pre.length < 256 → YieldAt Fence.wide m Tryz.prog l (xEnc x) W fun e W' =>
   (e = .returned (.bool true) ∧ J (pre ++ [x]) W' ∧ TxK bX t W W') ∨ (e = .returned (.bool false) ∧ Jx (pre ++ [x]) W'))
  (W : World) (hc : TxIn bX t W) (h0 : J [] W) :
  CallsIn Fence.wide n Tryz.prog 180 #[.func (.yield l) #[] #[], .pointer (some ⟨bX, 0, none⟩)] W fun e W' => (∃ v, e = .returned v) ∧
   (J (trsT t 256) W' ∨ (∃ q, q ≤ 256 ∧ Jx (trsT t q) W')) := by
 refine callsIn_of_wp Tryz.func180 rfl trivial ?_ rfl
 simp only [Tryz.ntmps180, List.size_toArray, List.length_cons, List.length_nil, Nat.reduceAdd, Nat.reduceSub, Array.replicate_succ, Array.replicate_zero, List.push_toArray, List.append_toArray, List.nil_append, List.cons_append]
 gi_wp2_with fail
 gi_loopw [6] (fun i wr => ∃ q : Nat, q ≤ 256 ∧ i = .int .i64 (q : Int) ∧ J (trsT t q) wr ∧ TxIn bX t wr)
  (fun i _ => (256 - (intOf i).toNat))
 case atStart => exact ⟨0, by omega, rfl, h0, hc⟩
 case round =>
  obtain ⟨q, hq, rfl, hJs, hkt⟩ := hrel
  by_cases hlq : q < 256
  ·have l0 : (q : Int) < 256 := by omega
   have hc1 : wr.cell? ⟨bX, 0, none⟩ = some (.string t) := hkt.1.cell 0
   have hcv := one_text q hlq wr
   have wq : IntKind.u8.wrap (q : Int) = q := by rw [IntKind.wrap_u8]; omega
   have hbx := hkt.1.lt
   have HH : Hid (_ ∧ _) := ⟨hJs, hkt⟩
   clear hJs hkt hc h0
   gi_wp2_with fail
   have AL : Below wr.heap.size wr ((wr.alloc (.cells #[.int .u8 (q : Int)] 5)).alloc (.cells #[.string t, .string (oneB q)] 9)) := ((Below.refl _ _).alloc (Nat.le_refl _) _).alloc (by simp) _
   refine ⟨trivial, fun h => (by cases h), (callsIn_wide.2 (jfj t (oneB q) _ rfl (by omega) (by show 1 ≤ _; omega) (wr.heap.size + 1) _ (HH.out.2.2.s.below AL) (by simp) (by simp [go_sem]) (by simp [go_sem]))).mono ?_⟩
   rintro e W1 ⟨rfl, B1⟩
   obtain ⟨hJs, hkt⟩ := HH.out
   have BW1 := jaa AL AL.size B1
   have J1 := hJ _ _ _ none hJs (jeh BW1) (fun r h => by cases h)
   have K1 := hkt.below BW1
   have hsz := jex (jcm [t, oneB q])
   have hx0 := trN_lt t q
   have ex0 : trN t q = trX (jco (jcm [t, oneB q])) := rfl
   obtain ⟨s, hs⟩ : ∃ s, jco (jcm [t, oneB q]) = s := ⟨_, rfl⟩
   rw [hs] at hsz ex0 ⊢
   clear hs HH hJs hkt AL B1 hcv hc1 BW1 wq
   have g0 := jbt s 0 (by omega)
   have g1 := jbt s 1 (by omega)
   have g2 := jbt s 2 (by omega)
   have g3 := jbt s 3 (by omega)
   have q0 := jbr s 0
   have q1 := jbr s 1
   have q2 := jbr s 2
   have q3 := jbr s 3
   rw [bt_N] at g0 g1 g2 g3
   obtain ⟨m1, m2, m3, n1, n2, F4⟩ := four_of _ _ _ _ q0 q1 q2 q3
   have hx4 := four_lt _ _ _ _ q0 q1 q2 q3
   have eX : trX s = fourN (btN s 0) (btN s 1) (btN s 2) (btN s 3) % PM := rfl
   obtain ⟨x, ex⟩ : ∃ x, fourN (btN s 0) (btN s 1) (btN s 2) (btN s 3) = x := ⟨_, rfl⟩
   rw [ex] at F4 hx4 eX
   obtain ⟨y0, e0⟩ : ∃ y, btN s 0 = y := ⟨_, rfl⟩
   obtain ⟨y1, e1⟩ : ∃ y, btN s 1 = y := ⟨_, rfl⟩
   obtain ⟨y2, e2⟩ : ∃ y, btN s 2 = y := ⟨_, rfl⟩
   obtain ⟨y3, e3⟩ : ∃ y, btN s 3 = y := ⟨_, rfl⟩
   rw [e0, e1, e2, e3] at F4
   rw [e0] at g0 q0
   rw [e1] at g1 q1
   rw [e2] at g2 q2
   rw [e3] at g3 q3
   rw [eX] at ex0
   clear ex e0 e1 e2 e3 eX
   obtain ⟨s1, s2, s3, o1, o2, o3⟩ := F4
   have t0 : IntKind.u64.wrap (y0 : Int) = (y0 : Int) := by rw [IntKind.wrap_u64]; omega
   have t1 : IntKind.u64.wrap (y1 : Int) = (y1 : Int) := by rw [IntKind.wrap_u64]; omega
   have t2 : IntKind.u64.wrap (y2 : Int) = (y2 : Int) := by rw [IntKind.wrap_u64]; omega
   have t3 : IntKind.u64.wrap (y3 : Int) = (y3 : Int) := by rw [IntKind.wrap_u64]; omega
   have h32 : ¬ s.size = 0 := by omega
   have h33 : 0 < s.size := by omega
   have h34 : 1 < s.size := by omega
   have h35 : 2 < s.size := by omega
   have h36 : 3 < s.size := by omega
   gi_wp2_with fail
   refine wpIn_wide.2 ?_
   refine wp_region_quiet_below (by kernel_rfl) (by kernel_rfl) ?_
   repeat (quiet_step (fail))
   refine wpQuiet_nil ?_
   intro w8 hw8
   have B8 : Below W1.heap.size W1 w8 := by
    obtain ⟨p, rfl⟩ := hw8
    exact below_regrown _ _ _
   have J8 := hJ _ _ _ none J1 (jeh B8) (fun r h => by cases h)
   have K8 := K1.below B8
   clear hw8 B8 J1 K1 g0 g1 g2 g3 q0 q1 q2 q3 s1 s2 s3 o1 o2 o3 t0 t1 t2 t3 h32 h33 h34 h35 h36
   obtain ⟨v, hv⟩ : ∃ v : Nat, x % PM = v := ⟨_, rfl⟩
   have hvP : v < PM := by rw [← hv]; exact Nat.mod_lt _ (by decide)
   have hrm : (x : Int) % 2147482867 = v := by rw [← hv]; show (x : Int) % 2147482867 = ((x % 2147482867 : Nat) : Int); omega
   have hrm2 : (x : Int).tmod 2147482867 = v := by rw [Int.tmod_eq_emod_of_nonneg (by omega)]; exact hrm
   rw [hv] at ex0
   obtain ⟨fn, tmps, assign, body, hyy, hR⟩ := hY (n - 1) _ ⟨v, hvP⟩ w8 J8 (by rw [trsT_len]; omega)
   unfold xEnc at hyy
   simp only at hyy
   have HX : Hid (_ ∧ _) := ⟨J8, K8⟩
   have HV : Hid (x % PM = v) := hv
   clear J8 K8 hv
   gi_wp2
   have eT : trT t q = ⟨v, hvP⟩ := Subtype.ext ex0
   refine ⟨fun h => (by cases h), hR.mono ?_⟩
   rintro e W3 (⟨rfl, hJ3, hk3⟩ | ⟨rfl, hJx3⟩)
   ·gi_wp2
    go_roundw
    case rel => exact ⟨q + 1, by omega, rfl, by rw [trsT_succ, eT]; exact hJ3, hk3 HX.out.2⟩
    case measure => simp [intOf]; omega
   ·gi_wp2
    exact bodyPost_ret (v := .tuple #[]) (by simp [results, Tryz.results180, go_sem]) rfl ⟨⟨_, rfl⟩, .inr ⟨q + 1, by omega, by rw [trsT_succ, eT]; exact hJx3⟩⟩
  ·obtain rfl : q = 256 := by omega
   gi_wp2
   go_end0
   exact ⟨⟨_, rfl⟩, .inl hJs⟩
theorem tries_stops (n bX : Nat) (t : ByteArray) (ht : t.size ≤ 10000) (w : World) (hc : TxIn bX t w) :
  SeqStopsK Fence.wide n Tryz.prog 180 #[.pointer (some ⟨bX, 0, none⟩)] xEnc (TxK bX t) (fun ys => ys = trsT t 256) (fun ys => ∃ q, q ≤ 256 ∧ ys = trsT t q) 256 w := fun l J Jx W hW hJ _ hY h0 => by
 refine (tries1_in n l bX t ht J Jx W.heap.size hJ (fun m pre x W1 hj hl => jew m (hY pre x W1 hj hl)) W (hc.below hW) h0).mono ?_
 rintro e W' ⟨he, hj | ⟨q, hq, hj⟩⟩
 ·exact ⟨he, .inl ⟨_, rfl, hj⟩⟩
 ·exact ⟨he, .inr ⟨_, ⟨q, hq, rfl⟩, hj⟩⟩
end Go.Proofs.YtoddangedbefgabGreatDoor
namespace Go.Proofs.YtoddangedbefgabGreatDoor
open Go.RowKit Go.Shelf Go.Sort
attribute [local go_sem] Oper.semAt_some
theorem Ls.belowN {n : Nat} {W W' : World} (h : Ls W) (hb : Below n W W') (hn : 4 < n ∧ 5 < n ∧ 6 < n ∧ 3 < n ∧ 1 < n ∧ 0 < n ∧ 2 < n) : Ls W' := by
 obtain ⟨k1, k2, k3, k4, k5, k6, k7⟩ := hn
 refine h.mk' (h.p.same (hb.block _ k1) (hb.block _ k2) (hb.block _ k3)) ⟨?_, ?_⟩ (hb.block _ k4) (hb.block _ k5)
 ·have e := hb.block _ k7
  exact ⟨Nat.lt_of_lt_of_le h.s.k.z hb.size, fun j hj => by rw [← h.s.k.c j hj]; simp only [World.cell?, e], fun q => by rw [← h.s.k.f q]; simp only [World.frozen?, e]⟩
 ·have e := hb.block _ k6
  exact ⟨Nat.lt_of_lt_of_le h.s.h.z hb.size, fun j hj => by rw [← h.s.h.c j hj]; simp only [World.cell?, e], fun q => by rw [← h.s.h.f q]; simp only [World.frozen?, e]⟩
theorem TxIn.belowN {n bX : Nat} {t : ByteArray} {W W' : World} (h : TxIn bX t W) (hb : Below n W W') (hx : bX < n) (hn : 4 < n ∧ 5 < n ∧ 6 < n ∧ 3 < n ∧ 1 < n ∧ 0 < n ∧ 2 < n) : TxIn bX t W' := ⟨(hb.block _ hx).trans h.1, h.2.belowN hb hn⟩
def NoP (pre : List Tx) : Prop := ∀ x ∈ pre, lfN x.val = iN
def HitP (p : Pt) (pre : List Tx) : Prop := ∃ pre' x, pre = pre' ++ [x] ∧ NoP pre' ∧ lfN x.val ≠ iN ∧ lfN x.val = p
theorem no_all {t : ByteArray} (h : NoP (trsT t 256)) : hsN t = gN := by
 unfold hsN
 rw [← trsT_val, ← List.append_nil ((trsT t 256).map _), fs_app _ _ (fun y hy => by
  obtain ⟨x, hx, rfl⟩ := List.mem_map.1 hy
  exact h x hx)]
 rfl
theorem hit_all {t : ByteArray} {q : Nat} {p : Pt} (hq : q ≤ 256) (h : HitP p (trsT t q)) : hsN t = p := by
 obtain ⟨pre, x, e, h1, h2, rfl⟩ := h
 unfold hsN
 have e2 : trsN t 256 = pre.map (·.val) ++ x.val :: ((List.range (256 - q)).map (fun j => trN t (q + j))) := by
  have e3 := congrArg (List.map (fun y : Tx => y.val)) e
  rw [trsT_val, List.map_append] at e3
  have e4 : trsN t 256 = trsN t q ++ (List.range (256 - q)).map (fun j => trN t (q + j)) := by
   unfold trsN
   rw [show 256 = q + (256 - q) by omega, List.range_add, List.map_append, List.map_map]
   rw [show q + (256 - q) - q = 256 - q by omega]
   rfl
  rw [e4, e3, List.append_assoc]
  rfl
 rw [e2, fs_hit _ _ _ (fun y hy => by
  obtain ⟨z, hz, rfl⟩ := List.mem_map.1 hy
  exact h1 z hz) h2]
theorem firstOf_any (t : ByteArray) (ht : t.size ≤ 10000) (bX : Nat) (w : World) (hc : TxIn bX t w) :
  Calls Tryz.prog 160 #[.func (.func 180) #[] #[.pointer (some ⟨bX, 0, none⟩)]] w fun e w' => e = .returned (vT (hsN t)) ∧ Below w.heap.size w w' := by
 have hL := hc.2
 have lq := hL.ne
 have htop := hL.top
 have g0 := hL.g0
 have g1 := hL.g1
 have g2 := hL.g2
 have hbX := hc.1.lt
 refine (callsIn_wide (n := 9)).1 ?_
 refine callsIn_of_wp_marks Tryz.func160 rfl trivial ?_ rfl
 refine wpIn_wide.2 ?_
 simp only [Tryz.ntmps160, List.size_toArray, List.length_cons, List.length_nil, Nat.reduceAdd, Nat.reduceSub, Array.replicate_succ, Array.replicate_zero, List.push_toArray, List.append_toArray, List.nil_append, List.cons_append]
 go_wp2_with fail
 refine wp_scope_straight ?_
 go_wp2_with fail
 obtain ⟨z, hz⟩ : ∃ c, w.heap.size = c := ⟨_, rfl⟩
 have HZ : Hid (w.heap.size = z) := hz
 refine wpOf (fun W => Below z w W ∧ W.heap.size = z + 2 ∧ PtB z oP W ∧ PtB (z + 1) gN W) ?_ ?_
 ·have t2 := jbw w (.cells #[.int .u64 ((oP.X : Nat) : Int), .int .u64 ((oP.Y : Nat) : Int), .bool oP.I] 72) (.cells #[.int .u64 ((gN.X : Nat) : Int), .int .u64 ((gN.Y : Nat) : Int), .bool gN.I] 72)
  rw [hz] at t2
  refine ⟨?_, by simp [hz], t2.1, t2.2⟩
  rw [← hz]
  exact ((Below.refl _ w).alloc (Nat.le_refl _) _).alloc (by simp) _
 rintro w2 ⟨BW2, hs2, O2, G2'⟩
 rw [hz] at htop hbX ⊢
 have C2 := hc.belowN BW2 hbX htop
 clear hz lq g0 g1 g2 hL hc
 refine wp_label ?_
 go_wp2_with fail
 refine (wpIn_wide (n := 9)).1 ?_
 refine wpIn_rangeFunc_ownH rfl (by omega) (gf := 180) (lb := #[.pointer (some ⟨bX, 0, none⟩)]) rfl trivial (enters_of Tryz.func180 (by kernel_rfl) rfl)
  (tries_stops _ bX t ht w2 C2) (fun h k => TxK.trans h k) (fun W l o o' hl h1 h2 h3 hx => hx.belowN (belowK_b (n₀ := z) (w := w2) (by omega) W l o o' hl h1 h2 h3) hbX htop) (Below.refl _ _) (fun _ => rfl)
  (fun pre W => PtB z oP W ∧ PtB (z + 1) gN W ∧ TxIn bX t W ∧ Below z w W ∧ z + 1 < W.heap.size ∧ NoP pre)
  (fun c pre W => c = .exit 0 ∧ ∃ p, HitP p pre ∧ PtB z oP W ∧ PtB (z + 1) p W ∧ Below z w W ∧ z + 1 < W.heap.size)
  (fun s A C row hs hg hr => ⟨hs.1.own hg (fun r e => (hr r e).2), hs.2.1.own hg (fun r e => (hr r e).2), ⟨hs.2.2.1.1.own hg (fun r e => (hr r e).2), hs.2.2.1.2.own hg (fun r e => (hr r e).2)⟩, hs.2.2.2.1.grown hg (by omega) (fun k e => Nat.le_trans (by omega) (hr k e).1), Nat.lt_of_lt_of_le hs.2.2.2.2.1 hg.size, hs.2.2.2.2.2⟩)
  (fun c s A C row hs hg hr => by
   obtain ⟨h1, p, h2, h3, h4, h5, h6⟩ := hs
   exact ⟨h1, p, h2, h3.own hg (fun r e => (hr r e).2), h4.own hg (fun r e => (hr r e).2), h5.grown hg (by omega) (fun k e => Nat.le_trans (by omega) (hr k e).1), Nat.lt_of_lt_of_le h6 hg.size⟩)
  ⟨O2, G2', C2, BW2, by omega, fun x hx => (by cases hx)⟩
  (fun x a' _ => a' = { tmps := #[.func (.func 180) #[] #[.pointer (some ⟨bX, 0, none⟩)], undef, .pointer (some ⟨z, 0, none⟩), .pointer (some ⟨z + 1, 0, none⟩), .int .u64 (x.val : Int), undef, vT gN, .func (.func 180) #[] #[.pointer (some ⟨bX, 0, none⟩)], .int .u64 (x.val : Int), undef, undef, undef, undef, undef, undef, undef], defers := [] })
  (fun x a' _ X Y row hs hg hr => hs)
  ?assign ?body ?done ?stop
 case assign =>
  rintro l pre x W K hI hK
  dsimp only [xEnc]
  gi_wp2
  exact hK _ _ (KeepsFrom.refl _ _) (fun h => h) hI rfl
 case body =>
  rintro l pre x a' W hl ⟨r, hr⟩ ⟨hO, hG, hT, hB, hxW, hno⟩ rfl hlt
  have CL := lifted_any x.val x.2
  obtain ⟨p, hp⟩ : ∃ p, lfN x.val = p := ⟨_, rfl⟩
  rw [hp] at CL
  have hE : ∀ W, (binOp .neq 72 (vT p) (.agg #[.int .u64 0, .int .u64 0, .bool true])).run Tryz.prog W = .ok (.bool (!decide (p = iN))) W := neqT p iN
  have HH : Hid (_ ∧ _ ∧ _ ∧ _ ∧ _) := ⟨hO, hG, hT, hB, hno⟩
  have hLs := hT.2
  clear hO hG hT hB hno
  gi_wp2_with fail
  refine ⟨trivial, (CallsIn.inRound l (callsIn_wide.2 (CL _ hLs))).mono ?_⟩
  rintro e W4 ⟨rfl, B4⟩
  obtain ⟨hO, hG, hT, hB, hno⟩ := HH.out
  have O4 := hO.below B4
  have G4 := hG.below B4
  have T4 := hT.below B4
  have BW4 := jaa hB (by omega) B4
  have lq := T4.2.ne
  have i0 := T4.2.i0
  have i1 := T4.2.i1
  have i2 := T4.2.i2
  have hz4 := B4.size
  have AP : ∀ o, Below W4.heap.size W4 (W4.alloc o) := fun o => (Below.refl _ _).alloc (Nat.le_refl _) o
  have c0 : W4.cell? ⟨z + 1, 0, none⟩ = some (.int .u64 ((gN.X : Nat) : Int)) := G4.cell 0
  have c1 : W4.cell? ⟨z + 1, 1, none⟩ = some (.int .u64 ((gN.Y : Nat) : Int)) := G4.cell 1
  have c2 : W4.cell? ⟨z + 1, 2, none⟩ = some (.bool gN.I) := G4.cell 2
  have f1 := G4.fr
  have n1 : z + 1 ≠ W4.heap.size := by omega
  have n2 : W4.heap.size ≠ z + 1 := by omega
  have n3 : z + 1 < W4.heap.size := by omega
  have n4 : ∀ o, (W4.alloc o).frozen? ⟨z + 1, 0, none⟩ = false := fun o => (Bq.below G4 ((Below.refl _ _).alloc (Nat.le_refl _) o)).fr 0
  have n5 : ∀ o, (W4.alloc o).frozen? ⟨z + 1, 1, none⟩ = false := fun o => (Bq.below G4 ((Below.refl _ _).alloc (Nat.le_refl _) o)).fr 1
  have n6 : ∀ o, (W4.alloc o).frozen? ⟨z + 1, 2, none⟩ = false := fun o => (Bq.below G4 ((Below.refl _ _).alloc (Nat.le_refl _) o)).fr 2
  have H4 : Hid (_ ∧ _ ∧ _ ∧ _ ∧ _) := ⟨O4, G4, T4, BW4, B4⟩
  clear O4 G4 T4 BW4 B4 hO hG hT hB HH hLs CL
  by_cases hpi : p = iN
  ·rw [decide_eq_true hpi] at hE
   have hpp : lfN x.val = iN := hp.trans hpi
   clear hp
   subst hpi
   simp only [vT, iN, Bool.not_true] at hE
   have HP : Hid _ := hpp
   clear hpp
   gi_wp2
   obtain ⟨O4, G4, T4, BW4, B4⟩ := H4.out
   have AP' := AP (.cells #[.int .u64 0, .int .u64 0, .bool true] 72)
   refine (?_ : KeepsFrom _ W _ ∧ TxK _ _ W _ ∧ _ ∧ _ ∧ _ ∧ _ ∧ _ ∧ _)
   refine ⟨((jbm B4).trans (jbm AP')).from _, fun h => (h.below B4).below AP', O4.below AP', G4.below AP', T4.below AP', jaa BW4 (by omega) AP', by simp; omega, fun y hy => ?_⟩
   rcases List.mem_append.1 hy with h | h
   ·exact hno y h
   ·rw [List.mem_singleton.1 h]
    exact HP.out
  ·rw [decide_eq_false hpi] at hE
   have hit : HitP p (pre ++ [x]) := ⟨pre, x, rfl, hno, by rw [hp]; exact hpi, hp⟩
   have HP : Hid _ := hit
   clear hit hp hpi hno
   obtain ⟨pX, pY, pI⟩ := p
   simp only [vT, Bool.not_false] at hE
   gi_wp2
   obtain ⟨O4, G4, T4, BW4, B4⟩ := H4.out
   obtain ⟨V, hV⟩ : ∃ V, Go.Proofs.YtoddangedbefgabGreatDoor.put3 (z + 1) ⟨pX, pY, pI⟩ W4 = V := ⟨_, rfl⟩
   have AP' : Below V.heap.size V (V.alloc (.cells #[.int .u64 (pX : Int), .int .u64 (pY : Int), .bool pI] 72)) := (Below.refl _ _).alloc (Nat.le_refl _) _
   have kV : KeepsFrom w2.heap.size W V := by rw [← hV]; exact ((jbm B4).from _).trans (jfo _ (z + 1) ⟨pX, pY, pI⟩ _)
   have oV : PtB z oP V := by rw [← hV]; exact PtB.other O4 (by omega) ⟨pX, pY, pI⟩
   have gV : PtB (z + 1) ⟨pX, pY, pI⟩ V := by rw [← hV]; exact PtB.put G4 ⟨pX, pY, pI⟩
   have bV : Below z w V := by rw [← hV]; exact jah BW4 (by omega) ⟨pX, pY, pI⟩
   have zV : z + 1 < V.heap.size := by rw [← hV, jdh]; exact n3
   have := (⟨kV.trans ((jbm AP').from _), rfl, ⟨pX, pY, pI⟩, HP.out, oV.below AP', gV.below AP', jaa bV (by omega) AP', Nat.lt_of_lt_of_le zV AP'.size⟩ : KeepsFrom w2.heap.size W (V.alloc (.cells #[.int .u64 (pX : Int), .int .u64 (pY : Int), .bool pI] 72)) ∧ Code.exit 0 = .exit 0 ∧ ∃ p, HitP p (pre ++ [x]) ∧ PtB z oP (V.alloc (.cells #[.int .u64 (pX : Int), .int .u64 (pY : Int), .bool pI] 72)) ∧ PtB (z + 1) p (V.alloc (.cells #[.int .u64 (pX : Int), .int .u64 (pY : Int), .bool pI] 72)) ∧ Below z w (V.alloc (.cells #[.int .u64 (pX : Int), .int .u64 (pY : Int), .bool pI] 72)) ∧ z + 1 < (V.alloc (.cells #[.int .u64 (pX : Int), .int .u64 (pY : Int), .bool pI] 72)).heap.size)
   rw [← hV] at this
   exact this
 case done =>
  rintro D ys W hD rfl ⟨hO, hG, hT, hB, hxW, hno⟩ hK
  have hv0 := no_all hno
  obtain ⟨v, hvi⟩ : ∃ v, gN = v := ⟨_, rfl⟩
  have hv : hsN t = v := by rw [← hvi]; exact hv0
  rw [hvi] at hG
  clear hv0 hno hT
  have c0 : W.cell? ⟨z + 1, 0, none⟩ = some (.int .u64 (v.X : Int)) := hG.cell 0
  have c1 : W.cell? ⟨z + 1, 1, none⟩ = some (.int .u64 (v.Y : Int)) := hG.cell 1
  have c2 : W.cell? ⟨z + 1, 2, none⟩ = some (.bool v.I) := hG.cell 2
  have o0 : W.cell? ⟨z, 0, none⟩ = some (.int .u64 0) := hO.cell 0
  have o1 : W.cell? ⟨z, 1, none⟩ = some (.int .u64 0) := hO.cell 1
  have o2 : W.cell? ⟨z, 2, none⟩ = some (.bool false) := hO.cell 2
  have fo : ∀ o, W.frozen? ⟨z, o, none⟩ = false := fun o => hO.fr o
  have hK' : (Go.Proofs.YtoddangedbefgabGreatDoor.put3 z v W).heap[D]? = some (.deferred (some [])) := by
   show (((W.setCell _ _).setCell _ _).setCell _ _).heap[D]? = _
   rw [Below.heap_setCell _ _ _ _ (show D ≠ z by omega), Below.heap_setCell _ _ _ _ (show D ≠ z by omega), Below.heap_setCell _ _ _ _ (show D ≠ z by omega)]
   exact hK
  have hBx : Below z w (Go.Proofs.YtoddangedbefgabGreatDoor.put3 z v W) := jah hB (by omega) v
  have R9' : PtB z v ((Go.Proofs.YtoddangedbefgabGreatDoor.put3 z v W).putObj D (.deferred none)) := (World.putObj_heap_other (by omega)).trans (PtB.put hO v)
  have H8 : Hid (_ ∧ _ ∧ _ ∧ _) := ⟨hK', hBx, R9', hv⟩
  clear hK' hBx R9' hv C2 O2 G2' BW2
  go_wp2
  obtain ⟨hK', hBx, R9', hv⟩ := H8.out
  have r0 := R9'.cell 0
  have r1 := R9'.cell 1
  have r2' := R9'.cell 2
  have hbP := belowK_b (n₀ := z) (w := w2) (by omega) (Go.Proofs.YtoddangedbefgabGreatDoor.put3 z v W) D _ (.deferred none) hD hK' rfl rfl
  rw [Exit.noGoto_ret]
  refine ⟨by simp, .inl ⟨_, _, rfl, run_takeDeferred hK', ?_⟩⟩
  refine ⟨vT v, by simp [results, Tryz.results160, go_sem, *], by rw [hv], ?_⟩
  rw [HZ.out]
  exact hBx.trans hbP
 case stop =>
  rintro D c pre W hD ⟨q, hq, rfl⟩ ⟨rfl, v, hit, hO, hG, hB, hxW⟩ hK
  have hv := hit_all hq hit
  clear hit
  have c0 : W.cell? ⟨z + 1, 0, none⟩ = some (.int .u64 (v.X : Int)) := hG.cell 0
  have c1 : W.cell? ⟨z + 1, 1, none⟩ = some (.int .u64 (v.Y : Int)) := hG.cell 1
  have c2 : W.cell? ⟨z + 1, 2, none⟩ = some (.bool v.I) := hG.cell 2
  have o0 : W.cell? ⟨z, 0, none⟩ = some (.int .u64 0) := hO.cell 0
  have o1 : W.cell? ⟨z, 1, none⟩ = some (.int .u64 0) := hO.cell 1
  have o2 : W.cell? ⟨z, 2, none⟩ = some (.bool false) := hO.cell 2
  have fo : ∀ o, W.frozen? ⟨z, o, none⟩ = false := fun o => hO.fr o
  have hK' : (Go.Proofs.YtoddangedbefgabGreatDoor.put3 z v W).heap[D]? = some (.deferred (some [])) := by
   show (((W.setCell _ _).setCell _ _).setCell _ _).heap[D]? = _
   rw [Below.heap_setCell _ _ _ _ (show D ≠ z by omega), Below.heap_setCell _ _ _ _ (show D ≠ z by omega), Below.heap_setCell _ _ _ _ (show D ≠ z by omega)]
   exact hK
  have hBx : Below z w (Go.Proofs.YtoddangedbefgabGreatDoor.put3 z v W) := jah hB (by omega) v
  have R9' : PtB z v ((Go.Proofs.YtoddangedbefgabGreatDoor.put3 z v W).putObj D (.deferred none)) := (World.putObj_heap_other (by omega)).trans (PtB.put hO v)
  have H8 : Hid (_ ∧ _ ∧ _ ∧ _) := ⟨hK', hBx, R9', hv⟩
  clear hK' hBx R9' hv C2 O2 G2' BW2
  gi_wp2
  go_wp2
  obtain ⟨hK', hBx, R9', hv⟩ := H8.out
  have r0 := R9'.cell 0
  have r1 := R9'.cell 1
  have r2' := R9'.cell 2
  have hbP := belowK_b (n₀ := z) (w := w2) (by omega) (Go.Proofs.YtoddangedbefgabGreatDoor.put3 z v W) D _ (.deferred none) hD hK' rfl rfl
  rw [Exit.noGoto_ret]
  refine ⟨by simp, .inl ⟨_, _, rfl, run_takeDeferred hK', ?_⟩⟩
  refine ⟨vT v, by simp [results, Tryz.results160, go_sem, *], by rw [hv], ?_⟩
  rw [HZ.out]
  exact hBx.trans hbP
theorem hash_any (t : ByteArray) (ht : t.size ≤ 10000) (w : World) (hL : Ls w) :
  Calls Tryz.prog 143 #[.string t] w fun e w' => e = .returned (vT (hsN t)) ∧ Below w.heap.size w w' := by
 have CF := firstOf_any t ht
 obtain ⟨v, hv⟩ : ∃ v, hsN t = v := ⟨_, rfl⟩
 rw [hv] at CF ⊢
 clear hv
 go_enter Tryz.func143, Tryz.ntmps143
 go_wp2_with fail
 have AL : Below w.heap.size w (w.alloc (.cells #[.int .u64 0, .int .u64 0, .bool false] 72)) := (Below.refl _ _).alloc (Nat.le_refl _) _
 have O1 : Tb w.heap.size oP (w.alloc (.cells #[.int .u64 0, .int .u64 0, .bool false] 72)) := Tb.new' w oP 72 _ rfl
 have L1 := hL.below AL
 refine jay (fun V => Below w.heap.size w V ∧ Tb w.heap.size oP V ∧ Ls V) ⟨AL, O1, L1⟩ ?_
 rintro V ⟨BV, OV, LV⟩
 refine (tries_any t V).mono ?_
 rintro e w2 ⟨rfl, hw2⟩
 have B2 : Below V.heap.size V w2 := by rw [hw2]; exact (Below.refl _ V).alloc (Nat.le_refl _) _
 have hcx : TxIn V.heap.size t w2 := ⟨by rw [hw2]; exact World.alloc_heap_new V _, LV.below B2⟩
 have O2 := OV.below B2
 have BW2 := jaa BV BV.size B2
 clear hw2 B2 OV BV AL O1 L1 LV
 go_wp2_with fail
 refine (CF _ _ hcx).mono ?_
 rintro e w3 ⟨rfl, B3⟩
 have O3 := O2.below B3
 have BW3 := jaa BW2 BW2.size B3
 have ⟨tz, t0, t1, t2, tf⟩ := O3
 have HB : Hid _ := BW3
 clear O2 B3 BW2 hcx BW3 O3 CF
 go_wp2_with fail
 refine bodyPost_ret (v := vT v) (by simp [results, Tryz.results143, go_sem, *]) rfl ⟨rfl, ?_⟩
 exact jah HB.out (Nat.le_refl _) v
end Go.Proofs.YtoddangedbefgabGreatDoor
namespace Go.Proofs.YtoddangedbefgabGreatDoor
open Go.RowKit Go.Shelf Go.Sort
attribute [local go_sem] Oper.semAt_some
def barV (b : Bool) (g : Nat) : Value := if b then .slice (some ⟨g, 0, none⟩) 1 1 else .slice none 0 0
theorem index0_any (p : Pt) (w : World) :
  Calls Tryz.prog 158 #[.slice none 0 0, vT p] w fun e w' => e = .returned (.int .i64 (-1)) ∧ Below w.heap.size w w' := by
 go_enter Tryz.func158, Tryz.ntmps158
 go_wp2_with fail
 go_loopg [8] 0 (fun gk i wr => i = .int .i64 0 ∧ Below w.heap.size w wr)
 case atStart => exact ⟨rfl, by go_grown⟩
 case round =>
  obtain ⟨rfl, hB⟩ := hrel
  go_wp2
  go_ret
  exact ⟨rfl, hB⟩
theorem index1_any (p : Pt) (g : Nat) (w : World) (hg : Tb g iN w) :
  Calls Tryz.prog 158 #[.slice (some ⟨g, 0, none⟩) 1 1, vT p] w fun e w' => e = .returned (.int .i64 (if p = iN then 0 else -1)) ∧ Below w.heap.size w w' := by
 have hE : ∀ W, (binOp .eql 72 (vT p) (vT iN)).run Tryz.prog W = .ok (.bool (decide (p = iN))) W := eqlT p iN
 have hgz := hg.z
 obtain ⟨r, hr⟩ : ∃ r : Int, (if p = iN then 0 else -1) = r := ⟨_, rfl⟩
 have HR : Hid ((if p = iN then 0 else -1) = r) := hr
 rw [hr]
 clear hr
 go_enter Tryz.func158, Tryz.ntmps158
 go_wp2_with fail
 go_loopg [8] 1 (fun gk i wr => ∃ k : Nat, k + gk = 1 ∧ i = .int .i64 (k : Int) ∧ Tb g iN wr ∧ Tb w.heap.size p wr ∧ Below w.heap.size w wr ∧ Hid (k = 1 → p ≠ iN))
 case atStart => exact ⟨0, rfl, rfl, hg.alloc _, Tb.new' w p 72 _ rfl, by go_grown, fun h => (by cases h)⟩
 case round =>
  obtain ⟨k, hk, rfl, hgr, hpr, hB, hno⟩ := hrel
  by_cases h0 : k = 0
  ·subst h0
   have ⟨tz, t0, t1, t2, tf⟩ := hgr
   have ⟨pz, p0, p1, p2, pf⟩ := hpr
   have HH : Hid (_ ∧ _ ∧ _) := ⟨hgr, hpr, hB⟩
   clear hgr hpr hB hno hg
   by_cases hpi : p = iN
   ·have hr := HR.out
    rw [if_pos hpi] at hr
    subst hr
    rw [decide_eq_true hpi] at hE
    simp only [vT, iN] at hE t0 t1 t2
    clear hpi HR
    rw [show ((0 : Nat) : Int) = 0 from rfl] at *
    go_wp2_with fail
    have k0 := cell_regrown t0
    have k1 := cell_regrown t1
    have k2 := cell_regrown t2
    have k3 := cell_regrown p0
    have k4 := cell_regrown p1
    have k5 := cell_regrown p2
    refine wp_region_quiet_below (by kernel_rfl) (by kernel_rfl) ?_
    repeat (quiet_step (fail))
    refine wpQuiet_nil ?_
    intro w8 hw8
    have B8 : Below wr.heap.size wr w8 := by
     obtain ⟨p, rfl⟩ := hw8
     exact below_regrown _ _ _
    clear hw8 k0 k1 k2 k3 k4 k5 p0 p1 p2 t0 t1 t2
    go_wp2
    go_ret
    exact ⟨rfl, jaa HH.out.2.2 HH.out.2.2.size B8⟩
   ·have hr := HR.out
    rw [if_neg hpi] at hr
    subst hr
    rw [decide_eq_false hpi] at hE
    have HP : Hid _ := hpi
    clear hpi HR
    simp only [vT, iN] at hE t0 t1 t2
    rw [show ((0 : Nat) : Int) = 0 from rfl] at *
    go_wp2_with fail
    have k0 := cell_regrown t0
    have k1 := cell_regrown t1
    have k2 := cell_regrown t2
    have k3 := cell_regrown p0
    have k4 := cell_regrown p1
    have k5 := cell_regrown p2
    refine wp_region_quiet_below (by kernel_rfl) (by kernel_rfl) ?_
    repeat (quiet_step (fail))
    refine wpQuiet_nil ?_
    intro w8 hw8
    have B8 : Below wr.heap.size wr w8 := by
     obtain ⟨p, rfl⟩ := hw8
     exact below_regrown _ _ _
    clear hw8 k0 k1 k2 k3 k4 k5 p0 p1 p2 t0 t1 t2
    go_wp2
    go_roundg 0
    case measure => omega
    case rel => exact ⟨1, rfl, rfl, HH.out.1.below B8, HH.out.2.1.below B8, jaa HH.out.2.2 HH.out.2.2.size B8, fun _ => HP.out⟩
  ·obtain rfl : k = 1 := by omega
   have hr := HR.out
   rw [if_neg (hno.out rfl)] at hr
   subst hr
   go_wp2
   go_ret
   exact ⟨rfl, hB⟩
def BarIn (b : Bool) (g : Nat) (W : World) : Prop := b = true → Tb g iN W
theorem BarIn.below {b : Bool} {g : Nat} {W W' : World} (h : BarIn b g W) (hb : Below W.heap.size W W') : BarIn b g W' := fun e => (h e).below hb
theorem contains_any (b : Bool) (g : Nat) (p : Pt) (w : World) (hg : BarIn b g w) :
  Calls Tryz.prog 141 #[barV b g, vT p] w fun e w' => e = .returned (.bool (b && decide (p = iN))) ∧ Below w.heap.size w w' := by
 have AL : Below w.heap.size w (w.alloc (.cells #[.int .u64 (p.X : Int), .int .u64 (p.Y : Int), .bool p.I] 72)) := (Below.refl _ _).alloc (Nat.le_refl _) _
 cases b with
 | false =>
  have C0 := index0_any p
  show Calls Tryz.prog 141 #[.slice none 0 0, vT p] w _
  go_enter Tryz.func141, Tryz.ntmps141
  go_wp2_with fail
  refine (C0 _).mono ?_
  rintro e w1 ⟨rfl, B1⟩
  have BW := jaa AL AL.size B1
  clear AL B1
  go_wp2
  go_ret
  exact ⟨rfl, BW⟩
 | true =>
  have C1 := index1_any p g
  have hT := (hg rfl).below AL
  show Calls Tryz.prog 141 #[.slice (some ⟨g, 0, none⟩) 1 1, vT p] w _
  by_cases hpi : p = iN
  ·rw [if_pos hpi] at C1
   rw [decide_eq_true hpi]
   clear hpi
   go_enter Tryz.func141, Tryz.ntmps141
   go_wp2_with fail
   refine (C1 _ hT).mono ?_
   rintro e w1 ⟨rfl, B1⟩
   have BW := jaa AL AL.size B1
   clear AL B1 hT hg
   go_wp2
   go_ret
   exact ⟨rfl, BW⟩
  ·rw [if_neg hpi] at C1
   rw [decide_eq_false hpi]
   clear hpi
   go_enter Tryz.func141, Tryz.ntmps141
   go_wp2_with fail
   refine (C1 _ hT).mono ?_
   rintro e w1 ⟨rfl, B1⟩
   have BW := jaa AL AL.size B1
   clear AL B1 hT hg
   go_wp2
   go_ret
   exact ⟨rfl, BW⟩
theorem handOn_any (a1 a2 : Option Addr) (n1 n2 c1 c2 : Nat) (w : World) :
  Calls Tryz.prog 120 #[.slice a1 n1 c1, .slice a2 n2 c2] w fun e w' => e = .returned (.func (.func 139) #[] #[.pointer (some ⟨w.heap.size, 0, none⟩), .pointer (some ⟨w.heap.size + 1, 0, none⟩)]) ∧ w' = (w.alloc (.cells #[.slice a1 n1 c1] 27)).alloc (.cells #[.slice a2 n2 c2] 189) := by
 go_enter Tryz.func120, Tryz.ntmps120
 go_wp2
 go_ret
 exact ⟨rfl, rfl⟩
end Go.Proofs.YtoddangedbefgabGreatDoor
namespace Go.Proofs.YtoddangedbefgabGreatDoor
open Go.RowKit Go.Shelf Go.Sort
attribute [local go_sem] Oper.semAt_some
def txS (l : List ByteArray) (a : Option Addr) (W : World) : Prop := l = [] ∨ ∃ B o, a = some ⟨B, o, none⟩ ∧ B < W.heap.size ∧ ∀ (j : Nat) x, l[j]? = some x → W.cell? ⟨B, o + j, none⟩ = some (.string x)
theorem txS.below {l : List ByteArray} {a : Option Addr} {W W' : World} (h : txS l a W) (hb : Below W.heap.size W W') : txS l a W' := by
 rcases h with h | ⟨B, o, e, hB, hc⟩
 ·exact .inl h
 ·exact .inr ⟨B, o, e, Nat.lt_of_lt_of_le hB hb.size, fun j x hx => (hb.cell (p := ⟨B, o + j, none⟩) hB).trans (hc j x hx)⟩
abbrev El : Type := {x : Option Pt // ∀ p, x = some p → grN p = true}
def eEnc (x : El) : Array Value := match x.val with
 | some p => #[vT p, .int .i64 0]
 | none => #[vT oP, .int .i64 100]
theorem fr_gr {s : ByteArray} (h : frB s = true) : grN (nmN s) = true := by
 unfold frB at h
 simp only [Bool.and_eq_true] at h
 exact h.1.2
def elN (b : Bool) (s : ByteArray) : El := if h : frB s = true ∧ ¬ (b = true ∧ nmN s = iN) then ⟨some (nmN s), fun p e => by cases e; exact fr_gr h.1⟩ else ⟨none, fun p e => by cases e⟩
theorem el_some {b : Bool} {s : ByteArray} (h1 : frB s = true) (h2 : ¬ (b = true ∧ nmN s = iN)) : eEnc (elN b s) = #[vT (nmN s), .int .i64 0] := by
 unfold elN
 rw [dif_pos ⟨h1, h2⟩]
 rfl
theorem el_none {b : Bool} {s : ByteArray} (h : ¬ (frB s = true ∧ ¬ (b = true ∧ nmN s = iN))) : eEnc (elN b s) = #[vT oP, .int .i64 100] := by
 unfold elN
 rw [dif_neg h]
 rfl
def elsT (b : Bool) (l : List ByteArray) : List El := l.map (elN b)
structure HdIn (bP bB : Nat) (b : Bool) (g : Nat) (l : List ByteArray) (a : Option Addr) (c : Nat) (W : World) : Prop where
 p : Bq bP 27 #[.slice a l.length c] W
 q : Bq bB 189 #[barV b g] W
 t : txS l a W
 g : BarIn b g W
 s : Ls W
theorem HdIn.below {bP bB : Nat} {b : Bool} {g : Nat} {l : List ByteArray} {a : Option Addr} {c : Nat} {W W' : World} (h : HdIn bP bB b g l a c W) (hb : Below W.heap.size W W') : HdIn bP bB b g l a c W' := ⟨h.p.below hb, h.q.below hb, h.t.below hb, h.g.below hb, h.s.below hb⟩
def HdK (bP bB : Nat) (b : Bool) (g : Nat) (l : List ByteArray) (a : Option Addr) (c : Nat) (W W' : World) : Prop := HdIn bP bB b g l a c W → HdIn bP bB b g l a c W'
theorem HdK.trans {bP bB : Nat} {b : Bool} {g : Nat} {l : List ByteArray} {a : Option Addr} {c : Nat} {W W' V : World} (h : HdK bP bB b g l a c W W') (k : HdK bP bB b g l a c W' V) : HdK bP bB b g l a c W V := fun x => k (h x)
theorem handOn1_in (n ly bP bB : Nat) (b : Bool) (g : Nat) (l : List ByteArray) (hl : l.length ≤ 1000) (a : Option Addr) (c : Nat) (J Jx : List El → World → Prop) (B : Nat) (hJ : AbidesFrom B J)
  (hY : ∀ m pre x W, J pre W → pre.length < l.length → YieldAt Fence.wide m Tryz.prog ly (eEnc x) W fun e W' =>
   (e = .returned (.bool true) ∧ J (pre ++ [x]) W' ∧ HdK bP bB b g l a c W W') ∨ (e = .returned (.bool false) ∧ Jx (pre ++ [x]) W'))
  (W : World) (hc : HdIn bP bB b g l a c W) (h0 : J [] W) :
  CallsIn Fence.wide n Tryz.prog 139 #[.func (.yield ly) #[] #[], .pointer (some ⟨bP, 0, none⟩), .pointer (some ⟨bB, 0, none⟩)] W fun e W' => (∃ v, e = .returned v) ∧
   (J (elsT b l) W' ∨ (∃ q, q ≤ l.length ∧ Jx ((elsT b l).take q) W')) := by
 have hc0 : W.cell? ⟨bP, 0, none⟩ = some (.slice a l.length c) := hc.p.cell 0
 refine callsIn_of_wp Tryz.func139 rfl trivial ?_ rfl
 simp only [Tryz.ntmps139, List.size_toArray, List.length_cons, List.length_nil, Nat.reduceAdd, Nat.reduceSub, Array.replicate_succ, Array.replicate_zero, List.push_toArray, List.append_toArray, List.nil_append, List.cons_append]
 gi_wp2_with fail
 obtain ⟨N, hN⟩ : ∃ N, l.length = N := ⟨_, rfl⟩
 have HN : Hid (l.length = N) := hN
 rw [hN] at hl ⊢
 gi_loopw [10] (fun i wr => ∃ k : Nat, k ≤ N ∧ i = .int .i64 (k : Int) ∧ J ((elsT b l).take k) wr ∧ HdIn bP bB b g l a c wr)
  (fun i _ => (N - (intOf i).toNat))
 case atStart => exact ⟨0, by omega, rfl, by rw [List.take_zero]; exact h0, hc⟩
 case round =>
  obtain ⟨k, hk, rfl, hJs, hkt⟩ := hrel
  clear hc0 hc h0
  by_cases hlk : k < N
  ·have l0 : (k : Int) < N := by omega
   obtain ⟨s, hs⟩ : ∃ s, l[k]? = some s := ⟨l[k]'(by omega), by simp [hN, hlk]⟩
   have hne : l ≠ [] := fun e => by rw [e] at hs; cases hs
   obtain ⟨B0, o, rfl, hB0, hcs⟩ := hkt.t.resolve_left hne
   have hcell := hcs k s hs
   have htk : (elsT b l).take (k + 1) = (elsT b l).take k ++ [elN b s] := by
    rw [List.take_add_one]
    congr 1
    unfold elsT
    rw [List.getElem?_map, hs]
    rfl
   have hlen : ((elsT b l).take k).length < l.length := by
    rw [List.length_take]
    unfold elsT
    rw [List.length_map]
    omega
   have CF := from_any s
   obtain ⟨p, e, hV, hee⟩ : ∃ (p : Pt) (e : Int), frV s = .tuple #[vT p, .int .i64 e] ∧ eEnc (elN b s) = if (b && decide (p = iN)) = true then #[vT oP, .int .i64 100] else #[vT p, .int .i64 e] := by
    cases hf : frB s
    ·refine ⟨oP, 100, by unfold frV; rw [hf]; rfl, ?_⟩
     rw [el_none (fun h => by rw [hf] at h; cases h.1)]
     split <;> rfl
    ·refine ⟨nmN s, 0, by unfold frV; rw [hf]; rfl, ?_⟩
     by_cases hb : b = true ∧ nmN s = iN
     ·rw [el_none (fun h => h.2 hb), hb.1, decide_eq_true hb.2]
      rfl
     ·rw [el_some hf hb, if_neg (by simpa using fun h1 h2 => hb ⟨h1, h2⟩)]
   rw [hV] at CF
   have hLi := hkt.s.p.l
   have HH : Hid (_ ∧ _ ∧ _ ∧ _ ∧ _) := ⟨hJs, hkt, htk, hlen, hee⟩
   clear hJs hkt htk hlen hee hV hs hcs hne
   have hk1 : IntKind.i64.wrap ((k : Int) + 1) = ((k + 1 : Nat) : Int) := by rw [IntKind.wrap_i64]; omega
   gi_wp2_with fail
   refine ⟨trivial, fun h => (by cases h), (callsIn_wide.2 (CF _ hLi)).mono ?_⟩
   rintro e' W1 ⟨rfl, B1⟩
   obtain ⟨hJs, hkt, htk, hlen, hee⟩ := HH.out
   have K1 := hkt.below B1
   have hm := B1.size
   have AL : Below W1.heap.size W1 (W1.alloc (.cells #[.int .u64 (p.X : Int), .int .u64 (p.Y : Int), .bool p.I] 72)) := (Below.refl _ _).alloc (Nat.le_refl _) _
   have BW2 := jaa B1 B1.size AL
   have K2 := K1.below AL
   have T2 : Tb W1.heap.size p (W1.alloc (.cells #[.int .u64 (p.X : Int), .int .u64 (p.Y : Int), .bool p.I] 72)) := Tb.new' W1 p 72 _ rfl
   have q0 : W1.cell? ⟨bB, 0, none⟩ = some (barV b g) := K1.q.cell 0
   have q1 := K1.q.lt
   have q2 : bB ≠ W1.heap.size := by omega
   have H2 : Hid (_ ∧ _ ∧ _) := ⟨BW2, K2, T2⟩
   clear hJs hkt htk hlen hee K1 AL BW2 K2 T2 B1 hcell hB0
   gi_wp2_with fail
   obtain ⟨BW2, K2, T2⟩ := H2.out
   refine ⟨trivial, fun h => (by cases h), (callsIn_wide.2 (contains_any b g p _ K2.g)).mono ?_⟩
   rintro e' W3 ⟨rfl, B3⟩
   have BW3 := jaa BW2 BW2.size B3
   have K3 := K2.below B3
   have T3 := T2.below B3
   obtain ⟨hJs, hkt, htk, hlen, hee⟩ := HH.out
   obtain ⟨d, hd⟩ : ∃ d, (b && decide (p = iN)) = d := ⟨_, rfl⟩
   rw [hd] at hee ⊢
   clear hd H2 BW2 K2 T2 B3 HH q0 q1 q2
   have ⟨tz, t0, t1, t2, tf⟩ := T3
   cases d with
   | false =>
    rw [if_neg (by simp)] at hee
    have J3 := hJ _ _ _ none hJs (jeh BW3) (fun r h => by cases h)
    obtain ⟨fn, tmps, assign, body, hyy, hR⟩ := hY (n - 1) _ (elN b s) W3 J3 hlen
    rw [hee] at hyy
    obtain ⟨pX, pY, pI⟩ := p
    simp only [vT] at hyy t0 t1 t2
    have HX : Hid (_ ∧ _) := ⟨K3, htk⟩
    clear hkt J3 K3 hee htk hlen BW3 hJs T3
    gi_wp2
    refine ⟨fun h => (by cases h), hR.mono ?_⟩
    rintro e' W5 (⟨rfl, hJ5, hk5⟩ | ⟨rfl, hJx5⟩)
    ·gi_wp2
     go_roundw
     case rel => exact ⟨k + 1, by omega, rfl, by rw [HX.out.2]; exact hJ5, hk5 HX.out.1⟩
     case measure => simp [intOf]; omega
    ·gi_wp2
     exact bodyPost_ret (v := .tuple #[]) (by simp [results, Tryz.results139, go_sem]) rfl ⟨⟨_, rfl⟩, .inr ⟨k + 1, by omega, by rw [HX.out.2]; exact hJx5⟩⟩
   | true =>
    rw [if_pos rfl] at hee
    have BW4 : Below wr.heap.size wr (Go.Proofs.YtoddangedbefgabGreatDoor.put3 W1.heap.size oP W3) := jah BW3 hm oP
    have J4 := hJ _ _ _ none hJs (jeh BW4) (fun r h => by cases h)
    have K4 : HdIn bP bB b g l (some ⟨B0, o, none⟩) c (Go.Proofs.YtoddangedbefgabGreatDoor.put3 W1.heap.size oP W3) := hkt.below BW4
    obtain ⟨fn, tmps, assign, body, hyy, hR⟩ := hY (n - 1) _ (elN b s) _ J4 hlen
    rw [hee] at hyy
    obtain ⟨pX, pY, pI⟩ := p
    simp only [vT, oP, Go.Proofs.YtoddangedbefgabGreatDoor.put3] at hyy t0 t1 t2
    rw [show ((0 : Nat) : Int) = 0 from rfl] at hyy
    have HX : Hid (_ ∧ _) := ⟨K4, htk⟩
    clear hkt J4 K4 K3 hee htk hlen BW3 BW4 hJs T3
    gi_wp2
    refine ⟨fun h => (by cases h), hR.mono ?_⟩
    rintro e' W5 (⟨rfl, hJ5, hk5⟩ | ⟨rfl, hJx5⟩)
    ·gi_wp2
     go_roundw
     case rel => exact ⟨k + 1, by omega, rfl, by rw [HX.out.2]; exact hJ5, hk5 HX.out.1⟩
     case measure => simp [intOf]; omega
    ·gi_wp2
     exact bodyPost_ret (v := .tuple #[]) (by simp [results, Tryz.results139, go_sem]) rfl ⟨⟨_, rfl⟩, .inr ⟨k + 1, by omega, by rw [HX.out.2]; exact hJx5⟩⟩
  ·obtain rfl : k = N := by omega
   have l0 : ¬ (k : Int) < k := by omega
   have e2 : (elsT b l).take k = elsT b l := List.take_of_length_le (by unfold elsT; rw [List.length_map]; omega)
   rw [e2] at hJs
   gi_wp2
   go_end0
   exact ⟨⟨_, rfl⟩, .inl hJs⟩
theorem handOn_stops (n bP bB : Nat) (b : Bool) (g : Nat) (l : List ByteArray) (hl : l.length ≤ 1000) (a : Option Addr) (c : Nat) (w : World) (hc : HdIn bP bB b g l a c w) :
  SeqStopsK Fence.wide n Tryz.prog 139 #[.pointer (some ⟨bP, 0, none⟩), .pointer (some ⟨bB, 0, none⟩)] eEnc (HdK bP bB b g l a c) (fun ys => ys = elsT b l) (fun ys => ∃ q, q ≤ l.length ∧ ys = (elsT b l).take q) l.length w := fun ly J Jx W hW hJ _ hY h0 => by
 refine (handOn1_in n ly bP bB b g l hl a c J Jx W.heap.size hJ (fun m pre x W1 hj hl => jew m (hY pre x W1 hj hl)) W (hc.below hW) h0).mono ?_
 rintro e W' ⟨he, hj | ⟨q, hq, hj⟩⟩
 ·exact ⟨he, .inl ⟨_, rfl, hj⟩⟩
 ·exact ⟨he, .inr ⟨_, ⟨q, hq, rfl⟩, hj⟩⟩
end Go.Proofs.YtoddangedbefgabGreatDoor
