/- Lemmas: What the program's Mul2, digits do. No condition. What the program's Pow does. No condition. What the program's Inv, Root do. No condition. What the program's square, negative, over do. No condition. -/
import Derived.Test.YtoddangedbefgabGreatDoorM6
import Derived.Test.YtoddangedbefgabGreatDoorM7
import Derived.Lib.Builder
set_option maxRecDepth 100000
set_option maxHeartbeats 4000000
namespace Go.Proofs.YtoddangedbefgabGreatDoor
open Go.RowKit Go.Shelf Go.Sort
theorem jfa (a b : P2) (ha : UP a) (hb : UP b) (w : World) :
  Calls Tryz.prog 189 #[vP a, vP b] w fun e w' => e = .returned (vP (m2 a b)) ∧ Below w.heap.size w w' := by
 obtain ⟨p1, e1⟩ : ∃ x, muN a.A b.A = x := ⟨_, rfl⟩
 obtain ⟨p2, e2⟩ : ∃ x, muN a.B b.B = x := ⟨_, rfl⟩
 obtain ⟨p3, e3⟩ : ∃ x, muN a.A b.B = x := ⟨_, rfl⟩
 obtain ⟨p4, e4⟩ : ∃ x, muN a.B b.A = x := ⟨_, rfl⟩
 have u1 : U64 p1 := by rw [← e1]; exact pm_u _ (jbq _ _)
 have u2 : U64 p2 := by rw [← e2]; exact pm_u _ (jbq _ _)
 have u3 : U64 p3 := by rw [← e3]; exact pm_u _ (jbq _ _)
 have u4 : U64 p4 := by rw [← e4]; exact pm_u _ (jbq _ _)
 have eM : m2 a b = ⟨sbN p1 p2, adN p3 p4⟩ := by unfold m2; rw [e1, e2, e3, e4]
 rw [eM]
 have C1 := jbn a.A b.A ha.1 hb.1
 have C2 := jbn a.B b.B ha.2 hb.2
 have C3 := jbn a.A b.B ha.1 hb.2
 have C4 := jbn a.B b.A ha.2 hb.1
 rw [e1] at C1
 rw [e2] at C2
 rw [e3] at C3
 rw [e4] at C4
 have C5 := jdd p1 p2 u1 u2
 have C6 := jev p3 p4 u3 u4
 obtain ⟨s1, hs1⟩ : ∃ x, sbN p1 p2 = x := ⟨_, rfl⟩
 obtain ⟨s2, hs2⟩ : ∃ x, adN p3 p4 = x := ⟨_, rfl⟩
 rw [hs1] at C5 ⊢
 rw [hs2] at C6 ⊢
 clear e1 e2 e3 e4 eM hs1 hs2
 obtain ⟨aA, aB⟩ := a
 obtain ⟨bA, bB⟩ := b
 simp only at C1 C2 C3 C4
 go_enter Tryz.func189, Tryz.ntmps189
 go_wp2_with fail
 refine wpOf (fun V => Below w.heap.size w V ∧ w.heap.size + 2 < V.heap.size ∧ (∀ o, V.frozen? ⟨w.heap.size + 1 + 1, o, none⟩ = false) ∧ V.cell? ⟨w.heap.size + 1 + 1, 0, none⟩ = some (.int .u64 0) ∧ V.cell? ⟨w.heap.size + 1 + 1, 1, none⟩ = some (.int .u64 0) ∧ V.cell? ⟨w.heap.size, 0, none⟩ = some (.int .u64 aA) ∧ V.cell? ⟨w.heap.size, 1, none⟩ = some (.int .u64 aB) ∧ V.cell? ⟨w.heap.size + 1, 0, none⟩ = some (.int .u64 bA) ∧ V.cell? ⟨w.heap.size + 1, 1, none⟩ = some (.int .u64 bB)) ⟨by go_grown, by simp [go_sem], by simp [go_sem], by simp [go_sem], by simp [go_sem], by simp [go_sem], by simp [go_sem], by simp [go_sem], by simp [go_sem]⟩ ?_
 rintro V ⟨BV, hz, hf, z0, z1, a0, a1, b0, b1⟩
 have BZ : Hid (_ ∧ _ ∧ _) := ⟨BV, hz, hf⟩
 have c1 := jae (w := V) C1
 have c2 := jae (w := V) C2
 have c3 := jae (w := V) C3
 have c4 := jae (w := V) C4
 have c5 := jae (w := V) C5
 have c6 := jae (w := V) C6
 have k0 := cell_regrown a0
 have k1 := cell_regrown a1
 have k2 := cell_regrown b0
 have k3 := cell_regrown b1
 have lz0 := block_lt_of_cell z0
 have ZZ : Hid (_ ∧ _) := ⟨z0, z1⟩
 clear a0 a1 b0 b1 z0 z1 C1 C2 C3 C4 C5 C6 BV hz hf
 refine jar 23 (by kernel_rfl) (by kernel_rfl) ?_
 simp only [List.take_succ_cons, List.take_zero, List.drop_succ_cons, List.drop_zero]
 iterate 4 (quiet_step (fail))
 quiet_step (exact c1 _ _)
 iterate 4 (quiet_step (fail))
 quiet_step (exact c2 _ _)
 quiet_step (exact c5 _ _)
 iterate 4 (quiet_step (fail))
 quiet_step (exact c3 _ _)
 iterate 4 (quiet_step (fail))
 quiet_step (exact c4 _ _)
 quiet_step (exact c6 _ _)
 quiet_step (fail)
 refine wpQuiet_nil ?_
 intro w8 hw8
 have B8 : Below V.heap.size V w8 := by
  obtain ⟨p, rfl⟩ := hw8
  exact below_regrown _ _ _
 have d0 := (B8.cell (p := ⟨w.heap.size + 1 + 1, 0, none⟩) lz0).trans ZZ.out.1
 have d1 := (B8.cell (p := ⟨w.heap.size + 1 + 1, 1, none⟩) lz0).trans ZZ.out.2
 have df : ∀ o, w8.frozen? ⟨w.heap.size + 1 + 1, o, none⟩ = false := fun o => by
  rw [← BZ.out.2.2 o]
  simp only [World.frozen?, B8.block _ lz0]
 have BW := jaa BZ.out.1 (by have := BZ.out.1.size; omega) B8
 clear hw8 k0 k1 k2 k3 c1 c2 c3 c4 c5 c6
 go_wp2_with fail
 refine bodyPost_ret (v := vP ⟨s1, s2⟩) (by simp [results, Tryz.results189, go_sem, *]) rfl ⟨rfl, ?_⟩
 exact (BW.setCell (p := ⟨w.heap.size + 1 + 1, 0, none⟩) (by show _ ≤ w.heap.size + 1 + 1; omega) _).setCell (p := ⟨w.heap.size + 1 + 1, 1, none⟩) (by show _ ≤ w.heap.size + 1 + 1; omega) _
theorem digits_any (n : Nat) (w : World) :
  Calls Tryz.prog 188 #[.int .u64 n] w fun e w' => e = .returned (.func (.func 195) #[] #[.pointer (some ⟨w.heap.size, 0, none⟩)]) ∧ w' = w.alloc (.cells #[.int .u64 n] 22) := by
 go_enter Tryz.func188, Tryz.ntmps188
 go_wp2
 go_ret
 exact ⟨rfl, rfl⟩
attribute [local go_sem] Oper.semAt_some
def Bq (b : Nat) (T : TypeId) (cs : Array Value) (W : World) : Prop := W.heap[b]? = some (.cells cs T (0, 0))
theorem Bq.cell {b : Nat} {T : TypeId} {cs : Array Value} {W : World} (h : Bq b T cs W) (j : Nat) : W.cell? ⟨b, j, none⟩ = cs[j]? := Lib.cell_of_heap h j
theorem Bq.fr {b : Nat} {T : TypeId} {cs : Array Value} {W : World} (h : Bq b T cs W) (o : Nat) : W.frozen? ⟨b, o, none⟩ = false := Lib.frozen_of_heap h o
theorem Bq.lt {b : Nat} {T : TypeId} {cs : Array Value} {W : World} (h : Bq b T cs W) : b < W.heap.size := (Array.getElem?_eq_some_iff.1 h).1
theorem Bq.below {b : Nat} {T : TypeId} {cs : Array Value} {W W' : World} (h : Bq b T cs W) (hb : Below W.heap.size W W') : Bq b T cs W' := (hb.block b h.lt).trans h
theorem Bq.put {b : Nat} {T : TypeId} {v : Value} {W : World} (h : Bq b T #[v] W) (u : Value) : Bq b T #[u] (W.setCell ⟨b, 0, none⟩ u) := by
 have h' : W.heap[b]? = _ := h
 show (W.setCell ⟨b, 0, none⟩ u).heap[b]? = _
 simp [World.setCell, Array.getElem?_modify, h']
theorem Bq.put2 {b : Nat} {T : TypeId} {v0 v1 : Value} {W : World} (h : Bq b T #[v0, v1] W) (u0 u1 : Value) : Bq b T #[u0, u1] ((W.setCell ⟨b, 0, none⟩ u0).setCell ⟨b, 1, none⟩ u1) := by
 have h' : W.heap[b]? = _ := h
 show ((W.setCell ⟨b, 0, none⟩ u0).setCell ⟨b, 1, none⟩ u1).heap[b]? = _
 simp [World.setCell, Array.getElem?_modify, h']
theorem Bq.other {b k : Nat} {T : TypeId} {cs : Array Value} {W : World} (h : Bq b T cs W) (hk : b ≠ k) (o : Nat) (u : Value) : Bq b T cs (W.setCell ⟨k, o, none⟩ u) := (Below.heap_setCell _ _ _ _ hk).trans h
theorem Bq.own {b : Nat} {T : TypeId} {cs : Array Value} {A C : World} {row : Option Nat} (h : Bq b T cs A) (hg : A.grownBy C row) (hr : ∀ r, row = some r → ∃ o : Obj, A.heap[r]? = some o ∧ o.isCells = false) : Bq b T cs C := by
 refine (hg.block b h.lt (fun e => ?_)).trans h
 obtain ⟨o, ho, hc⟩ := hr b e.symm
 rw [show A.heap[b]? = _ from h] at ho
 cases ho
 cases hc
theorem jdb (W : World) (p : Addr) (u : Value) (B : Nat) : KeepsFrom B W (W.setCell p u) := (KeepsOthers.setCell W p u).from B
theorem jbm {W W' : World} (h : Below W.heap.size W W') : KeepsOthers W W' :=
 ⟨h.size, fun k o hk _ => by rw [h.block k (Array.getElem?_eq_some_iff.1 hk).1]; exact hk⟩
abbrev NumIn (bX n : Nat) (W : World) : Prop := Bq bX 22 #[.int .u64 (n : Int)] W
def NumK (bX n : Nat) (W W' : World) : Prop := NumIn bX n W → NumIn bX n W'
theorem jeh {W W' : World} (h : Below W.heap.size W W') : W.grownBy W' none := ⟨h.os, h.tape, h.output, h.size, fun k hk _ => h.block k hk⟩
theorem NumK.of_below {bX n : Nat} {W W' : World} (h : Below W.heap.size W W') : NumK bX n W W' := fun hc => hc.below h
theorem NumK.trans {bX n : Nat} {W W' V : World} (h : NumK bX n W W') (g : NumK bX n W' V) : NumK bX n W V := fun hc => g (h hc)
theorem room_of_none' {FN : Fence} (hd : FN.depth = none) (k : Nat) : FN.room k := fun d h => by rw [hd] at h; cases h
theorem jew {m : Nat} (m' : Nat) {P : Program} {l : Nat} {args : Array Value} {W : World} {R : Ending → World → Prop} (h : YieldAt Fence.wide m P l args W R) : YieldAt Fence.wide m' P l args W R := by
 obtain ⟨fn, tmps, assign, body, hy, hR⟩ := h
 exact ⟨fn, tmps, assign, body, hy, hR.1, fun c cs _ => hR.2 c cs (room_of_none' rfl _)⟩
def jeu (n L j : Nat) : Bool := n / 2 ^ (L - 1 - j) % 2 == 1
def jbe (n L q : Nat) : List Bool := (List.range q).map (jeu n L)
theorem jcf (n L q : Nat) : jbe n L (q + 1) = jbe n L q ++ [jeu n L q] := by unfold jbe; rw [List.range_succ, List.map_append]; rfl
theorem bits_len (n L q : Nat) : (jbe n L q).length = q := by unfold jbe; rw [List.length_map, List.length_range]
def dEnc (b : Bool) : Array Value := #[.bool b]
theorem digits1_in (n l bX : Nat) (t : Nat) (ht : U64 t) (J Jx : List Bool → World → Prop) (B : Nat) (hJ : AbidesFrom B J)
  (hY : ∀ m pre x W, J pre W → pre.length < 64 → YieldAt Fence.wide m Tryz.prog l (dEnc x) W fun e W' =>
   (e = .returned (.bool true) ∧ J (pre ++ [x]) W' ∧ NumK bX t W W') ∨ (e = .returned (.bool false) ∧ Jx (pre ++ [x]) W'))
  (W : World) (hc : NumIn bX t W) (h0 : J [] W) :
  CallsIn Fence.wide n Tryz.prog 195 #[.func (.yield l) #[] #[], .pointer (some ⟨bX, 0, none⟩)] W fun e W' => (∃ v, e = .returned v) ∧
   ((∃ L, t < 2 ^ L ∧ J (jbe t L L) W') ∨ (∃ L q, t < 2 ^ L ∧ q ≤ L ∧ Jx (jbe t L q) W')) := by
 have hc0 : W.cell? ⟨bX, 0, none⟩ = some (.int .u64 (t : Int)) := hc.cell 0
 refine callsIn_of_wp Tryz.func195 rfl trivial ?_ rfl
 simp only [Tryz.ntmps195, List.size_toArray, List.length_cons, List.length_nil, Nat.reduceAdd, Nat.reduceSub, Array.replicate_succ, Array.replicate_zero, List.push_toArray, List.append_toArray, List.nil_append, List.cons_append]
 gi_wp2_with fail
 refine ⟨trivial, fun h => (by cases h), (callsIn_wide.2 (len64_any t ht W)).mono ?_⟩
 rintro e W1 ⟨⟨L, rfl, hL, hlt⟩, B1⟩
 have J1 := hJ _ _ _ none h0 (jeh B1) (fun r h => by cases h)
 have C1 := hc.below B1
 have wL : IntKind.i64.wrap ((L : Int) - 1) = (L : Int) - 1 := by rw [IntKind.wrap_i64]; omega
 clear hc0 h0 hc B1
 gi_wp2_with fail
 gi_loopw [3] (fun i wr => ∃ q : Nat, q ≤ L ∧ i = .int .i64 ((L : Int) - 1 - q) ∧ J (jbe t L q) wr ∧ NumIn bX t wr)
  (fun i _ => ((intOf i) + 1).toNat)
 case atStart => exact ⟨0, by omega, by simp, J1, C1⟩
 case round =>
  clear J1 C1
  obtain ⟨q, hq, rfl, hJs, hkt⟩ := hrel
  have hc1 : wr.cell? ⟨bX, 0, none⟩ = some (.int .u64 (t : Int)) := hkt.cell 0
  by_cases hlq : q < L
  ·obtain ⟨p, hp⟩ : ∃ p, L - 1 - q = p := ⟨_, rfl⟩
   have hpi : (L : Int) - 1 - q = (p : Int) := by omega
   obtain ⟨y, hy⟩ : ∃ y, t / 2 ^ p = y := ⟨_, rfl⟩
   have hyU : U64 y := by rw [← hy]; exact Nat.lt_of_le_of_lt (Nat.div_le_self _ _) ht
   have hd : (t : Int) / 2 ^ p = y := by rw [← hy]; simp [Int.natCast_ediv, Int.natCast_pow]
   have ha1 := jhb y hyU
   have hbt : jeu t L q = (y % 2 == 1) := by unfold jeu; rw [hp, hy]
   obtain ⟨b, hb⟩ : ∃ b, jeu t L q = b := ⟨_, rfl⟩
   have hbe : ((y : Int) % 2 == 1) = b := by
    rw [← hb, hbt, show (y : Int) % 2 = ((y % 2 : Nat) : Int) by omega]
    rcases Nat.mod_two_eq_zero_or_one y with h | h <;> rw [h] <;> rfl
   rw [show ((y % 2 : Nat) : Int) = (y : Int) % 2 by omega] at ha1
   obtain ⟨fn, tmps, assign, body, hyy, hR⟩ := hY (n - 1) _ b wr hJs (by rw [bits_len]; omega)
   unfold dEnc at hyy
   have HH : Hid (_ ∧ _) := ⟨hkt, hb⟩
   have wp1 : IntKind.i64.wrap ((p : Int) - 1) = (p : Int) - 1 := by rw [IntKind.wrap_i64]; omega
   rw [hpi]
   clear hkt hb hJs hbt hy
   gi_wp2
   refine ⟨fun h => (by cases h), hR.mono ?_⟩
   rintro e W3 (⟨rfl, hJ3, hk3⟩ | ⟨rfl, hJx3⟩)
   ·gi_wp2
    go_roundw
    case rel => exact ⟨q + 1, by omega, by congr 1; omega, by rw [jcf, HH.out.2]; exact hJ3, hk3 HH.out.1⟩
    case measure => simp [intOf]
   ·gi_wp2
    exact bodyPost_ret (v := .tuple #[]) (by simp [results, Tryz.results195, go_sem]) rfl ⟨⟨_, rfl⟩, .inr ⟨L, q + 1, hlt, by omega, by rw [jcf, HH.out.2]; exact hJx3⟩⟩
  ·obtain rfl : q = L := by omega
   rw [show (q : Int) - 1 - q = -1 by omega]
   gi_wp2
   go_end0
   exact ⟨⟨_, rfl⟩, .inl ⟨q, hlt, hJs⟩⟩
theorem jhh (n bX : Nat) (t : Nat) (ht : U64 t) (w : World) (hc : NumIn bX t w) :
  SeqStopsK Fence.wide n Tryz.prog 195 #[.pointer (some ⟨bX, 0, none⟩)] dEnc (NumK bX t) (fun ys => ∃ L, t < 2 ^ L ∧ ys = jbe t L L) (fun ys => ∃ L q, t < 2 ^ L ∧ q ≤ L ∧ ys = jbe t L q) 64 w := fun l J Jx W hW hJ _ hY h0 => by
 refine (digits1_in n l bX t ht J Jx W.heap.size hJ (fun m pre x W1 hj hl => jew m (hY pre x W1 hj hl)) W (hc.below hW) h0).mono ?_
 rintro e W' ⟨he, ⟨L, hL, hj⟩ | ⟨L, q, hL, hq, hj⟩⟩
 ·exact ⟨he, .inl ⟨_, ⟨L, hL, rfl⟩, hj⟩⟩
 ·exact ⟨he, .inr ⟨_, ⟨L, q, hL, hq, rfl⟩, hj⟩⟩
def stP (a : Nat) (l : List Bool) : Nat := l.foldl (fun p b => if b then muN (muN p p) a else muN p p) 1
theorem stP_snoc (a : Nat) (l : List Bool) (b : Bool) : stP a (l ++ [b]) = if b then muN (muN (stP a l) (stP a l)) a else muN (stP a l) (stP a l) := by unfold stP; rw [List.foldl_append]; rfl
theorem stP_bits (a n L : Nat) (h : n < 2 ^ L) : ∀ q, q ≤ L → stP a (jbe n L q) = pwN a (n / 2 ^ (L - q))
 | 0, _ => by
  rw [Nat.sub_zero, Nat.div_eq_of_lt h, pw_0]
  rfl
 | q + 1, hq => by
  rw [jcf, stP_snoc, stP_bits a n L h q (by omega)]
  have := pw_step a n (L - (q + 1))
  rw [show L - (q + 1) + 1 = L - q by omega] at this
  rw [this]
  unfold jeu
  rw [show L - 1 - q = L - (q + 1) by omega]
  simp only [beq_iff_eq]
theorem stP_lt (a : Nat) (l : List Bool) : stP a l < PM := by
 rcases List.eq_nil_or_concat l with rfl | ⟨l', b, rfl⟩
 ·show 1 < PM; decide
 ·rw [List.concat_eq_append, stP_snoc]
  split
  ·exact jbq _ _
  ·exact jbq _ _
theorem pw_stays (a n : Nat) : ∀ k, pwN a (n / 2 ^ k) = 0 → pwN a n = 0
 | 0, h => by rw [Nat.pow_zero, Nat.div_one] at h; exact h
 | k + 1, h => by
  refine pw_stays a n k ?_
  rw [pw_step, h, mu_zero, mu_zero]
  simp
theorem stP_all (a n L : Nat) (h : n < 2 ^ L) : stP a (jbe n L L) = pwN a n := by rw [stP_bits a n L h L (Nat.le_refl _), Nat.sub_self, Nat.pow_zero, Nat.div_one]
theorem stP_dead (a n L q : Nat) (h : n < 2 ^ L) (hq : q ≤ L) (h0 : stP a (jbe n L q) = 0) : pwN a n = 0 := pw_stays a n (L - q) (by rw [← stP_bits a n L h q hq]; exact h0)
end Go.Proofs.YtoddangedbefgabGreatDoor
namespace Go.Proofs.YtoddangedbefgabGreatDoor
open Go.RowKit Go.Shelf Go.Sort
attribute [local go_sem] Oper.semAt_some
theorem jbw (w : World) (o1 o2 : Obj) : ((w.alloc o1).alloc o2).heap[w.heap.size]? = some o1 ∧ ((w.alloc o1).alloc o2).heap[w.heap.size + 1]? = some o2 := by
 constructor
 ·rw [((Below.refl _ (w.alloc o1)).alloc (Nat.le_refl _) o2).block w.heap.size (by simp)]
  exact World.alloc_heap_new w o1
 ·have h := World.alloc_heap_new (w.alloc o1) o2
  simpa using h
theorem pow_any (a n : Nat) (ha : U64 a) (hn : U64 n) (w : World) :
  Calls Tryz.prog 186 #[.int .u64 a, .int .u64 n] w fun e w' => e = .returned (.int .u64 (pwN a n : Nat)) ∧ Below w.heap.size w w' := by
 refine (callsIn_wide (n := 9)).1 ?_
 refine callsIn_of_wp_marks Tryz.func186 rfl trivial ?_ rfl
 refine wpIn_wide.2 ?_
 simp only [Tryz.ntmps186, List.size_toArray, List.length_cons, List.length_nil, Nat.reduceAdd, Nat.reduceSub, Array.replicate_succ, Array.replicate_zero, List.push_toArray, List.append_toArray, List.nil_append, List.cons_append]
 go_wp2_with fail
 refine wp_scope_straight ?_
 go_wp2_with fail
 obtain ⟨z, hz⟩ : ∃ c, w.heap.size = c := ⟨_, rfl⟩
 have HZ : Hid (w.heap.size = z) := hz
 refine wpOf (fun W => Below z w W ∧ W.heap.size = z + 2 ∧ Bq z 22 #[.int .u64 (a : Int)] W ∧ Bq (z + 1) 22 #[.int .u64 ((1 : Nat) : Int)] W) ?_ ?_
 ·have t2 := jbw w (.cells #[.int .u64 (a : Int)] 22) (.cells #[.int .u64 ((1 : Nat) : Int)] 22)
  rw [hz] at t2
  refine ⟨?_, by simp [hz], t2.1, t2.2⟩
  rw [← hz]
  exact ((Below.refl _ w).alloc (Nat.le_refl _) _).alloc (by simp) _
 rintro w1 ⟨BV, hs1, hA, hP⟩
 rw [hz]
 clear hz
 refine wp_label ?_
 go_wp2_with fail
 refine (digits_any n w1).mono ?_
 rintro e w2 ⟨rfl, hw2⟩
 have B2 : Below w1.heap.size w1 w2 := by rw [hw2]; exact (Below.refl _ w1).alloc (Nat.le_refl _) _
 have hcx : NumIn w1.heap.size n w2 := by rw [hw2]; exact World.alloc_heap_new w1 _
 have A2 := hA.below B2
 have P2' := hP.below B2
 have BW2 := jaa BV (by omega) B2
 rw [hs1] at hcx ⊢
 clear hw2 B2 hA hP BV
 go_wp2_with fail
 have hxz : z + 2 < w2.heap.size := hcx.lt
 refine (wpIn_wide (n := 9)).1 ?_
 refine wpIn_rangeFunc_ownH rfl (by omega) (gf := 195) (lb := #[.pointer (some ⟨z + 2, 0, none⟩)]) rfl trivial (enters_of Tryz.func195 (by kernel_rfl) rfl)
  (jhh _ (z + 2) n hn w2 hcx) (fun h k => NumK.trans h k) (fun W l o o' hl h1 h2 h3 hx => (World.putObj_heap_other (by omega)).trans hx) (Below.refl _ _) (fun _ => rfl)
  (fun pre W => Bq z 22 #[.int .u64 (a : Int)] W ∧ Bq (z + 1) 22 #[.int .u64 (stP a pre : Int)] W ∧ Below z w W ∧ z + 2 < W.heap.size)
  (fun c pre W => c = .exit 0 ∧ Bq (z + 1) 22 #[.int .u64 0] W ∧ stP a pre = 0 ∧ Below z w W ∧ z + 2 < W.heap.size)
  (fun s A C row hs hg hr => ⟨hs.1.own hg (fun r e => (hr r e).2), hs.2.1.own hg (fun r e => (hr r e).2), hs.2.2.1.grown hg (by omega) (fun k e => Nat.le_trans (by omega) (hr k e).1), Nat.lt_of_lt_of_le hs.2.2.2 hg.size⟩)
  (fun c s A C row hs hg hr => ⟨hs.1, hs.2.1.own hg (fun r e => (hr r e).2), hs.2.2.1, hs.2.2.2.1.grown hg (by omega) (fun k e => Nat.le_trans (by omega) (hr k e).1), Nat.lt_of_lt_of_le hs.2.2.2.2 hg.size⟩)
  ⟨A2, P2', BW2, hxz⟩
  (fun x a' _ => a' = { tmps := #[.int .u64 a, .int .u64 n, .pointer (some ⟨z, 0, none⟩), undef, .int .u64 0, .pointer (some ⟨z + 1, 0, none⟩), .bool x, .int .u64 n, .func (.func 195) #[] #[.pointer (some ⟨z + 2, 0, none⟩)], .bool x, undef, undef, undef, undef, undef, undef, undef, undef, undef, undef, undef, undef], defers := [] })
  (fun x a' _ X Y row hs hg hr => hs)
  ?assign ?body ?done ?stop
 case assign =>
  rintro l pre x W K hI hK
  dsimp only [dEnc]
  gi_wp2
  exact hK _ _ (KeepsFrom.refl _ _) (fun h => h) hI rfl
 case body =>
  rintro l pre x a' W hl ⟨r, hr⟩ ⟨hA, hP, hB, hxW⟩ rfl hlt
  obtain ⟨p, hp⟩ : ∃ p, stP a pre = p := ⟨_, rfl⟩
  have hpU : U64 p := by rw [← hp]; exact pm_u _ (stP_lt _ _)
  have hsn := stP_snoc a pre x
  rw [hp] at hP hsn
  obtain ⟨s, hs⟩ : ∃ s, muN p p = s := ⟨_, rfl⟩
  have hsU : U64 s := by rw [← hs]; exact pm_u _ (jbq _ _)
  rw [hs] at hsn
  have C1 := jbn p p hpU hpU
  rw [hs] at C1
  clear hs
  have c0 : W.cell? ⟨z + 1, 0, none⟩ = some (.int .u64 (p : Int)) := hP.cell 0
  have HH : Hid (_ ∧ _ ∧ _) := ⟨hA, hP, hB⟩
  clear hA hP hB
  gi_wp2_with fail
  refine ⟨trivial, (CallsIn.inRound l (callsIn_wide.2 (C1 _))).mono ?_⟩
  rintro e W4 ⟨rfl, B4⟩
  obtain ⟨hA, hP, hB⟩ := HH.out
  have A4 := hA.below B4
  have P4 := hP.below B4
  have BW4 := jaa hB (by omega) B4
  have f0 := P4.fr 0
  have P5 := P4.put (.int .u64 (s : Int))
  have c5 : (W4.setCell ⟨z + 1, 0, none⟩ (.int .u64 (s : Int))).cell? ⟨z + 1, 0, none⟩ = some (.int .u64 (s : Int)) := P5.cell 0
  have hz4 := B4.size
  have c4 : W4.cell? ⟨z + 1, 0, none⟩ = some (.int .u64 (p : Int)) := P4.cell 0
  have a4 : W4.cell? ⟨z, 0, none⟩ = some (.int .u64 (a : Int)) := A4.cell 0
  have A5 := A4.other (k := z + 1) (by omega) 0 (.int .u64 (s : Int))
  have a5 : (W4.setCell ⟨z + 1, 0, none⟩ (.int .u64 (s : Int))).cell? ⟨z, 0, none⟩ = some (.int .u64 (a : Int)) := A5.cell 0
  have k5 : KeepsFrom w2.heap.size W (W4.setCell ⟨z + 1, 0, none⟩ (.int .u64 (s : Int))) := ((jbm B4).from _).trans (jdb _ _ _ _)
  have n5 : NumK (z + 2) n W (W4.setCell ⟨z + 1, 0, none⟩ (.int .u64 (s : Int))) := fun h => (h.below B4).other (by omega) _ _
  have b5 : Below z w (W4.setCell ⟨z + 1, 0, none⟩ (.int .u64 (s : Int))) := BW4.setCell (p := ⟨z + 1, 0, none⟩) (by show z ≤ z + 1; omega) _
  have z5 : z + 2 < (W4.setCell ⟨z + 1, 0, none⟩ (.int .u64 (s : Int))).heap.size := Nat.lt_of_lt_of_le hxW (Nat.le_trans hz4 (by simp [World.setCell]))
  have H5 : Hid (_ ∧ _ ∧ _ ∧ _ ∧ _ ∧ _) := ⟨A5, P5, k5, n5, b5, z5⟩
  clear A5 P5 k5 n5 b5 z5 A4 P4 BW4 hz4 hA hP hB B4
  by_cases hs0 : s = 0
  ·subst hs0
   have hst : stP a (pre ++ [x]) = 0 := by
    rw [hsn]
    cases x with
    | false => rfl
    | true => exact mu_zero a
   rw [show ((0 : Nat) : Int) = 0 from rfl] at *
   gi_wp2
   obtain ⟨A5, P5, k5, n5, b5, z5⟩ := H5.out
   exact ⟨k5, rfl, P5, hst, b5, z5⟩
  ·have hsb : ((s : Int) == 0) = false := by rw [beq_eq_false_iff_ne]; omega
   cases x with
   | false =>
    gi_wp2
    obtain ⟨A5, P5, k5, n5, b5, z5⟩ := H5.out
    refine (?_ : KeepsFrom _ W _ ∧ NumK _ _ W _ ∧ _ ∧ _ ∧ _ ∧ _)
    refine ⟨k5, n5, A5, ?_, b5, z5⟩
    rw [hsn]
    exact P5
   | true =>
    gi_wp2_with fail
    refine ⟨trivial, (CallsIn.inRound l (callsIn_wide.2 (jbn s a hsU ha _))).mono ?_⟩
    rintro e W6 ⟨rfl, B6⟩
    obtain ⟨A5, P5, k5, n5, b5, z5⟩ := H5.out
    have P6 := P5.below B6
    have f6 := P6.fr 0
    have c6 : W6.cell? ⟨z + 1, 0, none⟩ = some (.int .u64 (s : Int)) := P6.cell 0
    gi_wp2
    refine (?_ : KeepsFrom _ W _ ∧ NumK _ _ W _ ∧ _ ∧ _ ∧ _ ∧ _)
    refine ⟨(k5.trans ((jbm B6).from _)).trans (jdb _ _ _ _), n5.trans (fun h => (h.below B6).other (by omega) _ _), (A5.below B6).other (by omega) _ _, ?_, (jaa b5 (by omega) B6).setCell (p := ⟨z + 1, 0, none⟩) (by show z ≤ z + 1; omega) _, Nat.lt_of_lt_of_le z5 (Nat.le_trans B6.size (by simp [World.setCell]))⟩
    rw [hsn]
    exact P6.put _
 case done =>
  rintro D ys W hD ⟨L, hL, rfl⟩ ⟨hA, hP, hB, hxW⟩ hK
  rw [stP_all a n L hL] at hP
  have c0 : W.cell? ⟨z + 1, 0, none⟩ = some (.int .u64 (pwN a n : Int)) := hP.cell 0
  obtain ⟨v, hv⟩ : ∃ v, pwN a n = v := ⟨_, rfl⟩
  rw [hv] at c0
  go_wp2
  have hbP := belowK_b (n₀ := z) (w := w2) (by omega) W D _ (.deferred none) hD hK rfl rfl
  rw [Exit.noGoto_ret]
  refine ⟨by simp, .inl ⟨_, _, rfl, run_takeDeferred hK, ?_⟩⟩
  refine ⟨.int .u64 (v : Int), by simp [results, Tryz.results186, go_sem], by rw [hv], ?_⟩
  rw [HZ.out]
  exact hB.trans hbP
 case stop =>
  rintro D c pre W hD ⟨L, q, hL, hq, rfl⟩ ⟨rfl, hP, h0, hB, hxW⟩ hK
  have hv := stP_dead a n L q hL hq h0
  have c0 : W.cell? ⟨z + 1, 0, none⟩ = some (.int .u64 0) := hP.cell 0
  gi_wp2
  go_wp2
  have hbP := belowK_b (n₀ := z) (w := w2) (by omega) W D _ (.deferred none) hD hK rfl rfl
  rw [Exit.noGoto_ret]
  refine ⟨by simp, .inl ⟨_, _, rfl, run_takeDeferred hK, ?_⟩⟩
  refine ⟨.int .u64 0, by simp [results, Tryz.results186, go_sem], by rw [hv]; rfl, ?_⟩
  rw [HZ.out]
  exact hB.trans hbP
end Go.Proofs.YtoddangedbefgabGreatDoor
namespace Go.Proofs.YtoddangedbefgabGreatDoor
open Go.RowKit Go.Shelf Go.Sort
theorem inv_any (a : Nat) (ha : U64 a) (w : World) :
  Calls Tryz.prog 193 #[.int .u64 a] w fun e w' => e = .returned (.int .u64 (ivN a : Nat)) ∧ Below w.heap.size w w' := by
 go_enter Tryz.func193, Tryz.ntmps193
 go_wp2_with fail
 refine (pow_any a 2147482865 ha (by unfold U64; omega) _).mono ?_
 rintro e w1 ⟨rfl, B1⟩
 go_wp2_with fail
 go_ret
 exact ⟨rfl, B1⟩
theorem root_any (a : Nat) (ha : U64 a) (w : World) :
  Calls Tryz.prog 174 #[.int .u64 a] w fun e w' => e = .returned (.tuple #[.int .u64 (roN a : Nat), .bool (roB a)]) ∧ Below w.heap.size w w' := by
 have hlt := rt_lt a
 have hR := pow_any a 536870717 ha (by unfold U64; omega)
 rw [show pwN a 536870717 = rtN a from rfl] at hR
 have er : roN a = if muN (rtN a) (rtN a) = a % PM then (if rtN a % 2 = 1 then PM - rtN a else rtN a) else 0 := rfl
 have eb : roB a = decide (muN (rtN a) (rtN a) = a % PM) := rfl
 obtain ⟨x, hx⟩ : ∃ x, rtN a = x := ⟨_, rfl⟩
 rw [hx] at hlt er eb hR
 obtain ⟨s, hs⟩ : ∃ s, muN x x = s := ⟨_, rfl⟩
 have hm : (a : Int) % 2147482867 = ((a % PM : Nat) : Int) := by unfold PM; omega
 obtain ⟨y, hy⟩ : ∃ y, a % PM = y := ⟨_, rfl⟩
 rw [hy] at hm er eb
 have C1 := jbn x x (pm_u _ hlt) (pm_u _ hlt)
 rw [hs] at C1 er eb
 rw [er, eb]
 clear hs hy hx er eb
 by_cases h1 : s = y
 ·subst h1
  rw [if_pos rfl, decide_eq_true rfl]
  by_cases h2 : x % 2 = 1
  ·have hm2 : (x : Int) % 2 = 1 := by omega
   rw [if_pos h2]
   obtain ⟨d, hd⟩ : ∃ d, PM - x = d := ⟨_, rfl⟩
   have C2 := jdd 0 x (by unfold U64; omega) (pm_u _ hlt)
   rw [sb_neg x hlt h2, hd] at C2
   rw [hd]
   clear hd
   go_enter Tryz.func174, Tryz.ntmps174
   go_wp2_with fail
   refine (hR _).mono ?_
   rintro e w1 ⟨rfl, B1⟩
   go_wp2_with fail
   refine (C1 _).mono ?_
   rintro e w2 ⟨rfl, B2⟩
   go_wp2_with fail
   refine (C2 _).mono ?_
   rintro e w3 ⟨rfl, B3⟩
   go_wp2_with fail
   refine bodyPost_ret (v := .tuple #[.int .u64 (d : Int), .bool true]) (by simp [results, Tryz.results174, go_sem, *]) rfl ⟨rfl, jaa (jaa B1 B1.size B2) (Nat.le_trans B1.size B2.size) B3⟩
  ·have hm2 : (x : Int) % 2 = 0 := by omega
   rw [if_neg h2]
   go_enter Tryz.func174, Tryz.ntmps174
   go_wp2_with fail
   refine (hR _).mono ?_
   rintro e w1 ⟨rfl, B1⟩
   go_wp2_with fail
   refine (C1 _).mono ?_
   rintro e w2 ⟨rfl, B2⟩
   go_wp2_with fail
   refine bodyPost_ret (v := .tuple #[.int .u64 (x : Int), .bool true]) (by simp [results, Tryz.results174, go_sem, *]) rfl ⟨rfl, jaa B1 B1.size B2⟩
 ·rw [if_neg h1, decide_eq_false h1]
  have h1' : ¬ (s : Int) = y := by omega
  go_enter Tryz.func174, Tryz.ntmps174
  go_wp2_with fail
  refine (hR _).mono ?_
  rintro e w1 ⟨rfl, B1⟩
  go_wp2_with fail
  refine (C1 _).mono ?_
  rintro e w2 ⟨rfl, B2⟩
  go_wp2_with fail
  refine bodyPost_ret (v := .tuple #[.int .u64 0, .bool false]) (by simp [results, Tryz.results174, go_sem, *]) rfl ⟨rfl, jaa B1 B1.size B2⟩
abbrev vT (p : Pt) : Value := .agg #[.int .u64 (p.X : Int), .int .u64 (p.Y : Int), .bool p.I]
abbrev UT (p : Pt) : Prop := U64 p.X ∧ U64 p.Y
theorem wl_u {p : Pt} (h : Wl p) : UT p := ⟨pm_u _ h.1, pm_u _ h.2.1⟩
structure Li (w : World) : Prop where
 z : 4 < w.heap.size
 a : w.cell? ⟨4, 0, none⟩ = some (.int .u64 0)
 b : w.cell? ⟨4, 1, none⟩ = some (.int .u64 0)
 c : w.cell? ⟨4, 2, none⟩ = some (.bool true)
 o : ∃ cs t, w.heap[4]? = some (.cells cs t (0, 0))
theorem Li.ne {w : World} (h : Li w) : 0 < w.heap.size ∧ 0 ≤ w.heap.size ∧ w.heap.size ≠ 0 ∧ 0 ≠ w.heap.size ∧ 1 < w.heap.size ∧ 1 ≤ w.heap.size ∧ w.heap.size ≠ 1 ∧ 1 ≠ w.heap.size ∧ 2 < w.heap.size ∧ 2 ≤ w.heap.size ∧ w.heap.size ≠ 2 ∧ 2 ≠ w.heap.size ∧ 3 < w.heap.size ∧ 3 ≤ w.heap.size ∧ w.heap.size ≠ 3 ∧ 3 ≠ w.heap.size ∧ 3 < w.heap.size + 1 ∧ 3 < w.heap.size + 1 + 1 ∧ 3 < w.heap.size + 1 + 1 + 1 ∧ 3 < w.heap.size + 1 + 1 + 1 + 1 ∧ 3 < w.heap.size + 1 + 1 + 1 + 1 + 1 ∧ 4 < w.heap.size ∧ 4 ≤ w.heap.size ∧ w.heap.size ≠ 4 ∧ 4 ≠ w.heap.size ∧ 4 < w.heap.size + 1 ∧ 4 < w.heap.size + 1 + 1 ∧ 4 < w.heap.size + 1 + 1 + 1 ∧ 4 < w.heap.size + 1 + 1 + 1 + 1 ∧ 4 < w.heap.size + 1 + 1 + 1 + 1 + 1 := by
 have := h.z
 omega
theorem Li.same {w W : World} (h : Li w) (e : W.heap[4]? = w.heap[4]?) : Li W := by
 obtain ⟨z, a, b, c, cs, t, o⟩ := h
 have o' := e.trans o
 exact ⟨(Array.getElem?_eq_some_iff.1 o').1, (Lib.cell_of_heap o' 0).trans ((Lib.cell_of_heap o 0).symm.trans a), (Lib.cell_of_heap o' 1).trans ((Lib.cell_of_heap o 1).symm.trans b), (Lib.cell_of_heap o' 2).trans ((Lib.cell_of_heap o 2).symm.trans c), cs, t, o'⟩
theorem Li.below {w W : World} (h : Li w) (hb : Below w.heap.size w W) : Li W := h.same (hb.block 4 h.z)
theorem Li.own {A C : World} {row : Option Nat} (h : Li A) (hg : A.grownBy C row) (hr : ∀ r, row = some r → ∃ o : Obj, A.heap[r]? = some o ∧ o.isCells = false) : Li C := by
 refine h.same (hg.block 4 h.z (fun e => ?_))
 obtain ⟨o, ho, hc⟩ := hr 4 e.symm
 obtain ⟨cs, t, k⟩ := h.o
 rw [k] at ho
 cases ho
 cases hc
theorem Li.other {W : World} (h : Li W) {k : Nat} (hk : 4 ≠ k) (o : Nat) (u : Value) : Li (W.setCell ⟨k, o, none⟩ u) := h.same (Below.heap_setCell _ _ _ _ hk)
theorem over_any (a b : Nat) (ha : U64 a) (hb : U64 b) (w : World) :
  Calls Tryz.prog 185 #[.int .u64 a, .int .u64 b] w fun e w' => e = .returned (.int .u64 (ovN a b : Nat)) ∧ Below w.heap.size w w' := by
 have hi := pm_u _ (iv_lt b)
 have C1 := inv_any b hb
 unfold ovN
 obtain ⟨i, he⟩ : ∃ i, ivN b = i := ⟨_, rfl⟩
 rw [he] at hi C1 ⊢
 clear he
 go_enter Tryz.func185, Tryz.ntmps185
 go_wp2_with fail
 refine (C1 _).mono ?_
 rintro e w1 ⟨rfl, B1⟩
 go_wp2_with fail
 refine (jbn a i ha hi _).mono ?_
 rintro e w2 ⟨rfl, B2⟩
 go_wp2_with fail
 go_ret
 exact ⟨rfl, jaa B1 B1.size B2⟩
theorem square_any (x : Nat) (hx : U64 x) (w : World) :
  Calls Tryz.prog 170 #[.int .u64 x] w fun e w' => e = .returned (.int .u64 (sqN x : Nat)) ∧ Below w.heap.size w w' := by
 have C1 := jbn x x hx hx
 have C2 := jbn (muN x x) x (pm_u _ (jbq _ _)) hx
 have C3 := jev (muN (muN x x) x) x (pm_u _ (jbq _ _)) hx
 rw [show adN (muN (muN x x) x) x = sqN x from rfl] at C3
 obtain ⟨y, hy⟩ : ∃ y, sqN x = y := ⟨_, rfl⟩
 rw [hy] at C3 ⊢
 obtain ⟨a, ea⟩ : ∃ a, muN x x = a := ⟨_, rfl⟩
 rw [ea] at C1 C2 C3
 obtain ⟨b, eb⟩ : ∃ b, muN a x = b := ⟨_, rfl⟩
 rw [eb] at C2 C3
 clear hy ea eb
 go_enter Tryz.func170, Tryz.ntmps170
 go_wp2_with fail
 refine (C1 _).mono ?_
 rintro e w1 ⟨rfl, B1⟩
 go_wp2_with fail
 refine (C2 _).mono ?_
 rintro e w2 ⟨rfl, B2⟩
 go_wp2_with fail
 refine (C3 _).mono ?_
 rintro e w3 ⟨rfl, B3⟩
 go_wp2_with fail
 go_ret
 exact ⟨rfl, jaa (jaa B1 B1.size B2) (Nat.le_trans B1.size B2.size) B3⟩
structure Tb (n : Nat) (x : Pt) (W : World) : Prop where
 z : n < W.heap.size
 a : W.cell? ⟨n, 0, none⟩ = some (.int .u64 (x.X : Int))
 b : W.cell? ⟨n, 1, none⟩ = some (.int .u64 (x.Y : Int))
 c : W.cell? ⟨n, 2, none⟩ = some (.bool x.I)
 f : ∀ o, W.frozen? ⟨n, o, none⟩ = false
abbrev put3 (n : Nat) (x : Pt) (W : World) : World := ((W.setCell ⟨n, 0, none⟩ (.int .u64 (x.X : Int))).setCell ⟨n, 1, none⟩ (.int .u64 (x.Y : Int))).setCell ⟨n, 2, none⟩ (.bool x.I)
theorem Tb.new' (W : World) (x : Pt) (t n : Nat) (h : W.heap.size = n) : Tb n x (W.alloc (.cells #[.int .u64 (x.X : Int), .int .u64 (x.Y : Int), .bool x.I] t)) := by subst h; exact ⟨by simp, by simp [go_sem], by simp [go_sem], by simp [go_sem], by simp [go_sem]⟩
theorem Tb.below {n : Nat} {x : Pt} {W W' : World} (h : Tb n x W) (hb : Below W.heap.size W W') : Tb n x W' :=
 ⟨Nat.lt_of_lt_of_le h.z hb.size, (hb.cell (p := ⟨n, 0, none⟩) h.z).trans h.a, (hb.cell (p := ⟨n, 1, none⟩) h.z).trans h.b, (hb.cell (p := ⟨n, 2, none⟩) h.z).trans h.c, fun o => by rw [← h.f o]; simp only [World.frozen?, hb.block _ h.z]⟩
theorem Tb.alloc {n : Nat} {x : Pt} {W : World} (h : Tb n x W) (o : Obj) : Tb n x (W.alloc o) := h.below ((Below.refl _ _).alloc (Nat.le_refl _) _)
theorem Tb.over {n : Nat} {x : Pt} {W : World} (h : Tb n x W) (y : Pt) : Tb n y (put3 n y W) := by
 obtain ⟨z, a, b, c, f⟩ := h
 exact ⟨by simp [go_sem, *], by simp [go_sem, *], by simp [go_sem, *], by simp [go_sem, *], by simp [go_sem, *]⟩
theorem Tb.other {n g : Nat} {x : Pt} {W : World} (h : Tb n x W) (y : Pt) (hg : g ≠ n) : Tb n x (put3 g y W) := by
 obtain ⟨z, a, b, c, f⟩ := h
 have hg' : n ≠ g := fun e => hg e.symm
 exact ⟨by simp [go_sem, *], by simp [go_sem, *], by simp [go_sem, *], by simp [go_sem, *], by simp [go_sem, *]⟩
theorem jah {k g : Nat} {w W : World} (h : Below k w W) (hg : k ≤ g) (y : Pt) : Below k w (put3 g y W) := ((h.setCell (p := ⟨g, 0, none⟩) hg _).setCell (p := ⟨g, 1, none⟩) hg _).setCell (p := ⟨g, 2, none⟩) hg _
theorem jer (p : Pt) (hp : UT p) (w : World) :
  Calls Tryz.prog 171 #[vT p] w fun e w' => e = .returned (vT (ngN p)) ∧ Below w.heap.size w w' := by
 have C1 := jdd 0 p.Y (by unfold U64; omega) hp.2
 unfold ngN
 obtain ⟨y, hy⟩ : ∃ y, sbN 0 p.Y = y := ⟨_, rfl⟩
 rw [hy] at C1 ⊢
 clear hy
 obtain ⟨pX, pY, pI⟩ := p
 simp only at C1 ⊢
 go_enter Tryz.func171, Tryz.ntmps171
 go_wp2_with fail
 refine wpOf (fun V => Below w.heap.size w V ∧ Tb w.heap.size ⟨pX, pY, pI⟩ V ∧ Tb (w.heap.size + 1) oP V) ⟨by go_grown, (Tb.new' w ⟨pX, pY, pI⟩ 72 _ rfl).alloc _, Tb.new' _ oP 72 _ (by simp)⟩ ?_
 rintro V ⟨BV, hA, hO⟩
 have HV : Hid (_ ∧ _) := ⟨BV, hO⟩
 have c1 := jae (w := V) C1
 have k0 := cell_regrown hA.a
 have k1 := cell_regrown hA.b
 have k2 := cell_regrown hA.c
 have lz := hO.z
 clear BV hA hO C1
 refine jar 8 (by kernel_rfl) (by kernel_rfl) ?_
 simp only [List.take_succ_cons, List.take_zero, List.drop_succ_cons, List.drop_zero]
 iterate 4 (quiet_step (fail))
 quiet_step (exact c1 _ _)
 iterate 3 (quiet_step (fail))
 refine wpQuiet_nil ?_
 intro w8 hw8
 have B8 : Below V.heap.size V w8 := by
  obtain ⟨p, rfl⟩ := hw8
  exact below_regrown _ _ _
 obtain ⟨BV, hO⟩ := HV.out
 have O8 := hO.below B8
 have BW := jaa BV (by have := BV.size; omega) B8
 obtain ⟨z, a, b, c, f⟩ := O8
 clear hw8 k0 k1 k2 c1 hO BV
 go_wp2_with fail
 refine bodyPost_ret (v := vT ⟨pX, y, pI⟩) (by simp [results, Tryz.results171, go_sem, *]) rfl ⟨rfl, ?_⟩
 exact jah (y := ⟨pX, y, pI⟩) BW (by omega) 
theorem eqlT (p q : Pt) (W : World) : (binOp .eql 72 (vT p) (vT q)).run Tryz.prog W = .ok (.bool (decide (p = q))) W := by
 obtain ⟨pX, pY, pI⟩ := p
 obtain ⟨qX, qY, qI⟩ := q
 by_cases h1 : pX = qX
 ·by_cases h2 : pY = qY
  ·by_cases h3 : pI = qI
   ·subst h1 h2 h3; simp [go_sem]
   ·subst h1 h2; simp [go_sem, h3]
  ·subst h1
   have h2' : ¬ (pY : Int) = qY := by omega
   simp [go_sem, h2, h2']
 ·have h1' : ¬ (pX : Int) = qX := by omega
  simp [go_sem, h1, h1']
theorem eqlI (p : Pt) (W : World) : (binOp .eql 72 (vT p) (.agg #[.int .u64 0, .int .u64 0, .bool true])).run Tryz.prog W = .ok (.bool (decide (p = iN))) W := eqlT p iN W
theorem slope_any (p q : Pt) (hp : UT p) (hq : UT q) (w : World) :
  Calls Tryz.prog 172 #[vT p, vT q] w fun e w' => e = .returned (.int .u64 (slN p q : Nat)) ∧ Below w.heap.size w w' := by
 have three : U64 3 := by unfold U64; omega
 have one : U64 1 := by unfold U64; omega
 by_cases hE : p = q
 ·have hEq := eqlT p q
  rw [decide_eq_true hE] at hEq
  have eM : slN p q = ovN (adN (muN 3 (muN p.X p.X)) 1) (adN p.Y p.Y) := by unfold slN; rw [if_pos hE]
  rw [eM]
  have C1 := jbn p.X p.X hp.1 hp.1
  have C2 := jbn 3 (muN p.X p.X) three (pm_u _ (jbq _ _))
  have C3 := jev (muN 3 (muN p.X p.X)) 1 (pm_u _ (jbq _ _)) one
  have C4 := jev p.Y p.Y hp.2 hp.2
  have C5 := over_any (adN (muN 3 (muN p.X p.X)) 1) (adN p.Y p.Y) (pm_u _ (ad_lt _ _)) (pm_u _ (ad_lt _ _))
  obtain ⟨r, hr⟩ : ∃ r, ovN (adN (muN 3 (muN p.X p.X)) 1) (adN p.Y p.Y) = r := ⟨_, rfl⟩
  rw [hr] at C5 ⊢
  obtain ⟨a1, h1⟩ : ∃ r, muN p.X p.X = r := ⟨_, rfl⟩
  rw [h1] at C1 C2 C3 C5
  obtain ⟨a2, h2⟩ : ∃ r, muN 3 a1 = r := ⟨_, rfl⟩
  rw [h2] at C2 C3 C5
  obtain ⟨a3, h3⟩ : ∃ r, adN a2 1 = r := ⟨_, rfl⟩
  rw [h3] at C3 C5
  obtain ⟨a4, h4⟩ : ∃ r, adN p.Y p.Y = r := ⟨_, rfl⟩
  rw [h4] at C4 C5
  clear h1 h2 h3 h4 hr eM hE
  obtain ⟨pX, pY, pI⟩ := p
  obtain ⟨qX, qY, qI⟩ := q
  simp only [vT] at hEq C1 C4 ⊢
  go_enter Tryz.func172, Tryz.ntmps172
  go_wp2_with fail
  refine wpOf (fun V => Below w.heap.size w V ∧ Tb w.heap.size ⟨pX, pY, pI⟩ V ∧ Tb (w.heap.size + 1) ⟨qX, qY, qI⟩ V) ⟨by go_grown, (Tb.new' w ⟨pX, pY, pI⟩ 72 _ rfl).alloc _, Tb.new' _ ⟨qX, qY, qI⟩ 72 _ (by simp)⟩ ?_
  rintro V ⟨BV, hA, hB⟩
  have c1 := jae (w := V) C1
  have c2 := jae (w := V) C2
  have c3 := jae (w := V) C3
  have c4 := jae (w := V) C4
  have c5 := jae (w := V) C5
  have k0 := cell_regrown hA.a
  have k1 := cell_regrown hA.b
  have HV : Hid (_ ∧ _) := ⟨BV, BV⟩
  clear hA hB C1 C2 C3 C4 C5 BV hEq
  refine wp_region_quiet_below (by kernel_rfl) (by kernel_rfl) ?_
  iterate 4 (quiet_step (fail))
  quiet_step (exact c1 _ _)
  quiet_step (exact c2 _ _)
  quiet_step (exact c3 _ _)
  iterate 4 (quiet_step (fail))
  quiet_step (exact c4 _ _)
  quiet_step (exact c5 _ _)
  iterate 1 (quiet_step (fail))
  refine wpQuiet_nil ?_
  intro w8 hw8
  have B8 : Below V.heap.size V w8 := by
   obtain ⟨p, rfl⟩ := hw8
   exact below_regrown _ _ _
  have BW := jaa HV.out.1 HV.out.1.size B8
  clear hw8 k0 k1 c1 c2 c3 c4 c5
  go_wp2_with fail
  go_ret
  exact ⟨rfl, BW⟩
 ·have hEq := eqlT p q
  rw [decide_eq_false hE] at hEq
  have eM : slN p q = ovN (sbN q.Y p.Y) (sbN q.X p.X) := by unfold slN; rw [if_neg hE]
  rw [eM]
  have C1 := jdd q.Y p.Y hq.2 hp.2
  have C2 := jdd q.X p.X hq.1 hp.1
  have C3 := over_any (sbN q.Y p.Y) (sbN q.X p.X) (pm_u _ (jde _ _)) (pm_u _ (jde _ _))
  obtain ⟨r, hr⟩ : ∃ r, ovN (sbN q.Y p.Y) (sbN q.X p.X) = r := ⟨_, rfl⟩
  rw [hr] at C3 ⊢
  obtain ⟨a1, h1⟩ : ∃ r, sbN q.Y p.Y = r := ⟨_, rfl⟩
  rw [h1] at C1 C3
  obtain ⟨a2, h2⟩ : ∃ r, sbN q.X p.X = r := ⟨_, rfl⟩
  rw [h2] at C2 C3
  clear h1 h2 hr eM hE
  obtain ⟨pX, pY, pI⟩ := p
  obtain ⟨qX, qY, qI⟩ := q
  simp only [vT] at hEq C1 C2 ⊢
  go_enter Tryz.func172, Tryz.ntmps172
  go_wp2_with fail
  refine wpOf (fun V => Below w.heap.size w V ∧ Tb w.heap.size ⟨pX, pY, pI⟩ V ∧ Tb (w.heap.size + 1) ⟨qX, qY, qI⟩ V) ⟨by go_grown, (Tb.new' w ⟨pX, pY, pI⟩ 72 _ rfl).alloc _, Tb.new' _ ⟨qX, qY, qI⟩ 72 _ (by simp)⟩ ?_
  rintro V ⟨BV, hA, hB⟩
  have c1 := jae (w := V) C1
  have c2 := jae (w := V) C2
  have c3 := jae (w := V) C3
  have k0 := cell_regrown hA.a
  have k1 := cell_regrown hA.b
  have k2 := cell_regrown hB.a
  have k3 := cell_regrown hB.b
  have HV : Hid (_ ∧ _) := ⟨BV, BV⟩
  clear hA hB C1 C2 C3 BV hEq
  refine wp_region_quiet_below (by kernel_rfl) (by kernel_rfl) ?_
  iterate 4 (quiet_step (fail))
  quiet_step (exact c1 _ _)
  iterate 4 (quiet_step (fail))
  quiet_step (exact c2 _ _)
  quiet_step (exact c3 _ _)
  iterate 1 (quiet_step (fail))
  refine wpQuiet_nil ?_
  intro w8 hw8
  have B8 : Below V.heap.size V w8 := by
   obtain ⟨p, rfl⟩ := hw8
   exact below_regrown _ _ _
  have BW := jaa HV.out.1 HV.out.1.size B8
  clear hw8 k0 k1 k2 k3 c1 c2 c3
  go_wp2_with fail
  go_ret
  exact ⟨rfl, BW⟩
theorem sum_any (p q : Pt) (hp : Wl p) (hq : Wl q) (w : World) (hL : Li w) :
  Calls Tryz.prog 155 #[vT p, vT q] w fun e w' => e = .returned (vT (smN p q)) ∧ Below w.heap.size w w' := by
 have lq := (hL).ne
 have ⟨lz, la, lb, lc, lo⟩ := hL
 have hE1 := eqlI p
 by_cases e1 : p = iN
 ·rw [decide_eq_true e1] at hE1
  rw [e1, jcd]
  rw [e1] at hE1
  obtain ⟨qX, qY, qI⟩ := q
  simp only [vT, iN] at hE1 ⊢
  go_enter Tryz.func155, Tryz.ntmps155
  go_wp2_with fail
  refine bodyPost_ret (v := vT ⟨qX, qY, qI⟩) (by simp [results, Tryz.results155, go_sem, *]) rfl ⟨rfl, by go_grown⟩
 rw [decide_eq_false e1] at hE1
 have hE2 := eqlI q
 by_cases e2 : q = iN
 ·rw [decide_eq_true e2] at hE2
  rw [e2, jdz]
  rw [e2] at hE2
  obtain ⟨pX, pY, pI⟩ := p
  simp only [vT, iN] at hE1 hE2 ⊢
  go_enter Tryz.func155, Tryz.ntmps155
  go_wp2_with fail
  refine bodyPost_ret (v := vT ⟨pX, pY, pI⟩) (by simp [results, Tryz.results155, go_sem, *]) rfl ⟨rfl, by go_grown⟩
 rw [decide_eq_false e2] at hE2
 have hE3 := eqlT q (ngN p)
 have CN := jer p (wl_u hp)
 have eM : smN p q = if q = ngN p then iN else lnN (slN p q) p q := by unfold smN; rw [if_neg e1, if_neg e2]
 by_cases e3 : q = ngN p
 ·rw [decide_eq_true e3] at hE3
  rw [eM, if_pos e3]
  obtain ⟨n, hn⟩ : ∃ n, ngN p = n := ⟨_, rfl⟩
  rw [hn] at CN hE3
  clear hn eM e3 e2 e1
  obtain ⟨nX, nY, nI⟩ := n
  obtain ⟨pX, pY, pI⟩ := p
  obtain ⟨qX, qY, qI⟩ := q
  simp only [vT] at hE1 hE2 hE3 CN ⊢
  go_enter Tryz.func155, Tryz.ntmps155
  go_wp2_with fail
  refine wpOf (fun V => Below w.heap.size w V ∧ Tb w.heap.size ⟨pX, pY, pI⟩ V ∧ Tb (w.heap.size + 1) ⟨qX, qY, qI⟩ V ∧ Tb (w.heap.size + 1 + 1) oP V) ⟨by go_grown, ((Tb.new' w ⟨pX, pY, pI⟩ 72 _ rfl).alloc _).alloc _, (Tb.new' _ ⟨qX, qY, qI⟩ 72 _ (by simp)).alloc _, Tb.new' _ oP 72 _ (by simp)⟩ ?_
  rintro V ⟨BV, hA, hB, hO⟩
  have c1 := jae (w := V) CN
  have k0 := cell_regrown hA.a
  have k1 := cell_regrown hA.b
  have k2 := cell_regrown hA.c
  have k3 := cell_regrown hB.a
  have k4 := cell_regrown hB.b
  have k5 := cell_regrown hB.c
  have HV : Hid (_ ∧ _ ∧ _) := ⟨BV, hO, hL.below (BV.mono (Nat.le_refl _))⟩
  clear hA hB hO CN BV hE1 hE2 lq la lb lc lz
  refine wp_region_quiet_below (by kernel_rfl) (by kernel_rfl) ?_
  iterate 2 (quiet_step (fail))
  quiet_step (exact c1 _ _)
  iterate 2 (quiet_step (fail))
  refine wpQuiet_nil ?_
  intro w8 hw8
  have B8 : Below V.heap.size V w8 := by
   obtain ⟨p, rfl⟩ := hw8
   exact below_regrown _ _ _
  obtain ⟨BV, hO, hLV⟩ := HV.out
  have BW := jaa BV BV.size B8
  obtain ⟨z, a, b, c, f⟩ := hO.below B8
  have lq := (hLV.below B8).ne
  obtain ⟨lz, la, lb, lc, lo⟩ := hLV.below B8
  clear hw8 k0 k1 k2 k3 k4 k5 c1 hO hLV BV
  go_wp2_with fail
  refine bodyPost_ret (v := vT iN) (by simp [results, Tryz.results155, go_sem, iN, *]) rfl ⟨rfl, ?_⟩
  exact jah (y := iN) BW (by omega)
 rw [decide_eq_false e3] at hE3
 rw [eM, if_neg e3]
 have CS := slope_any p q (wl_u hp) (wl_u hq)
 have hl := sl_lt p q
 obtain ⟨l, hl'⟩ : ∃ l, slN p q = l := ⟨_, rfl⟩
 rw [hl'] at CS hl ⊢
 have ul := pm_u _ hl
 have C1 := jbn l l ul ul
 have C2 := jdd (muN l l) p.X (pm_u _ (jbq _ _)) (wl_u hp).1
 have C3 := jdd (sbN (muN l l) p.X) q.X (pm_u _ (jde _ _)) (wl_u hq).1
 have eX : lnX l p q = sbN (sbN (muN l l) p.X) q.X := rfl
 obtain ⟨x, hx⟩ : ∃ x, lnX l p q = x := ⟨_, rfl⟩
 have xl : x < PM := by rw [← hx]; exact jde _ _
 have eL : lnN l p q = ⟨x, lnY l x p, false⟩ := by unfold lnN; rw [hx]
 rw [← eX, hx] at C3
 have C4 := jdd p.X x (wl_u hp).1 (pm_u _ xl)
 have C5 := jbn l (sbN p.X x) ul (pm_u _ (jde _ _))
 have C6 := jdd (muN l (sbN p.X x)) p.Y (pm_u _ (jbq _ _)) (wl_u hp).2
 have eY : lnY l x p = sbN (muN l (sbN p.X x)) p.Y := rfl
 obtain ⟨y, hy⟩ : ∃ y, lnY l x p = y := ⟨_, rfl⟩
 rw [hy] at eL eY
 rw [← eY] at C6
 rw [eL]
 obtain ⟨n, hn⟩ : ∃ n, ngN p = n := ⟨_, rfl⟩
 rw [hn] at CN hE3
 obtain ⟨a1, h1⟩ : ∃ r, muN l l = r := ⟨_, rfl⟩
 rw [h1] at C1 C2 C3
 obtain ⟨a2, h2⟩ : ∃ r, sbN a1 p.X = r := ⟨_, rfl⟩
 rw [h2] at C2 C3
 obtain ⟨a3, h3⟩ : ∃ r, sbN p.X x = r := ⟨_, rfl⟩
 rw [h3] at C4 C5 C6
 obtain ⟨a4, h4⟩ : ∃ r, muN l a3 = r := ⟨_, rfl⟩
 rw [h4] at C5 C6
 clear hn eM e3 e2 e1 h1 h2 h3 h4 hl' eX hx eL eY hy
 obtain ⟨nX, nY, nI⟩ := n
 obtain ⟨pX, pY, pI⟩ := p
 obtain ⟨qX, qY, qI⟩ := q
 simp only [vT] at hE1 hE2 hE3 CN CS C2 C3 C4 C6 ⊢
 go_enter Tryz.func155, Tryz.ntmps155
 go_wp2_with fail
 refine wpOf (fun V => Below w.heap.size w V ∧ Tb w.heap.size ⟨pX, pY, pI⟩ V ∧ Tb (w.heap.size + 1) ⟨qX, qY, qI⟩ V ∧ Tb (w.heap.size + 1 + 1) oP V) ⟨by go_grown, ((Tb.new' w ⟨pX, pY, pI⟩ 72 _ rfl).alloc _).alloc _, (Tb.new' _ ⟨qX, qY, qI⟩ 72 _ (by simp)).alloc _, Tb.new' _ oP 72 _ (by simp)⟩ ?_
 rintro V ⟨BV, hA, hB, hO⟩
 have c1 := jae (w := V) CN
 have k0 := cell_regrown hA.a
 have k1 := cell_regrown hA.b
 have k2 := cell_regrown hA.c
 have k3 := cell_regrown hB.a
 have k4 := cell_regrown hB.b
 have k5 := cell_regrown hB.c
 have HV : Hid (_ ∧ _ ∧ _ ∧ _) := ⟨BV, hA, hB, hO⟩
 clear hA hB hO CN BV hE1 hE2 lq la lb lc lz hL
 refine wp_region_quiet_below (by kernel_rfl) (by kernel_rfl) ?_
 iterate 2 (quiet_step (fail))
 quiet_step (exact c1 _ _)
 iterate 2 (quiet_step (fail))
 refine wpQuiet_nil ?_
 intro w8 hw8
 have B8 : Below V.heap.size V w8 := by
  obtain ⟨p, rfl⟩ := hw8
  exact below_regrown _ _ _
 obtain ⟨BV, hA, hB, hO⟩ := HV.out
 have BW := jaa BV BV.size B8
 have A8 := hA.below B8
 have D8 := hB.below B8
 have O8 := hO.below B8
 clear hw8 k0 k1 k2 k3 k4 k5 c1 B8 HV hE3 BV hA hB hO V
 have ⟨az, aa, ab, ac, af⟩ := A8
 have ⟨bz, ba, bb, bc, bf⟩ := D8
 have HV : Hid (_ ∧ _ ∧ _ ∧ _) := ⟨BW, A8, D8, O8⟩
 clear BW A8 D8 O8
 go_wp2_with fail
 refine (CS _).mono ?_
 rintro e w9 ⟨rfl, B9⟩
 obtain ⟨BW, A8, D8, O8⟩ := HV.out
 have BW9 := jaa BW BW.size B9
 have A9 := A8.below B9
 have D9 := D8.below B9
 have O9 := O8.below B9
 clear HV BW A8 D8 O8 B9 az aa ab ac af bz ba bb bc bf
 have ⟨az, aa, ab, ac, af⟩ := A9
 have ⟨bz, ba, bb, bc, bf⟩ := D9
 have HV : Hid (_ ∧ _ ∧ _ ∧ _) := ⟨BW9, A9, D9, O9⟩
 have c1 := jae (w := w9) C1
 have c2 := jae (w := w9) C2
 have c3 := jae (w := w9) C3
 have k0 := cell_regrown A9.a
 have k3 := cell_regrown D9.a
 clear BW9 A9 D9 O9
 go_wp2_with fail
 refine wp_region_quiet_below (by kernel_rfl) (by kernel_rfl) ?_
 iterate 2 (quiet_step (fail))
 quiet_step (exact c1 _ _)
 iterate 2 (quiet_step (fail))
 quiet_step (exact c2 _ _)
 iterate 2 (quiet_step (fail))
 quiet_step (exact c3 _ _)
 iterate 1 (quiet_step (fail))
 refine wpQuiet_nil ?_
 intro v8 hv8
 have B8 : Below w9.heap.size w9 v8 := by
  obtain ⟨p, rfl⟩ := hv8
  exact below_regrown _ _ _
 obtain ⟨BW, A9, D9, O9⟩ := HV.out
 have BW8 := jaa BW BW.size B8
 have A8 := A9.below B8
 have O8 := O9.below B8
 clear HV BW A9 D9 O9 B8 az aa ab ac af bz ba bb bc bf c1 c2 c3 k0 k3 hv8
 have HV : Hid (_ ∧ _) := ⟨BW8, O8⟩
 have c4 := jae (w := v8) C4
 have c5 := jae (w := v8) C5
 have c6 := jae (w := v8) C6
 have k0 := cell_regrown A8.a
 have k1 := cell_regrown A8.b
 clear BW8 A8 O8 C1 C2 C3 C4 C5 C6 CS
 go_wp2_with fail
 refine jar 11 (by kernel_rfl) (by kernel_rfl) ?_
 simp only [List.take_succ_cons, List.take_zero, List.drop_succ_cons, List.drop_zero]
 iterate 5 (quiet_step (fail))
 quiet_step (exact c4 _ _)
 quiet_step (exact c5 _ _)
 iterate 2 (quiet_step (fail))
 quiet_step (exact c6 _ _)
 iterate 1 (quiet_step (fail))
 refine wpQuiet_nil ?_
 intro u8 hu8
 have B8 : Below v8.heap.size v8 u8 := by
  obtain ⟨p, rfl⟩ := hu8
  exact below_regrown _ _ _
 obtain ⟨BW, O9⟩ := HV.out
 have BW8 := jaa BW BW.size B8
 obtain ⟨z, a, b, c, f⟩ := O9.below B8
 clear hu8 k0 k1 c4 c5 c6 HV O9 BW B8
 go_wp2_with fail
 refine bodyPost_ret (v := vT ⟨x, y, false⟩) (by simp [results, Tryz.results155, go_sem, *]) rfl ⟨rfl, ?_⟩
 exact jah (y := ⟨x, y, false⟩) BW8 (by omega)
end Go.Proofs.YtoddangedbefgabGreatDoor
