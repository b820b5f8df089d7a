/- Lemmas: What the program's Mul2, digits do. No condition. What the program's Pow does. No condition. What the program's Inv, Root do. No condition. -/
import Derived.Test.YtgefjmpnpebfoaaGreatDoorM1
import Derived.Test.YtgefjmpnpebfoaaGreatDoorM2
import Derived.Test.YtgefjmpnpebfoaaGreatDoorM3
import Derived.Test.YtgefjmpnpebfoaaGreatDoorM6
import Derived.Test.YtgefjmpnpebfoaaGreatDoorM7
import Derived.Test.YtgefjmpnpebfoaaGreatDoorM8
import Derived.Test.YtgefjmpnpebfoaaGreatDoorRows
import Derived.Lib.Builder
import Derived.LoopIn
import Derived.LoopNIn
import Derived.OwnWalkIn
import Derived.RangeFuncBound
import Derived.RangeFuncCalls
import Derived.RangeFuncLeaves
import Derived.RangeFuncNested
import Derived.Shelf.Abstract
import Derived.TacticsInMore
namespace Go.Proofs.YtgefjmpnpebfoaaGreatDoor
open Go.RowKit Go.Shelf Go.Sort

set_option maxRecDepth 20000 in
set_option maxHeartbeats 4000000 in
theorem mul2_any (a b : P2) (ha : UP a) (hb : UP b) (w : World) :
    Calls Tryz.prog 112 #[vP a, vP b] w fun e w' => e = .returned (vP (m2 a b)) ∧ Below w.heap.size w w' := by
  obtain ⟨p1, e1⟩ : ∃ x, muN a.A b.A = x := ⟨_, rfl⟩
  obtain ⟨p2, e2⟩ : ∃ x, muN a.B b.B = x := ⟨_, rfl⟩
  obtain ⟨p3, e3⟩ : ∃ x, muN a.A b.B = x := ⟨_, rfl⟩
  obtain ⟨p4, e4⟩ : ∃ x, muN a.B b.A = x := ⟨_, rfl⟩
  have u1 : U64 p1 := by rw [← e1]; exact pm_u _ (mu_lt _ _)
  have u2 : U64 p2 := by rw [← e2]; exact pm_u _ (mu_lt _ _)
  have u3 : U64 p3 := by rw [← e3]; exact pm_u _ (mu_lt _ _)
  have u4 : U64 p4 := by rw [← e4]; exact pm_u _ (mu_lt _ _)
  have eM : m2 a b = ⟨sbN p1 p2, adN p3 p4⟩ := by unfold m2; rw [e1, e2, e3, e4]
  rw [eM]
  have C1 := mul_any a.A b.A ha.1 hb.1
  have C2 := mul_any a.B b.B ha.2 hb.2
  have C3 := mul_any a.A b.B ha.1 hb.2
  have C4 := mul_any a.B b.A ha.2 hb.1
  rw [e1] at C1
  rw [e2] at C2
  rw [e3] at C3
  rw [e4] at C4
  have C5 := sub_any p1 p2 u1 u2
  have C6 := add_any p3 p4 u3 u4
  obtain ⟨s1, hs1⟩ : ∃ x, sbN p1 p2 = x := ⟨_, rfl⟩
  obtain ⟨s2, hs2⟩ : ∃ x, adN p3 p4 = x := ⟨_, rfl⟩
  rw [hs1] at C5 ⊢
  rw [hs2] at C6 ⊢
  clear e1 e2 e3 e4 eM hs1 hs2
  obtain ⟨aA, aB⟩ := a
  obtain ⟨bA, bB⟩ := b
  simp only at C1 C2 C3 C4
  go_enter Tryz.func112, Tryz.ntmps112
  go_wp2_with fail
  refine wpOf (fun V => Below w.heap.size w V ∧ w.heap.size + 2 < V.heap.size ∧ (∀ o, V.frozen? ⟨w.heap.size + 1 + 1, o, none⟩ = false) ∧ V.cell? ⟨w.heap.size + 1 + 1, 0, none⟩ = some (.int .u64 0) ∧ V.cell? ⟨w.heap.size + 1 + 1, 1, none⟩ = some (.int .u64 0) ∧ V.cell? ⟨w.heap.size, 0, none⟩ = some (.int .u64 aA) ∧ V.cell? ⟨w.heap.size, 1, none⟩ = some (.int .u64 aB) ∧ V.cell? ⟨w.heap.size + 1, 0, none⟩ = some (.int .u64 bA) ∧ V.cell? ⟨w.heap.size + 1, 1, none⟩ = some (.int .u64 bB)) ⟨by go_grown, by simp [go_sem], by simp [go_sem], by simp [go_sem], by simp [go_sem], by simp [go_sem], by simp [go_sem], by simp [go_sem], by simp [go_sem]⟩ ?_
  rintro V ⟨BV, hz, hf, z0, z1, a0, a1, b0, b1⟩
  have BZ : Hid (_ ∧ _ ∧ _) := ⟨BV, hz, hf⟩
  have c1 := inClass (w := V) C1
  have c2 := inClass (w := V) C2
  have c3 := inClass (w := V) C3
  have c4 := inClass (w := V) C4
  have c5 := inClass (w := V) C5
  have c6 := inClass (w := V) C6
  have k0 := cell_regrown a0
  have k1 := cell_regrown a1
  have k2 := cell_regrown b0
  have k3 := cell_regrown b1
  have lz0 := block_lt_of_cell z0
  have ZZ : Hid (_ ∧ _) := ⟨z0, z1⟩
  clear a0 a1 b0 b1 z0 z1 C1 C2 C3 C4 C5 C6 BV hz hf
  refine region_tail 23 (by kernel_rfl) (by kernel_rfl) ?_
  simp only [List.take_succ_cons, List.take_zero, List.drop_succ_cons, List.drop_zero]
  iterate 4 (quiet_step (fail))
  quiet_step (exact c1 _ _)
  iterate 4 (quiet_step (fail))
  quiet_step (exact c2 _ _)
  quiet_step (exact c5 _ _)
  iterate 4 (quiet_step (fail))
  quiet_step (exact c3 _ _)
  iterate 4 (quiet_step (fail))
  quiet_step (exact c4 _ _)
  quiet_step (exact c6 _ _)
  quiet_step (fail)
  refine wpQuiet_nil ?_
  intro w8 hw8
  have B8 : Below V.heap.size V w8 := by
    obtain ⟨p, rfl⟩ := hw8
    exact below_regrown _ _ _
  have d0 := (B8.cell (p := ⟨w.heap.size + 1 + 1, 0, none⟩) lz0).trans ZZ.out.1
  have d1 := (B8.cell (p := ⟨w.heap.size + 1 + 1, 1, none⟩) lz0).trans ZZ.out.2
  have df : ∀ o, w8.frozen? ⟨w.heap.size + 1 + 1, o, none⟩ = false := fun o => by
    rw [← BZ.out.2.2 o]
    simp only [World.frozen?, B8.block _ lz0]
  have BW := belowStep BZ.out.1 (by have := BZ.out.1.size; omega) B8
  clear hw8 k0 k1 k2 k3 c1 c2 c3 c4 c5 c6
  go_wp2_with fail
  refine bodyPost_ret (v := vP ⟨s1, s2⟩) (by simp [results, Tryz.results112, go_sem, *]) rfl ⟨rfl, ?_⟩
  exact (BW.setCell (p := ⟨w.heap.size + 1 + 1, 0, none⟩) (by show _ ≤ w.heap.size + 1 + 1; omega) _).setCell (p := ⟨w.heap.size + 1 + 1, 1, none⟩) (by show _ ≤ w.heap.size + 1 + 1; omega) _

set_option maxHeartbeats 1000000 in
theorem digits_any (n : Nat) (w : World) :
    Calls Tryz.prog 104 #[.int .u64 n] w fun e w' => e = .returned (.func (.func 116) #[] #[.pointer (some ⟨w.heap.size, 0, none⟩)]) ∧ w' = w.alloc (.cells #[.int .u64 n] 23) := by
  go_enter Tryz.func104, Tryz.ntmps104
  go_wp2
  go_ret
  exact ⟨rfl, rfl⟩
attribute [local go_sem] Oper.semAt_some

/-- A variable in a box of its own. -/
def Bq (b : Nat) (T : TypeId) (cs : Array Value) (W : World) : Prop := W.heap[b]? = some (.cells cs T (0, 0))
theorem Bq.cell {b : Nat} {T : TypeId} {cs : Array Value} {W : World} (h : Bq b T cs W) (j : Nat) : W.cell? ⟨b, j, none⟩ = cs[j]? := Lib.cell_of_heap h j
theorem Bq.fr {b : Nat} {T : TypeId} {cs : Array Value} {W : World} (h : Bq b T cs W) (o : Nat) : W.frozen? ⟨b, o, none⟩ = false := Lib.frozen_of_heap h o
theorem Bq.lt {b : Nat} {T : TypeId} {cs : Array Value} {W : World} (h : Bq b T cs W) : b < W.heap.size := (Array.getElem?_eq_some_iff.1 h).1
theorem Bq.below {b : Nat} {T : TypeId} {cs : Array Value} {W W' : World} (h : Bq b T cs W) (hb : Below W.heap.size W W') : Bq b T cs W' := (hb.block b h.lt).trans h
theorem Bq.put {b : Nat} {T : TypeId} {v : Value} {W : World} (h : Bq b T #[v] W) (u : Value) : Bq b T #[u] (W.setCell ⟨b, 0, none⟩ u) := by
  have h' : W.heap[b]? = _ := h
  show (W.setCell ⟨b, 0, none⟩ u).heap[b]? = _
  simp [World.setCell, Array.getElem?_modify, h']
theorem Bq.put2 {b : Nat} {T : TypeId} {v0 v1 : Value} {W : World} (h : Bq b T #[v0, v1] W) (u0 u1 : Value) : Bq b T #[u0, u1] ((W.setCell ⟨b, 0, none⟩ u0).setCell ⟨b, 1, none⟩ u1) := by
  have h' : W.heap[b]? = _ := h
  show ((W.setCell ⟨b, 0, none⟩ u0).setCell ⟨b, 1, none⟩ u1).heap[b]? = _
  simp [World.setCell, Array.getElem?_modify, h']
theorem Bq.other {b k : Nat} {T : TypeId} {cs : Array Value} {W : World} (h : Bq b T cs W) (hk : b ≠ k) (o : Nat) (u : Value) : Bq b T cs (W.setCell ⟨k, o, none⟩ u) := (Below.heap_setCell _ _ _ _ hk).trans h
theorem Bq.own {b : Nat} {T : TypeId} {cs : Array Value} {A C : World} {row : Option Nat} (h : Bq b T cs A) (hg : A.grownBy C row) (hr : ∀ r, row = some r → ∃ o : Obj, A.heap[r]? = some o ∧ o.isCells = false) : Bq b T cs C := by
  refine (hg.block b h.lt (fun e => ?_)).trans h
  obtain ⟨o, ho, hc⟩ := hr b e.symm
  rw [show A.heap[b]? = _ from h] at ho
  cases ho
  cases hc
theorem ko_set (W : World) (p : Addr) (u : Value) (B : Nat) : KeepsFrom B W (W.setCell p u) := (KeepsOthers.setCell W p u).from B
theorem ko_below {W W' : World} (h : Below W.heap.size W W') : KeepsOthers W W' :=
  ⟨h.size, fun k o hk _ => by rw [h.block k (Array.getElem?_eq_some_iff.1 hk).1]; exact hk⟩
/-- A number in its box. -/
abbrev NumIn (bX n : Nat) (W : World) : Prop := Bq bX 23 #[.int .u64 (n : Int)] W
def NumK (bX n : Nat) (W W' : World) : Prop := NumIn bX n W → NumIn bX n W'
theorem grown_of {W W' : World} (h : Below W.heap.size W W') : W.grownBy W' none := ⟨h.os, h.tape, h.output, h.size, fun k hk _ => h.block k hk⟩
theorem NumK.of_below {bX n : Nat} {W W' : World} (h : Below W.heap.size W W') : NumK bX n W W' := fun hc => hc.below h
theorem NumK.trans {bX n : Nat} {W W' V : World} (h : NumK bX n W W') (g : NumK bX n W' V) : NumK bX n W V := fun hc => g (h hc)
theorem room_of_none' {FN : Fence} (hd : FN.depth = none) (k : Nat) : FN.room k := fun d h => by rw [hd] at h; cases h
theorem yieldAny {m : Nat} (m' : Nat) {P : Program} {l : Nat} {args : Array Value} {W : World} {R : Ending → World → Prop} (h : YieldAt Fence.wide m P l args W R) : YieldAt Fence.wide m' P l args W R := by
  obtain ⟨fn, tmps, assign, body, hy, hR⟩ := h
  exact ⟨fn, tmps, assign, body, hy, hR.1, fun c cs _ => hR.2 c cs (room_of_none' rfl _)⟩
/-- The bits of a number, from the highest of so many. -/
def bitAt (n L j : Nat) : Bool := n / 2 ^ (L - 1 - j) % 2 == 1
def bitsTo (n L q : Nat) : List Bool := (List.range q).map (bitAt n L)
theorem bits_succ (n L q : Nat) : bitsTo n L (q + 1) = bitsTo n L q ++ [bitAt n L q] := by unfold bitsTo; rw [List.range_succ, List.map_append]; rfl
theorem bits_len (n L q : Nat) : (bitsTo n L q).length = q := by unfold bitsTo; rw [List.length_map, List.length_range]
def dEnc (b : Bool) : Array Value := #[.bool b]

set_option maxRecDepth 100000 in
set_option maxHeartbeats 2000000 in
theorem digits1_in (n l bX : Nat) (t : Nat) (ht : U64 t) (J Jx : List Bool → World → Prop) (B : Nat) (hJ : AbidesFrom B J)
    (hY : ∀ m pre x W, J pre W → pre.length < 64 → YieldAt Fence.wide m Tryz.prog l (dEnc x) W fun e W' =>
      (e = .returned (.bool true) ∧ J (pre ++ [x]) W' ∧ NumK bX t W W') ∨ (e = .returned (.bool false) ∧ Jx (pre ++ [x]) W'))
    (W : World) (hc : NumIn bX t W) (h0 : J [] W) :
    CallsIn Fence.wide n Tryz.prog 116 #[.func (.yield l) #[] #[], .pointer (some ⟨bX, 0, none⟩)] W fun e W' => (∃ v, e = .returned v) ∧
      ((∃ L, t < 2 ^ L ∧ J (bitsTo t L L) W') ∨ (∃ L q, t < 2 ^ L ∧ q ≤ L ∧ Jx (bitsTo t L q) W')) := by
  have hc0 : W.cell? ⟨bX, 0, none⟩ = some (.int .u64 (t : Int)) := hc.cell 0
  refine callsIn_of_wp Tryz.func116 rfl trivial ?_ rfl
  simp only [Tryz.ntmps116, List.size_toArray, List.length_cons, List.length_nil, Nat.reduceAdd, Nat.reduceSub, Array.replicate_succ, Array.replicate_zero, List.push_toArray, List.append_toArray, List.nil_append, List.cons_append]
  gi_wp2_with fail
  refine ⟨trivial, fun h => (by cases h), (callsIn_wide.2 (len64_any t ht W)).mono ?_⟩
  rintro e W1 ⟨⟨L, rfl, hL, hlt⟩, B1⟩
  have J1 := hJ _ _ _ none h0 (grown_of B1) (fun r h => by cases h)
  have C1 := hc.below B1
  have wL : IntKind.i64.wrap ((L : Int) - 1) = (L : Int) - 1 := by rw [IntKind.wrap_i64]; omega
  clear hc0 h0 hc B1
  gi_wp2_with fail
  gi_loopw [3] (fun i wr => ∃ q : Nat, q ≤ L ∧ i = .int .i64 ((L : Int) - 1 - q) ∧ J (bitsTo t L q) wr ∧ NumIn bX t wr)
    (fun i _ => ((intOf i) + 1).toNat)
  case atStart => exact ⟨0, by omega, by simp, J1, C1⟩
  case round =>
    clear J1 C1
    obtain ⟨q, hq, rfl, hJs, hkt⟩ := hrel
    have hc1 : wr.cell? ⟨bX, 0, none⟩ = some (.int .u64 (t : Int)) := hkt.cell 0
    by_cases hlq : q < L
    · obtain ⟨p, hp⟩ : ∃ p, L - 1 - q = p := ⟨_, rfl⟩
      have hpi : (L : Int) - 1 - q = (p : Int) := by omega
      obtain ⟨y, hy⟩ : ∃ y, t / 2 ^ p = y := ⟨_, rfl⟩
      have hyU : U64 y := by rw [← hy]; exact Nat.lt_of_le_of_lt (Nat.div_le_self _ _) ht
      have hd : (t : Int) / 2 ^ p = y := by rw [← hy]; simp [Int.natCast_ediv, Int.natCast_pow]
      have ha1 := and_one y hyU
      have hbt : bitAt t L q = (y % 2 == 1) := by unfold bitAt; rw [hp, hy]
      obtain ⟨b, hb⟩ : ∃ b, bitAt t L q = b := ⟨_, rfl⟩
      have hbe : ((y : Int) % 2 == 1) = b := by
        rw [← hb, hbt, show (y : Int) % 2 = ((y % 2 : Nat) : Int) by omega]
        rcases Nat.mod_two_eq_zero_or_one y with h | h <;> rw [h] <;> rfl
      rw [show ((y % 2 : Nat) : Int) = (y : Int) % 2 by omega] at ha1
      obtain ⟨fn, tmps, assign, body, hyy, hR⟩ := hY (n - 1) _ b wr hJs (by rw [bits_len]; omega)
      unfold dEnc at hyy
      have HH : Hid (_ ∧ _) := ⟨hkt, hb⟩
      have wp1 : IntKind.i64.wrap ((p : Int) - 1) = (p : Int) - 1 := by rw [IntKind.wrap_i64]; omega
      rw [hpi]
      clear hkt hb hJs hbt hy
      gi_wp2
      refine ⟨fun h => (by cases h), hR.mono ?_⟩
      rintro e W3 (⟨rfl, hJ3, hk3⟩ | ⟨rfl, hJx3⟩)
      · gi_wp2
        go_roundw
        case rel => exact ⟨q + 1, by omega, by congr 1; omega, by rw [bits_succ, HH.out.2]; exact hJ3, hk3 HH.out.1⟩
        case measure => simp [intOf]
      · gi_wp2
        exact bodyPost_ret (v := .tuple #[]) (by simp [results, Tryz.results116, go_sem]) rfl ⟨⟨_, rfl⟩, .inr ⟨L, q + 1, hlt, by omega, by rw [bits_succ, HH.out.2]; exact hJx3⟩⟩
    · obtain rfl : q = L := by omega
      rw [show (q : Int) - 1 - q = -1 by omega]
      gi_wp2
      go_end0
      exact ⟨⟨_, rfl⟩, .inl ⟨q, hlt, hJs⟩⟩

theorem digits_stops (n bX : Nat) (t : Nat) (ht : U64 t) (w : World) (hc : NumIn bX t w) :
    SeqStopsK Fence.wide n Tryz.prog 116 #[.pointer (some ⟨bX, 0, none⟩)] dEnc (NumK bX t) (fun ys => ∃ L, t < 2 ^ L ∧ ys = bitsTo t L L) (fun ys => ∃ L q, t < 2 ^ L ∧ q ≤ L ∧ ys = bitsTo t L q) 64 w := fun l J Jx W hW hJ _ hY h0 => by
  refine (digits1_in n l bX t ht J Jx W.heap.size hJ (fun m pre x W1 hj hl => yieldAny m (hY pre x W1 hj hl)) W (hc.below hW) h0).mono ?_
  rintro e W' ⟨he, ⟨L, hL, hj⟩ | ⟨L, q, hL, hq, hj⟩⟩
  · exact ⟨he, .inl ⟨_, ⟨L, hL, rfl⟩, hj⟩⟩
  · exact ⟨he, .inr ⟨_, ⟨L, q, hL, hq, rfl⟩, hj⟩⟩

/-- A power behind bits. -/
def stP (a : Nat) (l : List Bool) : Nat := l.foldl (fun p b => if b then muN (muN p p) a else muN p p) 1
theorem stP_snoc (a : Nat) (l : List Bool) (b : Bool) : stP a (l ++ [b]) = if b then muN (muN (stP a l) (stP a l)) a else muN (stP a l) (stP a l) := by unfold stP; rw [List.foldl_append]; rfl
theorem stP_bits (a n L : Nat) (h : n < 2 ^ L) : ∀ q, q ≤ L → stP a (bitsTo n L q) = pwN a (n / 2 ^ (L - q))
  | 0, _ => by
    rw [Nat.sub_zero, Nat.div_eq_of_lt h, pw_0]
    rfl
  | q + 1, hq => by
    rw [bits_succ, stP_snoc, stP_bits a n L h q (by omega)]
    have := pw_step a n (L - (q + 1))
    rw [show L - (q + 1) + 1 = L - q by omega] at this
    rw [this]
    unfold bitAt
    rw [show L - 1 - q = L - (q + 1) by omega]
    simp only [beq_iff_eq]
theorem stP_lt (a : Nat) (l : List Bool) : stP a l < PM := by
  rcases List.eq_nil_or_concat l with rfl | ⟨l', b, rfl⟩
  · show 1 < PM; decide
  · rw [List.concat_eq_append, stP_snoc]
    split
    · exact mu_lt _ _
    · exact mu_lt _ _
theorem pw_stays (a n : Nat) : ∀ k, pwN a (n / 2 ^ k) = 0 → pwN a n = 0
  | 0, h => by rw [Nat.pow_zero, Nat.div_one] at h; exact h
  | k + 1, h => by
    refine pw_stays a n k ?_
    rw [pw_step, h, mu_zero, mu_zero]
    simp
theorem stP_all (a n L : Nat) (h : n < 2 ^ L) : stP a (bitsTo n L L) = pwN a n := by rw [stP_bits a n L h L (Nat.le_refl _), Nat.sub_self, Nat.pow_zero, Nat.div_one]
theorem stP_dead (a n L q : Nat) (h : n < 2 ^ L) (hq : q ≤ L) (h0 : stP a (bitsTo n L q) = 0) : pwN a n = 0 := pw_stays a n (L - q) (by rw [← stP_bits a n L h q hq]; exact h0)
end Go.Proofs.YtgefjmpnpebfoaaGreatDoor
namespace Go.Proofs.YtgefjmpnpebfoaaGreatDoor
open Go.RowKit Go.Shelf Go.Sort
attribute [local go_sem] Oper.semAt_some

theorem alloc_two (w : World) (o1 o2 : Obj) : ((w.alloc o1).alloc o2).heap[w.heap.size]? = some o1 ∧ ((w.alloc o1).alloc o2).heap[w.heap.size + 1]? = some o2 := by
  constructor
  · rw [((Below.refl _ (w.alloc o1)).alloc (Nat.le_refl _) o2).block w.heap.size (by simp)]
    exact World.alloc_heap_new w o1
  · have h := World.alloc_heap_new (w.alloc o1) o2
    simpa using h

set_option maxRecDepth 20000 in
set_option maxHeartbeats 4000000 in
theorem pow_any (a n : Nat) (ha : U64 a) (hn : U64 n) (w : World) :
    Calls Tryz.prog 86 #[.int .u64 a, .int .u64 n] w fun e w' => e = .returned (.int .u64 (pwN a n : Nat)) ∧ Below w.heap.size w w' := by
  refine (callsIn_wide (n := 9)).1 ?_
  refine callsIn_of_wp_marks Tryz.func86 rfl trivial ?_ rfl
  refine wpIn_wide.2 ?_
  simp only [Tryz.ntmps86, List.size_toArray, List.length_cons, List.length_nil, Nat.reduceAdd, Nat.reduceSub, Array.replicate_succ, Array.replicate_zero, List.push_toArray, List.append_toArray, List.nil_append, List.cons_append]
  go_wp2_with fail
  refine wp_scope_straight ?_
  go_wp2_with fail
  obtain ⟨z, hz⟩ : ∃ c, w.heap.size = c := ⟨_, rfl⟩
  have HZ : Hid (w.heap.size = z) := hz
  refine wpOf (fun W => Below z w W ∧ W.heap.size = z + 2 ∧ Bq z 23 #[.int .u64 (a : Int)] W ∧ Bq (z + 1) 23 #[.int .u64 ((1 : Nat) : Int)] W) ?_ ?_
  · have t2 := alloc_two w (.cells #[.int .u64 (a : Int)] 23) (.cells #[.int .u64 ((1 : Nat) : Int)] 23)
    rw [hz] at t2
    refine ⟨?_, by simp [hz], t2.1, t2.2⟩
    rw [← hz]
    exact ((Below.refl _ w).alloc (Nat.le_refl _) _).alloc (by simp) _
  rintro w1 ⟨BV, hs1, hA, hP⟩
  rw [hz]
  clear hz
  refine wp_label ?_
  go_wp2_with fail
  refine (digits_any n w1).mono ?_
  rintro e w2 ⟨rfl, hw2⟩
  have B2 : Below w1.heap.size w1 w2 := by rw [hw2]; exact (Below.refl _ w1).alloc (Nat.le_refl _) _
  have hcx : NumIn w1.heap.size n w2 := by rw [hw2]; exact World.alloc_heap_new w1 _
  have A2 := hA.below B2
  have P2' := hP.below B2
  have BW2 := belowStep BV (by omega) B2
  rw [hs1] at hcx ⊢
  clear hw2 B2 hA hP BV
  go_wp2_with fail
  have hxz : z + 2 < w2.heap.size := hcx.lt
  refine (wpIn_wide (n := 9)).1 ?_
  refine wpIn_rangeFunc_ownH rfl (by omega) (gf := 116) (lb := #[.pointer (some ⟨z + 2, 0, none⟩)]) rfl trivial (enters_of Tryz.func116 (by kernel_rfl) rfl)
    (digits_stops _ (z + 2) n hn w2 hcx) (fun h k => NumK.trans h k) (fun W l o o' hl h1 h2 h3 hx => (World.putObj_heap_other (by omega)).trans hx) (Below.refl _ _) (fun _ => rfl)
    (fun pre W => Bq z 23 #[.int .u64 (a : Int)] W ∧ Bq (z + 1) 23 #[.int .u64 (stP a pre : Int)] W ∧ Below z w W ∧ z + 2 < W.heap.size)
    (fun c pre W => c = .exit 0 ∧ Bq (z + 1) 23 #[.int .u64 0] W ∧ stP a pre = 0 ∧ Below z w W ∧ z + 2 < W.heap.size)
    (fun s A C row hs hg hr => ⟨hs.1.own hg (fun r e => (hr r e).2), hs.2.1.own hg (fun r e => (hr r e).2), hs.2.2.1.grown hg (by omega) (fun k e => Nat.le_trans (by omega) (hr k e).1), Nat.lt_of_lt_of_le hs.2.2.2 hg.size⟩)
    (fun c s A C row hs hg hr => ⟨hs.1, hs.2.1.own hg (fun r e => (hr r e).2), hs.2.2.1, hs.2.2.2.1.grown hg (by omega) (fun k e => Nat.le_trans (by omega) (hr k e).1), Nat.lt_of_lt_of_le hs.2.2.2.2 hg.size⟩)
    ⟨A2, P2', BW2, hxz⟩
    (fun x a' _ => a' = { tmps := #[.int .u64 a, .int .u64 n, .pointer (some ⟨z, 0, none⟩), undef, .int .u64 0, .pointer (some ⟨z + 1, 0, none⟩), .bool x, .int .u64 n, .func (.func 116) #[] #[.pointer (some ⟨z + 2, 0, none⟩)], .bool x, undef, undef, undef, undef, undef, undef, undef, undef, undef, undef, undef, undef], defers := [] })
    (fun x a' _ X Y row hs hg hr => hs)
    ?assign ?body ?done ?stop
  case assign =>
    rintro l pre x W K hI hK
    dsimp only [dEnc]
    gi_wp2
    exact hK _ _ (KeepsFrom.refl _ _) (fun h => h) hI rfl
  case body =>
    rintro l pre x a' W hl ⟨r, hr⟩ ⟨hA, hP, hB, hxW⟩ rfl hlt
    obtain ⟨p, hp⟩ : ∃ p, stP a pre = p := ⟨_, rfl⟩
    have hpU : U64 p := by rw [← hp]; exact pm_u _ (stP_lt _ _)
    have hsn := stP_snoc a pre x
    rw [hp] at hP hsn
    obtain ⟨s, hs⟩ : ∃ s, muN p p = s := ⟨_, rfl⟩
    have hsU : U64 s := by rw [← hs]; exact pm_u _ (mu_lt _ _)
    rw [hs] at hsn
    have C1 := mul_any p p hpU hpU
    rw [hs] at C1
    clear hs
    have c0 : W.cell? ⟨z + 1, 0, none⟩ = some (.int .u64 (p : Int)) := hP.cell 0
    have HH : Hid (_ ∧ _ ∧ _) := ⟨hA, hP, hB⟩
    clear hA hP hB
    gi_wp2_with fail
    refine ⟨trivial, (CallsIn.inRound l (callsIn_wide.2 (C1 _))).mono ?_⟩
    rintro e W4 ⟨rfl, B4⟩
    obtain ⟨hA, hP, hB⟩ := HH.out
    have A4 := hA.below B4
    have P4 := hP.below B4
    have BW4 := belowStep hB (by omega) B4
    have f0 := P4.fr 0
    have P5 := P4.put (.int .u64 (s : Int))
    have c5 : (W4.setCell ⟨z + 1, 0, none⟩ (.int .u64 (s : Int))).cell? ⟨z + 1, 0, none⟩ = some (.int .u64 (s : Int)) := P5.cell 0
    have hz4 := B4.size
    have c4 : W4.cell? ⟨z + 1, 0, none⟩ = some (.int .u64 (p : Int)) := P4.cell 0
    have a4 : W4.cell? ⟨z, 0, none⟩ = some (.int .u64 (a : Int)) := A4.cell 0
    have A5 := A4.other (k := z + 1) (by omega) 0 (.int .u64 (s : Int))
    have a5 : (W4.setCell ⟨z + 1, 0, none⟩ (.int .u64 (s : Int))).cell? ⟨z, 0, none⟩ = some (.int .u64 (a : Int)) := A5.cell 0
    have k5 : KeepsFrom w2.heap.size W (W4.setCell ⟨z + 1, 0, none⟩ (.int .u64 (s : Int))) := ((ko_below B4).from _).trans (ko_set _ _ _ _)
    have n5 : NumK (z + 2) n W (W4.setCell ⟨z + 1, 0, none⟩ (.int .u64 (s : Int))) := fun h => (h.below B4).other (by omega) _ _
    have b5 : Below z w (W4.setCell ⟨z + 1, 0, none⟩ (.int .u64 (s : Int))) := BW4.setCell (p := ⟨z + 1, 0, none⟩) (by show z ≤ z + 1; omega) _
    have z5 : z + 2 < (W4.setCell ⟨z + 1, 0, none⟩ (.int .u64 (s : Int))).heap.size := Nat.lt_of_lt_of_le hxW (Nat.le_trans hz4 (by simp [World.setCell]))
    have H5 : Hid (_ ∧ _ ∧ _ ∧ _ ∧ _ ∧ _) := ⟨A5, P5, k5, n5, b5, z5⟩
    clear A5 P5 k5 n5 b5 z5 A4 P4 BW4 hz4 hA hP hB B4
    by_cases hs0 : s = 0
    · subst hs0
      have hst : stP a (pre ++ [x]) = 0 := by
        rw [hsn]
        cases x with
        | false => rfl
        | true => exact mu_zero a
      rw [show ((0 : Nat) : Int) = 0 from rfl] at *
      gi_wp2
      obtain ⟨A5, P5, k5, n5, b5, z5⟩ := H5.out
      exact ⟨k5, rfl, P5, hst, b5, z5⟩
    · have hsb : ((s : Int) == 0) = false := by rw [beq_eq_false_iff_ne]; omega
      cases x with
      | false =>
        gi_wp2
        obtain ⟨A5, P5, k5, n5, b5, z5⟩ := H5.out
        refine (?_ : KeepsFrom _ W _ ∧ NumK _ _ W _ ∧ _ ∧ _ ∧ _ ∧ _)
        refine ⟨k5, n5, A5, ?_, b5, z5⟩
        rw [hsn]
        exact P5
      | true =>
        gi_wp2_with fail
        refine ⟨trivial, (CallsIn.inRound l (callsIn_wide.2 (mul_any s a hsU ha _))).mono ?_⟩
        rintro e W6 ⟨rfl, B6⟩
        obtain ⟨A5, P5, k5, n5, b5, z5⟩ := H5.out
        have P6 := P5.below B6
        have f6 := P6.fr 0
        have c6 : W6.cell? ⟨z + 1, 0, none⟩ = some (.int .u64 (s : Int)) := P6.cell 0
        gi_wp2
        refine (?_ : KeepsFrom _ W _ ∧ NumK _ _ W _ ∧ _ ∧ _ ∧ _ ∧ _)
        refine ⟨(k5.trans ((ko_below B6).from _)).trans (ko_set _ _ _ _), n5.trans (fun h => (h.below B6).other (by omega) _ _), (A5.below B6).other (by omega) _ _, ?_, (belowStep b5 (by omega) B6).setCell (p := ⟨z + 1, 0, none⟩) (by show z ≤ z + 1; omega) _, Nat.lt_of_lt_of_le z5 (Nat.le_trans B6.size (by simp [World.setCell]))⟩
        rw [hsn]
        exact P6.put _
  case done =>
    rintro D ys W hD ⟨L, hL, rfl⟩ ⟨hA, hP, hB, hxW⟩ hK
    rw [stP_all a n L hL] at hP
    have c0 : W.cell? ⟨z + 1, 0, none⟩ = some (.int .u64 (pwN a n : Int)) := hP.cell 0
    obtain ⟨v, hv⟩ : ∃ v, pwN a n = v := ⟨_, rfl⟩
    rw [hv] at c0
    go_wp2
    have hbP := belowK_b (n₀ := z) (w := w2) (by omega) W D _ (.deferred none) hD hK rfl rfl
    rw [Exit.noGoto_ret]
    refine ⟨by simp, .inl ⟨_, _, rfl, run_takeDeferred hK, ?_⟩⟩
    refine ⟨.int .u64 (v : Int), by simp [results, Tryz.results86, go_sem], by rw [hv], ?_⟩
    rw [HZ.out]
    exact hB.trans hbP
  case stop =>
    rintro D c pre W hD ⟨L, q, hL, hq, rfl⟩ ⟨rfl, hP, h0, hB, hxW⟩ hK
    have hv := stP_dead a n L q hL hq h0
    have c0 : W.cell? ⟨z + 1, 0, none⟩ = some (.int .u64 0) := hP.cell 0
    gi_wp2
    go_wp2
    have hbP := belowK_b (n₀ := z) (w := w2) (by omega) W D _ (.deferred none) hD hK rfl rfl
    rw [Exit.noGoto_ret]
    refine ⟨by simp, .inl ⟨_, _, rfl, run_takeDeferred hK, ?_⟩⟩
    refine ⟨.int .u64 0, by simp [results, Tryz.results86, go_sem], by rw [hv]; rfl, ?_⟩
    rw [HZ.out]
    exact hB.trans hbP
end Go.Proofs.YtgefjmpnpebfoaaGreatDoor
namespace Go.Proofs.YtgefjmpnpebfoaaGreatDoor
open Go.RowKit Go.Shelf Go.Sort

set_option maxHeartbeats 2000000 in
theorem inv_any (a : Nat) (ha : U64 a) (w : World) :
    Calls Tryz.prog 123 #[.int .u64 a] w fun e w' => e = .returned (.int .u64 (ivN a : Nat)) ∧ Below w.heap.size w w' := by
  go_enter Tryz.func123, Tryz.ntmps123
  go_wp2_with fail
  refine (pow_any a 2147482865 ha (by unfold U64; omega) _).mono ?_
  rintro e w1 ⟨rfl, B1⟩
  go_wp2_with fail
  go_ret
  exact ⟨rfl, B1⟩

set_option maxHeartbeats 2000000 in
theorem root_any (a : Nat) (ha : U64 a) (w : World) :
    Calls Tryz.prog 61 #[.int .u64 a] w fun e w' => e = .returned (.tuple #[.int .u64 (roN a : Nat), .bool (roB a)]) ∧ Below w.heap.size w w' := by
  have hlt := rt_lt a
  have hR := pow_any a 536870717 ha (by unfold U64; omega)
  rw [show pwN a 536870717 = rtN a from rfl] at hR
  have er : roN a = if muN (rtN a) (rtN a) = a % PM then (if rtN a % 2 = 1 then PM - rtN a else rtN a) else 0 := rfl
  have eb : roB a = decide (muN (rtN a) (rtN a) = a % PM) := rfl
  obtain ⟨x, hx⟩ : ∃ x, rtN a = x := ⟨_, rfl⟩
  rw [hx] at hlt er eb hR
  obtain ⟨s, hs⟩ : ∃ s, muN x x = s := ⟨_, rfl⟩
  have hm : (a : Int) % 2147482867 = ((a % PM : Nat) : Int) := by unfold PM; omega
  obtain ⟨y, hy⟩ : ∃ y, a % PM = y := ⟨_, rfl⟩
  rw [hy] at hm er eb
  have C1 := mul_any x x (pm_u _ hlt) (pm_u _ hlt)
  rw [hs] at C1 er eb
  rw [er, eb]
  clear hs hy hx er eb
  by_cases h1 : s = y
  · subst h1
    rw [if_pos rfl, decide_eq_true rfl]
    by_cases h2 : x % 2 = 1
    · have hm2 : (x : Int) % 2 = 1 := by omega
      rw [if_pos h2]
      obtain ⟨d, hd⟩ : ∃ d, PM - x = d := ⟨_, rfl⟩
      have C2 := sub_any 0 x (by unfold U64; omega) (pm_u _ hlt)
      rw [sb_neg x hlt h2, hd] at C2
      rw [hd]
      clear hd
      go_enter Tryz.func61, Tryz.ntmps61
      go_wp2_with fail
      refine (hR _).mono ?_
      rintro e w1 ⟨rfl, B1⟩
      go_wp2_with fail
      refine (C1 _).mono ?_
      rintro e w2 ⟨rfl, B2⟩
      go_wp2_with fail
      refine (C2 _).mono ?_
      rintro e w3 ⟨rfl, B3⟩
      go_wp2_with fail
      refine bodyPost_ret (v := .tuple #[.int .u64 (d : Int), .bool true]) (by simp [results, Tryz.results61, go_sem, *]) rfl ⟨rfl, belowStep (belowStep B1 B1.size B2) (Nat.le_trans B1.size B2.size) B3⟩
    · have hm2 : (x : Int) % 2 = 0 := by omega
      rw [if_neg h2]
      go_enter Tryz.func61, Tryz.ntmps61
      go_wp2_with fail
      refine (hR _).mono ?_
      rintro e w1 ⟨rfl, B1⟩
      go_wp2_with fail
      refine (C1 _).mono ?_
      rintro e w2 ⟨rfl, B2⟩
      go_wp2_with fail
      refine bodyPost_ret (v := .tuple #[.int .u64 (x : Int), .bool true]) (by simp [results, Tryz.results61, go_sem, *]) rfl ⟨rfl, belowStep B1 B1.size B2⟩
  · rw [if_neg h1, decide_eq_false h1]
    have h1' : ¬ (s : Int) = y := by omega
    go_enter Tryz.func61, Tryz.ntmps61
    go_wp2_with fail
    refine (hR _).mono ?_
    rintro e w1 ⟨rfl, B1⟩
    go_wp2_with fail
    refine (C1 _).mono ?_
    rintro e w2 ⟨rfl, B2⟩
    go_wp2_with fail
    refine bodyPost_ret (v := .tuple #[.int .u64 0, .bool false]) (by simp [results, Tryz.results61, go_sem, *]) rfl ⟨rfl, belowStep B1 B1.size B2⟩
end Go.Proofs.YtgefjmpnpebfoaaGreatDoor
