/- What the program's Mul2, digits do. No condition. -/
import Derived.Test.YtlcdlegdnibcaaaDoorG5
import Derived.RangeFuncNested
import Derived.RangeFuncBound
import Derived.RangeFuncCalls
import Derived.RangeFuncLeaves
import Derived.Shelf.Abstract
import Derived.Lib.Builder
import Derived.OwnWalkIn
import Derived.TacticsInMore
import Derived.LoopNIn
import Derived.LoopIn
import Derived.Test.YtlcdlegdnibcaaaDoorRound
namespace Go.Proofs.YtlcdlegdnibcaaaDoor
open Go.RowKit Go.Shelf Go.Sort

set_option maxHeartbeats 1000000 in
theorem digits_any (n : Nat) (w : World) :
    Calls Tryd.prog 53 #[.int .u64 n] w fun e w' => e = .returned (.func (.func 54) #[] #[.pointer (some ⟨w.heap.size, 0, none⟩)]) ∧ w' = w.alloc (.cells #[.int .u64 n] 22) := by
  go_enter Tryd.func53, Tryd.ntmps53
  go_wp2
  go_ret
  exact ⟨rfl, rfl⟩
attribute [local go_sem] Oper.semAt_some

/-- A variable in a box of its own. -/
def Bq (b : Nat) (T : TypeId) (cs : Array Value) (W : World) : Prop := W.heap[b]? = some (.cells cs T (0, 0))
theorem Bq.cell {b : Nat} {T : TypeId} {cs : Array Value} {W : World} (h : Bq b T cs W) (j : Nat) : W.cell? ⟨b, j, none⟩ = cs[j]? := Lib.cell_of_heap h j
theorem Bq.fr {b : Nat} {T : TypeId} {cs : Array Value} {W : World} (h : Bq b T cs W) (o : Nat) : W.frozen? ⟨b, o, none⟩ = false := Lib.frozen_of_heap h o
theorem Bq.lt {b : Nat} {T : TypeId} {cs : Array Value} {W : World} (h : Bq b T cs W) : b < W.heap.size := (Array.getElem?_eq_some_iff.1 h).1
theorem Bq.below {b : Nat} {T : TypeId} {cs : Array Value} {W W' : World} (h : Bq b T cs W) (hb : Below W.heap.size W W') : Bq b T cs W' := (hb.block b h.lt).trans h
theorem Bq.put {b : Nat} {T : TypeId} {v : Value} {W : World} (h : Bq b T #[v] W) (u : Value) : Bq b T #[u] (W.setCell ⟨b, 0, none⟩ u) := by
  have h' : W.heap[b]? = _ := h
  show (W.setCell ⟨b, 0, none⟩ u).heap[b]? = _
  simp [World.setCell, Array.getElem?_modify, h']
theorem Bq.put2 {b : Nat} {T : TypeId} {v0 v1 : Value} {W : World} (h : Bq b T #[v0, v1] W) (u0 u1 : Value) : Bq b T #[u0, u1] ((W.setCell ⟨b, 0, none⟩ u0).setCell ⟨b, 1, none⟩ u1) := by
  have h' : W.heap[b]? = _ := h
  show ((W.setCell ⟨b, 0, none⟩ u0).setCell ⟨b, 1, none⟩ u1).heap[b]? = _
  simp [World.setCell, Array.getElem?_modify, h']
theorem Bq.other {b k : Nat} {T : TypeId} {cs : Array Value} {W : World} (h : Bq b T cs W) (hk : b ≠ k) (o : Nat) (u : Value) : Bq b T cs (W.setCell ⟨k, o, none⟩ u) := (Below.heap_setCell _ _ _ _ hk).trans h
theorem Bq.own {b : Nat} {T : TypeId} {cs : Array Value} {A C : World} {row : Option Nat} (h : Bq b T cs A) (hg : A.grownBy C row) (hr : ∀ r, row = some r → ∃ o : Obj, A.heap[r]? = some o ∧ o.isCells = false) : Bq b T cs C := by
  refine (hg.block b h.lt (fun e => ?_)).trans h
  obtain ⟨o, ho, hc⟩ := hr b e.symm
  rw [show A.heap[b]? = _ from h] at ho
  cases ho
  cases hc
theorem ko_set (W : World) (p : Addr) (u : Value) (B : Nat) : KeepsFrom B W (W.setCell p u) := (KeepsOthers.setCell W p u).from B
theorem ko_below {W W' : World} (h : Below W.heap.size W W') : KeepsOthers W W' :=
  ⟨h.size, fun k o hk _ => by rw [h.block k (Array.getElem?_eq_some_iff.1 hk).1]; exact hk⟩
/-- A number in its box. -/
abbrev NumIn (bX n : Nat) (W : World) : Prop := Bq bX 22 #[.int .u64 (n : Int)] W
def NumK (bX n : Nat) (W W' : World) : Prop := NumIn bX n W → NumIn bX n W'
theorem grown_of {W W' : World} (h : Below W.heap.size W W') : W.grownBy W' none := ⟨h.os, h.tape, h.output, h.size, fun k hk _ => h.block k hk⟩
theorem NumK.of_below {bX n : Nat} {W W' : World} (h : Below W.heap.size W W') : NumK bX n W W' := fun hc => hc.below h
theorem NumK.trans {bX n : Nat} {W W' V : World} (h : NumK bX n W W') (g : NumK bX n W' V) : NumK bX n W V := fun hc => g (h hc)
theorem room_of_none' {FN : Fence} (hd : FN.depth = none) (k : Nat) : FN.room k := fun d h => by rw [hd] at h; cases h
theorem yieldAny {m : Nat} (m' : Nat) {P : Program} {l : Nat} {args : Array Value} {W : World} {R : Ending → World → Prop} (h : YieldAt Fence.wide m P l args W R) : YieldAt Fence.wide m' P l args W R := by
  obtain ⟨fn, tmps, assign, body, hy, hR⟩ := h
  exact ⟨fn, tmps, assign, body, hy, hR.1, fun c cs _ => hR.2 c cs (room_of_none' rfl _)⟩
/-- The bits of a number, from the highest of so many. -/
def bitAt (n L j : Nat) : Bool := n / 2 ^ (L - 1 - j) % 2 == 1
def bitsTo (n L q : Nat) : List Bool := (List.range q).map (bitAt n L)
theorem bits_succ (n L q : Nat) : bitsTo n L (q + 1) = bitsTo n L q ++ [bitAt n L q] := by unfold bitsTo; rw [List.range_succ, List.map_append]; rfl
theorem bits_len (n L q : Nat) : (bitsTo n L q).length = q := by unfold bitsTo; rw [List.length_map, List.length_range]
def dEnc (b : Bool) : Array Value := #[.bool b]

set_option maxRecDepth 100000 in
set_option maxHeartbeats 2000000 in
theorem digits1_in (n l bX : Nat) (t : Nat) (ht : U64 t) (J Jx : List Bool → World → Prop) (B : Nat) (hJ : AbidesFrom B J)
    (hY : ∀ m pre x W, J pre W → pre.length < 64 → YieldAt Fence.wide m Tryd.prog l (dEnc x) W fun e W' =>
      (e = .returned (.bool true) ∧ J (pre ++ [x]) W' ∧ NumK bX t W W') ∨ (e = .returned (.bool false) ∧ Jx (pre ++ [x]) W'))
    (W : World) (hc : NumIn bX t W) (h0 : J [] W) :
    CallsIn Fence.wide n Tryd.prog 54 #[.func (.yield l) #[] #[], .pointer (some ⟨bX, 0, none⟩)] W fun e W' => (∃ v, e = .returned v) ∧
      ((∃ L, t < 2 ^ L ∧ J (bitsTo t L L) W') ∨ (∃ L q, t < 2 ^ L ∧ q ≤ L ∧ Jx (bitsTo t L q) W')) := by
  have hc0 : W.cell? ⟨bX, 0, none⟩ = some (.int .u64 (t : Int)) := hc.cell 0
  refine callsIn_of_wp Tryd.func54 rfl trivial ?_ rfl
  simp only [Tryd.ntmps54, List.size_toArray, List.length_cons, List.length_nil, Nat.reduceAdd, Nat.reduceSub, Array.replicate_succ, Array.replicate_zero, List.push_toArray, List.append_toArray, List.nil_append, List.cons_append]
  gi_wp2_with fail
  refine ⟨trivial, fun h => (by cases h), (callsIn_wide.2 (len64_any t ht W)).mono ?_⟩
  rintro e W1 ⟨⟨L, rfl, hL, hlt⟩, B1⟩
  have J1 := hJ _ _ _ none h0 (grown_of B1) (fun r h => by cases h)
  have C1 := hc.below B1
  have wL : IntKind.i64.wrap ((L : Int) - 1) = (L : Int) - 1 := by rw [IntKind.wrap_i64]; omega
  clear hc0 h0 hc B1
  gi_wp2_with fail
  gi_loopw [3] (fun i wr => ∃ q : Nat, q ≤ L ∧ i = .int .i64 ((L : Int) - 1 - q) ∧ J (bitsTo t L q) wr ∧ NumIn bX t wr)
    (fun i _ => ((intOf i) + 1).toNat)
  case atStart => exact ⟨0, by omega, by simp, J1, C1⟩
  case round =>
    clear J1 C1
    obtain ⟨q, hq, rfl, hJs, hkt⟩ := hrel
    have hc1 : wr.cell? ⟨bX, 0, none⟩ = some (.int .u64 (t : Int)) := hkt.cell 0
    by_cases hlq : q < L
    · obtain ⟨p, hp⟩ : ∃ p, L - 1 - q = p := ⟨_, rfl⟩
      have hpi : (L : Int) - 1 - q = (p : Int) := by omega
      obtain ⟨y, hy⟩ : ∃ y, t / 2 ^ p = y := ⟨_, rfl⟩
      have hyU : U64 y := by rw [← hy]; exact Nat.lt_of_le_of_lt (Nat.div_le_self _ _) ht
      have hd : (t : Int) / 2 ^ p = y := by rw [← hy]; simp [Int.natCast_ediv, Int.natCast_pow]
      have ha1 := and_one y hyU
      have hbt : bitAt t L q = (y % 2 == 1) := by unfold bitAt; rw [hp, hy]
      obtain ⟨b, hb⟩ : ∃ b, bitAt t L q = b := ⟨_, rfl⟩
      have hbe : ((y : Int) % 2 == 1) = b := by
        rw [← hb, hbt, show (y : Int) % 2 = ((y % 2 : Nat) : Int) by omega]
        rcases Nat.mod_two_eq_zero_or_one y with h | h <;> rw [h] <;> rfl
      rw [show ((y % 2 : Nat) : Int) = (y : Int) % 2 by omega] at ha1
      obtain ⟨fn, tmps, assign, body, hyy, hR⟩ := hY (n - 1) _ b wr hJs (by rw [bits_len]; omega)
      unfold dEnc at hyy
      have HH : Hid (_ ∧ _) := ⟨hkt, hb⟩
      have wp1 : IntKind.i64.wrap ((p : Int) - 1) = (p : Int) - 1 := by rw [IntKind.wrap_i64]; omega
      rw [hpi]
      clear hkt hb hJs hbt hy
      gi_wp2
      refine ⟨fun h => (by cases h), hR.mono ?_⟩
      rintro e W3 (⟨rfl, hJ3, hk3⟩ | ⟨rfl, hJx3⟩)
      · gi_wp2
        go_roundw
        case rel => exact ⟨q + 1, by omega, by congr 1; omega, by rw [bits_succ, HH.out.2]; exact hJ3, hk3 HH.out.1⟩
        case measure => simp [intOf]
      · gi_wp2
        exact bodyPost_ret (v := .tuple #[]) (by simp [results, Tryd.results54, go_sem]) rfl ⟨⟨_, rfl⟩, .inr ⟨L, q + 1, hlt, by omega, by rw [bits_succ, HH.out.2]; exact hJx3⟩⟩
    · obtain rfl : q = L := by omega
      rw [show (q : Int) - 1 - q = -1 by omega]
      gi_wp2
      go_end0
      exact ⟨⟨_, rfl⟩, .inl ⟨q, hlt, hJs⟩⟩

theorem digits_stops (n bX : Nat) (t : Nat) (ht : U64 t) (w : World) (hc : NumIn bX t w) :
    SeqStopsK Fence.wide n Tryd.prog 54 #[.pointer (some ⟨bX, 0, none⟩)] dEnc (NumK bX t) (fun ys => ∃ L, t < 2 ^ L ∧ ys = bitsTo t L L) (fun ys => ∃ L q, t < 2 ^ L ∧ q ≤ L ∧ ys = bitsTo t L q) 64 w := fun l J Jx W hW hJ _ hY h0 => by
  refine (digits1_in n l bX t ht J Jx W.heap.size hJ (fun m pre x W1 hj hl => yieldAny m (hY pre x W1 hj hl)) W (hc.below hW) h0).mono ?_
  rintro e W' ⟨he, ⟨L, hL, hj⟩ | ⟨L, q, hL, hq, hj⟩⟩
  · exact ⟨he, .inl ⟨_, ⟨L, hL, rfl⟩, hj⟩⟩
  · exact ⟨he, .inr ⟨_, ⟨L, q, hL, hq, rfl⟩, hj⟩⟩

/-- A power behind bits. -/
def stP (a : Nat) (l : List Bool) : Nat := l.foldl (fun p b => if b then muN (muN p p) a else muN p p) 1
theorem stP_snoc (a : Nat) (l : List Bool) (b : Bool) : stP a (l ++ [b]) = if b then muN (muN (stP a l) (stP a l)) a else muN (stP a l) (stP a l) := by unfold stP; rw [List.foldl_append]; rfl
theorem stP_bits (a n L : Nat) (h : n < 2 ^ L) : ∀ q, q ≤ L → stP a (bitsTo n L q) = pwN a (n / 2 ^ (L - q))
  | 0, _ => by
    rw [Nat.sub_zero, Nat.div_eq_of_lt h, pw_0]
    rfl
  | q + 1, hq => by
    rw [bits_succ, stP_snoc, stP_bits a n L h q (by omega)]
    have := pw_step a n (L - (q + 1))
    rw [show L - (q + 1) + 1 = L - q by omega] at this
    rw [this]
    unfold bitAt
    rw [show L - 1 - q = L - (q + 1) by omega]
    simp only [beq_iff_eq]
theorem stP_lt (a : Nat) (l : List Bool) : stP a l < PM := by
  rcases List.eq_nil_or_concat l with rfl | ⟨l', b, rfl⟩
  · show 1 < PM; decide
  · rw [List.concat_eq_append, stP_snoc]
    split
    · exact mu_lt _ _
    · exact mu_lt _ _
theorem pw_stays (a n : Nat) : ∀ k, pwN a (n / 2 ^ k) = 0 → pwN a n = 0
  | 0, h => by rw [Nat.pow_zero, Nat.div_one] at h; exact h
  | k + 1, h => by
    refine pw_stays a n k ?_
    rw [pw_step, h, mu_zero, mu_zero]
    simp
theorem stP_all (a n L : Nat) (h : n < 2 ^ L) : stP a (bitsTo n L L) = pwN a n := by rw [stP_bits a n L h L (Nat.le_refl _), Nat.sub_self, Nat.pow_zero, Nat.div_one]
theorem stP_dead (a n L q : Nat) (h : n < 2 ^ L) (hq : q ≤ L) (h0 : stP a (bitsTo n L q) = 0) : pwN a n = 0 := pw_stays a n (L - q) (by rw [← stP_bits a n L h q hq]; exact h0)
end Go.Proofs.YtlcdlegdnibcaaaDoor
