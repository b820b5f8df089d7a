/- Lemmas: The blocks of a text, gone through: what yieldAll, blocks and the function that it hands back do at this translation. -/
import Derived.Test.YtmefanagpkbjeabDoorM1
import Derived.Test.YtmefanagpkbjeabDoorM2
import Derived.Test.YtmefanagpkbjeabDoorM3
import Derived.Test.YtmefanagpkbjeabDoorM4
import Derived.Test.YtmefanagpkbjeabDoorM6
import Derived.Test.YtmefanagpkbjeabDoorM7
import Derived.Test.YtmefanagpkbjeabDoorM8
import Derived.Test.YtmefanagpkbjeabDoorRows
import Derived.LoopIn
import Derived.LoopNIn
import Derived.OwnWalkIn
import Derived.RangeFuncBound
import Derived.RangeFuncCalls
import Derived.RangeFuncLeaves
import Derived.RangeFuncNested
import Derived.Shelf.Abstract
import Derived.Shelf.RegionOpen
import Derived.TacticsInMore
namespace Go.Proofs.YtmefanagpkbjeabDoor
open Go.RowKit Go.Shelf
attribute [local go_sem] Oper.semAt_some

/-- A block's sixteen words. -/
abbrev Bk := Nat → Int
def bEnc (x : Bk) : Array Value := #[.agg (fl 16 fun j => .int .u32 (x j)).toArray]
def blk (t : ByteArray) (i : Nat) : Bk := wordAt (t.extract (64 * i) (64 * i + 64))
def bls (t : ByteArray) (k : Nat) : List Bk := (List.range k).map (blk t)
theorem bls_succ (t : ByteArray) (k : Nat) : bls t (k + 1) = bls t k ++ [blk t k] := by simp [bls, List.range_succ]
theorem bls_len (t : ByteArray) (k : Nat) : (bls t k).length = k := by simp [bls]
/-- What a round keeps: the text in its box. -/
def TxtK (bX : Nat) (T : ByteArray) (W W' : World) : Prop := W.cell? ⟨bX, 0, none⟩ = some (.string T) → W'.cell? ⟨bX, 0, none⟩ = some (.string T)
theorem s_grown_of {W W' : World} (h : Below W.heap.size W W') : W.grownBy W' none := ⟨h.os, h.tape, h.output, h.size, fun k hk _ => h.block k hk⟩
theorem TxtK.of_below {bX : Nat} {T : ByteArray} {W W' : World} (h : Below W.heap.size W W') : TxtK bX T W W' := fun hc => (h.cell (p := ⟨bX, 0, none⟩) (block_lt_of_cell hc)).trans hc
theorem TxtK.trans {bX : Nat} {T : ByteArray} {W W' V : World} (h : TxtK bX T W W') (g : TxtK bX T W' V) : TxtK bX T W V := fun hc => g (h hc)

theorem s_room_of_none' {FN : Fence} (hd : FN.depth = none) (k : Nat) : FN.room k := fun d h => by rw [hd] at h; cases h
theorem s_yieldAny {m : Nat} (m' : Nat) {P : Program} {l : Nat} {args : Array Value} {W : World} {R : Ending → World → Prop} (h : YieldAt Fence.wide m P l args W R) : YieldAt Fence.wide m' P l args W R := by
  obtain ⟨fn, tmps, assign, body, hy, hR⟩ := h
  exact ⟨fn, tmps, assign, body, hy, hR.1, fun c cs _ => hR.2 c cs (s_room_of_none' rfl _)⟩

set_option maxRecDepth 100000 in
set_option maxHeartbeats 2000000 in
theorem yieldAll_in (n l bX B k N : Nat) (T t : ByteArray) (ht : t.size = 64 * k) (hk : k < 100000000000000000) (J Jx : List Bk → World → Prop) (hJ : AbidesFrom B J)
    (hY : ∀ m pre x W, J pre W → pre.length < N → YieldAt Fence.wide m Tryd.prog l (bEnc x) W fun e W' =>
      (e = .returned (.bool true) ∧ J (pre ++ [x]) W' ∧ TxtK bX T W W') ∨ (e = .returned (.bool false) ∧ Jx (pre ++ [x]) W'))
    (pre : List Bk) (W : World) (h0 : J pre W) (hN : pre.length + k ≤ N) :
    CallsIn Fence.wide n Tryd.prog 48 #[.string t, .func (.yield l) #[] #[]] W fun e W' =>
      (e = .returned (.bool true) ∧ J (pre ++ bls t k) W' ∧ TxtK bX T W W') ∨ (e = .returned (.bool false) ∧ ∃ q, q ≤ k ∧ Jx (pre ++ bls t q) W') := by
  refine callsIn_of_wp Tryd.func48 rfl trivial ?_ rfl
  simp only [Tryd.ntmps48, List.size_toArray, List.length_cons, List.length_nil, Nat.reduceAdd, Nat.reduceSub, Array.replicate_succ, Array.replicate_zero, List.push_toArray, List.append_toArray, List.nil_append, List.cons_append]
  gi_wp2
  gi_loopw [5] (fun i wr => ∃ j : Nat, j ≤ k ∧ i = .int .i64 ((64 * j : Nat) : Int) ∧ J (pre ++ bls t j) wr ∧ TxtK bX T W wr)
    (fun i _ => (64 * k - (intOf i).toNat))
  case atStart => exact ⟨0, by omega, rfl, by simpa [bls] using h0, fun h => h⟩
  case round =>
    obtain ⟨j, hj, rfl, hJs, hkt⟩ := hrel
    by_cases hlt : j < k
    · obtain ⟨p, hp⟩ : ∃ p, 64 * j = p := ⟨_, rfl⟩
      obtain ⟨q, hq⟩ : ∃ q, p + 64 = q := ⟨_, rfl⟩
      rw [hp]
      have l0 : (p : Int) < t.size := by omega
      have wq : IntKind.i64.wrap ((p : Int) + 64) = q := by rw [IntKind.wrap_i64]; omega
      have l1 : p ≤ q := by omega
      have l2 : q ≤ t.size := by omega
      have l1' : (p : Int) ≤ q := by omega
      have l2' : (q : Int) ≤ t.size := by omega
      gi_wp2_with fail
      have hts : (t.extract p q).size = 64 := by rw [ByteArray.size_extract]; omega
      refine ⟨trivial, fun h => (by cases h), (callsIn_wide.2 (wordsOf_any (t.extract p q) hts wr)).mono ?_⟩
      rintro e w1 ⟨rfl, B1⟩
      have J1 := hJ _ _ _ none hJs (s_grown_of B1) (fun r h => by cases h)
      have hk1 := hkt.trans (TxtK.of_below (bX := bX) (T := T) B1)
      have hx : wordAt (t.extract p q) = blk t j := by rw [blk, hp, hq]
      obtain ⟨fn, tmps, assign, body, hy, hR⟩ := hY (n - 1) _ (blk t j) w1 J1 (by rw [List.length_append, bls_len]; omega)
      unfold bEnc at hy
      clear B1 hJs
      gi_wp2
      refine ⟨fun h => (by cases h), hR.mono ?_⟩
      rintro e W3 (⟨rfl, hJ3, hk3⟩ | ⟨rfl, hJx3⟩)
      · gi_wp2
        go_roundw
        case rel => exact ⟨j + 1, by omega, by congr 1; omega, by rw [bls_succ, ← List.append_assoc]; exact hJ3, hk1.trans hk3⟩
        case measure => simp [intOf]; omega
      · gi_wp2
        go_ret
        exact .inr ⟨rfl, j + 1, by omega, by rw [bls_succ, ← List.append_assoc]; exact hJx3⟩
    · have hjk : j = k := by omega
      subst hjk
      have l0 : ¬ ((64 * j : Nat) : Int) < t.size := by omega
      gi_wp2
      go_ret
      exact .inl ⟨rfl, hJs, hkt⟩

/-- A text's whole blocks, and what is left over. -/
def wholeN (t : ByteArray) : Nat := t.size / 64
def headOf (t : ByteArray) : ByteArray := t.extract 0 (64 * wholeN t)
def restOf (t : ByteArray) : ByteArray := t.extract (64 * wholeN t) t.size
def lastOf (t : ByteArray) : ByteArray := fillOf (restOf t) t.size
/-- All blocks of a text. -/
def allBk (t : ByteArray) : List Bk := bls (headOf t) (wholeN t) ++ bls (lastOf t) ((lastOf t).size / 64)
theorem rest_size (t : ByteArray) : (restOf t).size < 64 := by
  unfold restOf wholeN; rw [ByteArray.size_extract]; omega
theorem fill_size (r : ByteArray) (n : Nat) : (fillOf r n).size = r.size + 1 + zn r.size + 8 := by
  unfold fillOf
  rw [ByteArray.size_append, ByteArray.size_append, ByteArray.size_append, rep_size]
  rfl
theorem last_size (t : ByteArray) : (lastOf t).size % 64 = 0 ∧ (lastOf t).size ≤ 128 := by
  have := rest_size t
  unfold lastOf
  rw [fill_size]
  unfold zn
  omega

set_option maxRecDepth 100000 in
set_option maxHeartbeats 2000000 in
theorem blocks1_in (n l bX B : Nat) (t : ByteArray) (ht : t.size < 1000000000000000000) (J Jx : List Bk → World → Prop) (hJ : AbidesFrom B J)
    (hY : ∀ m pre x W, J pre W → pre.length < (allBk t).length → YieldAt Fence.wide m Tryd.prog l (bEnc x) W fun e W' =>
      (e = .returned (.bool true) ∧ J (pre ++ [x]) W' ∧ TxtK bX t W W') ∨ (e = .returned (.bool false) ∧ Jx (pre ++ [x]) W'))
    (W : World) (hc : W.cell? ⟨bX, 0, none⟩ = some (.string t)) (h0 : J [] W) :
    CallsIn Fence.wide n Tryd.prog 47 #[.func (.yield l) #[] #[], .pointer (some ⟨bX, 0, none⟩)] W fun e W' => (∃ v, e = .returned v) ∧
      ((∃ ys, ys = allBk t ∧ J ys W') ∨ (∃ pre, True ∧ Jx pre W')) := by
  have hz := last_size t
  have hrs := rest_size t
  have hw : 64 * wholeN t ≤ t.size := by unfold wholeN; omega
  have hal : (allBk t).length = wholeN t + (lastOf t).size / 64 := by unfold allBk; rw [List.length_append, bls_len, bls_len]
  obtain ⟨p, hp⟩ : ∃ p, 64 * wholeN t = p := ⟨_, rfl⟩
  have hm : (t.size : Int) % 64 = t.size - p := by unfold wholeN at hp; omega
  have hm2 : (t.size : Int).tmod 64 = t.size - p := by rw [Int.tmod_eq_emod_of_nonneg (by omega)]; exact hm
  refine callsIn_of_wp Tryd.func47 rfl trivial ?_ rfl
  simp only [Tryd.ntmps47, List.size_toArray, List.length_cons, List.length_nil, Nat.reduceAdd, Nat.reduceSub, Array.replicate_succ, Array.replicate_zero, List.push_toArray, List.append_toArray, List.nil_append, List.cons_append]
  gi_wp2_with fail
  rw [show t.size - (t.size - p) = p by omega, show (t.size : Int) - ((t.size : Int) - p) = p by omega]
  have hhd : t.extract 0 p = headOf t := by rw [headOf, hp]
  have hhs : (headOf t).size = 64 * wholeN t := by rw [headOf, ByteArray.size_extract]; omega
  have hrt : t.extract p t.size = restOf t := by rw [restOf, hp]
  refine ⟨trivial, fun h => (by cases h), (yieldAll_in (n - 1) l bX B (wholeN t) (allBk t).length t (t.extract 0 p) (by rw [hhd, hhs]) (by unfold wholeN; omega) J Jx hJ hY [] W h0 (by rw [hal]; simp)).mono ?_⟩
  rintro e W1 (⟨rfl, hJ1, hK1⟩ | ⟨rfl, q, _, hx⟩)
  · have hc1 := hK1 hc
    rw [List.nil_append, hhd] at hJ1
    gi_wp2_with fail
    refine wpIn_wide.2 ?_
    have KF : Hid (∀ w : World, _) := fun w : World => filledUp_any (restOf t) t.size hrs (by omega) w
    have HJ : Hid (J (bls (headOf t) (wholeN t)) W1) := hJ1
    have hpt : p ≤ t.size := by omega
    have hpt' : (p : Int) ≤ t.size := by omega
    clear hJ1 h0
    have k0 := cell_regrown hc1
    have c0 := inClass (w := W1) KF.out
    refine region_tail 7 (by kernel_rfl) (by kernel_rfl) ?_
    simp only [List.take_succ_cons, List.take_zero, List.drop_succ_cons, List.drop_zero]
    iterate 5 (quiet_step (fail))
    quiet_step (exact c0 _ _)
    quiet_step (fail)
    refine wpQuiet_nil ?_
    intro w8 hw8
    have hb8 : Below W1.heap.size W1 w8 := by
      obtain ⟨p, rfl⟩ := hw8
      exact below_regrown _ _ _
    have J8 := hJ _ _ _ none HJ.out (s_grown_of hb8) (fun r h => by cases h)
    have hla : fillOf (restOf t) t.size = lastOf t := rfl
    have hls : (lastOf t).size = 64 * ((lastOf t).size / 64) := by omega
    clear hw8 k0 c0 KF
    rw [hla]
    go_wp2_with fail
    refine (callsIn_wide.1 (yieldAll_in 0 l bX B ((lastOf t).size / 64) (allBk t).length t (lastOf t) hls (by omega) J Jx hJ hY _ w8 J8 (by rw [hal, bls_len]; omega))).mono ?_
    rintro e W2 (⟨rfl, hJ2, _⟩ | ⟨rfl, q, _, hx⟩)
    · go_wp2
      go_end0
      exact ⟨⟨_, rfl⟩, .inl ⟨_, rfl, hJ2⟩⟩
    · go_wp2
      go_end0
      exact ⟨⟨_, rfl⟩, .inr ⟨_, trivial, hx⟩⟩
  · gi_wp2
    go_end0
    exact ⟨⟨_, rfl⟩, .inr ⟨_, trivial, hx⟩⟩

theorem blocks_stops (n bX : Nat) (t : ByteArray) (ht : t.size < 1000000000000000000) (w : World) (hc : w.cell? ⟨bX, 0, none⟩ = some (.string t)) :
    SeqStopsK Fence.wide n Tryd.prog 47 #[.pointer (some ⟨bX, 0, none⟩)] bEnc (TxtK bX t) (fun ys => ys = allBk t) (fun _ => True) (allBk t).length w := fun l J Jx W hW hJ _ hY h0 => by
  refine (blocks1_in n l bX W.heap.size t ht J Jx hJ (fun m pre x W1 hj hl => s_yieldAny m (hY pre x W1 hj hl)) W ((hW.cell (p := ⟨bX, 0, none⟩) (block_lt_of_cell hc)).trans hc) h0).mono ?_
  rintro e W' ⟨he, ⟨ys, rfl, hj⟩ | ⟨pre, hp, hj⟩⟩
  · exact ⟨he, .inl ⟨_, rfl, hj⟩⟩
  · exact ⟨he, .inr ⟨_, hp, hj⟩⟩

set_option maxHeartbeats 1000000 in
theorem blocks_any (t : ByteArray) (w : World) :
    Calls Tryd.prog 38 #[.string t] w fun e w' => e = .returned (.func (.func 47) #[] #[.pointer (some ⟨w.heap.size, 0, none⟩)]) ∧ w' = w.alloc (.cells #[.string t] 9) := by
  go_enter Tryd.func38, Tryd.ntmps38
  go_wp2
  go_ret
  exact ⟨rfl, rfl⟩
end Go.Proofs.YtmefanagpkbjeabDoor
