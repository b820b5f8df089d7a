/- The parts of a number from the highest one down: what downwards, and the function that it hands back, do at this translation. -/
import Derived.RangeFuncNested
import Derived.RangeFuncBound
import Derived.RangeFuncCalls
import Derived.RangeFuncLeaves
import Derived.Shelf.Abstract
import Derived.Shelf.RegionOpen
import Derived.OwnWalkIn
import Derived.TacticsInMore
import Derived.LoopNIn
import Derived.LoopIn
import Derived.Test.YtgapcjdgakamoaaW2
namespace Go.Proofs.Ytgapcjdgakamoaa
open Go.RowKit Go.Shelf
attribute [local go_sem] Oper.semAt_some

/-- A place and a part. -/
abbrev Pp := { x : Nat × Int // x.1 < 12 ∧ Pt x.2 }
/-- The i-th one from above. -/
def elt (m : Nat → Int) (hm : ∀ j, Pt (m j)) (i : Nat) : Pp := ⟨(11 - i, m (11 - i)), by show 11 - i < 12; omega, hm _⟩
def seqk (m : Nat → Int) (hm : ∀ j, Pt (m j)) (k : Nat) : List Pp := (List.range k).map (elt m hm)
theorem seqk_succ (m : Nat → Int) (hm : ∀ j, Pt (m j)) (k : Nat) : seqk m hm (k + 1) = seqk m hm k ++ [elt m hm k] := by simp [seqk, List.range_succ]
theorem seqk_length (m : Nat → Int) (hm : ∀ j, Pt (m j)) (k : Nat) : (seqk m hm k).length = k := by simp [seqk]
def pEnc (x : Pp) : Array Value := #[.int .i64 (x.1.1 : Int), .int .u64 x.1.2]

/-- The twelve parts in a box. -/
def Box (bX : Nat) (m : Nat → Int) (W : World) : Prop := ∀ j, j < 12 → W.cell? ⟨bX, j, none⟩ = some (.int .u64 (m j))
/-- What a round keeps. -/
def BoxK (bX : Nat) (m : Nat → Int) (W W' : World) : Prop := Box bX m W → Box bX m W'

set_option maxRecDepth 100000 in
set_option maxHeartbeats 2000000 in
theorem down1_in (Fc : Fence) (n : Nat) (h42 : Fc.fn 82) (hro : Fc.round = none) (hn : 1 ≤ n) (l bX : Nat) (m : Nat → Int) (hm : ∀ j, Pt (m j)) (J Jx : List Pp → World → Prop)
    (hY : ∀ pre x W, J pre W → pre.length < 12 → YieldAt Fc (n - 1) Try.prog l (pEnc x) W fun e W' =>
      (e = .returned (.bool true) ∧ J (pre ++ [x]) W' ∧ BoxK bX m W W') ∨ (e = .returned (.bool false) ∧ Jx (pre ++ [x]) W'))
    (W : World) (hBx : Box bX m W) (h0 : J [] W) :
    CallsIn Fc n Try.prog 82 #[.func (.yield l) #[] #[], .pointer (some ⟨bX, 0, none⟩)] W fun e W' => (∃ v, e = .returned v) ∧
      ((∃ ys, ys = seqk m hm 12 ∧ J ys W') ∨ (∃ pre, (∃ k, k ≤ 12 ∧ pre = seqk m hm k) ∧ Jx pre W')) := by
  refine callsIn_of_wp Try.func82 rfl h42 ?_ hro
  simp only [Try.ntmps82, List.size_toArray, List.length_cons, List.length_nil, Nat.reduceAdd, Nat.reduceSub, Array.replicate_succ, Array.replicate_zero, List.push_toArray, List.append_toArray, List.nil_append, List.cons_append]
  gi_wp2
  gi_loopw [3] (fun i wr => ∃ j : Nat, j ≤ 12 ∧ i = .int .i64 ((j : Int) - 1) ∧ J (seqk m hm (12 - j)) wr ∧ Box bX m wr)
    (fun i _ => (intOf i + 1).toNat)
  case atStart => exact ⟨12, by omega, rfl, h0, hBx⟩
  case round =>
    obtain ⟨j, hj, rfl, hJs, hbx⟩ := hrel
    cases j with
    | zero =>
      gi_wp2
      go_end0
      exact ⟨⟨_, rfl⟩, .inl ⟨_, rfl, hJs⟩⟩
    | succ j =>
      rw [show (((j + 1 : Nat) : Int) - 1) = (j : Int) from by omega]
      have hcx := hbx j (by omega)
      have hj1 : (j : Int) < 12 := by omega
      obtain ⟨fn, tmps, assign, body, hy, hR⟩ := hY _ (elt m hm (12 - (j + 1))) wr hJs (by rw [seqk_length]; omega)
      have e1 : pEnc (elt m hm (12 - (j + 1))) = #[.int .i64 (j : Int), .int .u64 (m j)] := by
        unfold pEnc elt
        simp only []
        rw [show 11 - (12 - (j + 1)) = j from by omega]
      rw [e1] at hy
      gi_wp2
      refine hR.mono ?_
      rintro e W3 (⟨rfl, hJ3, hk3⟩ | ⟨rfl, hJx3⟩)
      · gi_wp2
        go_roundw
        case rel => exact ⟨j, by omega, rfl, by rw [show 12 - j = 12 - (j + 1) + 1 from by omega, seqk_succ]; exact hJ3, hk3 hbx⟩
        case measure => simp [intOf]
      · gi_wp2
        refine bodyPost_ret (results_none rfl _ _ _) rfl ?_
        exact ⟨⟨_, rfl⟩, .inr ⟨_, ⟨12 - (j + 1) + 1, by omega, (seqk_succ m hm _).symm⟩, hJx3⟩⟩

theorem down_stops (Fc : Fence) (n : Nat) (h42 : Fc.fn 82) (hro : Fc.round = none) (hn : 1 ≤ n) (bX : Nat) (m : Nat → Int) (hm : ∀ j, Pt (m j)) (w : World) (hb : bX < w.heap.size) (hBx : Box bX m w) :
    SeqStopsK Fc n Try.prog 82 #[.pointer (some ⟨bX, 0, none⟩)] pEnc (BoxK bX m) (fun ys => ys = seqk m hm 12) (fun pre => ∃ k, k ≤ 12 ∧ pre = seqk m hm k) 12 w := fun l J Jx W hW _ _ hY h0 => by
  refine (down1_in Fc n h42 hro hn l bX m hm J Jx hY W (fun j hj => (hW.cell (p := ⟨bX, j, none⟩) hb).trans (hBx j hj)) h0).mono ?_
  rintro e W' ⟨he, ⟨ys, rfl, hj⟩ | ⟨pre, hp, hj⟩⟩
  · exact ⟨he, .inl ⟨_, rfl, hj⟩⟩
  · exact ⟨he, .inr ⟨_, hp, hj⟩⟩

set_option maxHeartbeats 1000000 in
theorem down_any (n0 n1 n2 n3 n4 n5 n6 n7 n8 n9 n10 n11 : Int) (w : World) :
    Calls Try.prog 77 #[.agg #[.int .u64 n0, .int .u64 n1, .int .u64 n2, .int .u64 n3, .int .u64 n4, .int .u64 n5, .int .u64 n6, .int .u64 n7, .int .u64 n8, .int .u64 n9, .int .u64 n10, .int .u64 n11]] w fun e w' => e = .returned (.func (.func 82) #[] #[.pointer (some ⟨w.heap.size, 0, none⟩)]) ∧ w' = w.alloc (.cells #[.int .u64 n0, .int .u64 n1, .int .u64 n2, .int .u64 n3, .int .u64 n4, .int .u64 n5, .int .u64 n6, .int .u64 n7, .int .u64 n8, .int .u64 n9, .int .u64 n10, .int .u64 n11] 41) := by
  go_enter Try.func77, Try.ntmps77
  go_wp2
  go_ret
  exact ⟨rfl, rfl⟩
end Go.Proofs.Ytgapcjdgakamoaa
