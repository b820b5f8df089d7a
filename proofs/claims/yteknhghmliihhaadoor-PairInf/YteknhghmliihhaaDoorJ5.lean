/- What the package pair's behind does. No condition. -/
import Derived.Test.YteknhghmliihhaaDoorJ4
namespace Go.Proofs.YteknhghmliihhaaDoor
open Go.RowKit Go.Shelf Go.Sort

set_option maxRecDepth 20000 in
set_option maxHeartbeats 2000000 in
theorem len64_order (w : World) : Calls Tryd.prog 56 #[.int .u64 ((536870717 : Nat) : Int)] w fun e w' => e = .returned (.int .i64 29) ∧ Below w.heap.size w w' := by
  rw [show ((536870717 : Nat) : Int) = 536870717 from rfl]
  go_enter Tryd.func56, Tryd.ntmps56
  go_wp2_with fail
  go_ret
  exact ⟨by kernel_rfl, Below.refl _ _⟩

set_option maxHeartbeats 1000000 in
theorem behind_any (n : Nat) (w : World) :
    Calls Tryd.prog 45 #[.int .u64 n] w fun e w' => e = .returned (.func (.func 57) #[] #[.pointer (some ⟨w.heap.size, 0, none⟩)]) ∧ w' = w.alloc (.cells #[.int .u64 n] 22) := by
  go_enter Tryd.func45, Tryd.ntmps45
  go_wp2
  go_ret
  exact ⟨rfl, rfl⟩
attribute [local go_sem] Oper.semAt_some
set_option maxRecDepth 100000 in
set_option maxHeartbeats 2000000 in
theorem behind1_in (n l bX : Nat) (t : Nat) (ht : U64 t) (CL : ∀ W : World, Calls Tryd.prog 56 #[.int .u64 (t : Int)] W fun e w' => e = .returned (.int .i64 29) ∧ Below W.heap.size W w') (J Jx : List Bool → World → Prop) (B : Nat) (hJ : AbidesFrom B J)
    (hY : ∀ m pre x W, J pre W → pre.length < 64 → YieldAt Fence.wide m Tryd.prog l (dEnc x) W fun e W' =>
      (e = .returned (.bool true) ∧ J (pre ++ [x]) W' ∧ NumK bX t W W') ∨ (e = .returned (.bool false) ∧ Jx (pre ++ [x]) W'))
    (W : World) (hc : NumIn bX t W) (h0 : J [] W) :
    CallsIn Fence.wide n Tryd.prog 57 #[.func (.yield l) #[] #[], .pointer (some ⟨bX, 0, none⟩)] W fun e W' => (∃ v, e = .returned v) ∧
      (J (bitsTo t 28 28) W' ∨ (∃ q, q ≤ 28 ∧ Jx (bitsTo t 28 q) W')) := by
  have hc0 : W.cell? ⟨bX, 0, none⟩ = some (.int .u64 (t : Int)) := hc.cell 0
  refine callsIn_of_wp Tryd.func57 rfl trivial ?_ rfl
  simp only [Tryd.ntmps57, List.size_toArray, List.length_cons, List.length_nil, Nat.reduceAdd, Nat.reduceSub, Array.replicate_succ, Array.replicate_zero, List.push_toArray, List.append_toArray, List.nil_append, List.cons_append]
  gi_wp2_with fail
  refine ⟨trivial, fun h => (by cases h), (callsIn_wide.2 (CL W)).mono ?_⟩
  rintro e W1 ⟨rfl, B1⟩
  have J1 := hJ _ _ _ none h0 (grown_of B1) (fun r h => by cases h)
  have C1 := hc.below B1
  clear hc0 h0 hc B1
  gi_wp2_with fail
  gi_loopw [3] (fun i wr => ∃ q : Nat, q ≤ 28 ∧ i = .int .i64 (27 - (q : Int)) ∧ J (bitsTo t 28 q) wr ∧ NumIn bX t wr)
    (fun i _ => ((intOf i) + 1).toNat)
  case atStart => exact ⟨0, by omega, by simp, J1, C1⟩
  case round =>
    clear J1 C1
    obtain ⟨q, hq, rfl, hJs, hkt⟩ := hrel
    have hc1 : wr.cell? ⟨bX, 0, none⟩ = some (.int .u64 (t : Int)) := hkt.cell 0
    by_cases hlq : q < 28
    · obtain ⟨p, hp⟩ : ∃ p, 27 - q = p := ⟨_, rfl⟩
      have hpi : 27 - (q : Int) = (p : Int) := by omega
      obtain ⟨y, hy⟩ : ∃ y, t / 2 ^ p = y := ⟨_, rfl⟩
      have hyU : U64 y := by rw [← hy]; exact Nat.lt_of_le_of_lt (Nat.div_le_self _ _) ht
      have hd : (t : Int) / 2 ^ p = y := by rw [← hy]; simp [Int.natCast_ediv, Int.natCast_pow]
      have ha1 := and_one y hyU
      have hbt : bitAt t 28 q = (y % 2 == 1) := by unfold bitAt; rw [show 28 - 1 - q = 27 - q by omega, hp, hy]
      obtain ⟨b, hb⟩ : ∃ b, bitAt t 28 q = b := ⟨_, rfl⟩
      have hbe : ((y : Int) % 2 == 1) = b := by
        rw [← hb, hbt, show (y : Int) % 2 = ((y % 2 : Nat) : Int) by omega]
        rcases Nat.mod_two_eq_zero_or_one y with h | h <;> rw [h] <;> rfl
      rw [show ((y % 2 : Nat) : Int) = (y : Int) % 2 by omega] at ha1
      obtain ⟨fn, tmps, assign, body, hyy, hR⟩ := hY (n - 1) _ b wr hJs (by rw [bits_len]; omega)
      unfold dEnc at hyy
      have HH : Hid (_ ∧ _) := ⟨hkt, hb⟩
      have wp1 : IntKind.i64.wrap ((p : Int) - 1) = (p : Int) - 1 := by rw [IntKind.wrap_i64]; omega
      rw [hpi]
      clear hkt hb hJs hbt hy
      gi_wp2
      refine ⟨fun h => (by cases h), hR.mono ?_⟩
      rintro e W3 (⟨rfl, hJ3, hk3⟩ | ⟨rfl, hJx3⟩)
      · gi_wp2
        go_roundw
        case rel => exact ⟨q + 1, by omega, by congr 1; omega, by rw [bits_succ, HH.out.2]; exact hJ3, hk3 HH.out.1⟩
        case measure => simp [intOf]
      · gi_wp2
        exact bodyPost_ret (v := .tuple #[]) (by simp [results, Tryd.results57, go_sem]) rfl ⟨⟨_, rfl⟩, .inr ⟨q + 1, by omega, by rw [bits_succ, HH.out.2]; exact hJx3⟩⟩
    · obtain rfl : q = 28 := by omega
      rw [show (27 : Int) - (28 : Nat) = -1 by omega]
      gi_wp2
      go_end0
      exact ⟨⟨_, rfl⟩, .inl hJs⟩

theorem behind_stops (n bX : Nat) (t : Nat) (ht : U64 t) (CL : ∀ W : World, Calls Tryd.prog 56 #[.int .u64 (t : Int)] W fun e w' => e = .returned (.int .i64 29) ∧ Below W.heap.size W w') (w : World) (hc : NumIn bX t w) :
    SeqStopsK Fence.wide n Tryd.prog 57 #[.pointer (some ⟨bX, 0, none⟩)] dEnc (NumK bX t) (fun ys => ys = bitsTo t 28 28) (fun ys => ∃ q, q ≤ 28 ∧ ys = bitsTo t 28 q) 64 w := fun l J Jx W hW hJ _ hY h0 => by
  refine (behind1_in n l bX t ht CL J Jx W.heap.size hJ (fun m pre x W1 hj hl => yieldAny m (hY pre x W1 hj hl)) W (hc.below hW) h0).mono ?_
  rintro e W' ⟨he, hj | ⟨q, hq, hj⟩⟩
  · exact ⟨he, .inl ⟨_, rfl, hj⟩⟩
  · exact ⟨he, .inr ⟨_, ⟨q, hq, rfl⟩, hj⟩⟩


end Go.Proofs.YteknhghmliihhaaDoor
