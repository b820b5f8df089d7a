/- A slice of texts gone through: slices.All. -/
import Derived.Test.YtmemfdpfbeijeabDoorZ12
namespace Go.Proofs.YtmemfdpfbeijeabDoor
open Go.RowKit Go.Shelf Go.Sort
attribute [local go_sem] Oper.semAt_some

set_option maxHeartbeats 1000000 in
theorem all_any8 (a : Option Addr) (m c : Nat) (w : World) :
    Calls Tryd.prog 25 #[.slice a m c] w fun e w' => e = .returned (.func (.func 41) #[] #[.pointer (some ⟨w.heap.size, 0, none⟩)]) ∧ w' = w.alloc (.cells #[.slice a m c] 22) := by
  go_enter Tryd.func25, Tryd.ntmps25
  go_wp2
  go_ret
  exact ⟨rfl, rfl⟩
set_option maxRecDepth 100000 in
set_option maxHeartbeats 2000000 in
theorem all1_in (n l n0 n1 q bX : Nat) (xs : List ByteArray) (hxs : xs.length ≤ 1000) (a : Option Addr) (c : Nat)
    (J Jx : Nat → World → Prop)
    (hY : ∀ m k x W, J k W → xs[k]? = some x → YieldAt Fence.wide m Tryd.prog l #[.int .i64 (k : Int), .string x] W fun e W' =>
      (e = .returned (.bool true) ∧ J (k + 1) W' ∧ Kz n0 n1 l W W') ∨ (e = .returned (.bool false) ∧ Jx k W'))
    (W : World) (hcX : W.cell? ⟨bX, 0, none⟩ = some (.slice a xs.length c)) (hs : slZ n0 n1 l q W a xs) (h0 : J 0 W) :
    CallsIn Fence.wide n Tryd.prog 41 #[.func (.yield l) #[] #[], .pointer (some ⟨bX, 0, none⟩)] W fun e W' => (∃ v, e = .returned v) ∧ (J xs.length W' ∨ ∃ k, k < xs.length ∧ Jx k W') := by
  refine callsIn_of_wp Tryd.func41 rfl trivial ?_ rfl
  simp only [Tryd.ntmps41, List.size_toArray, List.length_cons, List.length_nil, Nat.reduceAdd, Nat.reduceSub, Array.replicate_succ, Array.replicate_zero, List.push_toArray, List.append_toArray, List.nil_append, List.cons_append]
  obtain ⟨N, hN⟩ : ∃ N, xs.length = N := ⟨_, rfl⟩
  rw [hN] at hxs hcX ⊢
  gi_wp2
  gi_loopw [7] (fun i wr => ∃ k : Nat, k ≤ N ∧ i = .int .i64 (k : Int) ∧ J k wr ∧ Kz n0 n1 l W wr)
    (fun i _ => (N - (intOf i).toNat))
  case atStart => exact ⟨0, by omega, rfl, h0, Kz.refl _ _ _ _⟩
  case round =>
    obtain ⟨k, hk, rfl, hJs, hkz⟩ := hrel
    by_cases hlt : k < N
    · have l0 : (k : Int) < N := by omega
      obtain ⟨x, hx⟩ : ∃ x, xs[k]? = some x := ⟨xs[k]'(by omega), List.getElem?_eq_getElem (by omega)⟩
      obtain ⟨b, o, rfl, hb, c0⟩ := slS_at (hs.kz hkz).slS k x hx
      have wk : IntKind.i64.wrap ((k : Int) + 1) = ((k + 1 : Nat) : Int) := by rw [IntKind.wrap_i64]; omega
      obtain ⟨fn, tmps, assign, body, hy, hR⟩ := hY (n - 1) k x wr hJs hx
      have HH : Hid (Kz n0 n1 l W wr) := hkz
      clear hJs hkz
      gi_wp2
      refine ⟨fun h => (by cases h), hR.mono ?_⟩
      rintro e W3 (⟨rfl, hJ3, hk3⟩ | ⟨rfl, hJx3⟩)
      · clear hy hR c0
        gi_wp2
        go_roundw
        case rel => exact ⟨k + 1, by omega, by first | rfl | (congr 1; omega), hJ3, Kz.trans HH.out hk3⟩
        case measure => simp [intOf]; omega
      · clear hy hR c0
        gi_wp2
        refine bodyPost_ret (v := .tuple #[]) (by simp [results, Tryd.results41, go_sem]) rfl ⟨⟨_, rfl⟩, .inr ⟨k, hlt, hJx3⟩⟩
    · obtain rfl : k = N := by omega
      have l0 : ¬ (k : Int) < k := by omega
      gi_wp2
      go_end0
      exact ⟨⟨_, rfl⟩, .inl hJs⟩
end Go.Proofs.YtmemfdpfbeijeabDoor
