/- Lemmas: TrieRight's walk; pairs opened from a law's arguments. -/
import Derived.Test.YtbpcciifaekffaaGreatDoorM1
import Derived.Test.YtbpcciifaekffaaGreatDoorM10
import Derived.Test.YtbpcciifaekffaaGreatDoorM11
import Derived.Test.YtbpcciifaekffaaGreatDoorM12
import Derived.Test.YtbpcciifaekffaaGreatDoorM13
import Derived.Test.YtbpcciifaekffaaGreatDoorM14
import Derived.Test.YtbpcciifaekffaaGreatDoorM15
import Derived.Test.YtbpcciifaekffaaGreatDoorM16
import Derived.Test.YtbpcciifaekffaaGreatDoorM17
import Derived.Test.YtbpcciifaekffaaGreatDoorM18
import Derived.Test.YtbpcciifaekffaaGreatDoorM19
import Derived.Test.YtbpcciifaekffaaGreatDoorM2
import Derived.Test.YtbpcciifaekffaaGreatDoorM20
import Derived.Test.YtbpcciifaekffaaGreatDoorM21
import Derived.Test.YtbpcciifaekffaaGreatDoorM22
import Derived.Test.YtbpcciifaekffaaGreatDoorM23
import Derived.Test.YtbpcciifaekffaaGreatDoorM24
import Derived.Test.YtbpcciifaekffaaGreatDoorM25
import Derived.Test.YtbpcciifaekffaaGreatDoorM26
import Derived.Test.YtbpcciifaekffaaGreatDoorM27
import Derived.Test.YtbpcciifaekffaaGreatDoorM28
import Derived.Test.YtbpcciifaekffaaGreatDoorM29
import Derived.Test.YtbpcciifaekffaaGreatDoorM3
import Derived.Test.YtbpcciifaekffaaGreatDoorM30
import Derived.Test.YtbpcciifaekffaaGreatDoorM31
import Derived.Test.YtbpcciifaekffaaGreatDoorM32
import Derived.Test.YtbpcciifaekffaaGreatDoorM33
import Derived.Test.YtbpcciifaekffaaGreatDoorM36
import Derived.Test.YtbpcciifaekffaaGreatDoorM37
import Derived.Test.YtbpcciifaekffaaGreatDoorM4
import Derived.Test.YtbpcciifaekffaaGreatDoorM5
import Derived.Test.YtbpcciifaekffaaGreatDoorM6
import Derived.Test.YtbpcciifaekffaaGreatDoorM7
import Derived.Test.YtbpcciifaekffaaGreatDoorM8
import Derived.Test.YtbpcciifaekffaaGreatDoorM9
import Derived.Test.YtbpcciifaekffaaGreatDoorRows
import Derived.Deep.SlicePairs
namespace Go.Proofs.YtbpcciifaekffaaGreatDoor
open Go.ChangeShapes Go.WideShapes Go.ChangeAt Go.RowKit

theorem cellsPr : Tryz.prog.cellsOf 40 = 2 := by kernel_rfl
theorem cellsSt : Tryz.prog.cellsOf 9 = 1 := by kernel_rfl
/-- Pairs that a law gets: where they lie. -/
theorem open_pairs {H : Type} {enc : TypeId × Value → H} {W : World} {fuel : Nat} {a : Option Addr} {len cap : Nat} {x : DataW H × List MemPlace} (h : DataW.trod enc Tryz.prog W 0 (fun _ => true) true fuel 22 [.slice a len cap] = some x) :
    ∃ es : List Pr, es.length = len ∧ slP W.heap.size W a es := by
  rcases Go.Deep.open_slice_pairs Tryz.underlying22 Tryz.underlying40 cellsPr rfl rfl cellsSt cellsSt h with ⟨hcs, hx⟩ | ⟨a', len', cap', m, n, V0, V1, D0, D1, P0, P1, hcs, _, hle, hm, hmm, hx, hc⟩
  · injection hcs with hcs _
    injection hcs with h1 h2 h3
    exact ⟨[], h2.symm, .inl rfl⟩
  · injection hcs with hcs _
    injection hcs with h1 h2 h3
    subst h1 h2 h3
    rw [if_pos rfl] at hmm
    subst hmm
    by_cases h0 : len = 0
    · subst h0
      exact ⟨[], rfl, .inl rfl⟩
    · have each : ∀ i, i < len → ∃ e : Pr, V0 i = .string e.1 ∧ V1 i = .string e.2 := fun i hi => by
        obtain ⟨_, _, g0, g1⟩ := hc i (by omega)
        obtain ⟨t0, e0, _⟩ := DataW.trod_string Tryz.underlying9 g0
        obtain ⟨t1, e1, _⟩ := DataW.trod_string Tryz.underlying9 g1
        injection e0 with e0 _
        injection e1 with e1 _
        exact ⟨(t0, t1), e0, e1⟩
      obtain ⟨b, off, spot⟩ := a'
      have hspot : spot = none := by simpa [Addr.add] using World.cell?_spot (hc 0 (by omega)).1
      subst hspot
      have hbl : b < W.heap.size := by
        have := (hc 0 (by omega)).1
        rw [add_plain] at this
        exact block_lt_of_cell this
      refine ⟨(List.range len).map fun i => (match V0 i with | .string s => s | _ => ⟨#[]⟩, match V1 i with | .string s => s | _ => ⟨#[]⟩), by simp, .inr ⟨b, off, rfl, hbl, fun j e he => ?_⟩⟩
      rw [List.getElem?_map] at he
      cases hj : (List.range len)[j]? with
      | none => rw [hj] at he; cases he
      | some k =>
        rw [hj] at he
        have hk : j < len ∧ k = j := by
          have h1 := List.getElem?_eq_some_iff.1 hj
          obtain ⟨h2, h3⟩ := h1
          rw [List.getElem_range] at h3
          rw [List.length_range] at h2
          exact ⟨h2, h3.symm⟩
        obtain ⟨hjl, rfl⟩ := hk
        obtain ⟨e', f0, f1⟩ := each k hjl
        obtain ⟨k0, k1, _⟩ := hc k (by omega)
        rw [add_plain] at k0 k1
        rw [f0] at k0
        rw [f1] at k1
        simp only [Option.map_some, f0, f1] at he
        cases he
        exact ⟨by rw [show off + 2 * k = off + k * 2 by omega]; exact k0, by rw [show off + 2 * k + 1 = off + (k * 2 + 1) by omega]; exact k1⟩

open Go.Shelf Go.Sort
set_option maxRecDepth 20000 in
set_option maxHeartbeats 1000000 in
theorem tright_any (es : List Pr) (a : Option Addr) (c : Nat) (w : World) (hl : Laid w) (hp : slP w.heap.size w a es) :
    Calls Tryz.prog 4 #[.slice a es.length c] w fun e w' => e = .returned (.bool true) ∧ Below w.heap.size w w' := by
  go_enter Tryz.func4, Tryz.ntmps4
  go_wp2_with fail
  refine (shown6_any w hl).mono ?_
  rintro e w1 ⟨rfl, B1⟩
  have hp1 := slP_below B1 hp
  have K1 := right_any6 es a c w.heap.size w1 B1.size hp1
  have HP : Hid _ := hp
  clear hp hp1
  go_wp2_with fail
  refine K1.mono ?_
  rintro e w2 ⟨⟨b1, rfl, h1⟩, B2⟩
  have B12 := belowStep B1 B1.size B2
  have hp2 := slP_below B12 HP.out
  have K2 := rright6_any es a c w.heap.size w2 B12.size hp2
  have HH : Hid _ := h1
  clear hp2 h1 K1
  go_wp2_with fail
  refine K2.mono ?_
  rintro e w3 ⟨⟨b2, rfl, h2⟩, B3⟩
  have BW := belowStep B12 B12.size B3
  obtain rfl : b1 = b2 := by
    have h1 := HH.out
    cases b1 <;> cases b2 <;> simp_all
  clear h2 K2 HH HP
  go_wp2
  go_ret
  exact ⟨by simp, BW⟩
end Go.Proofs.YtbpcciifaekffaaGreatDoor
