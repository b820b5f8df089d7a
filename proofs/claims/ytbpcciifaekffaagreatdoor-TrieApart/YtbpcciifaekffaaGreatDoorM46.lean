/- Lemmas: shown. -/
import Derived.Test.YtbpcciifaekffaaGreatDoorM1
import Derived.Test.YtbpcciifaekffaaGreatDoorM10
import Derived.Test.YtbpcciifaekffaaGreatDoorM11
import Derived.Test.YtbpcciifaekffaaGreatDoorM12
import Derived.Test.YtbpcciifaekffaaGreatDoorM13
import Derived.Test.YtbpcciifaekffaaGreatDoorM14
import Derived.Test.YtbpcciifaekffaaGreatDoorM15
import Derived.Test.YtbpcciifaekffaaGreatDoorM16
import Derived.Test.YtbpcciifaekffaaGreatDoorM17
import Derived.Test.YtbpcciifaekffaaGreatDoorM18
import Derived.Test.YtbpcciifaekffaaGreatDoorM19
import Derived.Test.YtbpcciifaekffaaGreatDoorM2
import Derived.Test.YtbpcciifaekffaaGreatDoorM20
import Derived.Test.YtbpcciifaekffaaGreatDoorM21
import Derived.Test.YtbpcciifaekffaaGreatDoorM22
import Derived.Test.YtbpcciifaekffaaGreatDoorM23
import Derived.Test.YtbpcciifaekffaaGreatDoorM24
import Derived.Test.YtbpcciifaekffaaGreatDoorM25
import Derived.Test.YtbpcciifaekffaaGreatDoorM26
import Derived.Test.YtbpcciifaekffaaGreatDoorM27
import Derived.Test.YtbpcciifaekffaaGreatDoorM28
import Derived.Test.YtbpcciifaekffaaGreatDoorM29
import Derived.Test.YtbpcciifaekffaaGreatDoorM3
import Derived.Test.YtbpcciifaekffaaGreatDoorM30
import Derived.Test.YtbpcciifaekffaaGreatDoorM31
import Derived.Test.YtbpcciifaekffaaGreatDoorM32
import Derived.Test.YtbpcciifaekffaaGreatDoorM33
import Derived.Test.YtbpcciifaekffaaGreatDoorM34
import Derived.Test.YtbpcciifaekffaaGreatDoorM35
import Derived.Test.YtbpcciifaekffaaGreatDoorM36
import Derived.Test.YtbpcciifaekffaaGreatDoorM37
import Derived.Test.YtbpcciifaekffaaGreatDoorM38
import Derived.Test.YtbpcciifaekffaaGreatDoorM39
import Derived.Test.YtbpcciifaekffaaGreatDoorM4
import Derived.Test.YtbpcciifaekffaaGreatDoorM40
import Derived.Test.YtbpcciifaekffaaGreatDoorM41
import Derived.Test.YtbpcciifaekffaaGreatDoorM42
import Derived.Test.YtbpcciifaekffaaGreatDoorM43
import Derived.Test.YtbpcciifaekffaaGreatDoorM44
import Derived.Test.YtbpcciifaekffaaGreatDoorM45
import Derived.Test.YtbpcciifaekffaaGreatDoorM6
import Derived.Test.YtbpcciifaekffaaGreatDoorM7
import Derived.Test.YtbpcciifaekffaaGreatDoorM8
import Derived.Test.YtbpcciifaekffaaGreatDoorM9
import Derived.Test.YtbpcciifaekffaaGreatDoorRows
namespace Go.Proofs.YtbpcciifaekffaaGreatDoor
open Go.RowKit Go.Shelf Go.Sort

theorem right4 : RightP four4 := by
  refine ⟨by decide, fun j e he => ?_, fun j k e f hjk he hf => ?_⟩
  · have : e ∈ four4 := List.mem_of_getElem? he
    have h : ∀ e ∈ four4, pOk e = true := by decide +kernel
    exact h e this
  · have hk : k < 4 := (List.getElem?_eq_some_iff.1 hf).1
    have h : ∀ j k : Fin 4, j.val < k.val → (four4[j.val]?.map (·.1)) ≠ (four4[k.val]?.map (·.1)) := by decide +kernel
    have := h ⟨j, by omega⟩ ⟨k, hk⟩ hjk
    intro h'
    apply this
    show (four4[j]?.map (·.1)) = (four4[k]?.map (·.1))
    rw [he, hf]
    simp [h']
theorem sorted4 : SortedP four4 := by
  intro i j x y hij hx hy
  have hj : j < 4 := (List.getElem?_eq_some_iff.1 hy).1
  have h : ∀ i j : Fin 4, i.val < j.val → ∀ x ∈ four4[i.val]?, ∀ y ∈ four4[j.val]?, ltStr y.1.data.toList x.1.data.toList = false := by decide +kernel
  exact h ⟨i, by omega⟩ ⟨j, hj⟩ hij x hx y hy
theorem only4 {es' : List Pr} (h : es'.Perm four4) (hs : SortedP es') : es' = four4 := sorted_one right4 h (List.Perm.refl _) hs sorted4
set_option maxRecDepth 20000 in
set_option maxHeartbeats 1000000 in
theorem four_any (w : World) :
    Calls Tryz.prog 23 #[] w fun e w' => Below w.heap.size w w' ∧ ∃ b, e = .returned (.slice (some ⟨b, 0, none⟩) 4 4) ∧ w.heap.size ≤ b ∧ slP w'.heap.size w' (some ⟨b, 0, none⟩) four4 := by
  go_enter Tryz.func23, Tryz.ntmps23
  go_wp2
  go_ret
  refine ⟨be_new w _, w.heap.size, rfl, Nat.le_refl _, .inr ⟨w.heap.size, 0, rfl, by simp, ?_⟩⟩
  intro j e he
  have hc := fun k => Lib.cell_of_heap (j := k) (World.alloc_heap_new w (.cells #[.string ⟨#[100, 111]⟩, .string ⟨#[118, 101, 114, 98]⟩, .string ⟨#[100, 111, 103]⟩, .string ⟨#[112, 117, 112, 112, 121]⟩, .string ⟨#[100, 111, 103, 101]⟩, .string ⟨#[99, 111, 105, 110]⟩, .string ⟨#[104, 111, 114, 115, 101]⟩, .string ⟨#[115, 116, 97, 108, 108, 105, 111, 110]⟩] 40))
  match j, he with
  | 0, he => cases he; exact ⟨hc 0, hc 1⟩
  | 1, he => cases he; exact ⟨hc 2, hc 3⟩
  | 2, he => cases he; exact ⟨hc 4, hc 5⟩
  | 3, he => cases he; exact ⟨hc 6, hc 7⟩
  | k + 4, he => cases he

set_option maxRecDepth 20000 in
set_option maxHeartbeats 2000000 in
theorem shown6_any (w : World) (hl : Laid w) :
    Calls Tryz.prog 9 #[] w fun e w' => e = .returned (.bool true) ∧ Below w.heap.size w w' := by
  go_enter Tryz.func9, Tryz.ntmps9
  go_wp2_with fail
  refine (four_any w).mono ?_
  rintro e w1 ⟨B1, b1, rfl, hb1, hp1⟩
  have KR := root_any four4 (some ⟨b1, 0, none⟩) 4 w1.heap.size w1 (hl.below B1) (Nat.le_refl _) hp1
  go_wp2_with fail
  refine KR.mono ?_
  rintro e w2 ⟨B2, hr⟩
  rcases hr with ⟨hn, _⟩ | ⟨_, es', hperm, hsort, rfl⟩
  · exact absurd right4 hn
  rw [only4 hperm hsort, topB4, D4.sum]
  clear hperm hsort KR hp1
  have B12 := belowStep B1 B1.size B2
  go_wp2_with fail
  refine (four_any w2).mono ?_
  rintro e w3 ⟨B3, b3, rfl, hb3, hp3⟩
  have B13 := belowStep B12 B12.size B3
  have KP := prove_any four4 ⟨#[100, 111, 103]⟩ (some ⟨b3, 0, none⟩) 4 w3.heap.size w3 (hl.below B13) (Nat.le_refl _) hp3
  go_wp2_with fail
  refine KP.mono ?_
  rintro e w4 ⟨B4, hr⟩
  rcases hr with ⟨hn, _⟩ | ⟨_, es', v, hperm, hsort, rfl, hown⟩
  · exact absurd right4 hn
  rw [only4 hperm hsort, way4] at hown
  clear hperm hsort KP hp3
  have B14 := belowStep B13 B13.size B4
  obtain ⟨g, c, rfl, c0⟩ : ∃ g c, v = .slice (some ⟨g, 0, none⟩) 4 c ∧ w4.cell? ⟨g, 0, none⟩ = some (.string D4.t) := by
    rcases hown.2 with ⟨_, h⟩ | ⟨g, c, cur, h1, h2, h3, h4, h5, h6, h7⟩
    · cases h
    · refine ⟨g, c, h1, ?_⟩
      rw [Lib.cell_of_heap h3]
      have := congrArg (fun l : List Value => l[0]?) h7
      simpa [List.getElem?_take] using this
  have KM := fun w => rsum_any D4.t (by decide +kernel) w
  rw [rsum_is, D4.sum] at KM
  have hd : D4.d.size = 32 := by decide +kernel
  have hx : (D4.d.extract 0 4).toList = [89, 145, 187, 140] := by rw [Lib.toList_data]; decide +kernel
  have HB : Hid _ := B14
  clear hown B14 B13 B12 B4 B3 B2 B1
  go_wp2_with fail
  refine (KM _).mono ?_
  rintro e w5 ⟨rfl, B5⟩
  have BW := belowStep HB.out HB.out.size B5
  clear KM B5
  go_wp2
  go_ret
  exact ⟨congrArg (fun b => Ending.returned (.bool b)) (by decide +kernel), BW⟩
end Go.Proofs.YtbpcciifaekffaaGreatDoor
