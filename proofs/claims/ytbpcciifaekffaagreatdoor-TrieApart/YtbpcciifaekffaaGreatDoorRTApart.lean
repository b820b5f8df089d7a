/- TrieApart: for any two lists of pairs the law returns true, and leaves them as they are: of the first twenty pairs of each, where the roots are the same, the pairs are the same, or two texts that differ have the same digest. Its tables are tied to the program's text. No condition. -/
import Derived.Test.YtbpcciifaekffaaGreatDoorCards
import Derived.Test.YtbpcciifaekffaaGreatDoorM1
import Derived.Test.YtbpcciifaekffaaGreatDoorM10
import Derived.Test.YtbpcciifaekffaaGreatDoorM11
import Derived.Test.YtbpcciifaekffaaGreatDoorM12
import Derived.Test.YtbpcciifaekffaaGreatDoorM13
import Derived.Test.YtbpcciifaekffaaGreatDoorM14
import Derived.Test.YtbpcciifaekffaaGreatDoorM15
import Derived.Test.YtbpcciifaekffaaGreatDoorM16
import Derived.Test.YtbpcciifaekffaaGreatDoorM17
import Derived.Test.YtbpcciifaekffaaGreatDoorM18
import Derived.Test.YtbpcciifaekffaaGreatDoorM19
import Derived.Test.YtbpcciifaekffaaGreatDoorM2
import Derived.Test.YtbpcciifaekffaaGreatDoorM20
import Derived.Test.YtbpcciifaekffaaGreatDoorM21
import Derived.Test.YtbpcciifaekffaaGreatDoorM22
import Derived.Test.YtbpcciifaekffaaGreatDoorM23
import Derived.Test.YtbpcciifaekffaaGreatDoorM24
import Derived.Test.YtbpcciifaekffaaGreatDoorM25
import Derived.Test.YtbpcciifaekffaaGreatDoorM26
import Derived.Test.YtbpcciifaekffaaGreatDoorM27
import Derived.Test.YtbpcciifaekffaaGreatDoorM28
import Derived.Test.YtbpcciifaekffaaGreatDoorM29
import Derived.Test.YtbpcciifaekffaaGreatDoorM3
import Derived.Test.YtbpcciifaekffaaGreatDoorM30
import Derived.Test.YtbpcciifaekffaaGreatDoorM31
import Derived.Test.YtbpcciifaekffaaGreatDoorM32
import Derived.Test.YtbpcciifaekffaaGreatDoorM33
import Derived.Test.YtbpcciifaekffaaGreatDoorM34
import Derived.Test.YtbpcciifaekffaaGreatDoorM35
import Derived.Test.YtbpcciifaekffaaGreatDoorM36
import Derived.Test.YtbpcciifaekffaaGreatDoorM37
import Derived.Test.YtbpcciifaekffaaGreatDoorM38
import Derived.Test.YtbpcciifaekffaaGreatDoorM39
import Derived.Test.YtbpcciifaekffaaGreatDoorM4
import Derived.Test.YtbpcciifaekffaaGreatDoorM40
import Derived.Test.YtbpcciifaekffaaGreatDoorM41
import Derived.Test.YtbpcciifaekffaaGreatDoorM42
import Derived.Test.YtbpcciifaekffaaGreatDoorM43
import Derived.Test.YtbpcciifaekffaaGreatDoorM44
import Derived.Test.YtbpcciifaekffaaGreatDoorM45
import Derived.Test.YtbpcciifaekffaaGreatDoorM46
import Derived.Test.YtbpcciifaekffaaGreatDoorM47
import Derived.Test.YtbpcciifaekffaaGreatDoorM48
import Derived.Test.YtbpcciifaekffaaGreatDoorM49
import Derived.Test.YtbpcciifaekffaaGreatDoorM5
import Derived.Test.YtbpcciifaekffaaGreatDoorM50
import Derived.Test.YtbpcciifaekffaaGreatDoorM51
import Derived.Test.YtbpcciifaekffaaGreatDoorM52
import Derived.Test.YtbpcciifaekffaaGreatDoorM53
import Derived.Test.YtbpcciifaekffaaGreatDoorM54
import Derived.Test.YtbpcciifaekffaaGreatDoorM55
import Derived.Test.YtbpcciifaekffaaGreatDoorM6
import Derived.Test.YtbpcciifaekffaaGreatDoorM7
import Derived.Test.YtbpcciifaekffaaGreatDoorM8
import Derived.Test.YtbpcciifaekffaaGreatDoorM9
import Derived.Test.YtbpcciifaekffaaGreatDoorRows
import Derived.Test.YtbpcciifaekffaaGreatDoorTie
import Derived.Carry
import Derived.Deep.DeepHandedRow
import Derived.JoinedCond
import Derived.Lib.LaidTab
import Derived.SevenTiedAt
import Derived.SizedLaws
import Derived.SliceStrings
namespace Go.Proofs.YtbpcciifaekffaaGreatDoor
open Go.ChangeShapes Go.WideShapes Go.ChangeAt Go.RowKit

theorem tap_laidOut : laidOutB Tryz.prog = true := by kernel_rfl

set_option maxHeartbeats 400000 in
set_option maxRecDepth 100000 in
theorem tap_lifted (os : Os) (started : os.Started) (H : Type) (enc : TypeId × Value → H) :
    ReturnsInHanded {} Tryz.checked os 7 .any (fun w args => (Rows.trieApartSpec.pre enc Tryz.prog Tryz.f7 [] false w args ∧ laidMetH Tryz.prog laid3 w) ∧ sizedMet enc Tryz.prog Tryz.f7 (OpenSpec.ofChange Rows.trieApartSpec) false w args)
      (Rows.trieApartSpec.post enc Tryz.prog Tryz.f7 false true false false) := by
  refine returnsInHanded_of_change_and (C := Tryz.checked) (X := fun w _ => laidMetH Tryz.prog laid3 w) (fun _ _ _ hh h => h.of_heap hh) rowOwn started (by kernel_rfl) Tryz.func7
    (ChangeSpec.witness_shaped (enc := enc) (C := Tryz.checked) (os := os) (X := fun w _ => laidMetH Tryz.prog laid3 w) false (World.doorLaid Tryz.prog 400 os) #[.slice none 0 0, .slice none 0 0] 8 rfl (World.shaped_of_RefB (by kernel_rfl) (by kernel_rfl)) (by kernel_rfl) (by kernel_rfl) (by kernel_rfl) (door_met os _)) ?_
  intro W base args ds gs before hval0 hW _ _ hL _
  have hval : ∀ (j : Nat) t v, Tryz.f7.params[j]? = some t → args[j]? = some v → Value.okWide Tryz.prog W .any base t v := hval0
  have hW' := hW
  obtain ⟨p, q, hA0, hV, rfl, _, _⟩ := hW
  have hA : DataW.TrodAll enc Tryz.prog W 0 (fun _ => true) true Tryz.f7.params.toList args.toList ds p := hA0
  rw [Tryz.params7] at hA hval
  obtain ⟨v0, v1, d0, d1, p0, p1, rfl, rfl, rfl, h0, h1⟩ := trodAll_two hA
  obtain ⟨rfl, rfl⟩ := trodVars_none hV
  obtain ⟨a0, len0, cap0, rfl⟩ := okWide_slice Tryz.underlying22 (hval 0 22 v0 rfl rfl)
  have k0 := h0
  obtain ⟨fuel0, f0⟩ := h0
  have hc0 := pairs_cap f0
  obtain ⟨es0, rfl, m0⟩ := open_pairs f0
  obtain ⟨a1, len1, cap1, rfl⟩ := okWide_slice Tryz.underlying22 (hval 1 22 v1 rfl rfl)
  have k1 := h1
  obtain ⟨fuel1, f1⟩ := h1
  have hc1 := pairs_cap f1
  obtain ⟨es1, rfl, m1⟩ := open_pairs f1
  have hl := of_laid hL
  clear hA0 hval0 hval hA
  simp only [List.append_nil] at hW'
  have hlt : ∀ x ∈ (p0 ++ p1), x.block < W.heap.size := fun x hx => by simpa using hW'.lt x (by simpa using hx)
  have hlt0 : ∀ x ∈ p0, x.block < W.heap.size := fun x hx => hlt x (by simp [hx])
  have hlt1 : ∀ x ∈ p1, x.block < W.heap.size := fun x hx => hlt x (by simp [hx])
  refine (tap_any es0 a0 cap0 es1 a1 cap1 W hl m0 hc0 m1 hc1).mono fun e W' ⟨he, hg⟩ => ?_
  subst he
  refine ⟨_, rfl, _, _, _, [], (p0 ++ p1), [], hW', ?_, ?_, rfl, hg.frame _, fun h => by cases h⟩
  · exact trodAll_mk1 (shut_bool Tryz.underlying4 _)
  · exact trodAll_mk2 (Below.trod tap_laidOut (by kernel_rfl) (of_decide_eq_true (by kernel_rfl)) k0 hg hlt0) (Below.trod tap_laidOut (by kernel_rfl) (of_decide_eq_true (by kernel_rfl)) k1 hg hlt1)

theorem tap_holds : Rows.TrieApartSaid :=
  OpenClaim.holds_of_wide 7 Tryz.f7 rfl rfl rfl rfl rfl rfl rfl ⟨rfl, rfl, rfl, rfl, rfl⟩ rfl rfl rfl rfl rfl (by kernel_rfl) Tryz.func7 (by kernel_rfl)
    (of_decide_eq_true (by kernel_rfl)) (by unfold Func.isWrapper; first | (rw [if_pos (by decide +kernel)]; kernel_rfl) | (rw [if_neg (by decide +kernel)]; exact ⟨rfl, rfl⟩))
    (fun os started H enc _ => tap_lifted os started H enc)

theorem tap_card : Rows.TrieApartCardSaid :=
  Claim7.holds_tied_plain_at .later [] [.data, .data, .data] true Rows.trieApartCard.stood.harness false
    tap_holds (fun _ h => by cases h) (by kernel_rfl) (fun _ h => by cases h) trieApart_row_tie rfl ⟨rfl, rfl⟩ (by kernel_rfl) rfl
    (fun f fn hf hfn => by
      obtain rfl : f = 7 := Option.some.inj ((show Tryz.prog.funcNamed "pharos/pharoslaw06.TrieApart" = some 7 by kernel_rfl).symm.trans hf) |>.symm
      obtain rfl : fn = Tryz.f7 := (Option.some.inj (Tryz.func7.symm.trans hfn)).symm
      exact ⟨by kernel_rfl, fun j t ht => by
        rw [Tryz.params7] at ht
        obtain rfl : t = 22 := by
          rcases j with _ | _ | j
          · simpa using ht.symm
          · simpa using ht.symm
          · simp at ht
        exact (show Tryz.prog.wantsStandIn 22 = false by kernel_rfl)⟩)
    (by kernel_rfl)
#print axioms tap_card
end Go.Proofs.YtbpcciifaekffaaGreatDoor
