/- TrieRoots: for any list of pairs the law returns true, and leaves them as they are: which of the first forty pairs are right, and their root, are the document's. Its tables are tied to the program's text. No condition. -/
import Derived.Test.YtfdjiofogohcmaaGreatDoorCards
import Derived.Test.YtfdjiofogohcmaaGreatDoorM1
import Derived.Test.YtfdjiofogohcmaaGreatDoorM10
import Derived.Test.YtfdjiofogohcmaaGreatDoorM11
import Derived.Test.YtfdjiofogohcmaaGreatDoorM12
import Derived.Test.YtfdjiofogohcmaaGreatDoorM13
import Derived.Test.YtfdjiofogohcmaaGreatDoorM14
import Derived.Test.YtfdjiofogohcmaaGreatDoorM15
import Derived.Test.YtfdjiofogohcmaaGreatDoorM16
import Derived.Test.YtfdjiofogohcmaaGreatDoorM17
import Derived.Test.YtfdjiofogohcmaaGreatDoorM18
import Derived.Test.YtfdjiofogohcmaaGreatDoorM19
import Derived.Test.YtfdjiofogohcmaaGreatDoorM2
import Derived.Test.YtfdjiofogohcmaaGreatDoorM20
import Derived.Test.YtfdjiofogohcmaaGreatDoorM21
import Derived.Test.YtfdjiofogohcmaaGreatDoorM22
import Derived.Test.YtfdjiofogohcmaaGreatDoorM23
import Derived.Test.YtfdjiofogohcmaaGreatDoorM24
import Derived.Test.YtfdjiofogohcmaaGreatDoorM25
import Derived.Test.YtfdjiofogohcmaaGreatDoorM26
import Derived.Test.YtfdjiofogohcmaaGreatDoorM27
import Derived.Test.YtfdjiofogohcmaaGreatDoorM28
import Derived.Test.YtfdjiofogohcmaaGreatDoorM29
import Derived.Test.YtfdjiofogohcmaaGreatDoorM3
import Derived.Test.YtfdjiofogohcmaaGreatDoorM30
import Derived.Test.YtfdjiofogohcmaaGreatDoorM31
import Derived.Test.YtfdjiofogohcmaaGreatDoorM32
import Derived.Test.YtfdjiofogohcmaaGreatDoorM33
import Derived.Test.YtfdjiofogohcmaaGreatDoorM34
import Derived.Test.YtfdjiofogohcmaaGreatDoorM35
import Derived.Test.YtfdjiofogohcmaaGreatDoorM36
import Derived.Test.YtfdjiofogohcmaaGreatDoorM37
import Derived.Test.YtfdjiofogohcmaaGreatDoorM38
import Derived.Test.YtfdjiofogohcmaaGreatDoorM39
import Derived.Test.YtfdjiofogohcmaaGreatDoorM4
import Derived.Test.YtfdjiofogohcmaaGreatDoorM40
import Derived.Test.YtfdjiofogohcmaaGreatDoorM41
import Derived.Test.YtfdjiofogohcmaaGreatDoorM42
import Derived.Test.YtfdjiofogohcmaaGreatDoorM5
import Derived.Test.YtfdjiofogohcmaaGreatDoorM6
import Derived.Test.YtfdjiofogohcmaaGreatDoorM7
import Derived.Test.YtfdjiofogohcmaaGreatDoorM8
import Derived.Test.YtfdjiofogohcmaaGreatDoorM9
import Derived.Test.YtfdjiofogohcmaaGreatDoorRows
import Derived.Test.YtfdjiofogohcmaaGreatDoorTie
import Derived.Carry
import Derived.Deep.DeepHandedRow
import Derived.JoinedCond
import Derived.Lib.LaidTab
import Derived.SevenTiedAt
import Derived.SizedLaws
import Derived.SliceStrings
namespace Go.Proofs.YtfdjiofogohcmaaGreatDoor
open Go.ChangeShapes Go.WideShapes Go.ChangeAt Go.RowKit

theorem troots_laidOut : laidOutB Tryz.prog = true := by kernel_rfl

set_option maxHeartbeats 400000 in
set_option maxRecDepth 100000 in
theorem troots_lifted (os : Os) (started : os.Started) (H : Type) (enc : TypeId × Value → H) :
    ReturnsInHanded {} Tryz.checked os 3 .any (fun w args => (Rows.trieRootsSpec.pre enc Tryz.prog Tryz.f3 [] false w args ∧ laidMetH Tryz.prog laid3 w) ∧ sizedMet enc Tryz.prog Tryz.f3 (OpenSpec.ofChange Rows.trieRootsSpec) false w args)
      (Rows.trieRootsSpec.post enc Tryz.prog Tryz.f3 false true false false) := by
  refine returnsInHanded_of_change_and (C := Tryz.checked) (X := fun w _ => laidMetH Tryz.prog laid3 w) (fun _ _ _ hh h => h.of_heap hh) rowOwn started (by kernel_rfl) Tryz.func3
    (ChangeSpec.witness_shaped (enc := enc) (C := Tryz.checked) (os := os) (X := fun w _ => laidMetH Tryz.prog laid3 w) false (World.doorLaid Tryz.prog 400 os) #[.slice none 0 0] 8 rfl (World.shaped_of_RefB (by kernel_rfl) (by kernel_rfl)) (by kernel_rfl) (by kernel_rfl) (by kernel_rfl) (door_met os _)) ?_
  intro W base args ds gs before hval0 hW _ _ hL _
  have hval : ∀ (j : Nat) t v, Tryz.f3.params[j]? = some t → args[j]? = some v → Value.okWide Tryz.prog W .any base t v := hval0
  have hW' := hW
  obtain ⟨p, q, hA0, hV, rfl, _, _⟩ := hW
  have hA : DataW.TrodAll enc Tryz.prog W 0 (fun _ => true) true Tryz.f3.params.toList args.toList ds p := hA0
  rw [Tryz.params3] at hA hval
  obtain ⟨v0, d0, rfl, rfl, h0⟩ := trodAll_one hA
  obtain ⟨rfl, rfl⟩ := trodVars_none hV
  obtain ⟨a0, len0, cap0, rfl⟩ := okWide_slice Tryz.underlying22 (hval 0 22 v0 rfl rfl)
  have k0 := h0
  obtain ⟨fuel0, f0⟩ := h0
  obtain ⟨es0, rfl, m0⟩ := open_pairs f0
  have hl := of_laid hL
  clear hA0 hval0 hval hA
  simp only [List.append_nil] at hW'
  have hlt : ∀ x ∈ (p), x.block < W.heap.size := fun x hx => by simpa using hW'.lt x (by simpa using hx)
  have hlt0 := hlt
  refine (troots_any es0 a0 cap0 W hl m0).mono fun e W' ⟨he, hg⟩ => ?_
  subst he
  refine ⟨_, rfl, _, _, _, [], (p), [], hW', ?_, ?_, rfl, hg.frame _, fun h => by cases h⟩
  · exact trodAll_mk1 (shut_bool Tryz.underlying4 _)
  · exact trodAll_mk1 (Below.trod troots_laidOut (by kernel_rfl) (of_decide_eq_true (by kernel_rfl)) k0 hg hlt0)

theorem troots_holds : Rows.TrieRootsSaid :=
  OpenClaim.holds_of_wide 3 Tryz.f3 rfl rfl rfl rfl rfl rfl rfl ⟨rfl, rfl, rfl, rfl, rfl⟩ rfl rfl rfl rfl rfl (by kernel_rfl) Tryz.func3 (by kernel_rfl)
    (of_decide_eq_true (by kernel_rfl)) (by unfold Func.isWrapper; first | (rw [if_pos (by decide +kernel)]; kernel_rfl) | (rw [if_neg (by decide +kernel)]; exact ⟨rfl, rfl⟩))
    (fun os started H enc _ => troots_lifted os started H enc)

theorem troots_card : Rows.TrieRootsCardSaid :=
  Claim7.holds_tied_plain_at .later [] [.data, .data, .data] true Rows.trieRootsCard.stood.harness false
    troots_holds (fun _ h => by cases h) (by kernel_rfl) (fun _ h => by cases h) trieRoots_row_tie rfl ⟨rfl, rfl⟩ (by kernel_rfl) rfl
    (fun f fn hf hfn => by
      obtain rfl : f = 3 := Option.some.inj ((show Tryz.prog.funcNamed "pharos/pharoslaw06.TrieRoots" = some 3 by kernel_rfl).symm.trans hf) |>.symm
      obtain rfl : fn = Tryz.f3 := (Option.some.inj (Tryz.func3.symm.trans hfn)).symm
      exact ⟨by kernel_rfl, fun j t ht => by
        rw [Tryz.params3] at ht
        obtain rfl : t = 22 := by
          rcases j with _ | j
          · simpa using ht.symm
          · simp at ht
        exact (show Tryz.prog.wantsStandIn 22 = false by kernel_rfl)⟩)
    (by kernel_rfl)
#print axioms troots_card
end Go.Proofs.YtfdjiofogohcmaaGreatDoor
