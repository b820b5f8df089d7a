/- A text's point is the document's. Its tables are tied to the program's text. No condition. -/
import Derived.Test.YtgefjmpnpebfoaaGreatDoorCards
import Derived.Test.YtgefjmpnpebfoaaGreatDoorM1
import Derived.Test.YtgefjmpnpebfoaaGreatDoorM10
import Derived.Test.YtgefjmpnpebfoaaGreatDoorM11
import Derived.Test.YtgefjmpnpebfoaaGreatDoorM12
import Derived.Test.YtgefjmpnpebfoaaGreatDoorM13
import Derived.Test.YtgefjmpnpebfoaaGreatDoorM14
import Derived.Test.YtgefjmpnpebfoaaGreatDoorM15
import Derived.Test.YtgefjmpnpebfoaaGreatDoorM16
import Derived.Test.YtgefjmpnpebfoaaGreatDoorM17
import Derived.Test.YtgefjmpnpebfoaaGreatDoorM18
import Derived.Test.YtgefjmpnpebfoaaGreatDoorM19
import Derived.Test.YtgefjmpnpebfoaaGreatDoorM2
import Derived.Test.YtgefjmpnpebfoaaGreatDoorM20
import Derived.Test.YtgefjmpnpebfoaaGreatDoorM21
import Derived.Test.YtgefjmpnpebfoaaGreatDoorM22
import Derived.Test.YtgefjmpnpebfoaaGreatDoorM23
import Derived.Test.YtgefjmpnpebfoaaGreatDoorM24
import Derived.Test.YtgefjmpnpebfoaaGreatDoorM25
import Derived.Test.YtgefjmpnpebfoaaGreatDoorM26
import Derived.Test.YtgefjmpnpebfoaaGreatDoorM27
import Derived.Test.YtgefjmpnpebfoaaGreatDoorM28
import Derived.Test.YtgefjmpnpebfoaaGreatDoorM29
import Derived.Test.YtgefjmpnpebfoaaGreatDoorM3
import Derived.Test.YtgefjmpnpebfoaaGreatDoorM30
import Derived.Test.YtgefjmpnpebfoaaGreatDoorM31
import Derived.Test.YtgefjmpnpebfoaaGreatDoorM32
import Derived.Test.YtgefjmpnpebfoaaGreatDoorM33
import Derived.Test.YtgefjmpnpebfoaaGreatDoorM34
import Derived.Test.YtgefjmpnpebfoaaGreatDoorM35
import Derived.Test.YtgefjmpnpebfoaaGreatDoorM36
import Derived.Test.YtgefjmpnpebfoaaGreatDoorM37
import Derived.Test.YtgefjmpnpebfoaaGreatDoorM38
import Derived.Test.YtgefjmpnpebfoaaGreatDoorM39
import Derived.Test.YtgefjmpnpebfoaaGreatDoorM4
import Derived.Test.YtgefjmpnpebfoaaGreatDoorM40
import Derived.Test.YtgefjmpnpebfoaaGreatDoorM5
import Derived.Test.YtgefjmpnpebfoaaGreatDoorM6
import Derived.Test.YtgefjmpnpebfoaaGreatDoorM7
import Derived.Test.YtgefjmpnpebfoaaGreatDoorM8
import Derived.Test.YtgefjmpnpebfoaaGreatDoorM9
import Derived.Test.YtgefjmpnpebfoaaGreatDoorRows
import Derived.Test.YtgefjmpnpebfoaaGreatDoorTie
import Derived.Carry
import Derived.Deep.DeepHandedRow
import Derived.JoinedCond
import Derived.Lib.LaidTab
import Derived.SevenTiedAt
import Derived.SizedLaws
import Derived.SliceStrings
namespace Go.Proofs.YtgefjmpnpebfoaaGreatDoor
open Go.ChangeShapes Go.WideShapes Go.ChangeAt Go.RowKit

theorem shash_laidOut : laidOutB Tryz.prog = true := by kernel_rfl

set_option maxHeartbeats 400000 in
set_option maxRecDepth 100000 in
theorem shash_lifted (os : Os) (started : os.Started) (H : Type) (enc : TypeId × Value → H) :
    ReturnsInHanded {} Tryz.checked os 3 .any (fun w args => (Rows.signHashesSpec.pre enc Tryz.prog Tryz.f3 [] false w args ∧ laidMetH Tryz.prog laid3 w) ∧ sizedMet enc Tryz.prog Tryz.f3 (OpenSpec.ofChange Rows.signHashesSpec) false w args)
      (Rows.signHashesSpec.post enc Tryz.prog Tryz.f3 false true false false) := by
  refine returnsInHanded_of_change_and (C := Tryz.checked) (X := fun w _ => laidMetH Tryz.prog laid3 w) (fun _ _ _ hh h => h.of_heap hh) rowOwn started (by kernel_rfl) Tryz.func3
    (ChangeSpec.witness_shaped (enc := enc) (C := Tryz.checked) (os := os) (X := fun w _ => laidMetH Tryz.prog laid3 w) false (World.doorLaid Tryz.prog 400 os) #[.string ByteArray.empty] 8 rfl (World.shaped_of_RefB (by kernel_rfl) (by kernel_rfl)) (by kernel_rfl) (by kernel_rfl) (by kernel_rfl) (door_met os _)) ?_
  intro W base args ds gs before hval0 hW _ _ hL _
  have hval : ∀ (j : Nat) t v, Tryz.f3.params[j]? = some t → args[j]? = some v → Value.okWide Tryz.prog W .any base t v := hval0
  have hW' := hW
  obtain ⟨p, q, hA0, hV, rfl, _, _⟩ := hW
  have hA : DataW.TrodAll enc Tryz.prog W 0 (fun _ => true) true Tryz.f3.params.toList args.toList ds p := hA0
  rw [Tryz.params3] at hA hval
  obtain ⟨v0, d0, rfl, rfl, h0⟩ := trodAll_one hA
  obtain ⟨rfl, rfl⟩ := trodVars_none hV
  obtain ⟨a0, rfl, rfl, rfl, w0⟩ := Go.ChangeMaps.open_string Tryz.underlying9 (hval 0 9 v0 rfl rfl) h0
  have hl := of_laid hL
  clear hA0 hval0 hval hA
  simp only [List.append_nil] at hW'
  have hlt : ∀ x ∈ (([] : List MemPlace)), x.block < W.heap.size := fun x hx => by simpa using hW'.lt x (by simp at hx)

  refine (shash_any a0 W hl ).mono fun e W' ⟨he, hg⟩ => ?_
  subst he
  refine ⟨_, rfl, _, _, _, [], (([] : List MemPlace)), [], hW', ?_, ?_, rfl, hg.frame _, fun h => by cases h⟩
  · exact trodAll_mk1 (shut_bool Tryz.underlying4 _)
  · exact trodAll_mk1 (Go.ChangeMaps.shut_string Tryz.underlying9 w0)

theorem shash_holds : Rows.SignHashesSaid :=
  OpenClaim.holds_of_wide 3 Tryz.f3 rfl rfl rfl rfl rfl rfl rfl ⟨rfl, rfl, rfl, rfl, rfl⟩ rfl rfl rfl rfl rfl (by kernel_rfl) Tryz.func3 (by kernel_rfl)
    (of_decide_eq_true (by kernel_rfl)) (by unfold Func.isWrapper; first | (rw [if_pos (by decide +kernel)]; kernel_rfl) | (rw [if_neg (by decide +kernel)]; exact ⟨rfl, rfl⟩))
    (fun os started H enc _ => shash_lifted os started H enc)

theorem shash_card : Rows.SignHashesCardSaid :=
  Claim7.holds_tied_plain_at .later [] [.data, .data, .data, .data, .data, .data, .data] true Rows.signHashesCard.stood.harness false
    shash_holds (fun _ h => by cases h) (by kernel_rfl) (fun _ h => by cases h) signHashes_row_tie rfl ⟨rfl, rfl⟩ (by kernel_rfl) rfl
    (fun f fn hf hfn => by
      obtain rfl : f = 3 := Option.some.inj ((show Tryz.prog.funcNamed "pharos/pharoslaw12.SignHashes" = some 3 by kernel_rfl).symm.trans hf) |>.symm
      obtain rfl : fn = Tryz.f3 := (Option.some.inj (Tryz.func3.symm.trans hfn)).symm
      exact ⟨by kernel_rfl, fun j t ht => by
        rw [Tryz.params3] at ht
        have h3 : t = 9 := by
          rcases j with _ | j
          · have e := ht.symm; simp at e; simp [e]
          · simp at ht
        rcases h3 with rfl
        · exact (show Tryz.prog.wantsStandIn 9 = false by kernel_rfl)⟩)
    (by kernel_rfl)
#print axioms shash_card
end Go.Proofs.YtgefjmpnpebfoaaGreatDoor
