/- A text's point is not Inf; what holds of one key holds of that key alone in a list. Its tables are tied to the program's text. No condition. -/
import Derived.Test.YtgefjmpnpebfoaaDoorCards
import Derived.Test.YtgefjmpnpebfoaaDoorM1
import Derived.Test.YtgefjmpnpebfoaaDoorM10
import Derived.Test.YtgefjmpnpebfoaaDoorM11
import Derived.Test.YtgefjmpnpebfoaaDoorM12
import Derived.Test.YtgefjmpnpebfoaaDoorM13
import Derived.Test.YtgefjmpnpebfoaaDoorM14
import Derived.Test.YtgefjmpnpebfoaaDoorM15
import Derived.Test.YtgefjmpnpebfoaaDoorM16
import Derived.Test.YtgefjmpnpebfoaaDoorM17
import Derived.Test.YtgefjmpnpebfoaaDoorM18
import Derived.Test.YtgefjmpnpebfoaaDoorM19
import Derived.Test.YtgefjmpnpebfoaaDoorM2
import Derived.Test.YtgefjmpnpebfoaaDoorM20
import Derived.Test.YtgefjmpnpebfoaaDoorM21
import Derived.Test.YtgefjmpnpebfoaaDoorM22
import Derived.Test.YtgefjmpnpebfoaaDoorM23
import Derived.Test.YtgefjmpnpebfoaaDoorM24
import Derived.Test.YtgefjmpnpebfoaaDoorM25
import Derived.Test.YtgefjmpnpebfoaaDoorM26
import Derived.Test.YtgefjmpnpebfoaaDoorM27
import Derived.Test.YtgefjmpnpebfoaaDoorM28
import Derived.Test.YtgefjmpnpebfoaaDoorM29
import Derived.Test.YtgefjmpnpebfoaaDoorM3
import Derived.Test.YtgefjmpnpebfoaaDoorM30
import Derived.Test.YtgefjmpnpebfoaaDoorM4
import Derived.Test.YtgefjmpnpebfoaaDoorM5
import Derived.Test.YtgefjmpnpebfoaaDoorM6
import Derived.Test.YtgefjmpnpebfoaaDoorM7
import Derived.Test.YtgefjmpnpebfoaaDoorM8
import Derived.Test.YtgefjmpnpebfoaaDoorM9
import Derived.Test.YtgefjmpnpebfoaaDoorRows
import Derived.Test.YtgefjmpnpebfoaaDoorTie
import Derived.Carry
import Derived.Deep.DeepHandedRow
import Derived.JoinedCond
import Derived.Lib.LaidTab
import Derived.SevenTiedAt
import Derived.SizedLaws
import Derived.SliceStrings
namespace Go.Proofs.YtgefjmpnpebfoaaDoor
open Go.ChangeShapes Go.WideShapes Go.ChangeAt Go.RowKit

theorem spoints_laidOut : laidOutB Tryd.prog = true := by kernel_rfl

set_option maxHeartbeats 400000 in
set_option maxRecDepth 100000 in
theorem spoints_lifted (os : Os) (started : os.Started) (H : Type) (enc : TypeId × Value → H) :
    ReturnsInHanded {} Tryd.checked os 3 .any (fun w args => (Rows.signPointsSpec.pre enc Tryd.prog Tryd.f3 [] false w args ∧ laidMetH Tryd.prog laid3 w) ∧ sizedMet enc Tryd.prog Tryd.f3 (OpenSpec.ofChange Rows.signPointsSpec) false w args)
      (Rows.signPointsSpec.post enc Tryd.prog Tryd.f3 false true false false) := by
  refine returnsInHanded_of_change_and (C := Tryd.checked) (X := fun w _ => laidMetH Tryd.prog laid3 w) (fun _ _ _ hh h => h.of_heap hh) rowOwn started (by kernel_rfl) Tryd.func3
    (ChangeSpec.witness_shaped (enc := enc) (C := Tryd.checked) (os := os) (X := fun w _ => laidMetH Tryd.prog laid3 w) false (World.doorLaid Tryd.prog 400 os) #[.string ByteArray.empty, .string ByteArray.empty, .string ByteArray.empty] 8 rfl (World.shaped_of_RefB (by kernel_rfl) (by kernel_rfl)) (by kernel_rfl) (by kernel_rfl) (by kernel_rfl) (door_met os _)) ?_
  intro W base args ds gs before hval0 hW _ _ hL _
  have hval : ∀ (j : Nat) t v, Tryd.f3.params[j]? = some t → args[j]? = some v → Value.okWide Tryd.prog W .any base t v := hval0
  have hW' := hW
  obtain ⟨p, q, hA0, hV, rfl, _, _⟩ := hW
  have hA : DataW.TrodAll enc Tryd.prog W 0 (fun _ => true) true Tryd.f3.params.toList args.toList ds p := hA0
  rw [Tryd.params3] at hA hval
  obtain ⟨v0, v1, v2, d0, d1, d2, p0, p1, p2, rfl, rfl, rfl, h0, h1, h2⟩ := trodAll_three hA
  obtain ⟨rfl, rfl⟩ := trodVars_none hV
  obtain ⟨a0, rfl, rfl, rfl, w0⟩ := Go.ChangeMaps.open_string Tryd.underlying9 (hval 0 9 v0 rfl rfl) h0
  obtain ⟨a1, rfl, rfl, rfl, w1⟩ := Go.ChangeMaps.open_string Tryd.underlying9 (hval 1 9 v1 rfl rfl) h1
  obtain ⟨a2, rfl, rfl, rfl, w2⟩ := Go.ChangeMaps.open_string Tryd.underlying9 (hval 2 9 v2 rfl rfl) h2
  have hl := of_laid hL
  clear hA0 hval0 hval hA
  simp only [List.append_nil] at hW'
  have hlt : ∀ x ∈ (([] : List MemPlace) ++ (([] : List MemPlace) ++ (([] : List MemPlace)))), x.block < W.heap.size := fun x hx => by simpa using hW'.lt x (by simp at hx)

  refine (spoints_any a0 a1 a2 W hl ).mono fun e W' ⟨he, hg⟩ => ?_
  subst he
  refine ⟨_, rfl, _, _, _, [], (([] : List MemPlace) ++ (([] : List MemPlace) ++ (([] : List MemPlace)))), [], hW', ?_, ?_, rfl, hg.frame _, fun h => by cases h⟩
  · exact trodAll_mk1 (shut_bool Tryd.underlying4 _)
  · exact trodAll_mk3 (Go.ChangeMaps.shut_string Tryd.underlying9 w0) (Go.ChangeMaps.shut_string Tryd.underlying9 w1) (Go.ChangeMaps.shut_string Tryd.underlying9 w2)

theorem spoints_holds : Rows.SignPointsSaid :=
  OpenClaim.holds_of_wide 3 Tryd.f3 rfl rfl rfl rfl rfl rfl rfl ⟨rfl, rfl, rfl, rfl, rfl⟩ rfl rfl rfl rfl rfl (by kernel_rfl) Tryd.func3 (by kernel_rfl)
    (of_decide_eq_true (by kernel_rfl)) (by unfold Func.isWrapper; first | (rw [if_pos (by decide +kernel)]; kernel_rfl) | (rw [if_neg (by decide +kernel)]; exact ⟨rfl, rfl⟩))
    (fun os started H enc _ => spoints_lifted os started H enc)

theorem spoints_card : Rows.SignPointsCardSaid :=
  Claim7.holds_tied_plain_at .later [] [.data, .data, .data, .data, .data, .data, .data] true Rows.signPointsCard.stood.harness false
    spoints_holds (fun _ h => by cases h) (by kernel_rfl) (fun _ h => by cases h) signPoints_row_tie rfl ⟨rfl, rfl⟩ (by kernel_rfl) rfl
    (fun f fn hf hfn => by
      obtain rfl : f = 3 := Option.some.inj ((show Tryd.prog.funcNamed "pharos/pharoslaw12.SignPoints" = some 3 by kernel_rfl).symm.trans hf) |>.symm
      obtain rfl : fn = Tryd.f3 := (Option.some.inj (Tryd.func3.symm.trans hfn)).symm
      exact ⟨by kernel_rfl, fun j t ht => by
        rw [Tryd.params3] at ht
        have h3 : t = 9 := by
          rcases j with _ | _ | _ | j
          · have e := ht.symm; simp at e; simp [e]
          · have e := ht.symm; simp at e; simp [e]
          · have e := ht.symm; simp at e; simp [e]
          · simp at ht
        rcases h3 with rfl
        · exact (show Tryd.prog.wantsStandIn 9 = false by kernel_rfl)⟩)
    (by kernel_rfl)
#print axioms spoints_card
end Go.Proofs.YtgefjmpnpebfoaaDoor
