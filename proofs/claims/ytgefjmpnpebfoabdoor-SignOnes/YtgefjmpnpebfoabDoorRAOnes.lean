/- The sum of one point's bytes is these, of none that of Inf. Its tables are tied to the program's text. No condition. -/
import Derived.Test.YtgefjmpnpebfoabDoorCards
import Derived.Test.YtgefjmpnpebfoabDoorM1
import Derived.Test.YtgefjmpnpebfoabDoorM10
import Derived.Test.YtgefjmpnpebfoabDoorM11
import Derived.Test.YtgefjmpnpebfoabDoorM12
import Derived.Test.YtgefjmpnpebfoabDoorM13
import Derived.Test.YtgefjmpnpebfoabDoorM14
import Derived.Test.YtgefjmpnpebfoabDoorM15
import Derived.Test.YtgefjmpnpebfoabDoorM16
import Derived.Test.YtgefjmpnpebfoabDoorM17
import Derived.Test.YtgefjmpnpebfoabDoorM18
import Derived.Test.YtgefjmpnpebfoabDoorM19
import Derived.Test.YtgefjmpnpebfoabDoorM2
import Derived.Test.YtgefjmpnpebfoabDoorM20
import Derived.Test.YtgefjmpnpebfoabDoorM21
import Derived.Test.YtgefjmpnpebfoabDoorM22
import Derived.Test.YtgefjmpnpebfoabDoorM23
import Derived.Test.YtgefjmpnpebfoabDoorM24
import Derived.Test.YtgefjmpnpebfoabDoorM25
import Derived.Test.YtgefjmpnpebfoabDoorM26
import Derived.Test.YtgefjmpnpebfoabDoorM27
import Derived.Test.YtgefjmpnpebfoabDoorM28
import Derived.Test.YtgefjmpnpebfoabDoorM29
import Derived.Test.YtgefjmpnpebfoabDoorM3
import Derived.Test.YtgefjmpnpebfoabDoorM30
import Derived.Test.YtgefjmpnpebfoabDoorM4
import Derived.Test.YtgefjmpnpebfoabDoorM5
import Derived.Test.YtgefjmpnpebfoabDoorM6
import Derived.Test.YtgefjmpnpebfoabDoorM7
import Derived.Test.YtgefjmpnpebfoabDoorM8
import Derived.Test.YtgefjmpnpebfoabDoorM9
import Derived.Test.YtgefjmpnpebfoabDoorRows
import Derived.Test.YtgefjmpnpebfoabDoorTie
import Derived.Carry
import Derived.Deep.DeepHandedRow
import Derived.JoinedCond
import Derived.Lib.LaidTab
import Derived.SevenTiedAt
import Derived.SizedLaws
import Derived.SliceStrings
namespace Go.Proofs.YtgefjmpnpebfoabDoor
open Go.ChangeShapes Go.WideShapes Go.ChangeAt Go.RowKit

theorem sones_laidOut : laidOutB Tryd.prog = true := by kernel_rfl

set_option maxHeartbeats 400000 in
set_option maxRecDepth 100000 in
theorem sones_lifted (os : Os) (started : os.Started) (H : Type) (enc : TypeId × Value → H) :
    ReturnsInHanded {} Tryd.checked os 3 .any (fun w args => (Rows.signOnesSpec.pre enc Tryd.prog Tryd.f3 [] false w args ∧ laidMetH Tryd.prog laid3 w) ∧ sizedMet enc Tryd.prog Tryd.f3 (OpenSpec.ofChange Rows.signOnesSpec) false w args)
      (Rows.signOnesSpec.post enc Tryd.prog Tryd.f3 false true false false) := by
  refine returnsInHanded_of_change_and (C := Tryd.checked) (X := fun w _ => laidMetH Tryd.prog laid3 w) (fun _ _ _ hh h => h.of_heap hh) rowOwn started (by kernel_rfl) Tryd.func3
    (ChangeSpec.witness_shaped (enc := enc) (C := Tryd.checked) (os := os) (X := fun w _ => laidMetH Tryd.prog laid3 w) false (World.doorLaid Tryd.prog 400 os) #[.string ByteArray.empty, .slice none 0 0] 8 rfl (World.shaped_of_RefB (by kernel_rfl) (by kernel_rfl)) (by kernel_rfl) (by kernel_rfl) (by kernel_rfl) (door_met os _)) ?_
  intro W base args ds gs before hval0 hW _ _ hL _
  have hval : ∀ (j : Nat) t v, Tryd.f3.params[j]? = some t → args[j]? = some v → Value.okWide Tryd.prog W .any base t v := hval0
  have hW' := hW
  obtain ⟨p, q, hA0, hV, rfl, _, _⟩ := hW
  have hA : DataW.TrodAll enc Tryd.prog W 0 (fun _ => true) true Tryd.f3.params.toList args.toList ds p := hA0
  rw [Tryd.params3] at hA hval
  obtain ⟨v0, v1, d0, d1, p0, p1, rfl, rfl, rfl, h0, h1⟩ := trodAll_two hA
  obtain ⟨rfl, rfl⟩ := trodVars_none hV
  obtain ⟨a0, rfl, rfl, rfl, w0⟩ := Go.ChangeMaps.open_string Tryd.underlying9 (hval 0 9 v0 rfl rfl) h0
  obtain ⟨a1, len1, cap1, rfl⟩ := okWide_slice Tryd.underlying22 (hval 1 22 v1 rfl rfl)
  have k1 := h1
  obtain ⟨fuel1, f1⟩ := h1
  have hl := of_laid hL
  clear hA0 hval0 hval hA
  simp only [List.append_nil] at hW'
  have hlt : ∀ x ∈ (([] : List MemPlace) ++ (p1)), x.block < W.heap.size := fun x hx => by simpa using hW'.lt x (by simpa using hx)
  have hlt1 : ∀ x ∈ p1, x.block < W.heap.size := fun x hx => hlt x (by simp [hx])
  obtain ⟨es1, rfl, hc1, m1⟩ := open_strs f1 hlt1
  refine (sones_any a0 es1 a1 cap1 W hl m1 hc1).mono fun e W' ⟨he, hg⟩ => ?_
  subst he
  refine ⟨_, rfl, _, _, _, [], (([] : List MemPlace) ++ (p1)), [], hW', ?_, ?_, rfl, hg.frame _, fun h => by cases h⟩
  · exact trodAll_mk1 (shut_bool Tryd.underlying4 _)
  · exact trodAll_mk2 (Go.ChangeMaps.shut_string Tryd.underlying9 w0) (Below.trod sones_laidOut (by kernel_rfl) (of_decide_eq_true (by kernel_rfl)) k1 hg hlt1)

theorem sones_holds : Rows.SignOnesSaid :=
  OpenClaim.holds_of_wide 3 Tryd.f3 rfl rfl rfl rfl rfl rfl rfl ⟨rfl, rfl, rfl, rfl, rfl⟩ rfl rfl rfl rfl rfl (by kernel_rfl) Tryd.func3 (by kernel_rfl)
    (of_decide_eq_true (by kernel_rfl)) (by unfold Func.isWrapper; first | (rw [if_pos (by decide +kernel)]; kernel_rfl) | (rw [if_neg (by decide +kernel)]; exact ⟨rfl, rfl⟩))
    (fun os started H enc _ => sones_lifted os started H enc)

theorem sones_card : Rows.SignOnesCardSaid :=
  Claim7.holds_tied_plain_at .later [] [.data, .data, .data, .data, .data, .data, .data] true Rows.signOnesCard.stood.harness false
    sones_holds (fun _ h => by cases h) (by kernel_rfl) (fun _ h => by cases h) signOnes_row_tie rfl ⟨rfl, rfl⟩ (by kernel_rfl) rfl
    (fun f fn hf hfn => by
      obtain rfl : f = 3 := Option.some.inj ((show Tryd.prog.funcNamed "pharos/pharoslaw12.SignOnes" = some 3 by kernel_rfl).symm.trans hf) |>.symm
      obtain rfl : fn = Tryd.f3 := (Option.some.inj (Tryd.func3.symm.trans hfn)).symm
      exact ⟨by kernel_rfl, fun j t ht => by
        rw [Tryd.params3] at ht
        have h3 : t = 9 ∨ t = 22 := by
          rcases j with _ | _ | j
          · have e := ht.symm; simp at e; simp [e]
          · have e := ht.symm; simp at e; simp [e]
          · simp at ht
        rcases h3 with rfl | rfl
        · exact (show Tryd.prog.wantsStandIn 9 = false by kernel_rfl)
        · exact (show Tryd.prog.wantsStandIn 22 = false by kernel_rfl)⟩)
    (by kernel_rfl)
#print axioms sones_card
end Go.Proofs.YtgefjmpnpebfoabDoor
