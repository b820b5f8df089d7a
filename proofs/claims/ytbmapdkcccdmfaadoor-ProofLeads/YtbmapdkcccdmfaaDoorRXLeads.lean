/- ProofLeads: for any root, any key and any list of texts the law returns true, and leaves them as they are: what proves something is a list whose texts refer to each other. Its tables are tied to the program's text. No condition. -/
import Derived.Test.YtbmapdkcccdmfaaDoorCards
import Derived.Test.YtbmapdkcccdmfaaDoorM1
import Derived.Test.YtbmapdkcccdmfaaDoorM10
import Derived.Test.YtbmapdkcccdmfaaDoorM11
import Derived.Test.YtbmapdkcccdmfaaDoorM12
import Derived.Test.YtbmapdkcccdmfaaDoorM13
import Derived.Test.YtbmapdkcccdmfaaDoorM14
import Derived.Test.YtbmapdkcccdmfaaDoorM15
import Derived.Test.YtbmapdkcccdmfaaDoorM16
import Derived.Test.YtbmapdkcccdmfaaDoorM17
import Derived.Test.YtbmapdkcccdmfaaDoorM18
import Derived.Test.YtbmapdkcccdmfaaDoorM19
import Derived.Test.YtbmapdkcccdmfaaDoorM2
import Derived.Test.YtbmapdkcccdmfaaDoorM20
import Derived.Test.YtbmapdkcccdmfaaDoorM21
import Derived.Test.YtbmapdkcccdmfaaDoorM22
import Derived.Test.YtbmapdkcccdmfaaDoorM23
import Derived.Test.YtbmapdkcccdmfaaDoorM24
import Derived.Test.YtbmapdkcccdmfaaDoorM25
import Derived.Test.YtbmapdkcccdmfaaDoorM26
import Derived.Test.YtbmapdkcccdmfaaDoorM27
import Derived.Test.YtbmapdkcccdmfaaDoorM28
import Derived.Test.YtbmapdkcccdmfaaDoorM29
import Derived.Test.YtbmapdkcccdmfaaDoorM3
import Derived.Test.YtbmapdkcccdmfaaDoorM30
import Derived.Test.YtbmapdkcccdmfaaDoorM31
import Derived.Test.YtbmapdkcccdmfaaDoorM32
import Derived.Test.YtbmapdkcccdmfaaDoorM33
import Derived.Test.YtbmapdkcccdmfaaDoorM34
import Derived.Test.YtbmapdkcccdmfaaDoorM35
import Derived.Test.YtbmapdkcccdmfaaDoorM36
import Derived.Test.YtbmapdkcccdmfaaDoorM37
import Derived.Test.YtbmapdkcccdmfaaDoorM38
import Derived.Test.YtbmapdkcccdmfaaDoorM39
import Derived.Test.YtbmapdkcccdmfaaDoorM4
import Derived.Test.YtbmapdkcccdmfaaDoorM40
import Derived.Test.YtbmapdkcccdmfaaDoorM41
import Derived.Test.YtbmapdkcccdmfaaDoorM42
import Derived.Test.YtbmapdkcccdmfaaDoorM43
import Derived.Test.YtbmapdkcccdmfaaDoorM44
import Derived.Test.YtbmapdkcccdmfaaDoorM45
import Derived.Test.YtbmapdkcccdmfaaDoorM46
import Derived.Test.YtbmapdkcccdmfaaDoorM47
import Derived.Test.YtbmapdkcccdmfaaDoorM48
import Derived.Test.YtbmapdkcccdmfaaDoorM49
import Derived.Test.YtbmapdkcccdmfaaDoorM5
import Derived.Test.YtbmapdkcccdmfaaDoorM50
import Derived.Test.YtbmapdkcccdmfaaDoorM6
import Derived.Test.YtbmapdkcccdmfaaDoorM7
import Derived.Test.YtbmapdkcccdmfaaDoorM8
import Derived.Test.YtbmapdkcccdmfaaDoorM9
import Derived.Test.YtbmapdkcccdmfaaDoorRows
import Derived.Test.YtbmapdkcccdmfaaDoorTie
import Derived.Carry
import Derived.Deep.DeepHandedRow
import Derived.JoinedCond
import Derived.Lib.LaidTab
import Derived.SevenTiedAt
import Derived.SizedLaws
import Derived.SliceStrings
namespace Go.Proofs.YtbmapdkcccdmfaaDoor
open Go.ChangeShapes Go.WideShapes Go.ChangeAt Go.RowKit

theorem pleads_laidOut : laidOutB Tryd.prog = true := by kernel_rfl

set_option maxHeartbeats 400000 in
set_option maxRecDepth 100000 in
theorem pleads_lifted (os : Os) (started : os.Started) (H : Type) (enc : TypeId × Value → H) :
    ReturnsInHanded {} Tryd.checked os 6 .any (fun w args => (Rows.proofLeadsSpec.pre enc Tryd.prog Tryd.f6 [] false w args ∧ laidMetH Tryd.prog laid3 w) ∧ sizedMet enc Tryd.prog Tryd.f6 (OpenSpec.ofChange Rows.proofLeadsSpec) false w args)
      (Rows.proofLeadsSpec.post enc Tryd.prog Tryd.f6 false true false false) := by
  refine returnsInHanded_of_change_and (C := Tryd.checked) (X := fun w _ => laidMetH Tryd.prog laid3 w) (fun _ _ _ hh h => h.of_heap hh) rowOwn started (by kernel_rfl) Tryd.func6
    (ChangeSpec.witness_shaped (enc := enc) (C := Tryd.checked) (os := os) (X := fun w _ => laidMetH Tryd.prog laid3 w) false (World.doorLaid Tryd.prog 400 os) #[.string ByteArray.empty, .string ByteArray.empty, .slice none 0 0] 8 rfl (World.shaped_of_RefB (by kernel_rfl) (by kernel_rfl)) (by kernel_rfl) (by kernel_rfl) (by kernel_rfl) (door_met os _)) ?_
  intro W base args ds gs before hval0 hW _ _ hL _
  have hval : ∀ (j : Nat) t v, Tryd.f6.params[j]? = some t → args[j]? = some v → Value.okWide Tryd.prog W .any base t v := hval0
  have hW' := hW
  obtain ⟨p, q, hA0, hV, rfl, _, _⟩ := hW
  have hA : DataW.TrodAll enc Tryd.prog W 0 (fun _ => true) true Tryd.f6.params.toList args.toList ds p := hA0
  rw [Tryd.params6] at hA hval
  obtain ⟨v0, v1, v2, d0, d1, d2, p0, p1, p2, rfl, rfl, rfl, h0, h1, h2⟩ := trodAll_three hA
  obtain ⟨rfl, rfl⟩ := trodVars_none hV
  obtain ⟨a0, rfl, rfl, rfl, w0⟩ := Go.ChangeMaps.open_string Tryd.underlying9 (hval 0 9 v0 rfl rfl) h0
  obtain ⟨a1, rfl, rfl, rfl, w1⟩ := Go.ChangeMaps.open_string Tryd.underlying9 (hval 1 9 v1 rfl rfl) h1
  obtain ⟨a2, len2, cap2, rfl⟩ := okWide_slice Tryd.underlying23 (hval 2 23 v2 rfl rfl)
  have k2 := h2
  obtain ⟨fuel2, f2⟩ := h2
  have hl := of_laid hL
  clear hA0 hval0 hval hA
  simp only [List.append_nil] at hW'
  have hlt : ∀ x ∈ (([] : List MemPlace) ++ (([] : List MemPlace) ++ (p2))), x.block < W.heap.size := fun x hx => by simpa using hW'.lt x (by simpa using hx)
  have hlt2 : ∀ x ∈ p2, x.block < W.heap.size := fun x hx => hlt x (by simp [hx])
  obtain ⟨es2, rfl, hc2, m2⟩ := open_strs f2 hlt2
  refine (pleads_any a0 a1 es2 a2 cap2 W hl m2).mono fun e W' ⟨he, hg⟩ => ?_
  subst he
  refine ⟨_, rfl, _, _, _, [], (([] : List MemPlace) ++ (([] : List MemPlace) ++ (p2))), [], hW', ?_, ?_, rfl, hg.frame _, fun h => by cases h⟩
  · exact trodAll_mk1 (shut_bool Tryd.underlying4 _)
  · exact trodAll_mk3 (Go.ChangeMaps.shut_string Tryd.underlying9 w0) (Go.ChangeMaps.shut_string Tryd.underlying9 w1) (Below.trod pleads_laidOut (by kernel_rfl) (of_decide_eq_true (by kernel_rfl)) k2 hg hlt2)

theorem pleads_holds : Rows.ProofLeadsSaid :=
  OpenClaim.holds_of_wide 6 Tryd.f6 rfl rfl rfl rfl rfl rfl rfl ⟨rfl, rfl, rfl, rfl, rfl⟩ rfl rfl rfl rfl rfl (by kernel_rfl) Tryd.func6 (by kernel_rfl)
    (of_decide_eq_true (by kernel_rfl)) (by unfold Func.isWrapper; first | (rw [if_pos (by decide +kernel)]; kernel_rfl) | (rw [if_neg (by decide +kernel)]; exact ⟨rfl, rfl⟩))
    (fun os started H enc _ => pleads_lifted os started H enc)

theorem pleads_card : Rows.ProofLeadsCardSaid :=
  Claim7.holds_tied_plain_at .later [] [.data, .data, .data] true Rows.proofLeadsCard.stood.harness false
    pleads_holds (fun _ h => by cases h) (by kernel_rfl) (fun _ h => by cases h) proofLeads_row_tie rfl ⟨rfl, rfl⟩ (by kernel_rfl) rfl
    (fun f fn hf hfn => by
      obtain rfl : f = 6 := Option.some.inj ((show Tryd.prog.funcNamed "pharos/pharoslaw07.ProofLeads" = some 6 by kernel_rfl).symm.trans hf) |>.symm
      obtain rfl : fn = Tryd.f6 := (Option.some.inj (Tryd.func6.symm.trans hfn)).symm
      exact ⟨by kernel_rfl, fun j t ht => by
        rw [Tryd.params6] at ht
        have h3 : t = 9 ∨ t = 23 := by
          rcases j with _ | _ | _ | j
          · have e := ht.symm; simp at e; simp [e]
          · have e := ht.symm; simp at e; simp [e]
          · have e := ht.symm; simp at e; simp [e]
          · simp at ht
        rcases h3 with rfl | rfl
        · exact (show Tryd.prog.wantsStandIn 9 = false by kernel_rfl)
        · exact (show Tryd.prog.wantsStandIn 23 = false by kernel_rfl)⟩)
    (by kernel_rfl)
#print axioms pleads_card
end Go.Proofs.YtbmapdkcccdmfaaDoor
