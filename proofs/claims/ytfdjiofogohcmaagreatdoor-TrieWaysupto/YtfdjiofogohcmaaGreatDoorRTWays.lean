/- TrieWays: for any list of pairs and any key the law returns true, and leaves them as they are: what is told of a key's way, and of all nodes, is the document's (the first forty pairs). Where its arguments together have at most a million values and letters; its tables are tied to the program's text. -/
import Derived.Test.YtfdjiofogohcmaaGreatDoorCards
import Derived.Test.YtfdjiofogohcmaaGreatDoorM1
import Derived.Test.YtfdjiofogohcmaaGreatDoorM10
import Derived.Test.YtfdjiofogohcmaaGreatDoorM11
import Derived.Test.YtfdjiofogohcmaaGreatDoorM12
import Derived.Test.YtfdjiofogohcmaaGreatDoorM13
import Derived.Test.YtfdjiofogohcmaaGreatDoorM14
import Derived.Test.YtfdjiofogohcmaaGreatDoorM15
import Derived.Test.YtfdjiofogohcmaaGreatDoorM16
import Derived.Test.YtfdjiofogohcmaaGreatDoorM17
import Derived.Test.YtfdjiofogohcmaaGreatDoorM18
import Derived.Test.YtfdjiofogohcmaaGreatDoorM19
import Derived.Test.YtfdjiofogohcmaaGreatDoorM2
import Derived.Test.YtfdjiofogohcmaaGreatDoorM20
import Derived.Test.YtfdjiofogohcmaaGreatDoorM21
import Derived.Test.YtfdjiofogohcmaaGreatDoorM22
import Derived.Test.YtfdjiofogohcmaaGreatDoorM23
import Derived.Test.YtfdjiofogohcmaaGreatDoorM24
import Derived.Test.YtfdjiofogohcmaaGreatDoorM25
import Derived.Test.YtfdjiofogohcmaaGreatDoorM26
import Derived.Test.YtfdjiofogohcmaaGreatDoorM27
import Derived.Test.YtfdjiofogohcmaaGreatDoorM28
import Derived.Test.YtfdjiofogohcmaaGreatDoorM29
import Derived.Test.YtfdjiofogohcmaaGreatDoorM3
import Derived.Test.YtfdjiofogohcmaaGreatDoorM30
import Derived.Test.YtfdjiofogohcmaaGreatDoorM31
import Derived.Test.YtfdjiofogohcmaaGreatDoorM32
import Derived.Test.YtfdjiofogohcmaaGreatDoorM33
import Derived.Test.YtfdjiofogohcmaaGreatDoorM34
import Derived.Test.YtfdjiofogohcmaaGreatDoorM35
import Derived.Test.YtfdjiofogohcmaaGreatDoorM36
import Derived.Test.YtfdjiofogohcmaaGreatDoorM37
import Derived.Test.YtfdjiofogohcmaaGreatDoorM38
import Derived.Test.YtfdjiofogohcmaaGreatDoorM39
import Derived.Test.YtfdjiofogohcmaaGreatDoorM4
import Derived.Test.YtfdjiofogohcmaaGreatDoorM40
import Derived.Test.YtfdjiofogohcmaaGreatDoorM41
import Derived.Test.YtfdjiofogohcmaaGreatDoorM42
import Derived.Test.YtfdjiofogohcmaaGreatDoorM43
import Derived.Test.YtfdjiofogohcmaaGreatDoorM44
import Derived.Test.YtfdjiofogohcmaaGreatDoorM5
import Derived.Test.YtfdjiofogohcmaaGreatDoorM6
import Derived.Test.YtfdjiofogohcmaaGreatDoorM7
import Derived.Test.YtfdjiofogohcmaaGreatDoorM8
import Derived.Test.YtfdjiofogohcmaaGreatDoorM9
import Derived.Test.YtfdjiofogohcmaaGreatDoorRows
import Derived.Test.YtfdjiofogohcmaaGreatDoorTie
import Derived.Carry
import Derived.Deep.DeepHandedRow
import Derived.JoinedCond
import Derived.Lib.LaidTab
import Derived.SevenTiedAt
import Derived.SizedLaws
import Derived.SliceStrings
namespace Go.Proofs.YtfdjiofogohcmaaGreatDoor
open Go.ChangeShapes Go.WideShapes Go.ChangeAt Go.RowKit

theorem tways_laidOut : laidOutB Tryz.prog = true := by kernel_rfl
theorem tways_reads (os : Os) {H : Type} (enc : TypeId × Value → H) : ∃ places, DataW.whole enc Tryz.prog ((World.doorLaid Tryz.prog 400 os).forCall (fun _ _ => 0) ⟨#[], #[.slice none 0 0, .string ByteArray.empty], []⟩).memory Tryz.f5.params.toList Rows.trieWaysSpec.vars false #[.slice none 0 0, .string ByteArray.empty].toList 8 = some ([.nil, .lit (.string [])], [], places) :=
  ⟨[], by kernel_rfl⟩
theorem tways_met (os : Os) : laidMet Tryz.prog Rows.trieWaysUptoRow.laid ((World.doorLaid Tryz.prog 400 os).forCall (fun _ _ => 0) ⟨#[], #[.slice none 0 0, .string ByteArray.empty], []⟩).memory :=
  laidMet_of_run' 8 (by kernel_rfl) (by kernel_rfl)

set_option maxHeartbeats 400000 in
set_option maxRecDepth 100000 in
theorem tways_lifted (os : Os) (started : os.Started) (H : Type) (enc : TypeId × Value → H) (FI : Stop.Interp) :
    ReturnsInHanded {} Tryz.checked os 5 .any ((Rows.OpenSpec.upto Rows.trieWaysSpec).preRow enc Tryz.prog Tryz.f5 Rows.trieWaysUptoRow.domain false Rows.trieWaysUptoRow.laid) (((Rows.OpenSpec.upto Rows.trieWaysSpec).at FI).post enc Tryz.prog Tryz.f5 false true false false) := by
  obtain ⟨places, hx⟩ := tways_reads os enc
  refine returnsInHanded_of_row (C := Tryz.checked) (s := Rows.OpenSpec.upto Rows.trieWaysSpec) rowOwn started (by kernel_rfl) Tryz.func5
    (witness_row_at (enc := enc) (C := Tryz.checked) false (World.doorLaid Tryz.prog 400 os) #[.slice none 0 0, .string ByteArray.empty] rfl (by kernel_rfl) (by kernel_rfl) (by kernel_rfl)
      (OpenSpec.preRow_of_cond 8 hx (by kernel_rfl) (fun k hk => by cases hk; kernel_rfl) (by kernel_rfl) (tways_met os))) ?_
  intro W base args ds gs before hval0 hW _ hcond _ hL _ _
  have hval : ∀ (j : Nat) t v, Tryz.f5.params[j]? = some t → args[j]? = some v → Value.okWide Tryz.prog W .any base t v := hval0
  have hW' := hW
  obtain ⟨p, q, hA0, hV, rfl, _, _⟩ := hW
  have hA : DataW.TrodAll enc Tryz.prog W 0 (fun _ => true) true Tryz.f5.params.toList args.toList ds p := hA0
  rw [Tryz.params5] at hA hval
  obtain ⟨v0, v1, d0, d1, p0, p1, rfl, rfl, rfl, h0, h1⟩ := trodAll_two hA
  obtain ⟨rfl, rfl⟩ := trodVars_none hV
  obtain ⟨a0, len0, cap0, rfl⟩ := okWide_slice Tryz.underlying22 (hval 0 22 v0 rfl rfl)
  have k0 := h0
  obtain ⟨fuel0, f0⟩ := h0
  obtain ⟨es0, rfl, m0⟩ := open_pairs f0
  obtain ⟨a1, rfl, rfl, rfl, w1⟩ := Go.ChangeMaps.open_string Tryz.underlying9 (hval 1 9 v1 rfl rfl) h1
  have hk := of_decide_eq_true (hcond _ rfl)
  have hb : a1.size ≤ 1048576 := by
    simp only [List.append_nil, Rows.uptoBulkAll, Rows.uptoBulk, Array.length_toList] at hk
    have e1 : ∀ s : ByteArray, s.data.size = s.size := fun _ => rfl
    simp only [e1] at hk
    omega
  have hl := of_laid hL
  clear hA0 hval0 hval hA hcond hk
  simp only [List.append_nil] at hW'
  have hlt : ∀ x ∈ (p0 ++ ([] : List MemPlace)), x.block < W.heap.size := fun x hx => by simpa using hW'.lt x (by simpa using hx)
  have hlt0 : ∀ x ∈ p0, x.block < W.heap.size := fun x hx => hlt x (by simp [hx])
  refine (tways_any es0 a0 cap0 a1 hb W hl m0).mono fun e W' ⟨he, hg⟩ => ?_
  subst he
  refine ⟨_, rfl, _, _, _, [], (p0 ++ ([] : List MemPlace)), [], hW', ?_, ?_, rfl, hg.frame _, fun h => by cases h⟩
  · exact trodAll_mk1 (shut_bool Tryz.underlying4 _)
  · exact trodAll_mk2 (Below.trod tways_laidOut (by kernel_rfl) (of_decide_eq_true (by kernel_rfl)) k0 hg hlt0) (Go.ChangeMaps.shut_string Tryz.underlying9 w1)

theorem tways_holds : Rows.TrieWaysUptoSaid :=
  OpenClaim.holds_of_cond 5 Tryz.f5 rfl rfl rfl rfl rfl rfl rfl ⟨rfl, rfl, rfl, rfl, rfl⟩ rfl rfl rfl rfl rfl (by kernel_rfl) Tryz.func5 (by kernel_rfl)
    (of_decide_eq_true (by kernel_rfl)) (by unfold Func.isWrapper; first | (rw [if_pos (by decide +kernel)]; kernel_rfl) | (rw [if_neg (by decide +kernel)]; exact ⟨rfl, rfl⟩))
    (fun os started H enc _ FI => by rw [OpenClaim.pre_eq_preRow]; exact tways_lifted os started H enc FI)

theorem tways_plain (f : FuncId) (fn : Func) (hf : Tryz.pinned.checked.prog.funcNamed "pharos/pharoslaw06.TrieWays" = some f) (hfn : Tryz.pinned.checked.prog.funcs[f]? = some fn) :
    false = Tryz.pinned.checked.prog.looks [] ∧ ∀ (j : Nat) t, fn.params[j]? = some t → Tryz.pinned.checked.prog.wantsStandIn t = false := by
  obtain rfl : f = 5 := Option.some.inj ((show Tryz.prog.funcNamed "pharos/pharoslaw06.TrieWays" = some 5 by kernel_rfl).symm.trans hf) |>.symm
  obtain rfl : fn = Tryz.f5 := (Option.some.inj (Tryz.func5.symm.trans hfn)).symm
  exact ⟨by kernel_rfl, fun j t ht => by
        rw [Tryz.params5] at ht
        have h3 : t = 22 ∨ t = 9 := by
          rcases j with _ | _ | j
          · left; simpa using ht.symm
          · right; simpa using ht.symm
          · simp at ht
        rcases h3 with rfl | rfl
        · exact (show Tryz.prog.wantsStandIn 22 = false by kernel_rfl)
        · exact (show Tryz.prog.wantsStandIn 9 = false by kernel_rfl)⟩

theorem tways_card : Rows.TrieWaysUptoCardSaid :=
  Claim7.holds_tied_plain_at .later [] _ _ _ _ tways_holds (fun _ h => by cases h) (by kernel_rfl) (fun _ h => by cases h) trieWaysUpto_row_tie rfl ⟨rfl, rfl⟩ (by kernel_rfl) rfl tways_plain (by kernel_rfl)
#print axioms tways_card
end Go.Proofs.YtfdjiofogohcmaaGreatDoor
