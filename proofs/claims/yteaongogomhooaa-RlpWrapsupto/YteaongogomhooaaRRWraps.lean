/- RlpWraps: for any two items the law returns true, and leaves them as they are: the bytes of a list of one item end with that item's, and of two with both, and whether items are alike does not hang on their order. Where its arguments together have at most a million values and letters. -/
import Derived.Test.YteaongogomhooaaQ43
import Derived.ProofKit
import Derived.OpenShut
import Derived.ChangeSame
import Derived.ChangeMaps5
import Derived.JoinedCond
import Derived.Carry
namespace Go.Proofs.Yteaongogomhooaa
open Go.ChangeShapes Go.WideShapes Go.ChangeAt Go.RowKit

theorem wraps_own : ownKnob Try.prog.godebug = none := by kernel_rfl
theorem wraps_laidOut : laidOutB Try.prog = true := by kernel_rfl

set_option maxHeartbeats 400000 in
set_option maxRecDepth 100000 in
theorem wraps_lifted (os : Os) (started : os.Started) (H : Type) (enc : TypeId × Value → H) (FI : Stop.Interp) :
    ReturnsInHanded {} Try.checked os 8 .any ((Rows.OpenSpec.upto Rows.rlpWrapsSpec).pre6 enc Try.prog Try.f8 Rows.rlpWrapsUptoRow.domain false) (((Rows.OpenSpec.upto Rows.rlpWrapsSpec).at FI).post enc Try.prog Try.f8 false true false false) := by
  refine returnsInHanded_of_cond (C := Try.checked) (s := Rows.OpenSpec.upto Rows.rlpWrapsSpec) (k := Rows.uptoSmall) rfl wraps_own started (by kernel_rfl) Try.func8
    (OpenSpec.witness (enc := enc) (C := Try.checked) (s := Rows.OpenSpec.upto Rows.rlpWrapsSpec) (k := Rows.uptoSmall) rfl false ⟨#[], #[.agg #[.bool false, .string ByteArray.empty, .slice none 0 0], .agg #[.bool false, .string ByteArray.empty, .slice none 0 0]], []⟩ 8 (by kernel_rfl) (by kernel_rfl) (by kernel_rfl)
      (x := ([.agg [.lit (.bool false), .lit (.string []), .nil], .agg [.lit (.bool false), .lit (.string []), .nil]], [], [])) (by kernel_rfl) rfl (by kernel_rfl)) ?_
  intro W base args ds gs before hval0 hW _ hk0 _
  have hval : ∀ (j : Nat) t v, Try.f8.params[j]? = some t → args[j]? = some v → Value.okWide Try.prog W .any base t v := hval0
  have hW' := hW
  obtain ⟨p, q, hA0, hV, rfl, _, _⟩ := hW
  have hA : DataW.TrodAll enc Try.prog W 0 (fun _ => true) true Try.f8.params.toList args.toList ds p := hA0
  rw [Try.params8] at hA hval
  obtain ⟨v0, v1, d0, d1, p0, p1, rfl, rfl, rfl, h0, h1⟩ := trodAll_two hA
  obtain ⟨rfl, rfl⟩ := trodVars_none hV
  obtain ⟨a0, rfl, m0, b0⟩ := open_item (hval 0 24 v0 rfl rfl) h0
  obtain ⟨a1, rfl, m1, b1⟩ := open_item (hval 1 24 v1 rfl rfl) h1
  have hk := of_decide_eq_true hk0
  have hb : tb a0 + tb a1 < 3000000 := by
    simp only [List.append_nil, Rows.uptoBulkAll] at hk
    omega
  clear hA0 hval0 hval hA hk hk0
  simp only [List.append_nil] at hW'
  have hlt : ∀ x ∈ (p0 ++ p1), x.block < W.heap.size := fun x hx => by simpa using hW'.lt x (by simpa using hx)
  have hlt0 : ∀ x ∈ p0, x.block < W.heap.size := fun x hx => hlt x (by simp [hx])
  have hlt1 : ∀ x ∈ p1, x.block < W.heap.size := fun x hx => hlt x (by simp [hx])
  refine (wraps_any a0 a1 hb W m0 m1).mono fun e W' ⟨he, hg⟩ => ?_
  subst he
  refine ⟨_, rfl, _, _, _, [], (p0 ++ p1), [], hW', ?_, ?_, rfl, hg.frame _, fun h => by cases h⟩
  · exact trodAll_mk1 (shut_bool Try.underlying4 _)
  · exact trodAll_mk2 (Below.trod wraps_laidOut (by kernel_rfl) (of_decide_eq_true (by kernel_rfl)) h0 hg hlt0) (Below.trod wraps_laidOut (by kernel_rfl) (of_decide_eq_true (by kernel_rfl)) h1 hg hlt1)

theorem wraps_holds : Rows.RlpWrapsUptoSaid :=
  OpenClaim.holds_of_cond 8 Try.f8 rfl rfl rfl rfl rfl rfl rfl ⟨rfl, rfl, rfl, rfl, rfl⟩ rfl rfl rfl rfl rfl (by kernel_rfl) Try.func8 (by kernel_rfl)
    (of_decide_eq_true (by kernel_rfl)) (by unfold Func.isWrapper; first | (rw [if_pos (by decide +kernel)]; kernel_rfl) | (rw [if_neg (by decide +kernel)]; exact ⟨rfl, rfl⟩))
    (fun os started H enc _ FI => wraps_lifted os started H enc FI)

#print axioms wraps_holds
end Go.Proofs.Yteaongogomhooaa
