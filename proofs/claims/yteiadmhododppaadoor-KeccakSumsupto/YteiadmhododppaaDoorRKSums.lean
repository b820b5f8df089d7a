/- KeccakSums: for any list of texts the law returns true, and leaves it as it is: the digest of parts is the reference's (Keccak-256) of them, one behind the other. Where its texts together have at most a million bytes; its tables are tied to the program's text. -/
import Derived.Test.YteiadmhododppaaDoorKRow
import Derived.Test.YteiadmhododppaaDoorCards
import Derived.Test.YteiadmhododppaaDoorTie
import Derived.Test.YteiadmhododppaaDoorKP5
import Derived.SevenTiedAt
import Derived.SizedLaws
import Derived.SliceStrings
import Derived.Carry
import Derived.Deep.DeepHandedRow
import Derived.Lib.LaidTab
import Derived.JoinedCond
namespace Go.Proofs.YteiadmhododppaaDoor
open Go.ChangeShapes Go.WideShapes Go.ChangeAt Go.RowKit

theorem sums_laidOut : laidOutB Tryd.prog = true := by kernel_rfl
theorem sums_cells : Tryd.prog.cellsOf 9 = 1 := by kernel_rfl
/-- Texts are no longer than what they count as. -/
theorem cat_bulk {H : Type} (ys : List ByteArray) : (catOf ys).size ≤ Rows.uptoBulkAll (strs (H := H) ys) := by
  have h := cat_data ys ⟨#[]⟩
  have e2 : (catOf ys).size = (catOf ys).data.toList.length := by simp
  rw [e2]
  unfold catOf
  rw [h]
  have e3 : ∀ zs : List ByteArray, ((zs.map (·.data.toList)).flatten).length ≤ Rows.uptoBulkAll (strs (H := H) zs) := fun zs => by
    induction zs with
    | nil => simp [strs, Rows.uptoBulkAll]
    | cons x zs ih =>
      have e4 : strs (H := H) (x :: zs) = .lit (.string x.data.toList) :: strs zs := rfl
      rw [e4]
      simp only [Rows.uptoBulkAll, Rows.uptoBulk, List.map_cons, List.flatten_cons, List.length_append]
      omega
  simpa using e3 ys

theorem sums_reads (os : Os) {H : Type} (enc : TypeId × Value → H) : ∃ places, DataW.whole enc Tryd.prog ((World.doorLaid Tryd.prog 400 os).forCall (fun _ _ => 0) ⟨#[], #[.slice none 0 0], []⟩).memory Tryd.f3.params.toList Rows.keccakSumsSpec.vars false #[Value.slice none 0 0].toList 8 = some ([.nil], [], places) :=
  ⟨[], by kernel_rfl⟩
theorem sums_met (os : Os) : laidMet Tryd.prog Rows.keccakSumsUptoRow.laid ((World.doorLaid Tryd.prog 400 os).forCall (fun _ _ => 0) ⟨#[], #[.slice none 0 0], []⟩).memory :=
  laidMet_of_run' 8 (by kernel_rfl) (by kernel_rfl)

set_option maxHeartbeats 400000 in
set_option maxRecDepth 100000 in
theorem sums_lifted (os : Os) (started : os.Started) (H : Type) (enc : TypeId × Value → H) (FI : Stop.Interp) :
    ReturnsInHanded {} Tryd.checked os 3 .any ((Rows.OpenSpec.upto Rows.keccakSumsSpec).preRow enc Tryd.prog Tryd.f3 Rows.keccakSumsUptoRow.domain false Rows.keccakSumsUptoRow.laid) (((Rows.OpenSpec.upto Rows.keccakSumsSpec).at FI).post enc Tryd.prog Tryd.f3 false true false false) := by
  obtain ⟨places, hx⟩ := sums_reads os enc
  refine returnsInHanded_of_row (C := Tryd.checked) (s := Rows.OpenSpec.upto Rows.keccakSumsSpec) rowOwn started (by kernel_rfl) Tryd.func3
    (witness_row_at (enc := enc) (C := Tryd.checked) false (World.doorLaid Tryd.prog 400 os) #[.slice none 0 0] rfl (by kernel_rfl) (by kernel_rfl) (by kernel_rfl)
      (OpenSpec.preRow_of_cond 8 hx (by kernel_rfl) (fun k hk => by cases hk; kernel_rfl) (by kernel_rfl) (sums_met os))) ?_
  intro W base args ds gs before hval0 hW _ hcond _ hL _ _
  have hval : ∀ (j : Nat) t v, Tryd.f3.params[j]? = some t → args[j]? = some v → Value.okWide Tryd.prog W .any base t v := hval0
  have hW' := hW
  obtain ⟨p, q, hA0, hV, rfl, _, _⟩ := hW
  have hA : DataW.TrodAll enc Tryd.prog W 0 (fun _ => true) true Tryd.f3.params.toList args.toList ds p := hA0
  rw [Tryd.params3] at hA hval
  obtain ⟨v0, d0, rfl, rfl, h0⟩ := trodAll_one hA
  obtain ⟨rfl, rfl⟩ := trodVars_none hV
  obtain ⟨a0, len, cap, rfl⟩ := okWide_slice Tryd.underlying22 (hval 0 22 v0 rfl rfl)
  have h0k := h0
  obtain ⟨fuel, hf⟩ := h0
  have hk := of_decide_eq_true (hcond _ rfl)
  have hl := of_laid hL
  clear hA0 hval0 hval hA hcond
  simp only [List.append_nil] at hW'
  have hlt : ∀ x ∈ p, x.block < W.heap.size := fun x hx => by simpa using hW'.lt x hx
  have hargs : ∀ (W' : World), Below W.heap.size W W' → DataW.Trod enc Tryd.prog W' 0 (fun b => decide (b < W.heap.size)) true 22 (.slice a0 len cap) d0 p :=
    fun W' hn => Below.trod sums_laidOut (by kernel_rfl) (of_decide_eq_true (by kernel_rfl)) h0k hn hlt
  have fin : ∀ e W', (e = Ending.returned (.bool true) ∧ Below W.heap.size W W') → ∃ v, e = Ending.returned v ∧ Rows.keccakSumsSpec.post enc Tryd.prog Tryd.f3 false true false false W #[.slice a0 len cap] v W' := by
    rintro e W' ⟨rfl, hg⟩
    refine ⟨_, rfl, _, _, _, [], p, [], hW', ?_, ?_, rfl, hg.frame _, fun h => by cases h⟩
    · exact trodAll_mk1 (shut_bool Tryd.underlying4 _)
    · exact trodAll_mk1 (hargs _ hg)
  rcases open_strings Tryd.underlying22 Tryd.underlying9 sums_cells hf with ⟨hcs, hx⟩ | ⟨a, len', cap', ss, hcs, _, hle, hm, hz, hx, hcell, hws⟩
  · simp [Value.cells] at hcs
    obtain ⟨rfl, rfl, rfl⟩ := hcs
    exact (sums_nil W hl).mono fin
  · simp [Value.cells] at hcs
    obtain ⟨rfl, rfl, rfl⟩ := hcs
    simp only [Prod.mk.injEq] at hx
    obtain ⟨rfl, rfl⟩ := hx
    simp only [if_true] at hz
    by_cases hl0 : len = 0
    · subst hl0
      exact (sums_empty a cap W hl).mono fin
    · obtain ⟨b, off, spot⟩ := a
      have hspot : spot = none := by simpa [Addr.add] using World.cell?_spot (hcell 0 (by omega))
      subst hspot
      have hbW : b < W.heap.size := hlt (.cell b off) (MemPlace.mem_row.2 ⟨0, by omega, by simp⟩)
      have hyl : (ss.take len).length = len := by rw [List.length_take]; omega
      have hbk : (catOf (ss.take len)).size ≤ 1048576 := by
        have h1 := cat_bulk (H := H) (ss.take len)
        simp only [List.append_nil, Rows.uptoBulkAll, Rows.uptoBulk] at hk
        omega
      have := sums_any b off cap (ss.take len) (by omega) hbk W hl hbW (fun j x hx => by
        rw [List.getElem?_take] at hx
        split at hx
        · have h2 := hcell j (by omega)
          rw [add_plain] at h2
          rw [h2, List.getD_eq_getElem?_getD, hx]
          rfl
        · cases hx)
      rw [hyl] at this
      exact this.mono fin

theorem sums_holds : Rows.KeccakSumsUptoSaid :=
  OpenClaim.holds_of_cond 3 Tryd.f3 rfl rfl rfl rfl rfl rfl rfl ⟨rfl, rfl, rfl, rfl, rfl⟩ rfl rfl rfl rfl rfl (by kernel_rfl) Tryd.func3 (by kernel_rfl)
    (of_decide_eq_true (by kernel_rfl)) (by unfold Func.isWrapper; first | (rw [if_pos (by decide +kernel)]; kernel_rfl) | (rw [if_neg (by decide +kernel)]; exact ⟨rfl, rfl⟩))
    (fun os started H enc _ FI => by rw [OpenClaim.pre_eq_preRow]; exact sums_lifted os started H enc FI)

theorem sums_plain (f : FuncId) (fn : Func) (hf : Tryd.pinned.checked.prog.funcNamed "pharos/pharoslaw03.KeccakSums" = some f) (hfn : Tryd.pinned.checked.prog.funcs[f]? = some fn) :
    false = Tryd.pinned.checked.prog.looks [] ∧ ∀ (j : Nat) t, fn.params[j]? = some t → Tryd.pinned.checked.prog.wantsStandIn t = false := by
  obtain rfl : f = 3 := Option.some.inj ((show Tryd.prog.funcNamed "pharos/pharoslaw03.KeccakSums" = some 3 by kernel_rfl).symm.trans hf) |>.symm
  obtain rfl : fn = Tryd.f3 := (Option.some.inj (Tryd.func3.symm.trans hfn)).symm
  refine ⟨by kernel_rfl, fun j t ht => ?_⟩
  rw [Tryd.params3] at ht
  obtain rfl : t = 22 := by
    rcases j with _ | j
    · simpa using ht.symm
    · simp at ht
  exact (show Tryd.prog.wantsStandIn 22 = false by kernel_rfl)

theorem sums_card : Rows.KeccakSumsUptoCardSaid :=
  Claim7.holds_tied_plain_at .later [] _ _ _ _ sums_holds (fun _ h => by cases h) (by kernel_rfl) (fun _ h => by cases h) keccakSumsUpto_row_tie rfl ⟨rfl, rfl⟩ (by kernel_rfl) rfl sums_plain (by kernel_rfl)
#print axioms sums_card
end Go.Proofs.YteiadmhododppaaDoor
