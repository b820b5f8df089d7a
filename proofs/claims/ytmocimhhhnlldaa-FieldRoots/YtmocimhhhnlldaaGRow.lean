/- Numbers and pairs of them that a law gets, read and given back as they were. No condition. -/
import Derived.Test.YtmocimhhhnlldaaG5
import Derived.ProofKit
import Derived.OpenShut
import Derived.ChangeSame
import Derived.Carry
namespace Go.Proofs.Ytmocimhhhnlldaa
open Go.ChangeShapes Go.WideShapes Go.ChangeAt Go.RowKit

theorem rowOwn : ownKnob Try.prog.godebug = none := by kernel_rfl
theorem cellsU : Try.prog.cellsOf 22 = 1 := by kernel_rfl
theorem cellsP : Try.prog.cellsOf 30 = 2 := by kernel_rfl
theorem num_of_wf {x : Int} (h : (Lit.int .u64 x).wf = true) : ∃ n : Nat, x = n ∧ U64 n := by
  simp only [Lit.wf, Bool.and_eq_true, decide_eq_true_eq] at h
  have e0 : IntKind.u64.min = 0 := rfl
  have e1 : IntKind.u64.max = 18446744073709551615 := rfl
  rw [e0, e1] at h
  exact ⟨x.toNat, by omega, by unfold U64; omega⟩
theorem wf_of_num {n : Nat} (h : U64 n) : (Lit.int .u64 (n : Int)).wf = true := by
  unfold U64 at h
  simp only [Lit.wf, Bool.and_eq_true, decide_eq_true_eq]
  have e0 : IntKind.u64.min = 0 := rfl
  have e1 : IntKind.u64.max = 18446744073709551615 := rfl
  rw [e0, e1]
  omega
section
variable {H : Type} {enc : TypeId × Value → H}
theorem list2 {α : Type} (l : List α) (h : (⟨l⟩ : Array α).size = 2) : ∃ a b, l = [a, b] := by
  match l, h with
  | [a, b], _ => exact ⟨a, b, rfl⟩
set_option maxHeartbeats 400000 in
theorem open_pair2 {W : World} {b0 : Nat} {v : Value} {d : DataW H} {ps : List MemPlace} (hval : Value.okWide Try.prog W .any b0 30 v) (hd : DataW.Trod enc Try.prog W 0 (fun _ => true) true 30 v d ps) :
    ∃ a : P2, v = vP a ∧ d = .agg [.lit (.int .u64 (a.A : Int)), .lit (.int .u64 (a.B : Int))] ∧ ps = [] ∧ UP a := by
  obtain ⟨cs, rfl, hsz, _⟩ : ∃ cs, v = .agg cs ∧ cs.size = Try.prog.cellsOf 30 ∧ Row.okWide Try.prog W .any b0 30 cs := by
    simpa [Value.okWide, Try.underlying30] using hval
  rw [cellsP] at hsz
  obtain ⟨l⟩ := cs
  obtain ⟨c0, c1, rfl⟩ := list2 l hsz
  obtain ⟨fuel, hf⟩ := hd
  obtain ⟨y0, y1, m, hx, _, hy0, hy1⟩ := trod_struct2 Try.underlying30 hf
  simp only [cellsU, Value.cells, List.drop_zero, List.drop_succ_cons, List.take_succ_cons, List.take_zero, List.toList_toArray] at hy0 hy1
  obtain ⟨x0, e0, rfl, w0⟩ := DataW.trod_int Try.underlying22 hy0
  obtain ⟨x1, e1, rfl, w1⟩ := DataW.trod_int Try.underlying22 hy1
  simp at e0 e1
  subst e0 e1
  obtain ⟨n0, rfl, k0⟩ := num_of_wf w0
  obtain ⟨n1, rfl, k1⟩ := num_of_wf w1
  simp only [Prod.mk.injEq] at hx
  obtain ⟨rfl, rfl⟩ := hx
  exact ⟨⟨n0, n1⟩, rfl, rfl, rfl, k0, k1⟩
theorem shut_pair2 {a : P2} (ha : UP a) {W : World} {b : Nat} {sp : Nat → Bool} {hd : Bool} : DataW.Trod enc Try.prog W b sp hd 30 (vP a) (.agg [.lit (.int .u64 (a.A : Int)), .lit (.int .u64 (a.B : Int))]) [] :=
  ⟨2, by
    have := trod_struct2_mk (enc := enc) (w := W) (base := b) (spare := sp) (held := hd) (n := 1) (cs := [.int .u64 (a.A : Int), .int .u64 (a.B : Int)]) (y0 := (.lit (.int .u64 (a.A : Int)), [])) (y1 := (.lit (.int .u64 (a.B : Int)), [])) Try.underlying30 (by rw [cellsP]; rfl)
      (by simp only [cellsU]; exact trod_int_mk 0 Try.underlying22 (wf_of_num ha.1))
      (by simp only [cellsU]; exact trod_int_mk 0 Try.underlying22 (wf_of_num ha.2))
    exact this⟩
end
end Go.Proofs.Ytmocimhhhnlldaa
