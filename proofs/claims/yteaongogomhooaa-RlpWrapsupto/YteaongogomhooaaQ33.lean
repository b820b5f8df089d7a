/- An item that a law gets, opened: where it lies, and how great it is. -/
import Derived.Test.YteaongogomhooaaQ32
import Derived.ProofKit
import Derived.OpenShut
import Derived.ChangeSame
import Derived.ChangeMaps5
import Derived.ChangeArms
import Derived.Carry
namespace Go.Proofs.Yteaongogomhooaa
open Go.ChangeShapes Go.WideShapes Go.ChangeAt Go.RowKit

theorem cellsI : Try.prog.cellsOf 24 = 3 := by kernel_rfl
theorem cellsB : Try.prog.cellsOf 4 = 1 := by kernel_rfl
theorem cellsS : Try.prog.cellsOf 9 = 1 := by kernel_rfl
theorem cellsL : Try.prog.cellsOf 22 = 1 := by kernel_rfl
theorem list3 {α : Type} (l : List α) (h : l.length = 3) : ∃ a b c, l = [a, b, c] := by
  match l, h with
  | [a, b, c], _ => exact ⟨a, b, c, rfl⟩

section
variable {H : Type} {enc : TypeId × Value → H}

theorem cells_three {W : World} {a : Addr} {cs : List Value} (h : W.cells? 0 a 3 = some cs) : ∃ c0 c1 c2, cs = [c0, c1, c2] ∧ W.cell? (a.add 0) = some c0 ∧ W.cell? (a.add 1) = some c1 ∧ W.cell? (a.add 2) = some c2 := by
  unfold World.cells? at h
  rw [if_pos (Nat.zero_le _), show List.range 3 = [0, 1, 2] from rfl] at h
  cases h0 : W.cell? (a.add 0) with
  | none => simp [h0] at h
  | some c0 =>
    cases h1 : W.cell? (a.add 1) with
    | none => simp [h0, h1] at h
    | some c1 =>
      cases h2 : W.cell? (a.add 2) with
      | none => simp [h0, h1, h2] at h
      | some c2 =>
        simp [h0, h1, h2] at h
        exact ⟨c0, c1, c2, h.symm, rfl, rfl, rfl⟩
theorem row_open {W : World} {n : Nat} (IH : ∀ (cs : List Value) (d : DataW H) (ps : List MemPlace), DataW.trod enc Try.prog W 0 (fun _ => true) true n 24 cs = some (d, ps) → ∃ x : Im, cs = [.bool x.l, .string x.t, x.sl] ∧ inMem W.heap.size W x ∧ 4 * tb x ≤ 9 * Rows.uptoBulk d)
    (b o : Nat) : ∀ (es : List (DataW H × List MemPlace)) (i : Nat), (∀ j e, es[j]? = some e → (W.cells? 0 ((⟨b, o, none⟩ : Addr).add ((i + j) * 3)) 3).bind (DataW.trod enc Try.prog W 0 (fun _ => true) true n 24) = some e) →
      ∃ xs : List Im, xs.length = es.length ∧ rowMem W.heap.size W (some ⟨b, o, none⟩) i xs ∧ 4 * tbs xs ≤ 9 * Rows.uptoBulkAll (es.map (·.1))
  | [], i, h => ⟨[], rfl, trivial, Nat.le_refl _⟩
  | e :: r, i, h => by
    obtain ⟨xs, hl, hr, hb⟩ := row_open IH b o r (i + 1) (fun j e' he => by
      have := h (j + 1) e' he
      rw [show i + (j + 1) = i + 1 + j by omega] at this
      exact this)
    have h0 := h 0 e rfl
    rw [Nat.add_zero] at h0
    cases hc : W.cells? 0 ((⟨b, o, none⟩ : Addr).add (i * 3)) 3 with
    | none => rw [hc] at h0; cases h0
    | some cs =>
      rw [hc] at h0
      obtain ⟨d, ps⟩ := e
      obtain ⟨x, rfl, hm, ht⟩ := IH cs d ps h0
      obtain ⟨c0, c1, c2, e1, k0, k1, k2⟩ := cells_three hc
      injection e1 with e1 e2
      injection e2 with e2 e3
      injection e3 with e3 _
      subst e1 e2 e3
      have ea : ∀ j, ((⟨b, o, none⟩ : Addr).add (i * 3)).add j = ⟨b, o + 3 * i + j, none⟩ := fun j => by
        unfold Addr.add
        by_cases h1 : i * 3 = 0 <;> by_cases h2 : j = 0 <;> simp [h1, h2] <;> omega
      rw [ea] at k0 k1 k2
      have hbl : b < W.heap.size := by
        obtain ⟨c, e, fz, hh⟩ := isC_of k0
        exact (Array.getElem?_eq_some_iff.1 hh).1
      refine ⟨x :: xs, by simp [hl], ⟨⟨b, o, hbl, rfl, k0, k1, k2⟩, hm, hr⟩, ?_⟩
      show 4 * (tb x + tbs xs) ≤ 9 * (Rows.uptoBulk d + Rows.uptoBulkAll (r.map (·.1)))
      omega
theorem item_open {W : World} : ∀ (fuel : Nat) (cs : List Value) (d : DataW H) (ps : List MemPlace), DataW.trod enc Try.prog W 0 (fun _ => true) true fuel 24 cs = some (d, ps) →
    ∃ x : Im, cs = [.bool x.l, .string x.t, x.sl] ∧ inMem W.heap.size W x ∧ 4 * tb x ≤ 9 * Rows.uptoBulk d := by
  intro fuel
  induction fuel using Nat.strongRecOn with
  | _ fuel ih =>
    intro cs d ps h
    obtain ⟨xs, n, rfl, hx, hl, hxs, hf⟩ := DataW.trod_struct Try.underlying24 h
    rw [cellsI] at hl
    obtain ⟨c0, c1, c2, rfl⟩ := list3 cs hl
    obtain ⟨y0, y1, y2, rfl⟩ := list3 xs hxs
    have g0 : DataW.trod enc Try.prog W 0 (fun _ => true) true n 4 [c0] = some y0 := by
      have := hf 0 _ rfl
      have e : DataW.trod enc Try.prog W 0 (fun _ => true) true n 4 (List.take (Try.prog.cellsOf 4) (List.drop 0 [c0, c1, c2])) = some y0 := this
      rw [cellsB] at e
      exact e
    have g1 : DataW.trod enc Try.prog W 0 (fun _ => true) true n 9 [c1] = some y1 := by
      have := hf 1 _ rfl
      have e : DataW.trod enc Try.prog W 0 (fun _ => true) true n 9 (List.take (Try.prog.cellsOf 9) (List.drop 1 [c0, c1, c2])) = some y1 := this
      rw [cellsS] at e
      exact e
    have g2 : DataW.trod enc Try.prog W 0 (fun _ => true) true n 22 [c2] = some y2 := by
      have := hf 2 _ rfl
      have e : DataW.trod enc Try.prog W 0 (fun _ => true) true n 22 (List.take (Try.prog.cellsOf 22) (List.drop 2 [c0, c1, c2])) = some y2 := this
      rw [cellsL] at e
      exact e
    obtain ⟨bl, e0, rfl⟩ := DataW.trod_bool Try.underlying4 g0
    obtain ⟨t, e1, rfl, ht⟩ := DataW.trod_string Try.underlying9 g1
    injection e0 with e0 _
    injection e1 with e1 _
    subst e0 e1
    injection hx with hx _
    subst hx
    have hsz : t.data.toList.length = t.size := by simp
    rcases DataW.trod_slice Try.underlying22 g2 with ⟨e2, rfl⟩ | ⟨a, len, cap, elems, rest, m, rfl, e2, rfl, _, _, _, hlen, hel, _, _⟩
    · injection e2 with e2 _
      subst e2
      refine ⟨.mk bl t none 0 [], rfl, trivial, ?_⟩
      show 4 * (t.size + 9 + 0) ≤ 9 * (1 + ((t.data.toList.length + 1) + (1 + 0)) + 1)
      omega
    · injection e2 with e2 _
      subst e2
      rw [cellsI] at hel
      by_cases h0 : len = 0
      · subst h0
        refine ⟨.mk bl t (some a) cap [], rfl, trivial, ?_⟩
        show 4 * (t.size + 9 + 0) ≤ 9 * (1 + ((t.data.toList.length + 1) + ((Rows.uptoBulkAll (elems.map (·.1)) + Rows.uptoBulkAll (rest.map (·.1)) + 1) + 0)) + 1)
        omega
      · have hspot : a.spot = none := by
          obtain ⟨e, he⟩ : ∃ e, elems[0]? = some e := ⟨elems[0]'(by omega), List.getElem?_eq_getElem (by omega)⟩
          have h1 := hel 0 (by omega)
          rw [he] at h1
          cases hc : W.cells? 0 (a.add (0 * 3)) 3 with
          | none => rw [hc] at h1; cases h1
          | some cs =>
            obtain ⟨k0, k1, k2, _, q0, _, _⟩ := cells_three hc
            simpa [Addr.add] using World.cell?_spot q0
        obtain ⟨b, o, spot⟩ := a
        have hspot : spot = none := hspot
        subst hspot
        obtain ⟨xs, hxl, hxr, hxb⟩ := row_open (n := m) (fun cs d ps h => ih m (by omega) cs d ps h) b o elems 0 (fun j e he => by
          have hj := (List.getElem?_eq_some_iff.1 he).1
          have := hel j (by omega)
          rw [he] at this
          rw [Nat.zero_add]
          exact this)
        subst hlen
        rw [← hxl]
        refine ⟨.mk bl t (some ⟨b, o, none⟩) cap xs, rfl, hxr, ?_⟩
        show 4 * (t.size + 9 + tbs xs) ≤ 9 * (1 + ((t.data.toList.length + 1) + ((Rows.uptoBulkAll (elems.map (·.1)) + Rows.uptoBulkAll (rest.map (·.1)) + 1) + 0)) + 1)
        omega
theorem open_item {W : World} {b0 : Nat} {v : Value} {d : DataW H} {ps : List MemPlace} (hval : Value.okWide Try.prog W .any b0 24 v) (hd : DataW.Trod enc Try.prog W 0 (fun _ => true) true 24 v d ps) :
    ∃ x : Im, v = x.val ∧ inMem W.heap.size W x ∧ 4 * tb x ≤ 9 * Rows.uptoBulk d := by
  obtain ⟨cs, rfl, hsz⟩ := okWide_struct Try.underlying24 hval
  obtain ⟨fuel, hf⟩ := hd
  obtain ⟨x, hc, hm, ht⟩ := item_open fuel _ d ps hf
  refine ⟨x, ?_, hm, ht⟩
  have hc' : cs.toList = [.bool x.l, .string x.t, x.sl] := hc
  obtain ⟨l⟩ := cs
  have : l = [.bool x.l, .string x.t, x.sl] := hc'
  subst this
  rfl
end
end Go.Proofs.Yteaongogomhooaa
