/- The third law on a drawn statement: its head in whatever order, by an invariant shown once an operation; the rest in its order. No condition. -/
import Derived.Test.YteknhghmliihhaaDoorTail
namespace Go.Proofs.YteknhghmliihhaaDoor
open Go.RowKit Go.Sort

section
variable {P : Program} {ops : Array Oper} {md : Region.Mode}
/-! ### The third law: the head by an invariant, the rest in its order -/
/-- What the law asks of the statement's shape. -/
def invTailB (ops : Array Oper) (n : Nat) : Bool :=
  backB .any ops && decide (n < ops.size) && Region.sinkB .any ops n && Region.chainB .any ops n && Region.seqB .any ops (ops.size - n) n (Array.replicate n true ++ Array.replicate (ops.size - n) false)

theorem listed_full {n : Nat} {listed : Array Bool} (inv : HeadInv md ops n listed) (hn : n ≤ ops.size) (h : ∀ i, i < n → listed.getD i true = true) : listed = Array.replicate n true ++ Array.replicate (ops.size - n) false := by
  refine Array.ext (by rw [inv.size]; simp; omega) fun i h1 h2 => ?_
  by_cases hi : i < n
  · have := h i hi
    simp [h1] at this
    rw [Array.getElem_append_left (by simpa using hi)]
    simpa using this
  · have := inv.tail i (by omega) (by rw [← inv.size]; exact h1)
    simp [h1] at this
    rw [Array.getElem_append_right (by simp; omega)]
    simpa using this

theorem any_inv_tail {Q : Exit → Act → World → Prop} {J : Array Bool → Act → World → Prop} {n : Nat} {tl : List Oper} (hb : backB md ops = true) (hn : n < ops.size) (hs : Region.sinkB md ops n = true) (hc : Region.chainB md ops n = true)
    (hq : Region.seqB md ops tl.length n (Array.replicate n true ++ Array.replicate (ops.size - n) false) = true) (htl : ∀ j, tl[j]? = ops[n + j]?)
    (step : ∀ i listed a W, i < n → listed.size = ops.size → i ∈ Region.ready md ops listed → J listed a W → wpOp P ops Q i (J (listed.setIfInBounds i true)) a W)
    (last : ∀ listed a W, listed.size = ops.size → (∀ i, i < n → listed.getD i true = true) → J listed a W → wpList P ops Q tl a W) :
    ∀ (f : Nat) (listed : Array Bool) (a : Act) (W : World), HeadInv md ops n listed → left listed n = f → J listed a W → wpAny P md ops Q (f + tl.length) listed a W
  | 0, listed, a, W, inv, hf, h => by
    have hz := left_zero _ hf
    rw [Nat.zero_add]
    exact wpAny_of_seq tl n listed a W htl (by rw [listed_full inv (Nat.le_of_lt hn) hz]; exact hq) (last listed a W inv.size hz h)
  | f + 1, listed, a, W, inv, hf, h => by
    obtain ⟨i, hi, hun⟩ := left_some _ f hf
    rw [show f + 1 + tl.length = (f + tl.length) + 1 by omega]
    refine ⟨fun h0 => absurd h0 (some_ready hb inv.size i (by omega) hun), fun j hj => ?_⟩
    obtain ⟨hjun, o, ho, _⟩ := mem_ready.1 hj
    have hjn : j < n := Nat.lt_of_not_le fun h => absurd hj (tail_waits hs hc hn inv _ i rfl hi hun j h)
    refine wpOp_mono (fun a' W' h' => any_inv_tail hb hn hs hc hq htl step last f _ a' W' (inv.set hj hjn) ?_ h') (step j listed a W hjn inv.size hj h)
    have := (left_set hjun n).1 hjn
    omega

/-- THE THIRD LAW: n operations in whatever order, by an invariant shown once an operation; then the rest, one behind the other. -/
theorem inv_tail_any {Q : Exit → Act → World → Prop} {a : Act} {w : World} {l : List Oper} (n : Nat) (J : (Nat → Bool) → Act → World → Prop)
    (hB : invTailB l.toArray n = true) (h0 : J (fun _ => false) a w.drew)
    (step : ∀ i o S a W, i < n → l[i]? = some o → S i = false → J S a W → (∀ e ∈ o.after, Region.binds .any e = true → S e.on = true) → ∀ K : Act → World → Prop, (∀ a W, J (more S i) a W → K a W) →
      if Region.wanted o (yielded l.toArray a.tmps) then o.wp P a W K Q else K (a.put o.dst undef) W)
    (last : ∀ S a W, (∀ i, i < n → S i = true) → J S a W → wpList P l.toArray Q (l.drop n) a W) : wpAny P .any l.toArray Q l.toArray.size (Array.replicate l.toArray.size false) a w.drew := by
  simp only [invTailB, Bool.and_eq_true, decide_eq_true_eq] at hB
  obtain ⟨⟨⟨⟨hb, hn⟩, hs⟩, hc⟩, hq⟩ := hB
  have hdl : (l.drop n).length = l.toArray.size - n := by simp
  have inv0 : HeadInv .any l.toArray n (Array.replicate l.toArray.size false) :=
    ⟨by simp, fun j oj _ hl => (by rw [getD_replicate_false] at hl; cases hl), fun t _ ht => getD_in (by simpa using ht) (getD_replicate_false _ _)⟩
  have := any_inv_tail (P := P) (md := .any) (ops := l.toArray) (Q := Q) (J := fun listed a W => J (fun j => listed.getD j false) a W) (tl := l.drop n) hb hn hs hc (by rw [hdl]; exact hq) (fun j => by simp [List.getElem?_drop])
    (fun i listed a W hin hsz hr hJ => ?_) (fun listed a W hsz hall hJ => ?_) n (Array.replicate l.toArray.size false) a w.drew inv0 (left_new _ _ (Nat.le_of_lt hn)) ?_
  · rw [hdl, show n + (l.toArray.size - n) = l.toArray.size by omega] at this
    exact this
  · obtain ⟨hun, o, ho, hall⟩ := mem_ready.1 hr
    have hlt : i < listed.size := by rw [hsz]; exact (Array.getElem?_eq_some_iff.1 ho).1
    have e : (fun j => (listed.setIfInBounds i true).getD j false) = more (fun j => listed.getD j false) i := by
      funext j
      unfold more
      by_cases hij : j = i
      · subst hij; simp [hlt]
      · rw [if_neg hij, getD_set_ne false (fun e => hij e.symm)]
    have hst := step i o (fun j => listed.getD j false) a W hin (by simpa using ho) (getD_both hun) hJ hall (J (more (fun j => listed.getD j false) i)) (fun _ _ h => h)
    unfold wpOp
    simp only [ho]
    rw [e]
    split
    · rename_i hw; simp only [hw, if_true] at hst; exact Or.inl hst
    · rename_i hw; simp only [hw] at hst; exact hst
  · refine last (fun j => listed.getD j false) a W (fun i hi => ?_) hJ
    have h1 := hall i hi
    have h2 : i < listed.size := by rw [hsz]; omega
    cases hq : listed.getD i false with
    | true => rfl
    | false => rw [getD_in h2 hq] at h1; cases h1
  · have e : (fun j => (Array.replicate l.toArray.size false).getD j false) = fun _ => false := by funext j; exact getD_replicate_false _ _
    show J (fun j => (Array.replicate l.toArray.size false).getD j false) a _
    rw [e]; exact h0

theorem region_inv_tail {id : Nat} {Q : Exit → Act → World → Prop} {a : Act} {w : World} {l : List Oper} (n : Nat) (J : (Nat → Bool) → Act → World → Prop) (hm : P.follows .mixedOrders = true)
    (hB : invTailB l.toArray n = true) (h0 : J (fun _ => false) a w.drew)
    (step : ∀ i o S a W, i < n → l[i]? = some o → S i = false → J S a W → (∀ e ∈ o.after, Region.binds .any e = true → S e.on = true) → ∀ K : Act → World → Prop, (∀ a W, J (more S i) a W → K a W) →
      if Region.wanted o (yielded l.toArray a.tmps) then o.wp P a W K Q else K (a.put o.dst undef) W)
    (last : ∀ S a W, (∀ i, i < n → S i = true) → J S a W → wpList P l.toArray Q (l.drop n) a W) : (Code.region id l.toArray true).wp P Q a w :=
  wp_region_any hm (inv_tail_any n J hB h0 step last)
end
end Go.Proofs.YteknhghmliihhaaDoor
