/- Lemmas: Two laws on a drawn statement whose last operations (its stores) come last in every order. (1) What is ahead of them only reads and calls, and gives one value in every world of a class: one walk in the text's order serves. (2) What is ahead of them keeps an invariant: it is shown once an operation, not once an order. No condition. The third law on a drawn statement: its head in whatever order, by an invariant shown once an operation; the rest in its order. No condition. -/
import Derived.Test.YtoddangedbefgabGreatDoorM1
import Derived.StillTail
namespace Go.Proofs.YtoddangedbefgabGreatDoor
open Go.RowKit Go.Sort
section
variable {P : Program} {ops : Array Oper} {md : Region.Mode} {C : World → Prop}
def HeadQ (P : Program) (md : Region.Mode) (ops : Array Oper) (C : World → Prop) (n : Nat) (D : Array Bool → Act → Prop) : Nat → Array Bool → Act → Prop
 | 0, listed, a => D listed a
 | f + 1, listed, a => Region.ready md ops listed ≠ [] ∧ ∀ i ∈ Region.ready md ops listed, i < n ∧ qOp P ops C i (HeadQ P md ops C n D f (listed.setIfInBounds i true)) a
theorem jhi {n g : Nat} {D : Array Bool → Act → Prop} {Q : Exit → Act → World → Prop} (hD : ∀ listed a w, C w → D listed a → wpAny P md ops Q g listed a w) :
  ∀ (f : Nat) (listed : Array Bool) (a : Act) (w : World), C w → HeadQ P md ops C n D f listed a → wpAny P md ops Q (f + g) listed a w
 | 0, _, _, _, hw, h => by rw [Nat.zero_add]; exact hD _ _ _ hw h
 | f + 1, _, _, _, hw, h => by
  rw [show f + 1 + g = (f + g) + 1 by omega]
  exact ⟨fun h0 => absurd h0 h.1, fun i hi => wpOp_of_qOp hw (fun a' w' hw' h' => jhi hD f _ a' w' hw' h') (h.2 i hi).2⟩
theorem headQ_first {n i : Nat} {oi : Oper} {v : Value} {D : Array Bool → Act → Prop} (hi : ops[i]? = some oi) (hsel : ∀ (j : Nat) (o : Oper) cs b, ops[j]? = some o → o.op ≠ .select cs b)
  (hs : Region.sinkB md ops n = true) (hc : Region.chainB md ops n = true) (hn : n < ops.size) (hin : i < n)
  (hdone : ∀ listed a, D listed a → ∀ j ∈ Region.ready md ops listed, n ≤ j) :
  ∀ (f : Nat) (listed : Array Bool) (a : Act), HeadInv md ops n listed →
   (∀ j oj, ops[j]? = some oj → j ≠ i → listed.getD j true = false → (∀ e ∈ oj.after, Region.binds md e = true → e.on ≠ i) → oi.apart ops oj = true) →
   i ∈ Region.ready md ops listed → YieldsIn P ops C oi v a →
   HeadQ P md ops C n D f (listed.setIfInBounds i true) (a.put oi.dst v) → HeadQ P md ops C n D (f + 1) listed a := by
 intro f
 induction f with
 | zero =>
  intro listed a inv _ hr hy H
  have hun := (mem_ready.1 hr).1
  refine ⟨fun h => (by rw [h] at hr; cases hr), fun j hj => ?_⟩
  have hjn : j < n := Nat.lt_of_not_le fun h => absurd hj (tail_waits hs hc hn inv _ i rfl hin hun j h)
  refine ⟨hjn, ?_⟩
  by_cases hji : j = i
  ·subst hji; exact hy.qOp hi H
  ·have := hdone _ _ H j (ready_mono hj hji)
   omega
 | succ f ih =>
  intro listed a inv hfree hr hy H
  have hun := (mem_ready.1 hr).1
  refine ⟨fun h => (by rw [h] at hr; cases hr), fun j hj => ?_⟩
  have hjn : j < n := Nat.lt_of_not_le fun h => absurd hj (tail_waits hs hc hn inv _ i rfl hin hun j h)
  refine ⟨hjn, ?_⟩
  by_cases hji : j = i
  ·subst hji; exact hy.qOp hi H
  ·have h1 := (H.2 j (ready_mono hj hji)).2
   obtain ⟨hjun, oj, hoj, hall⟩ := mem_ready.1 hj
   have hnot : ∀ e ∈ oj.after, Region.binds md e = true → e.on ≠ i := fun e he hb heq => by
    have h1 := hall e he hb
    rw [heq, getD_both hun] at h1
    cases h1
   have h2 := qOp_put hoj (hfree j oj hoj hji hjun hnot) (fun cs b => hsel i oi cs b hi) (fun cs b => hsel j oj cs b hoj) hy h1
   have hfree' : ∀ k ok, ops[k]? = some ok → k ≠ i → (listed.setIfInBounds j true).getD k true = false →
     (∀ e ∈ ok.after, Region.binds md e = true → e.on ≠ i) → oi.apart ops ok = true := fun k ok hk hki hun' hno => by
    refine hfree k ok hk hki ?_ hno
    by_cases hjk : j = k
    ·subst hjk; exact hjun
    ·rw [getD_set_ne true hjk] at hun'; exact hun'
   refine qOp_mono (fun a' h3 => ih (listed.setIfInBounds j true) a' (inv.set hj hjn) hfree' (ready_mono hr (Ne.symm hji)) h3.1 ?_) h2
   rw [Array.setIfInBounds_comm _ _ hji]
   exact h3.2
theorem headQ_lex {n g : Nat} {D : Act → Prop} (hsel : Region.noSelect ops = true) (hs : Region.sinkB md ops n = true) (hc : Region.chainB md ops n = true) (hn : n < ops.size) :
  ∀ (l : List Oper) (k : Nat) (listed : Array Bool) (a : Act), (∀ j, j < l.length → l[j]? = ops[k + j]?) → k + l.length = n → HeadInv md ops n listed →
  Region.lexHead md ops g l.length k listed = true → wpQuiet P ops C D l a →
  HeadQ P md ops C n (fun listed' a' => Region.seqB md ops g n listed' = true ∧ D a') l.length listed a
 | [], k, listed, a, _, hk, _, hB, h => by
  have : k = n := by simpa using hk
  subst this
  exact ⟨by simpa [Region.lexHead] using hB, h⟩
 | o :: l, k, listed, a, hl, hk, inv, hB, h => by
  have h0 : ops[k]? = some o := by simpa using (hl 0 (by simp)).symm
  simp only [List.length_cons, Region.lexHead, Bool.and_eq_true] at hB
  obtain ⟨⟨hr, hf⟩, hB'⟩ := hB
  have hkn : k < n := by simp only [List.length_cons] at hk; omega
  have hr' : k ∈ Region.ready md ops listed := by simpa using hr
  have hst : qOp P ops C k (wpQuiet P ops C D l) a := by unfold qOp; simp only [h0]; exact h
  obtain ⟨v, hy, hK⟩ := yieldsIn_of_qOp h0 hst
  exact headQ_first h0 (Region.noSelect_spec hsel) hs hc hn hkn (fun listed' a' hL => seqB_ready hL.1) l.length listed a inv (Region.free_spec h0 hf) hr' hy
   (headQ_lex hsel hs hc hn l (k + 1) _ _ (fun j hj => by have := hl (j + 1) (by simp; omega); simpa [Nat.add_assoc, Nat.add_comm 1 j] using this) (by simp only [List.length_cons] at hk; omega) (inv.set hr' hkn) hB' hK)
theorem tail_any {Q : Exit → Act → World → Prop} {a : Act} {w : World} {l : List Oper} (n : Nat) (hB : Region.lexTailB .any l.toArray n = true)
  (h : wpQuiet P l.toArray (fun w' => ∃ p : Regrown, w' = grow (redrawn w p.d) p.os) (fun a' => ∀ w', (∃ p : Regrown, w' = grow (redrawn w p.d) p.os) → wpList P l.toArray Q (l.drop n) a' w') (l.take n) a) :
  wpAny P .any l.toArray Q l.toArray.size (Array.replicate l.toArray.size false) a { w with drawn := w.drawn + 1 } := by
 simp only [Region.lexTailB, Bool.and_eq_true, decide_eq_true_eq] at hB
 obtain ⟨⟨⟨⟨hsel, hn⟩, hs⟩, hc⟩, hlex⟩ := hB
 have hn' : n < l.length := by simpa using hn
 have htl : (l.take n).length = n := by simp; omega
 have hdl : (l.drop n).length = l.toArray.size - n := by simp
 have inv0 : HeadInv .any l.toArray n (Array.replicate l.toArray.size false) :=
  ⟨by simp, fun j oj _ hl => (by rw [getD_replicate_false] at hl; cases hl), fun t _ ht => getD_in (by simpa using ht) (getD_replicate_false _ _)⟩
 have H := headQ_lex (C := fun w' => ∃ p : Regrown, w' = grow (redrawn w p.d) p.os) (md := .any) (g := l.toArray.size - n) hsel hs hc hn (l.take n) 0 _ a (fun j hj => by
  have hj' : j < n := by rw [htl] at hj; exact hj
  simp [hj']) (by simpa using htl) inv0 (by rw [htl]; exact hlex) h
 have := jhi (Q := Q) (g := l.toArray.size - n) (fun listed a' w' hw' hL => by
  have := wpAny_of_seq (md := .any) (Q' := Q) (l.drop n) n listed a' w' (fun j => by simp [List.getElem?_drop]) (by rw [hdl]; exact hL.1) (hL.2 w' hw')
  rwa [hdl] at this) _ _ _ { w with drawn := w.drawn + 1 } ⟨⟨w.drawn + 1, #[]⟩, by rw [grow_empty]; rfl⟩ H
 rw [htl, show n + (l.toArray.size - n) = l.toArray.size by omega] at this
 exact this
theorem jar {id : Nat} {Q : Exit → Act → World → Prop} {a : Act} {w : World} {l : List Oper} (n : Nat) (hm : P.follows .mixedOrders = true) (hB : Region.lexTailB .any l.toArray n = true)
  (h : wpQuiet P l.toArray (fun w' => ∃ p : Regrown, w' = grow (redrawn w p.d) p.os) (fun a' => ∀ w', (∃ p : Regrown, w' = grow (redrawn w p.d) p.os) → wpList P l.toArray Q (l.drop n) a' w') (l.take n) a) : (Code.region id l.toArray true).wp P Q a w :=
 wp_region_any hm (tail_any n hB h)
/-! ### The second law -/
def backB (md : Region.Mode) (ops : Array Oper) : Bool := (List.range ops.size).all fun i => match ops[i]? with | some o => o.after.all fun e => !Region.binds md e || decide (e.on < i) | none => true
def left (listed : Array Bool) : Nat → Nat
 | 0 => 0
 | k + 1 => left listed k + (if listed.getD k true = false then 1 else 0)
theorem back_spec (h : backB md ops = true) {i : Nat} {o : Oper} (ho : ops[i]? = some o) : ∀ e ∈ o.after, Region.binds md e = true → e.on < i := by
 intro e he hb
 have hi : i < ops.size := (Array.getElem?_eq_some_iff.1 ho).1
 have h1 := List.all_eq_true.1 h i (List.mem_range.2 hi)
 simp only [ho] at h1
 have := (Array.all_eq_true_iff_forall_mem.1 h1) e he
 simpa [hb] using this
theorem some_ready {listed : Array Bool} (hb : backB md ops = true) (hsz : listed.size = ops.size) : ∀ i, i < ops.size → listed.getD i true = false → Region.ready md ops listed ≠ [] := by
 intro i
 induction i using Nat.strongRecOn with
 | _ i ih =>
  intro hi hun h0
  obtain ⟨o, ho⟩ : ∃ o, ops[i]? = some o := ⟨ops[i], by simp [hi]⟩
  by_cases hall : ∀ e ∈ o.after, Region.binds md e = true → listed.getD e.on false = true
  ·have : i ∈ Region.ready md ops listed := mem_ready.2 ⟨hun, o, ho, hall⟩
   rw [h0] at this; cases this
  ·have : ∃ e ∈ o.after, Region.binds md e = true ∧ listed.getD e.on false = false := by
    apply Classical.byContradiction
    intro hno
    apply hall
    intro e he hbe
    cases hq : listed.getD e.on false with
    | true => rfl
    | false => exact absurd ⟨e, he, hbe, hq⟩ hno
   obtain ⟨e, he, hbe, hq⟩ := this
   have hlt := back_spec hb ho e he hbe
   exact ih e.on hlt (by omega) (getD_in (by omega) hq) h0
theorem left_set {listed : Array Bool} {i : Nat} (hun : listed.getD i true = false) : ∀ k, (i < k → left (listed.setIfInBounds i true) k + 1 = left listed k) ∧ (k ≤ i → left (listed.setIfInBounds i true) k = left listed k)
 | 0 => ⟨fun h => absurd h (Nat.not_lt_zero _), fun _ => rfl⟩
 | k + 1 => by
  have hk := left_set (i := i) hun k
  have hlt : i < listed.size := by
   rcases Nat.lt_or_ge i listed.size with h' | h'
   ·exact h'
   ·simp [Array.getElem?_eq_none h'] at hun
  by_cases hik : i = k
  ·subst hik
   have e1 : (listed.setIfInBounds i true).getD i true = true := by simp [hlt]
   refine ⟨fun _ => ?_, fun h => absurd h (by omega)⟩
   simp only [left]
   rw [hk.2 (Nat.le_refl _), e1, hun]
   simp
  ·have e1 := getD_set_ne (listed := listed) (i := i) (j := k) true hik
   refine ⟨fun h => ?_, fun h => ?_⟩
   ·simp only [left]
    rw [e1, ← hk.1 (by omega)]
    omega
   ·simp only [left]
    rw [e1, hk.2 (by omega)]
theorem left_zero {listed : Array Bool} : ∀ k, left listed k = 0 → ∀ i, i < k → listed.getD i true = true
 | 0, _, i, h => absurd h (Nat.not_lt_zero _)
 | k + 1, h, i, hi => by
  simp only [left] at h
  by_cases hik : i = k
  ·subst hik
   cases hq : listed.getD i true with
   | true => rfl
   | false => rw [hq] at h; simp at h
  ·exact left_zero k (by omega) i (by omega)
theorem left_some {listed : Array Bool} : ∀ k f, left listed k = f + 1 → ∃ i, i < k ∧ listed.getD i true = false
 | 0, f, h => by simp [left] at h
 | k + 1, f, h => by
  cases hq : listed.getD k true with
  | false => exact ⟨k, by omega, hq⟩
  | true =>
   simp only [left, hq] at h
   obtain ⟨i, hi, h2⟩ := left_some k f (by simpa using h)
   exact ⟨i, by omega, h2⟩
theorem left_new (m : Nat) : ∀ k, k ≤ m → left (Array.replicate m false) k = k
 | 0, _ => rfl
 | k + 1, h => by
  simp only [left]
  rw [left_new m k (by omega), getD_in (by simp; omega) (getD_replicate_false _ _)]
  simp
theorem any_of_inv {Q : Exit → Act → World → Prop} {J : Array Bool → Act → World → Prop} (hb : backB md ops = true)
  (step : ∀ i listed a W, listed.size = ops.size → i ∈ Region.ready md ops listed → J listed a W → wpOp P ops Q i (J (listed.setIfInBounds i true)) a W)
  (last : ∀ listed a W, listed.size = ops.size → (∀ i, i < ops.size → listed.getD i true = true) → J listed a W → Q .normal a W) :
  ∀ (f : Nat) (listed : Array Bool) (a : Act) (W : World), listed.size = ops.size → left listed ops.size = f → J listed a W → wpAny P md ops Q f listed a W
 | 0, listed, a, W, hsz, hf, h => by
  have hz := left_zero _ hf
  refine ⟨?_, last listed a W hsz hz h⟩
  apply List.eq_nil_iff_forall_not_mem.2
  intro i hi
  obtain ⟨hun, o, ho, _⟩ := mem_ready.1 hi
  rw [hz i (Array.getElem?_eq_some_iff.1 ho).1] at hun
  cases hun
 | f + 1, listed, a, W, hsz, hf, h => by
  obtain ⟨i, hi, hun⟩ := left_some _ f hf
  refine ⟨fun h0 => absurd h0 (some_ready hb hsz i hi hun), fun j hj => ?_⟩
  obtain ⟨hjun, o, ho, _⟩ := mem_ready.1 hj
  refine wpOp_mono (fun a' W' h' => any_of_inv hb step last f _ a' W' (by simpa using hsz) ?_ h') (step j listed a W hsz hj h)
  have := (left_set hjun ops.size).1 (Array.getElem?_eq_some_iff.1 ho).1
  omega
def more (S : Nat → Bool) (i : Nat) : Nat → Bool := fun j => if j = i then true else S j
theorem jgr {id : Nat} {Q : Exit → Act → World → Prop} {a : Act} {w : World} {l : List Oper} (J : (Nat → Bool) → Act → World → Prop) (hm : P.follows .mixedOrders = true)
  (hB : backB .any l.toArray = true) (h0 : J (fun _ => false) a w.drew)
  (step : ∀ i o S a W, l[i]? = some o → S i = false → J S a W → (∀ e ∈ o.after, Region.binds .any e = true → S e.on = true) → ∀ K : Act → World → Prop, (∀ a W, J (more S i) a W → K a W) →
   if Region.wanted o (yielded l.toArray a.tmps) then o.wp P a W K Q else K (a.put o.dst undef) W)
  (last : ∀ S a W, (∀ i, i < l.length → S i = true) → J S a W → Q .normal a W) : (Code.region id l.toArray true).wp P Q a w := by
 refine wp_region_any hm ?_
 refine any_of_inv (P := P) (md := .any) (ops := l.toArray) (Q := Q) (J := fun listed a W => J (fun j => listed.getD j false) a W) hB
  (fun i listed a W hsz hr hJ => ?_) (fun listed a W hsz hall hJ => ?_) l.toArray.size (Array.replicate l.toArray.size false) a w.drew (by simp) (left_new _ _ (Nat.le_refl _)) ?_
 ·obtain ⟨hun, o, ho, hall⟩ := mem_ready.1 hr
  have hlt : i < listed.size := by rw [hsz]; exact (Array.getElem?_eq_some_iff.1 ho).1
  have e : (fun j => (listed.setIfInBounds i true).getD j false) = more (fun j => listed.getD j false) i := by
   funext j
   unfold more
   by_cases hij : j = i
   ·subst hij; simp [hlt]
   ·rw [if_neg hij, getD_set_ne false (fun e => hij e.symm)]
  have hst := step i o (fun j => listed.getD j false) a W (by simpa using ho) (getD_both hun) hJ hall (J (more (fun j => listed.getD j false) i)) (fun _ _ h => h)
  unfold wpOp
  simp only [ho]
  rw [e]
  split
  ·rename_i hw; simp only [hw, if_true] at hst; exact Or.inl hst
  ·rename_i hw; simp only [hw] at hst; exact hst
 ·refine last (fun j => listed.getD j false) a W (fun i hi => ?_) hJ
  have h1 := hall i (by simpa using hi)
  have h2 : i < listed.size := by rw [hsz]; simpa using hi
  cases hq : listed.getD i false with
  | true => rfl
  | false => rw [getD_in h2 hq] at h1; cases h1
 ·have e : (fun j => (Array.replicate l.toArray.size false).getD j false) = fun _ => false := by funext j; exact getD_replicate_false _ _
  show J (fun j => (Array.replicate l.toArray.size false).getD j false) a _
  rw [e]; exact h0
end
end Go.Proofs.YtoddangedbefgabGreatDoor
namespace Go.Proofs.YtoddangedbefgabGreatDoor
open Go.RowKit Go.Sort
section
variable {P : Program} {ops : Array Oper} {md : Region.Mode}
/-! ### The third law: the head by an invariant, the rest in its order -/
def invTailB (ops : Array Oper) (n : Nat) : Bool :=
 backB .any ops && decide (n < ops.size) && Region.sinkB .any ops n && Region.chainB .any ops n && Region.seqB .any ops (ops.size - n) n (Array.replicate n true ++ Array.replicate (ops.size - n) false)
theorem listed_full {n : Nat} {listed : Array Bool} (inv : HeadInv md ops n listed) (hn : n ≤ ops.size) (h : ∀ i, i < n → listed.getD i true = true) : listed = Array.replicate n true ++ Array.replicate (ops.size - n) false := by
 refine Array.ext (by rw [inv.size]; simp; omega) fun i h1 h2 => ?_
 by_cases hi : i < n
 ·have := h i hi
  simp [h1] at this
  rw [Array.getElem_append_left (by simpa using hi)]
  simpa using this
 ·have := inv.tail i (by omega) (by rw [← inv.size]; exact h1)
  simp [h1] at this
  rw [Array.getElem_append_right (by simp; omega)]
  simpa using this
theorem jhj {Q : Exit → Act → World → Prop} {J : Array Bool → Act → World → Prop} {n : Nat} {tl : List Oper} (hb : backB md ops = true) (hn : n < ops.size) (hs : Region.sinkB md ops n = true) (hc : Region.chainB md ops n = true)
  (hq : Region.seqB md ops tl.length n (Array.replicate n true ++ Array.replicate (ops.size - n) false) = true) (htl : ∀ j, tl[j]? = ops[n + j]?)
  (step : ∀ i listed a W, i < n → listed.size = ops.size → i ∈ Region.ready md ops listed → J listed a W → wpOp P ops Q i (J (listed.setIfInBounds i true)) a W)
  (last : ∀ listed a W, listed.size = ops.size → (∀ i, i < n → listed.getD i true = true) → J listed a W → wpList P ops Q tl a W) :
  ∀ (f : Nat) (listed : Array Bool) (a : Act) (W : World), HeadInv md ops n listed → left listed n = f → J listed a W → wpAny P md ops Q (f + tl.length) listed a W
 | 0, listed, a, W, inv, hf, h => by
  have hz := left_zero _ hf
  rw [Nat.zero_add]
  exact wpAny_of_seq tl n listed a W htl (by rw [listed_full inv (Nat.le_of_lt hn) hz]; exact hq) (last listed a W inv.size hz h)
 | f + 1, listed, a, W, inv, hf, h => by
  obtain ⟨i, hi, hun⟩ := left_some _ f hf
  rw [show f + 1 + tl.length = (f + tl.length) + 1 by omega]
  refine ⟨fun h0 => absurd h0 (some_ready hb inv.size i (by omega) hun), fun j hj => ?_⟩
  obtain ⟨hjun, o, ho, _⟩ := mem_ready.1 hj
  have hjn : j < n := Nat.lt_of_not_le fun h => absurd hj (tail_waits hs hc hn inv _ i rfl hi hun j h)
  refine wpOp_mono (fun a' W' h' => jhj hb hn hs hc hq htl step last f _ a' W' (inv.set hj hjn) ?_ h') (step j listed a W hjn inv.size hj h)
  have := (left_set hjun n).1 hjn
  omega
theorem inv_tail_any {Q : Exit → Act → World → Prop} {a : Act} {w : World} {l : List Oper} (n : Nat) (J : (Nat → Bool) → Act → World → Prop)
  (hB : invTailB l.toArray n = true) (h0 : J (fun _ => false) a w.drew)
  (step : ∀ i o S a W, i < n → l[i]? = some o → S i = false → J S a W → (∀ e ∈ o.after, Region.binds .any e = true → S e.on = true) → ∀ K : Act → World → Prop, (∀ a W, J (more S i) a W → K a W) →
   if Region.wanted o (yielded l.toArray a.tmps) then o.wp P a W K Q else K (a.put o.dst undef) W)
  (last : ∀ S a W, (∀ i, i < n → S i = true) → J S a W → wpList P l.toArray Q (l.drop n) a W) : wpAny P .any l.toArray Q l.toArray.size (Array.replicate l.toArray.size false) a w.drew := by
 simp only [invTailB, Bool.and_eq_true, decide_eq_true_eq] at hB
 obtain ⟨⟨⟨⟨hb, hn⟩, hs⟩, hc⟩, hq⟩ := hB
 have hdl : (l.drop n).length = l.toArray.size - n := by simp
 have inv0 : HeadInv .any l.toArray n (Array.replicate l.toArray.size false) :=
  ⟨by simp, fun j oj _ hl => (by rw [getD_replicate_false] at hl; cases hl), fun t _ ht => getD_in (by simpa using ht) (getD_replicate_false _ _)⟩
 have := jhj (P := P) (md := .any) (ops := l.toArray) (Q := Q) (J := fun listed a W => J (fun j => listed.getD j false) a W) (tl := l.drop n) hb hn hs hc (by rw [hdl]; exact hq) (fun j => by simp [List.getElem?_drop])
  (fun i listed a W hin hsz hr hJ => ?_) (fun listed a W hsz hall hJ => ?_) n (Array.replicate l.toArray.size false) a w.drew inv0 (left_new _ _ (Nat.le_of_lt hn)) ?_
 ·rw [hdl, show n + (l.toArray.size - n) = l.toArray.size by omega] at this
  exact this
 ·obtain ⟨hun, o, ho, hall⟩ := mem_ready.1 hr
  have hlt : i < listed.size := by rw [hsz]; exact (Array.getElem?_eq_some_iff.1 ho).1
  have e : (fun j => (listed.setIfInBounds i true).getD j false) = more (fun j => listed.getD j false) i := by
   funext j
   unfold more
   by_cases hij : j = i
   ·subst hij; simp [hlt]
   ·rw [if_neg hij, getD_set_ne false (fun e => hij e.symm)]
  have hst := step i o (fun j => listed.getD j false) a W hin (by simpa using ho) (getD_both hun) hJ hall (J (more (fun j => listed.getD j false) i)) (fun _ _ h => h)
  unfold wpOp
  simp only [ho]
  rw [e]
  split
  ·rename_i hw; simp only [hw, if_true] at hst; exact Or.inl hst
  ·rename_i hw; simp only [hw] at hst; exact hst
 ·refine last (fun j => listed.getD j false) a W (fun i hi => ?_) hJ
  have h1 := hall i hi
  have h2 : i < listed.size := by rw [hsz]; omega
  cases hq : listed.getD i false with
  | true => rfl
  | false => rw [getD_in h2 hq] at h1; cases h1
 ·have e : (fun j => (Array.replicate l.toArray.size false).getD j false) = fun _ => false := by funext j; exact getD_replicate_false _ _
  show J (fun j => (Array.replicate l.toArray.size false).getD j false) a _
  rw [e]; exact h0
theorem jaw {id : Nat} {Q : Exit → Act → World → Prop} {a : Act} {w : World} {l : List Oper} (n : Nat) (J : (Nat → Bool) → Act → World → Prop) (hm : P.follows .mixedOrders = true)
  (hB : invTailB l.toArray n = true) (h0 : J (fun _ => false) a w.drew)
  (step : ∀ i o S a W, i < n → l[i]? = some o → S i = false → J S a W → (∀ e ∈ o.after, Region.binds .any e = true → S e.on = true) → ∀ K : Act → World → Prop, (∀ a W, J (more S i) a W → K a W) →
   if Region.wanted o (yielded l.toArray a.tmps) then o.wp P a W K Q else K (a.put o.dst undef) W)
  (last : ∀ S a W, (∀ i, i < n → S i = true) → J S a W → wpList P l.toArray Q (l.drop n) a W) : (Code.region id l.toArray true).wp P Q a w :=
 wp_region_any hm (inv_tail_any n J hB h0 step last)
end
end Go.Proofs.YtoddangedbefgabGreatDoor
