/- Lemmas: What every walk of this translation leans on: a memory that keeps its old blocks; contracts that give one value. No condition. Arrays that lie in memory, told by a function of the place. No condition. Two laws on a drawn statement whose last operations (its stores) come last in every order. (1) What is ahead of them only reads and calls, and gives one value in every world of a class: one walk in the text's order serves. (2) What is ahead of them keeps an invariant: it is shown once an operation, not once an order. No condition. What joinRows does at this translation: for all lanes, whatever else lies in memory. What joinColumns does at this translation: for all lanes, whatever else lies in memory. What turnAndMove does at this translation: for all lanes, whatever else lies in memory, where the two tables are what the package lays. -/
import Derived.Test.YtbpcciifaekffaaGreatDoorRows
import Derived.BigRegion
import Derived.Deep.LoopGhost
import Derived.Handy
import Derived.Laws.BitsAllLaws
import Derived.Laws.Externs
import Derived.Lib.QuietBelow
import Derived.WalkSpells
import Derived.Deep.MidRow
import Derived.Deep.WholeRow
import Derived.StillTail
namespace Go.Proofs.YtbpcciifaekffaaGreatDoor
open Go.RowKit Go.Sort

theorem belowStep {n : Nat} {w W w1 : World} (h : Below n w W) (hle : n ≤ W.heap.size) (hb : Below W.heap.size W w1) : Below n w w1 := h.trans (hb.mono hle)
/-- What a memory keeps is enough to go on. -/
theorem wpOf {P : Program} {c : Code} {Q : Exit → Act → World → Prop} {a : Act} {W : World} (S : World → Prop) (hS : S W) (h : ∀ W', S W' → c.wp P Q a W') : c.wp P Q a W := h W hS
theorem thenOf {K : Act → World → Prop} {Q : Exit → Act → World → Prop} {x : Exit} {a : Act} {W : World} (S : World → Prop) (hS : S W) (h : ∀ W', S W' → Exit.then K Q x a W') : Exit.then K Q x a W := h W hS
/-- A contract in every memory of the class that a drawn statement goes through. -/
theorem inClass {f : Nat} {args : Array Value} {v : Value} {w : World} (h : ∀ W, Calls Tryz.prog f args W fun e w' => e = .returned v ∧ Below W.heap.size W w') :
    ∀ d os, Calls Tryz.prog f args (grow (redrawn w d) os) fun e w'' => e = .returned v ∧ ∃ p : Regrown, w'' = grow (redrawn w p.d) p.os := fun _ _ => Calls.regrown_of (h _)
end Go.Proofs.YtbpcciifaekffaaGreatDoor
namespace Go.Proofs.YtbpcciifaekffaaGreatDoor
open Go.RowKit

/-- So many values, told by a function. -/
def fl (N : Nat) (g : Nat → Value) : List Value := (List.range N).map g
theorem fl_len (N : Nat) (g : Nat → Value) : (fl N g).length = N := by simp [fl]
theorem fl_at (N : Nat) (g : Nat → Value) (j : Nat) (h : j < N) : (fl N g)[j]? = some (g j) := by simp [fl, h]
theorem fl_ext (N : Nat) (g h : Nat → Value) (e : ∀ j, j < N → g j = h j) : fl N g = fl N h := by
  unfold fl
  exact List.map_congr_left fun j hj => e j (by simpa using hj)
theorem fl_get (N : Nat) (g : Nat → Value) (j : Nat) (v : Value) (h : (fl N g)[j]? = some v) : j < N ∧ v = g j := by
  by_cases hj : j < N
  · rw [fl_at N g j hj] at h
    exact ⟨hj, (Option.some.inj h).symm⟩
  · have : (fl N g)[j]? = none := List.getElem?_eq_none (by rw [fl_len]; omega)
    rw [this] at h; cases h

/-- An array that may be written lies in block n. -/
structure Fw (n N : Nat) (g : Nat → Value) (W : World) : Prop where
  z : n < W.heap.size
  c : ∀ j, j < N → W.cell? ⟨n, j, none⟩ = some (g j)
  f : ∀ o, W.frozen? ⟨n, o, none⟩ = false

section
variable {n N : Nat} {g h : Nat → Value} {W W' : World}
theorem Fw.below (k : Fw n N g W) (hb : Below W.heap.size W W') : Fw n N g W' :=
  ⟨Nat.lt_of_lt_of_le k.z hb.size, fun j hj => (hb.cell (p := ⟨n, j, none⟩) k.z).trans (k.c j hj), fun o => (hb.frozen (p := ⟨n, o, none⟩) k.z).trans (k.f o)⟩
theorem Fw.new (W : World) (N : Nat) (g : Nat → Value) (t : TypeId) : Fw W.heap.size N g (W.alloc (.cells (fl N g).toArray t)) :=
  ⟨by simp, fun j hj => by simp [go_sem, fl_at N g j hj], fun o => by simp [go_sem]⟩
theorem Fw.alloc (k : Fw n N g W) (o : Obj) : Fw n N g (W.alloc o) := k.below ((Below.refl _ W).alloc (Nat.le_refl _) o)
theorem Fw.drew (k : Fw n N g W) : Fw n N g W.drew := ⟨k.z, k.c, k.f⟩
theorem Fw.ext (k : Fw n N g W) (e : ∀ j, j < N → h j = g j) : Fw n N h W := ⟨k.z, fun j hj => by rw [e j hj]; exact k.c j hj, k.f⟩
theorem Fw.put (k : Fw n N g W) (i : Nat) (hi : i < N) (v : Value) (e : ∀ j, j < N → h j = if j = i then v else g j) : Fw n N h (W.setCell ⟨n, i, none⟩ v) := by
  refine ⟨by simpa [go_sem] using k.z, fun j hj => ?_, fun o => by simp [go_sem, k.f]⟩
  rw [e j hj]
  by_cases q : j = i
  · subst q
    have := k.c j hj
    simp [go_sem, *]
  · have := k.c j hj
    simp [go_sem, *]
theorem Fw.setCell (k : Fw n N g W) (p : Addr) (hp : p.block ≠ n) (v : Value) : Fw n N g (W.setCell p v) := by
  have hp' : n ≠ p.block := fun e => hp e.symm
  obtain ⟨pb, po, pm⟩ := p
  simp only at hp hp'
  exact ⟨by simpa [go_sem] using k.z, fun j hj => by have := k.c j hj; simp [go_sem, *], fun o => by simp [go_sem, k.f]⟩
theorem Fw.range (k : Fw n N g W) : W.rangeAt n 0 (fl N g) := fun j v hv => by
  obtain ⟨hj, rfl⟩ := fl_get N g j v hv
  rw [Nat.zero_add]; exact k.c j hj
theorem Fw.there (k : Fw n N g W) : W.there n 0 N := fun j hj => ⟨by rw [Nat.zero_add, k.c j hj]; rfl, by rw [Nat.zero_add]; exact k.f j⟩
theorem setCells_size (b : Nat) : ∀ (vs : List Value) (o : Nat) (W : World), (W.setCells b o vs).heap.size = W.heap.size
  | [], _, _ => rfl
  | v :: r, o, W => by rw [World.setCells, setCells_size b r (o + 1)]; simp [go_sem]
theorem Fw.store (k : Fw n N g W) (h : Nat → Value) : Fw n N h (W.setCells n 0 (fl N h)) := by
  have hr := World.rangeAt_setCells_same W n 0 (fl N h) (by rw [fl_len]; exact k.there)
  refine ⟨by rw [setCells_size]; exact k.z, fun j hj => ?_, fun o => by rw [World.frozen?_setCells]; exact k.f o⟩
  have := hr j (h j) (fl_at N h j hj)
  rwa [Nat.zero_add] at this
theorem Fw.storeOther (k : Fw n N g W) (b : Nat) (hb : b ≠ n) (vs : List Value) : Fw n N g (W.setCells b 0 vs) := by
  refine ⟨by rw [setCells_size]; exact k.z, fun j hj => ?_, fun o => by rw [World.frozen?_setCells]; exact k.f o⟩
  rw [World.cell?_setCells_out b vs 0 W ⟨n, j, none⟩ (fun e => absurd e (fun q => hb q.symm))]
  exact k.c j hj
theorem Fw.run {P : Program} (k : Fw n N g W) (h : Nat → Value) (h1 : ∀ j, (h j).oneCell' = true) : (storeCells ⟨n, 0, none⟩ (fl N h) 0).run P W = .ok () (W.setCells n 0 (fl N h)) := by
  refine run_storeCells_cells (P := P) n 0 (fl N h) 0 W (fun j hj => ?_) (fun j hj => ?_) ?_
  · rw [fl_len] at hj
    simpa using (k.there j hj).1
  · rw [fl_len] at hj
    simpa using (k.there j hj).2
  · intro v hv
    unfold fl at hv
    obtain ⟨j, _, rfl⟩ := List.mem_map.1 hv
    exact h1 j
end

theorem below_setCells' {B b : Nat} {a : World} (hb : B ≤ b) : ∀ (vs : List Value) (o : Nat) (w : World), Below B a w → Below B a (w.setCells b o vs)
  | [], _, _, h => h
  | v :: r, o, w, h => by
    rw [World.setCells]
    exact below_setCells' hb r (o + 1) _ (h.setCell (p := ⟨b, o, none⟩) hb v)

/-- A result that lies in a block, whole. -/
theorem results_mid {P : Program} {fn : Func} {p : Tmp} {ty : TypeId} (h : fn.results = #[.cell p ty]) (tmps : Array Value) (w : World) (b : Nat) (cs : List Value) (d : TypeDesc)
    (hp : tmps.getD p undef = .pointer (some ⟨b, 0, none⟩)) (hc : w.rangeAt b 0 cs)
    (hu : P.underlying ty = some d) (hd : d.isRow = true) (hi : (P.info? ty).map (·.size) = some cs.length) :
    (results fn tmps).run P w = .ok (.agg cs.toArray) w := by
  have hp' : tmps[p]?.getD undef = .pointer (some ⟨b, 0, none⟩) := by simpa using hp
  simp [results, h, hp', asAddr, run_loadVar_mid w b 0 ty cs d hc hu hd hi]
end Go.Proofs.YtbpcciifaekffaaGreatDoor
namespace Go.Proofs.YtbpcciifaekffaaGreatDoor
open Go.RowKit Go.Sort

section
variable {P : Program} {ops : Array Oper} {md : Region.Mode} {C : World → Prop}

/-- Whatever order the head takes, its operations quiet in the class. -/
def HeadQ (P : Program) (md : Region.Mode) (ops : Array Oper) (C : World → Prop) (n : Nat) (D : Array Bool → Act → Prop) : Nat → Array Bool → Act → Prop
  | 0, listed, a => D listed a
  | f + 1, listed, a => Region.ready md ops listed ≠ [] ∧ ∀ i ∈ Region.ready md ops listed, i < n ∧ qOp P ops C i (HeadQ P md ops C n D f (listed.setIfInBounds i true)) a

theorem any_of_headQ {n g : Nat} {D : Array Bool → Act → Prop} {Q : Exit → Act → World → Prop} (hD : ∀ listed a w, C w → D listed a → wpAny P md ops Q g listed a w) :
    ∀ (f : Nat) (listed : Array Bool) (a : Act) (w : World), C w → HeadQ P md ops C n D f listed a → wpAny P md ops Q (f + g) listed a w
  | 0, _, _, _, hw, h => by rw [Nat.zero_add]; exact hD _ _ _ hw h
  | f + 1, _, _, _, hw, h => by
    rw [show f + 1 + g = (f + g) + 1 by omega]
    exact ⟨fun h0 => absurd h0 h.1, fun i hi => wpOp_of_qOp hw (fun a' w' hw' h' => any_of_headQ hD f _ a' w' hw' h') (h.2 i hi).2⟩

theorem headQ_first {n i : Nat} {oi : Oper} {v : Value} {D : Array Bool → Act → Prop} (hi : ops[i]? = some oi) (hsel : ∀ (j : Nat) (o : Oper) cs b, ops[j]? = some o → o.op ≠ .select cs b)
    (hs : Region.sinkB md ops n = true) (hc : Region.chainB md ops n = true) (hn : n < ops.size) (hin : i < n)
    (hdone : ∀ listed a, D listed a → ∀ j ∈ Region.ready md ops listed, n ≤ j) :
    ∀ (f : Nat) (listed : Array Bool) (a : Act), HeadInv md ops n listed →
      (∀ j oj, ops[j]? = some oj → j ≠ i → listed.getD j true = false → (∀ e ∈ oj.after, Region.binds md e = true → e.on ≠ i) → oi.apart ops oj = true) →
      i ∈ Region.ready md ops listed → YieldsIn P ops C oi v a →
      HeadQ P md ops C n D f (listed.setIfInBounds i true) (a.put oi.dst v) → HeadQ P md ops C n D (f + 1) listed a := by
  intro f
  induction f with
  | zero =>
    intro listed a inv _ hr hy H
    have hun := (mem_ready.1 hr).1
    refine ⟨fun h => (by rw [h] at hr; cases hr), fun j hj => ?_⟩
    have hjn : j < n := Nat.lt_of_not_le fun h => absurd hj (tail_waits hs hc hn inv _ i rfl hin hun j h)
    refine ⟨hjn, ?_⟩
    by_cases hji : j = i
    · subst hji; exact hy.qOp hi H
    · have := hdone _ _ H j (ready_mono hj hji)
      omega
  | succ f ih =>
    intro listed a inv hfree hr hy H
    have hun := (mem_ready.1 hr).1
    refine ⟨fun h => (by rw [h] at hr; cases hr), fun j hj => ?_⟩
    have hjn : j < n := Nat.lt_of_not_le fun h => absurd hj (tail_waits hs hc hn inv _ i rfl hin hun j h)
    refine ⟨hjn, ?_⟩
    by_cases hji : j = i
    · subst hji; exact hy.qOp hi H
    · have h1 := (H.2 j (ready_mono hj hji)).2
      obtain ⟨hjun, oj, hoj, hall⟩ := mem_ready.1 hj
      have hnot : ∀ e ∈ oj.after, Region.binds md e = true → e.on ≠ i := fun e he hb heq => by
        have h1 := hall e he hb
        rw [heq, getD_both hun] at h1
        cases h1
      have h2 := qOp_put hoj (hfree j oj hoj hji hjun hnot) (fun cs b => hsel i oi cs b hi) (fun cs b => hsel j oj cs b hoj) hy h1
      have hfree' : ∀ k ok, ops[k]? = some ok → k ≠ i → (listed.setIfInBounds j true).getD k true = false →
          (∀ e ∈ ok.after, Region.binds md e = true → e.on ≠ i) → oi.apart ops ok = true := fun k ok hk hki hun' hno => by
        refine hfree k ok hk hki ?_ hno
        by_cases hjk : j = k
        · subst hjk; exact hjun
        · rw [getD_set_ne true hjk] at hun'; exact hun'
      refine qOp_mono (fun a' h3 => ih (listed.setIfInBounds j true) a' (inv.set hj hjn) hfree' (ready_mono hr (Ne.symm hji)) h3.1 ?_) h2
      rw [Array.setIfInBounds_comm _ _ hji]
      exact h3.2

theorem headQ_lex {n g : Nat} {D : Act → Prop} (hsel : Region.noSelect ops = true) (hs : Region.sinkB md ops n = true) (hc : Region.chainB md ops n = true) (hn : n < ops.size) :
    ∀ (l : List Oper) (k : Nat) (listed : Array Bool) (a : Act), (∀ j, j < l.length → l[j]? = ops[k + j]?) → k + l.length = n → HeadInv md ops n listed →
    Region.lexHead md ops g l.length k listed = true → wpQuiet P ops C D l a →
    HeadQ P md ops C n (fun listed' a' => Region.seqB md ops g n listed' = true ∧ D a') l.length listed a
  | [], k, listed, a, _, hk, _, hB, h => by
    have : k = n := by simpa using hk
    subst this
    exact ⟨by simpa [Region.lexHead] using hB, h⟩
  | o :: l, k, listed, a, hl, hk, inv, hB, h => by
    have h0 : ops[k]? = some o := by simpa using (hl 0 (by simp)).symm
    simp only [List.length_cons, Region.lexHead, Bool.and_eq_true] at hB
    obtain ⟨⟨hr, hf⟩, hB'⟩ := hB
    have hkn : k < n := by simp only [List.length_cons] at hk; omega
    have hr' : k ∈ Region.ready md ops listed := by simpa using hr
    have hst : qOp P ops C k (wpQuiet P ops C D l) a := by unfold qOp; simp only [h0]; exact h
    obtain ⟨v, hy, hK⟩ := yieldsIn_of_qOp h0 hst
    exact headQ_first h0 (Region.noSelect_spec hsel) hs hc hn hkn (fun listed' a' hL => seqB_ready hL.1) l.length listed a inv (Region.free_spec h0 hf) hr' hy
      (headQ_lex hsel hs hc hn l (k + 1) _ _ (fun j hj => by have := hl (j + 1) (by simp; omega); simpa [Nat.add_assoc, Nat.add_comm 1 j] using this) (by simp only [List.length_cons] at hk; omega) (inv.set hr' hkn) hB' hK)

theorem tail_any {Q : Exit → Act → World → Prop} {a : Act} {w : World} {l : List Oper} (n : Nat) (hB : Region.lexTailB .any l.toArray n = true)
    (h : wpQuiet P l.toArray (fun w' => ∃ p : Regrown, w' = grow (redrawn w p.d) p.os) (fun a' => ∀ w', (∃ p : Regrown, w' = grow (redrawn w p.d) p.os) → wpList P l.toArray Q (l.drop n) a' w') (l.take n) a) :
    wpAny P .any l.toArray Q l.toArray.size (Array.replicate l.toArray.size false) a { w with drawn := w.drawn + 1 } := by
  simp only [Region.lexTailB, Bool.and_eq_true, decide_eq_true_eq] at hB
  obtain ⟨⟨⟨⟨hsel, hn⟩, hs⟩, hc⟩, hlex⟩ := hB
  have hn' : n < l.length := by simpa using hn
  have htl : (l.take n).length = n := by simp; omega
  have hdl : (l.drop n).length = l.toArray.size - n := by simp
  have inv0 : HeadInv .any l.toArray n (Array.replicate l.toArray.size false) :=
    ⟨by simp, fun j oj _ hl => (by rw [getD_replicate_false] at hl; cases hl), fun t _ ht => getD_in (by simpa using ht) (getD_replicate_false _ _)⟩
  have H := headQ_lex (C := fun w' => ∃ p : Regrown, w' = grow (redrawn w p.d) p.os) (md := .any) (g := l.toArray.size - n) hsel hs hc hn (l.take n) 0 _ a (fun j hj => by
    have hj' : j < n := by rw [htl] at hj; exact hj
    simp [hj']) (by simpa using htl) inv0 (by rw [htl]; exact hlex) h
  have := any_of_headQ (Q := Q) (g := l.toArray.size - n) (fun listed a' w' hw' hL => by
    have := wpAny_of_seq (md := .any) (Q' := Q) (l.drop n) n listed a' w' (fun j => by simp [List.getElem?_drop]) (by rw [hdl]; exact hL.1) (hL.2 w' hw')
    rwa [hdl] at this) _ _ _ { w with drawn := w.drawn + 1 } ⟨⟨w.drawn + 1, #[]⟩, by rw [grow_empty]; rfl⟩ H
  rw [htl, show n + (l.toArray.size - n) = l.toArray.size by omega] at this
  exact this
/-- THE FIRST LAW: n operations that only read and call, each contract ending in 'Below'; then the rest, one behind the other. -/
theorem region_tail {id : Nat} {Q : Exit → Act → World → Prop} {a : Act} {w : World} {l : List Oper} (n : Nat) (hm : P.follows .mixedOrders = true) (hB : Region.lexTailB .any l.toArray n = true)
    (h : wpQuiet P l.toArray (fun w' => ∃ p : Regrown, w' = grow (redrawn w p.d) p.os) (fun a' => ∀ w', (∃ p : Regrown, w' = grow (redrawn w p.d) p.os) → wpList P l.toArray Q (l.drop n) a' w') (l.take n) a) : (Code.region id l.toArray true).wp P Q a w :=
  wp_region_any hm (tail_any n hB h)

/-! ### The second law -/
/-- Every operation waits for earlier ones alone. -/
def backB (md : Region.Mode) (ops : Array Oper) : Bool := (List.range ops.size).all fun i => match ops[i]? with | some o => o.after.all fun e => !Region.binds md e || decide (e.on < i) | none => true
/-- How many of the first k have not come up. -/
def left (listed : Array Bool) : Nat → Nat
  | 0 => 0
  | k + 1 => left listed k + (if listed.getD k true = false then 1 else 0)

theorem back_spec (h : backB md ops = true) {i : Nat} {o : Oper} (ho : ops[i]? = some o) : ∀ e ∈ o.after, Region.binds md e = true → e.on < i := by
  intro e he hb
  have hi : i < ops.size := (Array.getElem?_eq_some_iff.1 ho).1
  have h1 := List.all_eq_true.1 h i (List.mem_range.2 hi)
  simp only [ho] at h1
  have := (Array.all_eq_true_iff_forall_mem.1 h1) e he
  simpa [hb] using this

theorem some_ready {listed : Array Bool} (hb : backB md ops = true) (hsz : listed.size = ops.size) : ∀ i, i < ops.size → listed.getD i true = false → Region.ready md ops listed ≠ [] := by
  intro i
  induction i using Nat.strongRecOn with
  | _ i ih =>
    intro hi hun h0
    obtain ⟨o, ho⟩ : ∃ o, ops[i]? = some o := ⟨ops[i], by simp [hi]⟩
    by_cases hall : ∀ e ∈ o.after, Region.binds md e = true → listed.getD e.on false = true
    · have : i ∈ Region.ready md ops listed := mem_ready.2 ⟨hun, o, ho, hall⟩
      rw [h0] at this; cases this
    · have : ∃ e ∈ o.after, Region.binds md e = true ∧ listed.getD e.on false = false := by
        apply Classical.byContradiction
        intro hno
        apply hall
        intro e he hbe
        cases hq : listed.getD e.on false with
        | true => rfl
        | false => exact absurd ⟨e, he, hbe, hq⟩ hno
      obtain ⟨e, he, hbe, hq⟩ := this
      have hlt := back_spec hb ho e he hbe
      exact ih e.on hlt (by omega) (getD_in (by omega) hq) h0

theorem left_set {listed : Array Bool} {i : Nat} (hun : listed.getD i true = false) : ∀ k, (i < k → left (listed.setIfInBounds i true) k + 1 = left listed k) ∧ (k ≤ i → left (listed.setIfInBounds i true) k = left listed k)
  | 0 => ⟨fun h => absurd h (Nat.not_lt_zero _), fun _ => rfl⟩
  | k + 1 => by
    have hk := left_set (i := i) hun k
    have hlt : i < listed.size := by
      rcases Nat.lt_or_ge i listed.size with h' | h'
      · exact h'
      · simp [Array.getElem?_eq_none h'] at hun
    by_cases hik : i = k
    · subst hik
      have e1 : (listed.setIfInBounds i true).getD i true = true := by simp [hlt]
      refine ⟨fun _ => ?_, fun h => absurd h (by omega)⟩
      simp only [left]
      rw [hk.2 (Nat.le_refl _), e1, hun]
      simp
    · have e1 := getD_set_ne (listed := listed) (i := i) (j := k) true hik
      refine ⟨fun h => ?_, fun h => ?_⟩
      · simp only [left]
        rw [e1, ← hk.1 (by omega)]
        omega
      · simp only [left]
        rw [e1, hk.2 (by omega)]

theorem left_zero {listed : Array Bool} : ∀ k, left listed k = 0 → ∀ i, i < k → listed.getD i true = true
  | 0, _, i, h => absurd h (Nat.not_lt_zero _)
  | k + 1, h, i, hi => by
    simp only [left] at h
    by_cases hik : i = k
    · subst hik
      cases hq : listed.getD i true with
      | true => rfl
      | false => rw [hq] at h; simp at h
    · exact left_zero k (by omega) i (by omega)
theorem left_some {listed : Array Bool} : ∀ k f, left listed k = f + 1 → ∃ i, i < k ∧ listed.getD i true = false
  | 0, f, h => by simp [left] at h
  | k + 1, f, h => by
    cases hq : listed.getD k true with
    | false => exact ⟨k, by omega, hq⟩
    | true =>
      simp only [left, hq] at h
      obtain ⟨i, hi, h2⟩ := left_some k f (by simpa using h)
      exact ⟨i, by omega, h2⟩
theorem left_new (m : Nat) : ∀ k, k ≤ m → left (Array.replicate m false) k = k
  | 0, _ => rfl
  | k + 1, h => by
    simp only [left]
    rw [left_new m k (by omega), getD_in (by simp; omega) (getD_replicate_false _ _)]
    simp

theorem any_of_inv {Q : Exit → Act → World → Prop} {J : Array Bool → Act → World → Prop} (hb : backB md ops = true)
    (step : ∀ i listed a W, listed.size = ops.size → i ∈ Region.ready md ops listed → J listed a W → wpOp P ops Q i (J (listed.setIfInBounds i true)) a W)
    (last : ∀ listed a W, listed.size = ops.size → (∀ i, i < ops.size → listed.getD i true = true) → J listed a W → Q .normal a W) :
    ∀ (f : Nat) (listed : Array Bool) (a : Act) (W : World), listed.size = ops.size → left listed ops.size = f → J listed a W → wpAny P md ops Q f listed a W
  | 0, listed, a, W, hsz, hf, h => by
    have hz := left_zero _ hf
    refine ⟨?_, last listed a W hsz hz h⟩
    apply List.eq_nil_iff_forall_not_mem.2
    intro i hi
    obtain ⟨hun, o, ho, _⟩ := mem_ready.1 hi
    rw [hz i (Array.getElem?_eq_some_iff.1 ho).1] at hun
    cases hun
  | f + 1, listed, a, W, hsz, hf, h => by
    obtain ⟨i, hi, hun⟩ := left_some _ f hf
    refine ⟨fun h0 => absurd h0 (some_ready hb hsz i hi hun), fun j hj => ?_⟩
    obtain ⟨hjun, o, ho, _⟩ := mem_ready.1 hj
    refine wpOp_mono (fun a' W' h' => any_of_inv hb step last f _ a' W' (by simpa using hsz) ?_ h') (step j listed a W hsz hj h)
    have := (left_set hjun ops.size).1 (Array.getElem?_eq_some_iff.1 ho).1
    omega

/-- What has come up, behind one more. -/
def more (S : Nat → Bool) (i : Nat) : Nat → Bool := fun j => if j = i then true else S j

/-- THE SECOND LAW: an invariant of what has come up, shown once an operation. What must hold behind an operation stands behind a letter. -/
theorem region_inv {id : Nat} {Q : Exit → Act → World → Prop} {a : Act} {w : World} {l : List Oper} (J : (Nat → Bool) → Act → World → Prop) (hm : P.follows .mixedOrders = true)
    (hB : backB .any l.toArray = true) (h0 : J (fun _ => false) a w.drew)
    (step : ∀ i o S a W, l[i]? = some o → S i = false → J S a W → (∀ e ∈ o.after, Region.binds .any e = true → S e.on = true) → ∀ K : Act → World → Prop, (∀ a W, J (more S i) a W → K a W) →
      if Region.wanted o (yielded l.toArray a.tmps) then o.wp P a W K Q else K (a.put o.dst undef) W)
    (last : ∀ S a W, (∀ i, i < l.length → S i = true) → J S a W → Q .normal a W) : (Code.region id l.toArray true).wp P Q a w := by
  refine wp_region_any hm ?_
  refine any_of_inv (P := P) (md := .any) (ops := l.toArray) (Q := Q) (J := fun listed a W => J (fun j => listed.getD j false) a W) hB
    (fun i listed a W hsz hr hJ => ?_) (fun listed a W hsz hall hJ => ?_) l.toArray.size (Array.replicate l.toArray.size false) a w.drew (by simp) (left_new _ _ (Nat.le_refl _)) ?_
  · obtain ⟨hun, o, ho, hall⟩ := mem_ready.1 hr
    have hlt : i < listed.size := by rw [hsz]; exact (Array.getElem?_eq_some_iff.1 ho).1
    have e : (fun j => (listed.setIfInBounds i true).getD j false) = more (fun j => listed.getD j false) i := by
      funext j
      unfold more
      by_cases hij : j = i
      · subst hij; simp [hlt]
      · rw [if_neg hij, getD_set_ne false (fun e => hij e.symm)]
    have hst := step i o (fun j => listed.getD j false) a W (by simpa using ho) (getD_both hun) hJ hall (J (more (fun j => listed.getD j false) i)) (fun _ _ h => h)
    unfold wpOp
    simp only [ho]
    rw [e]
    split
    · rename_i hw; simp only [hw, if_true] at hst; exact Or.inl hst
    · rename_i hw; simp only [hw] at hst; exact hst
  · refine last (fun j => listed.getD j false) a W (fun i hi => ?_) hJ
    have h1 := hall i (by simpa using hi)
    have h2 : i < listed.size := by rw [hsz]; simpa using hi
    cases hq : listed.getD i false with
    | true => rfl
    | false => rw [getD_in h2 hq] at h1; cases h1
  · have e : (fun j => (Array.replicate l.toArray.size false).getD j false) = fun _ => false := by funext j; exact getD_replicate_false _ _
    show J (fun j => (Array.replicate l.toArray.size false).getD j false) a _
    rw [e]; exact h0
end
end Go.Proofs.YtbpcciifaekffaaGreatDoor
namespace Go.Proofs.YtbpcciifaekffaaGreatDoor
open Go.RowKit Go.Sort

/-- One lane by another one, as the program reckons. -/
abbrev xr (a b : Int) : Int := bits .xor .u64 a b
abbrev an (a b : Int) : Int := bits .and .u64 a b
abbrev nt (a : Int) : Int := bits .xor .u64 18446744073709551615 a

/-- Step 3 of a round: a lane of the rows joined. -/
def rowsOf (g : Nat → Int) (j : Nat) : Int := xr (g j) (an (nt (g (j / 5 * 5 + (j + 1) % 5))) (g (j / 5 * 5 + (j + 2) % 5)))

theorem rows_at (g : Nat → Int) (y r : Nat) (hr : r < 5) : rowsOf g (5 * y + r) = xr (g (5 * y + r)) (an (nt (g (5 * y + (r + 1) % 5))) (g (5 * y + (r + 2) % 5))) := by
  unfold rowsOf
  rw [show (5 * y + r) / 5 * 5 = 5 * y by omega, show (5 * y + r + 1) % 5 = (r + 1) % 5 by omega, show (5 * y + r + 2) % 5 = (r + 2) % 5 by omega]
theorem Fw.but {n N s : Nat} {g : Nat → Value} {W W' : World} (k : Fw n N g W) (hg : W.grownBy W' (some s)) (hn : n ≠ s) : Fw n N g W' :=
  ⟨Nat.lt_of_lt_of_le k.z hg.size, fun j hj => hg.cell (k.c j hj) (fun e => hn (Option.some.inj e)), fun o => by rw [World.frozen?_of_block (hg.block n k.z (fun e => hn (Option.some.inj e)))]; exact k.f o⟩
theorem but_set {s i : Nat} {w W : World} (h : w.grownBy W (some s)) (v : Value) : w.grownBy (W.setCell ⟨s, i, none⟩ v) (some s) := by
  have hb : Below s W (W.setCell ⟨s, i, none⟩ v) := (Below.refl s W).setCell (p := ⟨s, i, none⟩) (Nat.le_refl _) v
  refine ⟨hb.os.trans h.os, hb.tape.trans h.tape, hb.output.trans h.output, Nat.le_trans h.size hb.size, fun k hk hne => ?_⟩
  rw [Below.heap_setCell W ⟨s, i, none⟩ v k (fun e => hne (by rw [e]))]
  exact h.block k hk hne
theorem but_below {s : Nat} {w W W' : World} (h : w.grownBy W (some s)) (hb : Below W.heap.size W W') : w.grownBy W' (some s) :=
  ⟨hb.os.trans h.os, hb.tape.trans h.tape, hb.output.trans h.output, Nat.le_trans h.size hb.size, fun k hk hne => (hb.block k (Nat.lt_of_lt_of_le hk h.size)).trans (h.block k hk hne)⟩
theorem but_refl (s : Nat) (w : World) : w.grownBy w (some s) := ⟨rfl, rfl, rfl, Nat.le_refl _, fun _ _ _ => rfl⟩

set_option maxRecDepth 20000 in
set_option maxHeartbeats 4000000 in
theorem joinRows_any (s b : Nat) (f g : Nat → Int) (w : World) (hs : Fw s 25 (fun j => .int .u64 (f j)) w) (hb : Fw b 25 (fun j => .int .u64 (g j)) w) (hne : s ≠ b) :
    Calls Tryz.prog 95 #[.pointer (some ⟨s, 0, none⟩), .pointer (some ⟨b, 0, none⟩)] w fun e w' =>
      e = .returned (.tuple #[]) ∧ Fw s 25 (fun j => .int .u64 (rowsOf g j)) w' ∧ w.grownBy w' (some s) := by
  have km : IntKind.u64.max = 18446744073709551615 := by decide
  have ks : IntKind.u64.signed = false := rfl
  go_enter Tryz.func95, Tryz.ntmps95
  go_wp2
  go_loopg [11] 5 (fun gk i wr => ∃ y : Nat, ∃ h : Nat → Int, y + gk = 5 ∧ i = .int .i64 y ∧ w.grownBy wr (some s) ∧ Fw s 25 (fun j => .int .u64 (h j)) wr ∧ Fw b 25 (fun j => .int .u64 (g j)) wr ∧ Hid (∀ j, j < 25 → h j = if j < 5 * y then rowsOf g j else f j))
  case atStart => exact ⟨0, f, rfl, rfl, but_refl s w, hs, hb, fun j _ => by rw [if_neg (by omega)]⟩
  case round =>
    obtain ⟨y, h, hy, rfl, BW, CS, CB, hH⟩ := hrel
    by_cases hlt : y < 5
    · obtain ⟨p, hp⟩ : ∃ p : Nat, 5 * y = p := ⟨_, rfl⟩
      obtain ⟨p1, hp1⟩ : ∃ q : Nat, p + 1 = q := ⟨_, rfl⟩
      obtain ⟨p2, hp2⟩ : ∃ q : Nat, p + 2 = q := ⟨_, rfl⟩
      obtain ⟨p3, hp3⟩ : ∃ q : Nat, p + 3 = q := ⟨_, rfl⟩
      obtain ⟨p4, hp4⟩ : ∃ q : Nat, p + 4 = q := ⟨_, rfl⟩
      have w0 : IntKind.i64.wrap ((y : Int) * 5) = p := by rw [IntKind.wrap_i64]; omega
      have w0' : IntKind.i64.wrap ((p : Nat) : Int) = p := by rw [IntKind.wrap_i64]; omega
      have w1 : IntKind.i64.wrap ((p : Int) + 1) = p1 := by rw [IntKind.wrap_i64]; omega
      have w2 : IntKind.i64.wrap ((p : Int) + 2) = p2 := by rw [IntKind.wrap_i64]; omega
      have w3 : IntKind.i64.wrap ((p : Int) + 3) = p3 := by rw [IntKind.wrap_i64]; omega
      have w4 : IntKind.i64.wrap ((p : Int) + 4) = p4 := by rw [IntKind.wrap_i64]; omega
      have l0 : (p : Int) < 25 := by omega
      have l1 : (p1 : Int) < 25 := by omega
      have l2 : (p2 : Int) < 25 := by omega
      have l3 : (p3 : Int) < 25 := by omega
      have l4 : (p4 : Int) < 25 := by omega
      have m0 := CB.c p (by omega)
      have m1 := CB.c p1 (by omega)
      have m2 := CB.c p2 (by omega)
      have m3 := CB.c p3 (by omega)
      have m4 := CB.c p4 (by omega)
      obtain ⟨b0, hb0⟩ : ∃ x, g p = x := ⟨_, rfl⟩
      obtain ⟨b1, hb1⟩ : ∃ x, g p1 = x := ⟨_, rfl⟩
      obtain ⟨b2, hb2⟩ : ∃ x, g p2 = x := ⟨_, rfl⟩
      obtain ⟨b3, hb3⟩ : ∃ x, g p3 = x := ⟨_, rfl⟩
      obtain ⟨b4, hb4⟩ : ∃ x, g p4 = x := ⟨_, rfl⟩
      rw [hb0] at m0
      rw [hb1] at m1
      rw [hb2] at m2
      rw [hb3] at m3
      rw [hb4] at m4
      have HG : Hid (_ ∧ _ ∧ _ ∧ _ ∧ _) := ⟨hb0, hb1, hb2, hb3, hb4⟩
      clear hb0 hb1 hb2 hb3 hb4
      go_wp2
      have k0 := cell_regrown m0
      have k1 := cell_regrown m1
      have k2 := cell_regrown m2
      have k3 := cell_regrown m3
      have k4 := cell_regrown m4
      refine wp_region_quiet_below (by kernel_rfl) (by kernel_rfl) ?_
      iterate 34 (quiet_step (fail))
      refine wpQuiet_nil ?_
      intro w8 hw8
      have hb8 : Below wr.heap.size wr w8 := by
        obtain ⟨p, rfl⟩ := hw8
        exact below_regrown _ _ _
      have S8 := CS.below hb8
      have B8 := CB.below hb8
      have G8 := but_below BW hb8
      clear hw8 hb8 k0 k1 k2 k3 k4 CS CB BW m0 m1 m2 m3 m4
      have n0 := S8.c p (by omega)
      have n1 := S8.c p1 (by omega)
      have n2 := S8.c p2 (by omega)
      have n3 := S8.c p3 (by omega)
      have n4 := S8.c p4 (by omega)
      have sf := S8.f
      have sz := S8.z
      go_wp2
      go_roundg (gk - 1)
      case measure => omega
      case rel =>
        have F1 := S8.put p (by omega) (.int .u64 (xr b0 (an (nt b1) b2))) (h := fun j => .int .u64 (if j = p then xr b0 (an (nt b1) b2) else h j)) (fun j _ => by by_cases e : j = p <;> simp [e])
        have F2 := F1.put p1 (by omega) (.int .u64 (xr b1 (an (nt b2) b3))) (h := fun j => .int .u64 (if j = p1 then xr b1 (an (nt b2) b3) else if j = p then xr b0 (an (nt b1) b2) else h j)) (fun j _ => by by_cases e : j = p1 <;> simp [e])
        have F3 := F2.put p2 (by omega) (.int .u64 (xr b2 (an (nt b3) b4))) (h := fun j => .int .u64 (if j = p2 then xr b2 (an (nt b3) b4) else if j = p1 then xr b1 (an (nt b2) b3) else if j = p then xr b0 (an (nt b1) b2) else h j)) (fun j _ => by by_cases e : j = p2 <;> simp [e])
        have F4 := F3.put p3 (by omega) (.int .u64 (xr b3 (an (nt b4) b0))) (h := fun j => .int .u64 (if j = p3 then xr b3 (an (nt b4) b0) else if j = p2 then xr b2 (an (nt b3) b4) else if j = p1 then xr b1 (an (nt b2) b3) else if j = p then xr b0 (an (nt b1) b2) else h j)) (fun j _ => by by_cases e : j = p3 <;> simp [e])
        have F5 := F4.put p4 (by omega) (.int .u64 (xr b4 (an (nt b0) b1))) (h := fun j => .int .u64 (if j = p4 then xr b4 (an (nt b0) b1) else if j = p3 then xr b3 (an (nt b4) b0) else if j = p2 then xr b2 (an (nt b3) b4) else if j = p1 then xr b1 (an (nt b2) b3) else if j = p then xr b0 (an (nt b1) b2) else h j)) (fun j _ => by by_cases e : j = p4 <;> simp [e])
        obtain ⟨g0, g1, g2, g3, g4⟩ := HG.out
        have q0 := rows_at g y 0 (by decide)
        have q1 := rows_at g y 1 (by decide)
        have q2 := rows_at g y 2 (by decide)
        have q3 := rows_at g y 3 (by decide)
        have q4 := rows_at g y 4 (by decide)
        simp only [Nat.add_zero, Nat.reduceAdd, Nat.reduceMod, hp, hp1, hp2, hp3, hp4, g0, g1, g2, g3, g4] at q0 q1 q2 q3 q4
        refine ⟨y + 1, fun j => if j = p4 then xr b4 (an (nt b0) b1) else if j = p3 then xr b3 (an (nt b4) b0) else if j = p2 then xr b2 (an (nt b3) b4) else if j = p1 then xr b1 (an (nt b2) b3) else if j = p then xr b0 (an (nt b1) b2) else h j, by omega, rfl, but_set (but_set (but_set (but_set (but_set G8 _) _) _) _) _, F5, ((((B8.setCell _ (fun e => hne e) _).setCell _ (fun e => hne e) _).setCell _ (fun e => hne e) _).setCell _ (fun e => hne e) _).setCell _ (fun e => hne e) _, ?_⟩
        intro j hj
        have hJ := hH.out j hj
        show (if j = p4 then xr b4 (an (nt b0) b1) else if j = p3 then xr b3 (an (nt b4) b0) else if j = p2 then xr b2 (an (nt b3) b4) else if j = p1 then xr b1 (an (nt b2) b3) else if j = p then xr b0 (an (nt b1) b2) else h j) = _
        by_cases e4 : j = p4
        · rw [if_pos e4, if_pos (by omega), e4, q4]
        rw [if_neg e4]
        by_cases e3 : j = p3
        · rw [if_pos e3, if_pos (by omega), e3, q3]
        rw [if_neg e3]
        by_cases e2 : j = p2
        · rw [if_pos e2, if_pos (by omega), e2, q2]
        rw [if_neg e2]
        by_cases e1 : j = p1
        · rw [if_pos e1, if_pos (by omega), e1, q1]
        rw [if_neg e1]
        by_cases e0 : j = p
        · rw [if_pos e0, if_pos (by omega), e0, q0]
        rw [if_neg e0, hJ]
        by_cases h1 : j < 5 * y
        · rw [if_pos h1, if_pos (by omega)]
        · rw [if_neg h1, if_neg (by omega)]
    · have hy5 : y = 5 := by omega
      subst hy5
      clear hlt
      go_wp2
      go_end0
      exact ⟨rfl, (CS.ext (fun j hj => by show Value.int .u64 _ = .int .u64 _; rw [hH.out j hj, if_pos (by omega)])), BW⟩
end Go.Proofs.YtbpcciifaekffaaGreatDoor
namespace Go.Proofs.YtbpcciifaekffaaGreatDoor
open Go.RowKit Go.Sort

/-- A lane turned left, as bits.RotateLeft64 reckons it. -/
def rot (x : Int) (k : Nat) : Int := bits .or .u64 (IntKind.u64.wrap (x * 2 ^ k)) (x / 2 ^ (64 - k))

theorem and_63 (k : Nat) (hk : k < 64) : bits .and .u64 (k : Int) 63 = k := by
  have e : ∀ j : Fin 64, bits .and .u64 ((j.val : Nat) : Int) 63 = (j.val : Nat) := by decide +kernel
  exact e ⟨k, hk⟩

set_option maxRecDepth 20000 in
set_option maxHeartbeats 4000000 in
theorem rot_any (x : Int) (k : Nat) (hk : k < 64) (w : World) :
    Calls Tryz.prog 109 #[.int .u64 x, .int .i64 k] w fun e w' =>
      e = .returned (.int .u64 (rot x k)) ∧ Below w.heap.size w w' := by
  have km : IntKind.u64.max = 18446744073709551615 := by decide
  have ks : IntKind.u64.signed = false := rfl
  have w1 : IntKind.u64.wrap (k : Int) = k := by rw [IntKind.wrap_u64]; omega
  have ha := and_63 k hk
  have hz : 0 ≤ (k : Int) := by omega
  obtain ⟨m, hm⟩ : ∃ m : Nat, 64 - k = m := ⟨_, rfl⟩
  have w2 : IntKind.u64.wrap (64 - (k : Int)) = m := by rw [IntKind.wrap_u64]; omega
  have w2' : IntKind.u64.wrap (m : Int) = m := by rw [IntKind.wrap_u64]; omega
  have l1 : (k : Int) ≤ 64 := by omega
  have l2 : (m : Int) ≤ 64 := by omega
  have hz2 : 0 ≤ (m : Int) := by omega
  go_enter Tryz.func109, Tryz.ntmps109
  go_wp2
  go_ret
  exact ⟨by rw [rot, hm]; rfl, Below.refl _ _⟩

theorem Fw.lit {W : World} {n N : Nat} {g : Nat → Value} (cs : Array Value) (t : TypeId) (hn : W.heap.size = n) (h : cs = (fl N g).toArray) : Fw n N g (W.alloc (.cells cs t)) := by
  subst hn h
  exact Fw.new W N g t
theorem below_but {s n : Nat} {w W : World} (h : Below n w W) (hn : n = w.heap.size) : w.grownBy W (some s) := by
  subst hn
  exact ⟨h.os, h.tape, h.output, h.size, fun k hk _ => h.block k hk⟩

/-- A column's lanes, joined. -/
def colOf (g : Nat → Int) (x : Nat) : Int := xr (xr (xr (xr (g x) (g (x + 5))) (g (x + 10))) (g (x + 15))) (g (x + 20))
/-- What a column's lanes are joined by. -/
def byOf (g : Nat → Int) (x : Nat) : Int := xr (colOf g ((x + 4) % 5)) (rot (colOf g ((x + 1) % 5)) 1)
/-- Step 1 of a round: a lane of the columns joined. -/
def colsOf (g : Nat → Int) (j : Nat) : Int := xr (g j) (byOf g (j % 5))

set_option maxRecDepth 20000 in
set_option maxHeartbeats 4000000 in
theorem joinColumns_any (s : Nat) (f : Nat → Int) (w : World) (hs : Fw s 25 (fun j => .int .u64 (f j)) w) :
    Calls Tryz.prog 93 #[.pointer (some ⟨s, 0, none⟩)] w fun e w' =>
      e = .returned (.tuple #[]) ∧ Fw s 25 (fun j => .int .u64 (colsOf f j)) w' ∧ w.grownBy w' (some s) := by
  have km : IntKind.u64.max = 18446744073709551615 := by decide
  have ks : IntKind.u64.signed = false := rfl
  go_enter Tryz.func93, Tryz.ntmps93
  go_wp2
  have hsc : s ≠ w.heap.size := Nat.ne_of_lt hs.z
  refine wpOf (fun W => Below w.heap.size w W ∧ Fw w.heap.size 5 (fun _ => .int .u64 0) W ∧ Fw s 25 (fun j => .int .u64 (f j)) W) ⟨(Below.refl _ w).alloc (Nat.le_refl _) _, Fw.lit _ _ rfl rfl, hs.alloc _⟩ ?_
  rintro V ⟨BV, CV, SV⟩
  obtain ⟨c, hc⟩ : ∃ c, w.heap.size = c := ⟨_, rfl⟩
  have HC : Hid (w.heap.size = c) := hc
  rw [hc] at hsc BV CV ⊢
  clear hc
  go_loopg [7] 5 (fun gk i wr => ∃ x : Nat, ∃ h : Nat → Int, x + gk = 5 ∧ i = .int .i64 x ∧ Below c w wr ∧ Fw c 5 (fun j => .int .u64 (h j)) wr ∧ Fw s 25 (fun j => .int .u64 (f j)) wr ∧ Hid (∀ j, j < 5 → h j = if j < x then colOf f j else 0))
  case atStart => exact ⟨0, fun _ => 0, rfl, rfl, BV, CV, SV, fun j _ => by rw [if_neg (by omega)]⟩
  case round =>
    obtain ⟨x, h, hx, rfl, BW, CC, CS, hH⟩ := hrel
    clear BV CV SV hs
    by_cases hlt : x < 5
    · obtain ⟨p1, hp1⟩ : ∃ q : Nat, x + 5 = q := ⟨_, rfl⟩
      obtain ⟨p2, hp2⟩ : ∃ q : Nat, x + 10 = q := ⟨_, rfl⟩
      obtain ⟨p3, hp3⟩ : ∃ q : Nat, x + 15 = q := ⟨_, rfl⟩
      obtain ⟨p4, hp4⟩ : ∃ q : Nat, x + 20 = q := ⟨_, rfl⟩
      have w1 : IntKind.i64.wrap ((x : Int) + 5) = p1 := by rw [IntKind.wrap_i64]; omega
      have w2 : IntKind.i64.wrap ((x : Int) + 10) = p2 := by rw [IntKind.wrap_i64]; omega
      have w3 : IntKind.i64.wrap ((x : Int) + 15) = p3 := by rw [IntKind.wrap_i64]; omega
      have w4 : IntKind.i64.wrap ((x : Int) + 20) = p4 := by rw [IntKind.wrap_i64]; omega
      have l0 : (x : Int) < 25 := by omega
      have l0' : (x : Int) < 5 := by omega
      have l1 : (p1 : Int) < 25 := by omega
      have l2 : (p2 : Int) < 25 := by omega
      have l3 : (p3 : Int) < 25 := by omega
      have l4 : (p4 : Int) < 25 := by omega
      have m0 := CS.c x (by omega)
      have m1 := CS.c p1 (by omega)
      have m2 := CS.c p2 (by omega)
      have m3 := CS.c p3 (by omega)
      have m4 := CS.c p4 (by omega)
      obtain ⟨b0, hb0⟩ : ∃ x', f x = x' := ⟨_, rfl⟩
      obtain ⟨b1, hb1⟩ : ∃ x', f p1 = x' := ⟨_, rfl⟩
      obtain ⟨b2, hb2⟩ : ∃ x', f p2 = x' := ⟨_, rfl⟩
      obtain ⟨b3, hb3⟩ : ∃ x', f p3 = x' := ⟨_, rfl⟩
      obtain ⟨b4, hb4⟩ : ∃ x', f p4 = x' := ⟨_, rfl⟩
      rw [hb0] at m0
      rw [hb1] at m1
      rw [hb2] at m2
      rw [hb3] at m3
      rw [hb4] at m4
      have HG : Hid (colOf f x = xr (xr (xr (xr b0 b1) b2) b3) b4) := by
        show _ = _
        rw [colOf, hp1, hp2, hp3, hp4, hb0, hb1, hb2, hb3, hb4]
      clear hb0 hb1 hb2 hb3 hb4
      go_wp2
      have k0 := cell_regrown m0
      have k1 := cell_regrown m1
      have k2 := cell_regrown m2
      have k3 := cell_regrown m3
      have k4 := cell_regrown m4
      refine region_tail 34 (by kernel_rfl) (by kernel_rfl) ?_
      simp only [List.take_succ_cons, List.take_zero, List.drop_succ_cons, List.drop_zero]
      iterate 34 (quiet_step (fail))
      refine wpQuiet_nil ?_
      intro w8 hw8
      have hb8 : Below wr.heap.size wr w8 := by
        obtain ⟨p, rfl⟩ := hw8
        exact below_regrown _ _ _
      have S8 := CS.below hb8
      have C8 := CC.below hb8
      have G8 := belowStep BW (by rw [← HC.out] at BW ⊢; exact BW.size) hb8
      clear hw8 hb8 k0 k1 k2 k3 k4 CS CC BW m0 m1 m2 m3 m4
      have n0 := C8.c x (by omega)
      have sf := C8.f
      have sz := C8.z
      go_wp2
      go_roundg (gk - 1)
      case measure => omega
      case rel =>
        refine ⟨x + 1, fun j => if j = x then xr (xr (xr (xr b0 b1) b2) b3) b4 else h j, by omega, rfl, G8.setCell (p := ⟨c, x, none⟩) (Nat.le_refl _) _, C8.put x hlt _ (fun j _ => by by_cases e : j = x <;> simp [e]), S8.setCell _ (fun e => hsc e.symm) _, ?_⟩
        intro j hj
        have hJ := hH.out j hj
        show (if j = x then xr (xr (xr (xr b0 b1) b2) b3) b4 else h j) = _
        by_cases e0 : j = x
        · rw [if_pos e0, if_pos (by omega), e0, HG.out]
        rw [if_neg e0, hJ]
        by_cases h1 : j < x
        · rw [if_pos h1, if_pos (by omega)]
        · rw [if_neg h1, if_neg (by omega)]
    · have hx5 : x = 5 := by omega
      subst hx5
      clear hlt
      have CK : Fw c 5 (fun j => .int .u64 (colOf f j)) wr := CC.ext (fun j hj => by show Value.int .u64 _ = .int .u64 _; rw [hH.out j hj, if_pos (by omega)])
      have GK : w.grownBy wr (some s) := below_but BW HC.out.symm
      clear CC BW hH
      have FC : Hid (∀ (w : World) (x : Int), Calls Tryz.prog 109 #[.int .u64 x, .int .i64 1] w fun e w' => e = .returned (.int .u64 (rot x 1)) ∧ Below w.heap.size w w') := fun w x => rot_any x 1 (by decide) w
      go_wp2
      go_loopg [46] 5 (fun gk i wr => ∃ x : Nat, ∃ h : Nat → Int, x + gk = 5 ∧ i = .int .i64 x ∧ w.grownBy wr (some s) ∧ Fw s 25 (fun j => .int .u64 (h j)) wr ∧ Fw c 5 (fun j => .int .u64 (colOf f j)) wr ∧ Hid (∀ j, j < 25 → h j = if j % 5 < x then colsOf f j else f j))
      case atStart => exact ⟨0, f, rfl, rfl, GK, CS, CK, fun j _ => by rw [if_neg (by omega)]⟩
      case round =>
        clear GK CS CK
        obtain ⟨x, h, hx, rfl, BW, CS, CC, hH⟩ := hrel
        by_cases hlt : x < 5
        · obtain ⟨x5, hx5⟩ : ∃ q : Nat, x + 5 = q := ⟨_, rfl⟩
          obtain ⟨x4, hx4⟩ : ∃ q : Nat, x + 4 = q := ⟨_, rfl⟩
          obtain ⟨x1, hx1⟩ : ∃ q : Nat, x + 1 = q := ⟨_, rfl⟩
          obtain ⟨r4, hr4⟩ : ∃ q : Nat, x4 % 5 = q := ⟨_, rfl⟩
          obtain ⟨r1, hr1⟩ : ∃ q : Nat, x1 % 5 = q := ⟨_, rfl⟩
          have w1 : IntKind.i64.wrap ((x : Int) + 5) = x5 := by rw [IntKind.wrap_i64]; omega
          have w2 : IntKind.i64.wrap ((x5 : Int) - 1) = x4 := by rw [IntKind.wrap_i64]; omega
          have w3 : IntKind.i64.wrap ((x : Int) + 1) = x1 := by rw [IntKind.wrap_i64]; omega
          have w4 : (x4 : Int).tmod 5 = r4 := by rw [Int.tmod_eq_emod_of_nonneg (by omega)]; omega
          have w5 : (x1 : Int).tmod 5 = r1 := by rw [Int.tmod_eq_emod_of_nonneg (by omega)]; omega
          have w4' : IntKind.i64.wrap (r4 : Int) = r4 := by rw [IntKind.wrap_i64]; omega
          have w5' : IntKind.i64.wrap (r1 : Int) = r1 := by rw [IntKind.wrap_i64]; omega
          have l0 : (x : Int) < 5 := by omega
          have l1 : (r4 : Int) < 5 := by omega
          have l2 : (r1 : Int) < 5 := by omega
          have m4 := CC.c r4 (by omega)
          have m1 := CC.c r1 (by omega)
          have HB : Hid (byOf f x = xr (colOf f r4) (rot (colOf f r1) 1)) := by
            show _ = _
            rw [byOf, hx4, hx1, hr4, hr1]
          obtain ⟨c4, hc4⟩ : ∃ q, colOf f r4 = q := ⟨_, rfl⟩
          obtain ⟨c1, hc1⟩ : ∃ q, colOf f r1 = q := ⟨_, rfl⟩
          obtain ⟨c2, hc2⟩ : ∃ q, rot c1 1 = q := ⟨_, rfl⟩
          rw [hc4] at m4
          rw [hc1] at m1
          rw [hc4, hc1, hc2] at HB
          have KR : Hid (∀ w : World, _) := fun w => FC.out w c1
          rw [hc2] at KR
          clear hc4 hc1 hc2 hr4 hr1 hx4 hx5
          go_wp2
          have k4 := cell_regrown m4
          have k1 := cell_regrown m1
          have cR := inClass (w := wr) KR.out
          refine wp_region_quiet_below (by kernel_rfl) (by kernel_rfl) ?_
          iterate 11 (quiet_step (fail))
          quiet_step (exact cR _ _)
          iterate 2 (quiet_step (fail))
          refine wpQuiet_nil ?_
          intro w8 hw8
          have hb8 : Below wr.heap.size wr w8 := by
            obtain ⟨p, rfl⟩ := hw8
            exact below_regrown _ _ _
          have S8 := CS.below hb8
          have C8 := CC.below hb8
          have G8 := but_below BW hb8
          clear hw8 hb8 k4 k1 cR KR CS CC BW m4 m1
          obtain ⟨d, hd⟩ : ∃ q, bits BinOp.xor IntKind.u64 c4 c2 = q := ⟨_, rfl⟩
          have HD : Hid (byOf f x = d) := by rw [← hd]; exact HB.out
          rw [hd]
          clear hd HB
          go_wp2
          go_loopg [62] 5 (fun gm i wr => ∃ r : Nat, ∃ h : Nat → Int, r + gm = 5 ∧ i = .int .i64 r ∧ w.grownBy wr (some s) ∧ Fw s 25 (fun j => .int .u64 (h j)) wr ∧ Fw c 5 (fun j => .int .u64 (colOf f j)) wr ∧ Hid (∀ j, j < 25 → h j = if j % 5 < x ∨ j % 5 = x ∧ j / 5 < r then colsOf f j else f j))
          case atStart =>
            refine ⟨0, h, rfl, rfl, G8, S8, C8, fun j hj => ?_⟩
            rw [hH.out j hj]
            by_cases e : j % 5 < x
            · rw [if_pos e, if_pos (Or.inl e)]
            · rw [if_neg e, if_neg (by omega)]
          case round =>
            clear G8 S8 C8 hH h
            obtain ⟨r, h, hr, rfl, BW, CS, CC, hH⟩ := hrel
            by_cases hlr : r < 5
            · obtain ⟨q, hq⟩ : ∃ q : Nat, 5 * r = q := ⟨_, rfl⟩
              obtain ⟨p, hp⟩ : ∃ p : Nat, x + q = p := ⟨_, rfl⟩
              have u1 : IntKind.i64.wrap ((r : Int) * 5) = q := by rw [IntKind.wrap_i64]; omega
              have u2 : IntKind.i64.wrap ((x : Int) + q) = p := by rw [IntKind.wrap_i64]; omega
              have l3 : (p : Int) < 25 := by omega
              have l4 : (r : Int) < 5 := by omega
              have m0 := CS.c p (by omega)
              obtain ⟨v, hv⟩ : ∃ v, h p = v := ⟨_, rfl⟩
              rw [hv] at m0
              have HV : Hid (f p = v) := by
                show _ = _
                rw [← hv, hH.out p (by omega), if_neg (by omega)]
              clear hv
              go_wp2
              have k0 := cell_regrown m0
              refine region_tail 11 (by kernel_rfl) (by kernel_rfl) ?_
              simp only [List.take_succ_cons, List.take_zero, List.drop_succ_cons, List.drop_zero]
              iterate 11 (quiet_step (fail))
              refine wpQuiet_nil ?_
              intro w8 hw8
              have hb8 : Below wr.heap.size wr w8 := by
                obtain ⟨p, rfl⟩ := hw8
                exact below_regrown _ _ _
              have S8 := CS.below hb8
              have C8 := CC.below hb8
              have G8 := but_below BW hb8
              clear hw8 hb8 k0 CS CC BW m0
              have n0 := S8.c p (by omega)
              have sf := S8.f
              have sz := S8.z
              go_wp2
              go_roundg (gk - 1)
              case measure => omega
              case rel =>
                refine ⟨r + 1, fun j => if j = p then xr v d else h j, by omega, rfl, but_set G8 _, S8.put p (by omega) _ (fun j _ => by by_cases e : j = p <;> simp [e]), C8.setCell _ (fun e => hsc e) _, ?_⟩
                intro j hj
                have hJ := hH.out j hj
                show (if j = p then xr v d else h j) = _
                by_cases e0 : j = p
                · rw [if_pos e0, if_pos (by omega), e0, colsOf, HV.out, show p % 5 = x by omega, HD.out]
                rw [if_neg e0, hJ]
                by_cases h1 : j % 5 < x ∨ j % 5 = x ∧ j / 5 < r
                · rw [if_pos h1, if_pos (by omega)]
                · rw [if_neg h1, if_neg (by omega)]
            · have hr5 : r = 5 := by omega
              subst hr5
              clear hlr
              go_wp2
              go_roundg (5 - x1)
              case measure => omega
              case rel =>
                refine ⟨x1, h, by omega, rfl, BW, CS, CC, ?_⟩
                intro j hj
                rw [hH.out j hj]
                by_cases h1 : j % 5 < x1
                · rw [if_pos h1, if_pos (by omega)]
                · rw [if_neg h1, if_neg (by omega)]
        · have hx5 : x = 5 := by omega
          subst hx5
          clear hlt
          go_wp2
          go_end0
          exact ⟨rfl, (CS.ext (fun j hj => by show Value.int .u64 _ = .int .u64 _; rw [hH.out j hj, if_pos (by omega)])), BW⟩
end Go.Proofs.YtbpcciifaekffaaGreatDoor
namespace Go.Proofs.YtbpcciifaekffaaGreatDoor
open Go.RowKit Go.Sort

/-- By how much a lane is turned; the lane that it goes to; the lane that comes to it. -/
def tn (j : Nat) : Nat := [0, 1, 62, 28, 27, 36, 44, 6, 55, 20, 3, 10, 43, 25, 39, 41, 45, 15, 21, 8, 18, 2, 61, 56, 14].getD j 0
def pl (j : Nat) : Nat := [0, 10, 20, 5, 15, 16, 1, 11, 21, 6, 7, 17, 2, 12, 22, 23, 8, 18, 3, 13, 14, 24, 9, 19, 4].getD j 0
def fr (j : Nat) : Nat := [0, 6, 12, 18, 24, 3, 9, 10, 16, 22, 1, 7, 13, 19, 20, 4, 5, 11, 17, 23, 2, 8, 14, 15, 21].getD j 0
theorem tn_bd (j : Nat) (h : j < 25) : tn j < 64 := (by decide : ∀ j : Fin 25, tn j.val < 64) ⟨j, h⟩
theorem pl_bd (j : Nat) (h : j < 25) : pl j < 25 := (by decide : ∀ j : Fin 25, pl j.val < 25) ⟨j, h⟩
theorem fr_bd (j : Nat) (h : j < 25) : fr j < 25 := (by decide : ∀ j : Fin 25, fr j.val < 25) ⟨j, h⟩
theorem fr_pl (j : Nat) (h : j < 25) : fr (pl j) = j := (by decide : ∀ j : Fin 25, fr (pl j.val) = j.val) ⟨j, h⟩
theorem pl_fr (j : Nat) (h : j < 25) : pl (fr j) = j := (by decide : ∀ j : Fin 25, pl (fr j.val) = j.val) ⟨j, h⟩

/-- The two tables lie where the package has them. -/
structure Tabs (w : World) : Prop where
  t : Fw 2 25 (fun j => .int .i64 (tn j)) w
  p : Fw 3 25 (fun j => .int .i64 (pl j)) w

/-- Step 2 of a round: a lane turned and moved. -/
def movedOf (g : Nat → Int) (j : Nat) : Int := rot (g (fr j)) (tn (fr j))

theorem size_kst : (Tryz.prog.info? 70).map (·.size) = some 25 := by kernel_rfl

set_option maxRecDepth 20000 in
set_option maxHeartbeats 4000000 in
theorem turnAndMove_any (s : Nat) (f : Nat → Int) (w : World) (hs : Fw s 25 (fun j => .int .u64 (f j)) w) (ht : Tabs w) :
    Calls Tryz.prog 94 #[.pointer (some ⟨s, 0, none⟩)] w fun e w' =>
      e = .returned (.agg (fl 25 fun j => .int .u64 (movedOf f j)).toArray) ∧ Below w.heap.size w w' := by
  have km : IntKind.u64.max = 18446744073709551615 := by decide
  have ks : IntKind.u64.signed = false := rfl
  have FC : Hid (∀ (w : World) (x : Int) (k : Nat), k < 64 → Calls Tryz.prog 109 #[.int .u64 x, .int .i64 k] w fun e w' => e = .returned (.int .u64 (rot x k)) ∧ Below w.heap.size w w') := fun w x k h => rot_any x k h w
  go_enter Tryz.func94, Tryz.ntmps94
  go_wp2
  have hs2 : s ≠ w.heap.size + 1 := by have := hs.z; omega
  have h12 : 2 < w.heap.size + 1 := by have := ht.t.z; omega
  have h22 : 3 < w.heap.size + 1 := by have := ht.p.z; omega
  refine wpOf (fun W => Below w.heap.size w W ∧ Fw w.heap.size 25 (fun _ => .int .u64 0) W ∧ Fw (w.heap.size + 1) 25 (fun _ => .int .u64 0) W ∧ Fw s 25 (fun j => .int .u64 (f j)) W ∧ Fw 2 25 (fun j => .int .i64 (tn j)) W ∧ Fw 3 25 (fun j => .int .i64 (pl j)) W) ⟨((Below.refl _ w).alloc (Nat.le_refl _) _).alloc (by simp) _, Fw.alloc (Fw.lit _ _ rfl rfl) _, Fw.lit _ _ (by simp) rfl, (hs.alloc _).alloc _, (ht.t.alloc _).alloc _, (ht.p.alloc _).alloc _⟩ ?_
  rintro V ⟨BV, ZV, CV, SV, TV, PV⟩
  clear ht hs
  obtain ⟨z, hz⟩ : ∃ c, w.heap.size = c := ⟨_, rfl⟩
  have HZ : Hid (w.heap.size = z) := hz
  rw [hz] at BV ZV CV hs2 h12 h22 ⊢
  clear hz
  obtain ⟨c, hc⟩ : ∃ c, z + 1 = c := ⟨_, rfl⟩
  rw [hc] at CV hs2 h12 h22 ⊢
  go_loopg [5] 25 (fun gk i wr => ∃ k : Nat, ∃ h : Nat → Int, k + gk = 25 ∧ i = .int .i64 k ∧ Below z w wr ∧ Fw z 25 (fun _ => .int .u64 0) wr ∧ Fw c 25 (fun j => .int .u64 (h j)) wr ∧ Fw s 25 (fun j => .int .u64 (f j)) wr ∧ Fw 2 25 (fun j => .int .i64 (tn j)) wr ∧ Fw 3 25 (fun j => .int .i64 (pl j)) wr ∧ Hid (∀ j, j < 25 → h j = if fr j < k then movedOf f j else 0))
  case atStart => exact ⟨0, fun _ => 0, rfl, rfl, BV, ZV, CV, SV, TV, PV, fun j _ => by rw [if_neg (by omega)]⟩
  case round =>
    clear BV ZV CV SV TV PV
    obtain ⟨k, h, hk, rfl, BW, CZ, CC, CS, CT, CP, hH⟩ := hrel
    by_cases hlt : k < 25
    · have l0 : (k : Int) < 25 := by omega
      have m0 := CS.c k hlt
      have m1 := CT.c k hlt
      have m2 := CP.c k hlt
      obtain ⟨v, hv⟩ : ∃ q, f k = q := ⟨_, rfl⟩
      obtain ⟨t, ht, ht64⟩ : ∃ q, tn k = q ∧ q < 64 := ⟨_, rfl, tn_bd k hlt⟩
      obtain ⟨p, hp, hp25⟩ : ∃ q, pl k = q ∧ q < 25 := ⟨_, rfl, pl_bd k hlt⟩
      obtain ⟨u, hu⟩ : ∃ q, rot v t = q := ⟨_, rfl⟩
      rw [hv] at m0
      rw [ht] at m1
      rw [hp] at m2
      have l1 : (p : Int) < 25 := by omega
      have KR : Hid (∀ w : World, _) := fun w => FC.out w v t ht64
      rw [hu] at KR
      have HM : Hid (movedOf f p = u ∧ fr p = k) := by
        refine ⟨?_, ?_⟩
        · rw [movedOf, ← hp, fr_pl k hlt, hv, ht, hu]
        · rw [← hp, fr_pl k hlt]
      clear hv ht hu
      go_wp2
      have k0 := cell_regrown m0
      have k1 := cell_regrown m1
      have k2 := cell_regrown m2
      have cR := inClass (w := wr) KR.out
      refine region_tail 12 (by kernel_rfl) (by kernel_rfl) ?_
      simp only [List.take_succ_cons, List.take_zero, List.drop_succ_cons, List.drop_zero]
      iterate 11 (quiet_step (fail))
      quiet_step (exact cR _ _)
      refine wpQuiet_nil ?_
      intro w8 hw8
      have hb8 : Below wr.heap.size wr w8 := by
        obtain ⟨p, rfl⟩ := hw8
        exact below_regrown _ _ _
      have Z8 := CZ.below hb8
      have S8 := CS.below hb8
      have T8 := CT.below hb8
      have P8 := CP.below hb8
      have C8 := CC.below hb8
      have G8 := belowStep BW (by rw [← HZ.out] at BW ⊢; exact BW.size) hb8
      clear hw8 hb8 k0 k1 k2 cR KR CS CC CZ CT CP BW m0 m1 m2
      have n0 := C8.c p hp25
      have sf := C8.f
      have sz := C8.z
      go_wp2
      go_roundg (gk - 1)
      case measure => omega
      case rel =>
        refine ⟨k + 1, fun j => if j = p then u else h j, by omega, rfl, G8.setCell (p := ⟨c, p, none⟩) (by dsimp only; omega) _, Z8.setCell _ (by dsimp only; omega) _, C8.put p hp25 _ (fun j _ => by by_cases e : j = p <;> simp [e]), S8.setCell _ (by dsimp only; omega) _, T8.setCell _ (by dsimp only; omega) _, P8.setCell _ (by dsimp only; omega) _, ?_⟩
        intro j hj
        have hJ := hH.out j hj
        obtain ⟨g1, g2⟩ := HM.out
        show (if j = p then u else h j) = _
        by_cases e0 : j = p
        · rw [if_pos e0, e0, if_pos (by omega), g1]
        rw [if_neg e0, hJ]
        have hne : fr j ≠ k := fun e => e0 (by rw [← pl_fr j hj, e, hp])
        by_cases h1 : fr j < k
        · rw [if_pos h1, if_pos (by omega)]
        · rw [if_neg h1, if_neg (by omega)]
    · have hk2 : k = 25 := by omega
      subst hk2
      clear hlt
      have e : Hid ((fl 25 fun j => .int .u64 (h j)) = (fl 25 fun j => .int .u64 (movedOf f j))) := fl_ext _ _ _ fun j hj => by show Value.int .u64 _ = .int .u64 _; rw [hH.out j hj, if_pos (fr_bd j hj)]
      have hst := CZ.run (P := Tryz.prog) (fun j => .int .u64 (h j)) (fun _ => rfl)
      obtain ⟨l, hl⟩ : ∃ l, (fl 25 fun j => .int .u64 (h j)) = l := ⟨_, rfl⟩
      have hr := CC.range
      have hr2 := (CZ.store (fun j => .int .u64 (h j))).range
      have hlen : l.length = 25 := by rw [← hl]; exact fl_len _ _
      rw [hl] at e hst hr hr2
      clear hl
      go_wp2_with (refine wpList_load_mid rfl 70 _ rfl c 0 rfl l _ hr Tryz.underlying70 rfl (by rw [hlen]; exact size_kst) ?_)
      refine bodyPost_ret (v := .agg l.toArray) (results_mid Tryz.results94 _ _ z l _ rfl hr2 Tryz.underlying70 rfl (by rw [hlen]; exact size_kst)) rfl ⟨by rw [e.out], ?_⟩
      rw [HZ.out]
      exact below_setCells' (Nat.le_refl _) _ _ _ BW
end Go.Proofs.YtbpcciifaekffaaGreatDoor
