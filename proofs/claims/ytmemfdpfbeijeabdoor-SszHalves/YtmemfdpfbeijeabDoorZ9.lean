/- A range over a function whose rounds are told what lies in memory: the loop's record is kept by hand. -/
import Derived.Test.YtmemfdpfbeijeabDoorZ8
import Derived.RangeFuncNested
import Derived.RangeFuncBound
import Derived.RangeFuncCalls
import Derived.RangeFuncLeaves
import Derived.OwnWalkIn
namespace Go.Proofs.YtmemfdpfbeijeabDoor
open Go.RowKit Go.Shelf

/-- A loop's record. -/
abbrev Lr (fn : FuncId) (tmps : Array Value) (ps : Array Tmp) (assign body : Code) (B : Nat) (st : LoopState) (pe : Option Code) : Loop := { state := st, pending := pe, fn := fn, tmps := tmps, params := ps, assign := assign, body := body, defers := B }
/-- The record lies in its block, and the deferred calls ahead of it: none. -/
def Rc (B : Nat) (r : Loop) (W : World) : Prop := W.heap[B + 1]? = some (.loop r) ∧ W.heap[B]? = some (.deferred (some []))
theorem Rc.lt {B : Nat} {r : Loop} {W : World} (h : Rc B r W) : B + 1 < W.heap.size := (Array.getElem?_eq_some_iff.1 h.1).1
theorem Rc.put {B : Nat} {r : Loop} {W : World} (h : Rc B r W) (r' : Loop) : Rc B r' (W.putObj (B + 1) (.loop r')) := ⟨World.putObj_heap_same h.lt, (World.putObj_heap_other (by omega)).trans h.2⟩
theorem Rc.below {B : Nat} {r : Loop} {W W' : World} (h : Rc B r W) (hb : Below W.heap.size W W') : Rc B r W' := ⟨(hb.block _ h.lt).trans h.1, (hb.block _ (by have := h.lt; omega)).trans h.2⟩
/-- How a round may end. -/
def rdP (B : Nat) (mk : LoopState → Option Code → Loop) (R : Ending → World → Prop) : Exit → Act → World → Prop
  | .normal, _, W => Rc B (mk .busy none) W ∧ R (.returned (.bool true)) (W.putObj (B + 1) (.loop (mk .ready none)))
  | .exit id, _, W => Rc B (mk .busy none) W ∧ R (.returned (.bool false)) (W.putObj (B + 1) (.loop (mk .done (some (.exit id)))))
  | _, _, _ => False
theorem yield_of {m : Nat} {P : Program} {fn : FuncId} {tmps : Array Value} {ps : Array Tmp} {assign body : Code} {B : Nat} {args : Array Value} {W : World} {R : Ending → World → Prop} (hr : Rc B (Lr fn tmps ps assign body B .ready none) W) (hz : args.size = ps.size)
    (h : assign.wpIn (Fence.wide.inRound (B + 1)) m P (Exit.then (fun a1 W1 => Rc B (Lr fn tmps ps assign body B .ready none) W1 ∧ body.wpIn (Fence.wide.inRound (B + 1)) m P (rdP B (Lr fn tmps ps assign body B) R) a1 (W1.putObj (B + 1) (.loop (Lr fn tmps ps assign body B .busy none)))) (fun _ _ _ => False)) { tmps := (ps.zip args).foldl (fun t (p, v) => t.setIfInBounds p v) tmps, defers := [] } W) :
    YieldAt Fence.wide m P (B + 1) args W R := by
  refine ⟨fn, _, assign, body, run_yield hr.1 hz, roundIn_of_wpIn trivial (wpIn_mono h ?_)⟩
  intro e a1 W1 he
  cases e with
  | normal =>
    obtain ⟨h1, h2⟩ := he
    refine ⟨_, run_beginRound h1.1 rfl, wpIn_mono h2 ?_⟩
    intro e2 a2 W2 he2
    cases e2 with
    | normal => exact ⟨_, _, run_endRound none he2.1.1, he2.2⟩
    | exit id => exact ⟨_, _, run_endRound (some (.exit id)) he2.1.1, he2.2⟩
    | ret => exact he2.elim
    | goto t => exact he2.elim
    | panic c => exact he2.elim
    | outgrown => exact he2.elim
  | ret => exact he.elim
  | exit id => exact he.elim
  | goto t => exact he.elim
  | panic c => exact he.elim
  | outgrown => exact he.elim
theorem range_of {n : Nat} {P : Program} {g : Operand} {ps : Array Tmp} {assign body : Code} {Q : Exit → Act → World → Prop} {a : Act} {w : World} (h1 : 1 ≤ n) {gf : Nat} {lb : Array Value} (hg : a.eval g = .func (.func gf) #[] lb) (eg : ∀ args w, (callFunc gf args).run P w = .ok (.enter gf args) w)
    (h : ∀ fn W1, Below w.heap.size w W1 → W1.heap.size = w.heap.size + 2 → Rc w.heap.size (Lr fn a.tmps ps assign body w.heap.size .ready none) W1 →
      CallsIn Fence.wide (n - 1) P gf (#[.func (.yield (w.heap.size + 1)) #[] #[]] ++ lb) W1 fun e W2 => (∃ v, e = .returned v) ∧
        ((Rc w.heap.size (Lr fn a.tmps ps assign body w.heap.size .ready none) W2 ∧ Q .normal { a with defers := { target := .collected w.heap.size, args := #[] } :: a.defers } (W2.putObj (w.heap.size + 1) (.loop (Lr fn a.tmps ps assign body w.heap.size .exhausted none)))) ∨
         (∃ c, Rc w.heap.size (Lr fn a.tmps ps assign body w.heap.size .done (some c)) W2 ∧ c.wpIn Fence.wide n P Q { a with defers := { target := .collected w.heap.size, args := #[] } :: a.defers } (W2.putObj (w.heap.size + 1) (.loop (Lr fn a.tmps ps assign body w.heap.size .exhausted (some c))))))) :
    (Code.rangeFunc g ps assign body).wpIn Fence.wide n P Q a w := by
  refine wpIn_rangeFunc ?_
  intro fn _
  rw [show Fence.wide.round = none from rfl]
  have two := alloc_two w (.deferred (some [])) (.loop (Lr fn a.tmps ps assign body w.heap.size .ready none))
  have hB : Below w.heap.size w ((w.alloc (.deferred (some []))).alloc (.loop (Lr fn a.tmps ps assign body w.heap.size .ready none))) := ((Below.refl _ w).alloc (Nat.le_refl _) _).alloc (by simp) _
  have hN : ((w.alloc (.deferred (some []))).alloc (.loop (Lr fn a.tmps ps assign body w.heap.size .ready none))).heap.size = w.heap.size + 2 := by simp
  have hE := run_enterLoop_outer (P := P) (w := w) fn a.tmps ps assign body
  obtain ⟨W1, hW⟩ : ∃ W1, (w.alloc (.deferred (some []))).alloc (.loop (Lr fn a.tmps ps assign body w.heap.size .ready none)) = W1 := ⟨_, rfl⟩
  rw [hW] at two hB hN
  have hE2 : (Instr.enterLoop fn a.tmps ps assign body none).run P w = .ok (w.heap.size + 1, [{ target := .collected w.heap.size, args := #[] }]) W1 := by rw [← hW]; exact hE
  refine ⟨w.heap.size + 1, [{ target := .collected w.heap.size, args := #[] }], W1, { target := .fn (.func gf) lb, args := #[.func (.yield (w.heap.size + 1)) #[] #[]] }, W1, gf, #[.func (.yield (w.heap.size + 1)) #[] #[]] ++ lb, W1, hE2, ?_, fun _ _ => trivial, ?_, fun _ => h1, ?_⟩
  · simp only [resolve, hg]
    simp [go_sem]
  · simp [invoke, go_sem, eg]
  refine (h fn W1 hB hN ⟨two.2, two.1⟩).mono ?_
  rintro e W2 ⟨⟨v, rfl⟩, ⟨hr, hq⟩ | ⟨c, hr, hq⟩⟩
  · exact ⟨none, _, run_endLoop hr.1 (by simp), hq⟩
  · exact ⟨some c, _, run_endLoop hr.1 (by simp), hq⟩
/-- All blocks but one are kept. -/
def Kq (q : Nat) (A C : World) : Prop := A.grownBy C (some q)
theorem Kq.below {q : Nat} {A C : World} (h : Below A.heap.size A C) : Kq q A C := ⟨h.os, h.tape, h.output, h.size, fun k hk _ => h.block k hk⟩
theorem Kq.trans {q : Nat} {A B C : World} (h : Kq q A B) (g : Kq q B C) : Kq q A C := ⟨g.os.trans h.os, g.tape.trans h.tape, g.output.trans h.output, Nat.le_trans h.size g.size, fun k hk h1 => (g.block k (Nat.lt_of_lt_of_le hk h.size) h1).trans (h.block k hk h1)⟩
theorem Kq.put (W : World) (q o : Nat) (v : Value) : Kq q W (W.setCell ⟨q, o, none⟩ v) := grown_setCells (g := q) [v] o W
theorem Kq.at {q : Nat} {A C : World} (h : Kq q A C) {k : Nat} (hk : k < A.heap.size) (hn : k ≠ q) : C.heap[k]? = A.heap[k]? := h.block k hk (fun e => hn (by cases e; rfl))
theorem Kq.obj (W : World) (q : Nat) (o : Obj) : Kq q W (W.putObj q o) := grownBy_putObj' W q o
theorem Kq.low {p q : Nat} {w A C : World} (h : Below p w A) (hp : p ≤ A.heap.size) (hq : p ≤ q) (k : Kq q A C) : Below p w C := h.grown k hp (fun b e => by cases e; exact hq)
/-- How a round may end, the record turned. -/
def rdQ (B : Nat) (mk : LoopState → Option Code → Loop) (R : Ending → World → Prop) : Exit → Act → World → Prop
  | .normal, _, W => Rc B (mk .busy none) W ∧ ∀ U, Rc B (mk .ready none) U → Kq (B + 1) W U → R (.returned (.bool true)) U
  | .exit id, _, W => Rc B (mk .busy none) W ∧ ∀ U, Rc B (mk .done (some (.exit id))) U → Kq (B + 1) W U → R (.returned (.bool false)) U
  | _, _, _ => False
theorem yield_to {m : Nat} {P : Program} {fn : FuncId} {tmps : Array Value} {ps : Array Tmp} {assign body : Code} {B : Nat} {args : Array Value} {W : World} {R : Ending → World → Prop} (mk : LoopState → Option Code → Loop) (hmk : Lr fn tmps ps assign body B = mk) (hr : Rc B (mk .ready none) W) (hz : args.size = ps.size)
    (h : assign.wpIn (Fence.wide.inRound (B + 1)) m P (Exit.then (fun a1 W1 => Rc B (mk .ready none) W1 ∧ ∀ U, Rc B (mk .busy none) U → Kq (B + 1) W1 U → body.wpIn (Fence.wide.inRound (B + 1)) m P (rdQ B mk R) a1 U) (fun _ _ _ => False)) { tmps := (ps.zip args).foldl (fun t (p, v) => t.setIfInBounds p v) tmps, defers := [] } W) :
    YieldAt Fence.wide m P (B + 1) args W R := by
  subst hmk
  refine yield_of hr hz (wpIn_mono h ?_)
  intro e a1 W1 he
  cases e with
  | normal =>
    obtain ⟨h1, h2⟩ := he
    refine ⟨h1, wpIn_mono (h2 _ (h1.put _) (Kq.obj _ _ _)) ?_⟩
    intro e2 a2 W2 he2
    cases e2 with
    | normal => exact ⟨he2.1, he2.2 _ (he2.1.put _) (Kq.obj _ _ _)⟩
    | exit id => exact ⟨he2.1, he2.2 _ (he2.1.put _) (Kq.obj _ _ _)⟩
    | ret => exact he2.elim
    | goto t => exact he2.elim
    | panic c => exact he2.elim
    | outgrown => exact he2.elim
  | ret => exact he.elim
  | exit id => exact he.elim
  | goto t => exact he.elim
  | panic c => exact he.elim
  | outgrown => exact he.elim
theorem range_to {n : Nat} {P : Program} {g : Operand} {ps : Array Tmp} {assign body : Code} {Q : Exit → Act → World → Prop} {a : Act} {w : World} (h1 : 1 ≤ n) {gf : Nat} {lb : Array Value} (hg : a.eval g = .func (.func gf) #[] lb) (eg : ∀ args w, (callFunc gf args).run P w = .ok (.enter gf args) w)
    (h : ∀ fn mk W1, Lr fn a.tmps ps assign body w.heap.size = mk → Below w.heap.size w W1 → W1.heap.size = w.heap.size + 2 → Rc w.heap.size (mk .ready none) W1 →
      CallsIn Fence.wide (n - 1) P gf (#[.func (.yield (w.heap.size + 1)) #[] #[]] ++ lb) W1 fun e W2 => (∃ v, e = .returned v) ∧
        ((Rc w.heap.size (mk .ready none) W2 ∧ ∀ U, U.heap[w.heap.size]? = some (.deferred (some [])) → Kq (w.heap.size + 1) W2 U → Q .normal { a with defers := { target := .collected w.heap.size, args := #[] } :: a.defers } U) ∨
         (∃ c, Rc w.heap.size (mk .done (some c)) W2 ∧ ∀ U, U.heap[w.heap.size]? = some (.deferred (some [])) → Kq (w.heap.size + 1) W2 U → c.wpIn Fence.wide n P Q { a with defers := { target := .collected w.heap.size, args := #[] } :: a.defers } U))) :
    (Code.rangeFunc g ps assign body).wpIn Fence.wide n P Q a w := by
  refine range_of h1 hg eg fun fn W1 hB hs hr => (h fn _ W1 rfl hB hs hr).mono ?_
  rintro e W2 ⟨he, ⟨hr, hq⟩ | ⟨c, hr, hq⟩⟩
  · exact ⟨he, .inl ⟨hr, hq _ (hr.put _).2 (Kq.obj _ _ _)⟩⟩
  · exact ⟨he, .inr ⟨c, hr, hq _ (hr.put (Lr fn a.tmps ps assign body w.heap.size .exhausted (some c))).2 (Kq.obj _ _ _)⟩⟩
end Go.Proofs.YtmemfdpfbeijeabDoor
