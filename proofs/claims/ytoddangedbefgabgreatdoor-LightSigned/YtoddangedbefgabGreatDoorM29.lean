/- Lemmas: A range over a function whose rounds are told what lies in memory: the loop's record is kept by hand. The levels of a tree, gone through: levels. -/
import Derived.Test.YtoddangedbefgabGreatDoorM28
set_option maxRecDepth 100000
set_option maxHeartbeats 2000000
namespace Go.Proofs.YtoddangedbefgabGreatDoor
open Go.RowKit Go.Shelf
abbrev Lr (fn : FuncId) (tmps : Array Value) (ps : Array Tmp) (assign body : Code) (B : Nat) (st : LoopState) (pe : Option Code) : Loop := { state := st, pending := pe, fn := fn, tmps := tmps, params := ps, assign := assign, body := body, defers := B }
def Rc (B : Nat) (r : Loop) (W : World) : Prop := W.heap[B + 1]? = some (.loop r) ∧ W.heap[B]? = some (.deferred (some []))
theorem Rc.lt {B : Nat} {r : Loop} {W : World} (h : Rc B r W) : B + 1 < W.heap.size := (Array.getElem?_eq_some_iff.1 h.1).1
theorem Rc.put {B : Nat} {r : Loop} {W : World} (h : Rc B r W) (r' : Loop) : Rc B r' (W.putObj (B + 1) (.loop r')) := ⟨World.putObj_heap_same h.lt, (World.putObj_heap_other (by omega)).trans h.2⟩
theorem Rc.below {B : Nat} {r : Loop} {W W' : World} (h : Rc B r W) (hb : Below W.heap.size W W') : Rc B r W' := ⟨(hb.block _ h.lt).trans h.1, (hb.block _ (by have := h.lt; omega)).trans h.2⟩
def rdP (B : Nat) (mk : LoopState → Option Code → Loop) (R : Ending → World → Prop) : Exit → Act → World → Prop
 | .normal, _, W => Rc B (mk .busy none) W ∧ R (.returned (.bool true)) (W.putObj (B + 1) (.loop (mk .ready none)))
 | .exit id, _, W => Rc B (mk .busy none) W ∧ R (.returned (.bool false)) (W.putObj (B + 1) (.loop (mk .done (some (.exit id)))))
 | _, _, _ => False
theorem yield_of {m : Nat} {P : Program} {fn : FuncId} {tmps : Array Value} {ps : Array Tmp} {assign body : Code} {B : Nat} {args : Array Value} {W : World} {R : Ending → World → Prop} (hr : Rc B (Lr fn tmps ps assign body B .ready none) W) (hz : args.size = ps.size)
  (h : assign.wpIn (Fence.wide.inRound (B + 1)) m P (Exit.then (fun a1 W1 => Rc B (Lr fn tmps ps assign body B .ready none) W1 ∧ body.wpIn (Fence.wide.inRound (B + 1)) m P (rdP B (Lr fn tmps ps assign body B) R) a1 (W1.putObj (B + 1) (.loop (Lr fn tmps ps assign body B .busy none)))) (fun _ _ _ => False)) { tmps := (ps.zip args).foldl (fun t (p, v) => t.setIfInBounds p v) tmps, defers := [] } W) :
  YieldAt Fence.wide m P (B + 1) args W R := by
 refine ⟨fn, _, assign, body, run_yield hr.1 hz, roundIn_of_wpIn trivial (wpIn_mono h ?_)⟩
 intro e a1 W1 he
 cases e with
 | normal =>
  obtain ⟨h1, h2⟩ := he
  refine ⟨_, run_beginRound h1.1 rfl, wpIn_mono h2 ?_⟩
  intro e2 a2 W2 he2
  cases e2 with
  | normal => exact ⟨_, _, run_endRound none he2.1.1, he2.2⟩
  | exit id => exact ⟨_, _, run_endRound (some (.exit id)) he2.1.1, he2.2⟩
  | ret => exact he2.elim
  | goto t => exact he2.elim
  | panic c => exact he2.elim
  | outgrown => exact he2.elim
 | ret => exact he.elim
 | exit id => exact he.elim
 | goto t => exact he.elim
 | panic c => exact he.elim
 | outgrown => exact he.elim
theorem range_of {n : Nat} {P : Program} {g : Operand} {ps : Array Tmp} {assign body : Code} {Q : Exit → Act → World → Prop} {a : Act} {w : World} (h1 : 1 ≤ n) {gf : Nat} {lb : Array Value} (hg : a.eval g = .func (.func gf) #[] lb) (eg : ∀ args w, (callFunc gf args).run P w = .ok (.enter gf args) w)
  (h : ∀ fn W1, Below w.heap.size w W1 → W1.heap.size = w.heap.size + 2 → Rc w.heap.size (Lr fn a.tmps ps assign body w.heap.size .ready none) W1 →
   CallsIn Fence.wide (n - 1) P gf (#[.func (.yield (w.heap.size + 1)) #[] #[]] ++ lb) W1 fun e W2 => (∃ v, e = .returned v) ∧
    ((Rc w.heap.size (Lr fn a.tmps ps assign body w.heap.size .ready none) W2 ∧ Q .normal { a with defers := { target := .collected w.heap.size, args := #[] } :: a.defers } (W2.putObj (w.heap.size + 1) (.loop (Lr fn a.tmps ps assign body w.heap.size .exhausted none)))) ∨
    (∃ c, Rc w.heap.size (Lr fn a.tmps ps assign body w.heap.size .done (some c)) W2 ∧ c.wpIn Fence.wide n P Q { a with defers := { target := .collected w.heap.size, args := #[] } :: a.defers } (W2.putObj (w.heap.size + 1) (.loop (Lr fn a.tmps ps assign body w.heap.size .exhausted (some c))))))) :
  (Code.rangeFunc g ps assign body).wpIn Fence.wide n P Q a w := by
 refine wpIn_rangeFunc ?_
 intro fn _
 rw [show Fence.wide.round = none from rfl]
 have two := jdg w (.deferred (some [])) (.loop (Lr fn a.tmps ps assign body w.heap.size .ready none))
 have hB : Below w.heap.size w ((w.alloc (.deferred (some []))).alloc (.loop (Lr fn a.tmps ps assign body w.heap.size .ready none))) := ((Below.refl _ w).alloc (Nat.le_refl _) _).alloc (by simp) _
 have hN : ((w.alloc (.deferred (some []))).alloc (.loop (Lr fn a.tmps ps assign body w.heap.size .ready none))).heap.size = w.heap.size + 2 := by simp
 have hE := run_enterLoop_outer (P := P) (w := w) fn a.tmps ps assign body
 obtain ⟨W1, hW⟩ : ∃ W1, (w.alloc (.deferred (some []))).alloc (.loop (Lr fn a.tmps ps assign body w.heap.size .ready none)) = W1 := ⟨_, rfl⟩
 rw [hW] at two hB hN
 have hE2 : (Instr.enterLoop fn a.tmps ps assign body none).run P w = .ok (w.heap.size + 1, [{ target := .collected w.heap.size, args := #[] }]) W1 := by rw [← hW]; exact hE
 refine ⟨w.heap.size + 1, [{ target := .collected w.heap.size, args := #[] }], W1, { target := .fn (.func gf) lb, args := #[.func (.yield (w.heap.size + 1)) #[] #[]] }, W1, gf, #[.func (.yield (w.heap.size + 1)) #[] #[]] ++ lb, W1, hE2, ?_, fun _ _ => trivial, ?_, fun _ => h1, ?_⟩
 ·simp only [resolve, hg]
  simp [go_sem]
 ·simp [invoke, go_sem, eg]
 refine (h fn W1 hB hN ⟨two.2, two.1⟩).mono ?_
 rintro e W2 ⟨⟨v, rfl⟩, ⟨hr, hq⟩ | ⟨c, hr, hq⟩⟩
 ·exact ⟨none, _, run_endLoop hr.1 (by simp), hq⟩
 ·exact ⟨some c, _, run_endLoop hr.1 (by simp), hq⟩
def Kq (q : Nat) (A C : World) : Prop := A.grownBy C (some q)
theorem Kq.below {q : Nat} {A C : World} (h : Below A.heap.size A C) : Kq q A C := ⟨h.os, h.tape, h.output, h.size, fun k hk _ => h.block k hk⟩
theorem Kq.trans {q : Nat} {A B C : World} (h : Kq q A B) (g : Kq q B C) : Kq q A C := ⟨g.os.trans h.os, g.tape.trans h.tape, g.output.trans h.output, Nat.le_trans h.size g.size, fun k hk h1 => (g.block k (Nat.lt_of_lt_of_le hk h.size) h1).trans (h.block k hk h1)⟩
theorem Kq.put (W : World) (q o : Nat) (v : Value) : Kq q W (W.setCell ⟨q, o, none⟩ v) := jbc (g := q) [v] o W
theorem Kq.at {q : Nat} {A C : World} (h : Kq q A C) {k : Nat} (hk : k < A.heap.size) (hn : k ≠ q) : C.heap[k]? = A.heap[k]? := h.block k hk (fun e => hn (by cases e; rfl))
theorem Kq.obj (W : World) (q : Nat) (o : Obj) : Kq q W (W.putObj q o) := grownBy_putObj' W q o
theorem Kq.low {p q : Nat} {w A C : World} (h : Below p w A) (hp : p ≤ A.heap.size) (hq : p ≤ q) (k : Kq q A C) : Below p w C := h.grown k hp (fun b e => by cases e; exact hq)
def rdQ (B : Nat) (mk : LoopState → Option Code → Loop) (R : Ending → World → Prop) : Exit → Act → World → Prop
 | .normal, _, W => Rc B (mk .busy none) W ∧ ∀ U, Rc B (mk .ready none) U → Kq (B + 1) W U → R (.returned (.bool true)) U
 | .exit id, _, W => Rc B (mk .busy none) W ∧ ∀ U, Rc B (mk .done (some (.exit id))) U → Kq (B + 1) W U → R (.returned (.bool false)) U
 | _, _, _ => False
theorem yield_to {m : Nat} {P : Program} {fn : FuncId} {tmps : Array Value} {ps : Array Tmp} {assign body : Code} {B : Nat} {args : Array Value} {W : World} {R : Ending → World → Prop} (mk : LoopState → Option Code → Loop) (hmk : Lr fn tmps ps assign body B = mk) (hr : Rc B (mk .ready none) W) (hz : args.size = ps.size)
  (h : assign.wpIn (Fence.wide.inRound (B + 1)) m P (Exit.then (fun a1 W1 => Rc B (mk .ready none) W1 ∧ ∀ U, Rc B (mk .busy none) U → Kq (B + 1) W1 U → body.wpIn (Fence.wide.inRound (B + 1)) m P (rdQ B mk R) a1 U) (fun _ _ _ => False)) { tmps := (ps.zip args).foldl (fun t (p, v) => t.setIfInBounds p v) tmps, defers := [] } W) :
  YieldAt Fence.wide m P (B + 1) args W R := by
 subst hmk
 refine yield_of hr hz (wpIn_mono h ?_)
 intro e a1 W1 he
 cases e with
 | normal =>
  obtain ⟨h1, h2⟩ := he
  refine ⟨h1, wpIn_mono (h2 _ (h1.put _) (Kq.obj _ _ _)) ?_⟩
  intro e2 a2 W2 he2
  cases e2 with
  | normal => exact ⟨he2.1, he2.2 _ (he2.1.put _) (Kq.obj _ _ _)⟩
  | exit id => exact ⟨he2.1, he2.2 _ (he2.1.put _) (Kq.obj _ _ _)⟩
  | ret => exact he2.elim
  | goto t => exact he2.elim
  | panic c => exact he2.elim
  | outgrown => exact he2.elim
 | ret => exact he.elim
 | exit id => exact he.elim
 | goto t => exact he.elim
 | panic c => exact he.elim
 | outgrown => exact he.elim
theorem range_to {n : Nat} {P : Program} {g : Operand} {ps : Array Tmp} {assign body : Code} {Q : Exit → Act → World → Prop} {a : Act} {w : World} (h1 : 1 ≤ n) {gf : Nat} {lb : Array Value} (hg : a.eval g = .func (.func gf) #[] lb) (eg : ∀ args w, (callFunc gf args).run P w = .ok (.enter gf args) w)
  (h : ∀ fn mk W1, Lr fn a.tmps ps assign body w.heap.size = mk → Below w.heap.size w W1 → W1.heap.size = w.heap.size + 2 → Rc w.heap.size (mk .ready none) W1 →
   CallsIn Fence.wide (n - 1) P gf (#[.func (.yield (w.heap.size + 1)) #[] #[]] ++ lb) W1 fun e W2 => (∃ v, e = .returned v) ∧
    ((Rc w.heap.size (mk .ready none) W2 ∧ ∀ U, U.heap[w.heap.size]? = some (.deferred (some [])) → Kq (w.heap.size + 1) W2 U → Q .normal { a with defers := { target := .collected w.heap.size, args := #[] } :: a.defers } U) ∨
    (∃ c, Rc w.heap.size (mk .done (some c)) W2 ∧ ∀ U, U.heap[w.heap.size]? = some (.deferred (some [])) → Kq (w.heap.size + 1) W2 U → c.wpIn Fence.wide n P Q { a with defers := { target := .collected w.heap.size, args := #[] } :: a.defers } U))) :
  (Code.rangeFunc g ps assign body).wpIn Fence.wide n P Q a w := by
 refine range_of h1 hg eg fun fn W1 hB hs hr => (h fn _ W1 rfl hB hs hr).mono ?_
 rintro e W2 ⟨he, ⟨hr, hq⟩ | ⟨c, hr, hq⟩⟩
 ·exact ⟨he, .inl ⟨hr, hq _ (hr.put _).2 (Kq.obj _ _ _)⟩⟩
 ·exact ⟨he, .inr ⟨c, hr, hq _ (hr.put (Lr fn a.tmps ps assign body w.heap.size .exhausted (some c))).2 (Kq.obj _ _ _)⟩⟩
attribute [local go_sem] Oper.semAt_some
def lvl (xs : List ByteArray) : Nat → List ByteArray
 | 0 => xs
 | k + 1 => upL (lvl xs k) (zr k)
theorem upL_getD (ys : List ByteArray) (y : ByteArray) (i : Nat) : (upL ys y).getD i (hs y y) = hs (ys.getD (2 * i) y) (ys.getD (2 * i + 1) y) := by
 unfold upL
 rw [List.getD_eq_getElem?_getD, List.getElem?_map]
 by_cases h : i < (ys.length + 1) / 2
 ·rw [List.getElem?_range h]
  rfl
 ·rw [List.getElem?_eq_none (by rw [List.length_range]; omega)]
  show hs y y = _
  rw [List.getD_eq_getElem?_getD, List.getD_eq_getElem?_getD, List.getElem?_eq_none (by omega), List.getElem?_eq_none (by omega)]
  rfl
theorem lvl_at (xs : List ByteArray) : ∀ k i, (lvl xs k).getD i (zr k) = lf (lvs xs) k i
 | 0, _ => rfl
 | k + 1, i => by
  show (upL (lvl xs k) (zr k)).getD i (hs (zr k) (zr k)) = hs _ _
  rw [upL_getD, lvl_at xs k, lvl_at xs k]
theorem lvl_len (xs : List ByteArray) : ∀ k, (lvl xs k).length = ln xs.length k
 | 0 => rfl
 | k + 1 => by
  show (upL (lvl xs k) (zr k)).length = (ln xs.length k + 1) / 2
  unfold upL
  rw [List.length_map, List.length_range, lvl_len xs k]
theorem lvl_size (xs : List ByteArray) (h : ∀ x ∈ xs, x.size = 32) : ∀ k, ∀ x ∈ lvl xs k, x.size = 32
 | 0 => h
 | k + 1 => fun x hx => by
  obtain ⟨j, _, rfl⟩ := List.mem_map.1 hx
  exact hs_size _ _
theorem levels_any (a : Option Addr) (m c : Nat) (d : Int) (w : World) :
  Calls Tryz.prog 125 #[.slice a m c, .int .i64 d] w fun e w' => e = .returned (.func (.func 146) #[] #[.pointer (some ⟨w.heap.size, 0, none⟩), .pointer (some ⟨w.heap.size + 1, 0, none⟩)]) ∧ w' = (w.alloc (.cells #[.slice a m c] 27)).alloc (.cells #[.int .i64 d] 3) := by
 go_enter Tryz.func125, Tryz.ntmps125
 go_wp2
 go_ret
 exact ⟨rfl, rfl⟩
def Kz (n0 n1 l : Nat) (A C : World) : Prop := A.heap.size ≤ C.heap.size ∧ ∀ k, k < A.heap.size → ¬ (n0 ≤ k ∧ k < n1) → k ≠ l → C.heap[k]? = A.heap[k]?
theorem Kz.refl (n0 n1 l : Nat) (A : World) : Kz n0 n1 l A A := ⟨Nat.le_refl _, fun _ _ _ _ => rfl⟩
theorem Kz.trans {n0 n1 l : Nat} {A B C : World} (h : Kz n0 n1 l A B) (g : Kz n0 n1 l B C) : Kz n0 n1 l A C := ⟨Nat.le_trans h.1 g.1, fun k hk h1 h2 => (g.2 k (Nat.lt_of_lt_of_le hk h.1) h1 h2).trans (h.2 k hk h1 h2)⟩
theorem Kz.below {n0 n1 l : Nat} {A C : World} (h : Below A.heap.size A C) : Kz n0 n1 l A C := ⟨h.size, fun k hk _ _ => h.block k hk⟩
theorem Kz.cell {n0 n1 l : Nat} {A C : World} (h : Kz n0 n1 l A C) {b : Nat} (hb : b < A.heap.size) (h1 : ¬ (n0 ≤ b ∧ b < n1)) (h2 : b ≠ l) (o : Nat) : C.cell? ⟨b, o, none⟩ = A.cell? ⟨b, o, none⟩ := World.cell?_of_block (w := A) (a := ⟨b, o, none⟩) (h.2 b hb h1 h2)
def slZ (n0 n1 l q : Nat) (W : World) (a : Option Addr) (xs : List ByteArray) : Prop := xs = [] ∨ ∃ b o, a = some ⟨b, o, none⟩ ∧ b < W.heap.size ∧ ¬ (n0 ≤ b ∧ b < n1) ∧ (b ≠ l ∧ b ≠ q) ∧ ∀ j x, xs[j]? = some x → W.cell? ⟨b, o + j, none⟩ = some (.string x)
theorem slZ.kz {n0 n1 l q : Nat} {A C : World} (h : Kz n0 n1 l A C) {a : Option Addr} {xs : List ByteArray} (hs : slZ n0 n1 l q A a xs) : slZ n0 n1 l q C a xs := by
 rcases hs with e | ⟨b, o, h1, h2, h3, h4, h5⟩
 ·exact .inl e
 ·exact .inr ⟨b, o, h1, Nat.lt_of_lt_of_le h2 h.1, h3, h4, fun j x hx => (h.cell h2 h3 h4.1 _).trans (h5 j x hx)⟩
theorem slZ.slS {n0 n1 l q : Nat} {A : World} {a : Option Addr} {xs : List ByteArray} (hs : slZ n0 n1 l q A a xs) : slS A.heap.size A a xs := by
 rcases hs with e | ⟨b, o, h1, h2, h3, h4, h5⟩
 ·exact .inl e
 ·exact .inr ⟨b, o, h1, h2, h5⟩
theorem slZ.ofF {n0 n1 l q m : Nat} {A : World} {a : Option Addr} {xs : List ByteArray} (hs : slF m A a xs) (h1 : n1 ≤ m) (h2 : l < m) (h3 : q < m) : slZ n0 n1 l q A a xs := by
 rcases hs with e | ⟨b, o, k1, k2, k3, k4⟩
 ·exact .inl e
 ·exact .inr ⟨b, o, k1, k3, by omega, ⟨by omega, by omega⟩, k4⟩
theorem slZ.kq {n0 n1 l q : Nat} {A C : World} (h : Kq q A C) {a : Option Addr} {xs : List ByteArray} (hs : slZ n0 n1 l q A a xs) : slZ n0 n1 l q C a xs := by
 rcases hs with e | ⟨b, o, h1, h2, h3, h4, h5⟩
 ·exact .inl e
 ·exact .inr ⟨b, o, h1, Nat.lt_of_lt_of_le h2 h.size, h3, h4, fun j x hx => (World.cell?_of_block (w := A) (a := ⟨b, o + j, none⟩) (h.at h2 h4.2)).trans (h5 j x hx)⟩
theorem Fw.kz {n N n0 n1 l : Nat} {g : Nat → Value} {A C : World} (h : Fw n N g A) (hk : Kz n0 n1 l A C) (h1 : n < n0) (h2 : n ≠ l) : Fw n N g C :=
 ⟨Nat.lt_of_lt_of_le h.z hk.1, fun j hj => (hk.cell h.z (by omega) h2 j).trans (h.c j hj), fun o => by rw [← h.f o]; simp only [World.frozen?, hk.2 n h.z (by omega) h2]⟩
theorem Laid.kz {n0 n1 l : Nat} {A C : World} (h : Laid A) (hk : Kz n0 n1 l A C) (h1 : 2 < n0) (h2 : 2 < l) : Laid C := ⟨h.k.kz hk (by omega) (by omega), h.h.kz hk (by omega) (by omega)⟩
theorem Kz.put {n0 n1 l : Nat} (W : World) (o : Obj) : Kz n0 n1 l W (W.putObj l o) := ⟨(grownBy_putObj' W l o).size, fun k hk _ h => (grownBy_putObj' W l o).block k hk (fun e => h (by cases e; rfl))⟩
theorem Kz.set {n0 n1 l b : Nat} (W : World) (o : Nat) (v : Value) (h0 : n0 ≤ b) (h1 : b < n1) : Kz n0 n1 l W (W.setCell ⟨b, o, none⟩ v) := ⟨(jbc (g := b) [v] o W).size, fun k hk h _ => (jbc (g := b) [v] o W).block k hk (fun e => by cases e; exact h ⟨h0, h1⟩)⟩
theorem jeb {p l : Nat} {w W : World} (h : Below p w W) (hp : p ≤ W.heap.size) (hl : p ≤ l) (o : Obj) : Below p w (W.putObj l o) := h.grown (grownBy_putObj' W l o) hp (fun k e => by cases e; exact hl)
theorem levels1_in (n l n0 n1 bX bY : Nat) (xs : List ByteArray) (hxs : xs.length ≤ 256) (h32 : ∀ x ∈ xs, x.size = 32) (d : Nat) (hd : d ≤ 10) (a : Option Addr) (c : Nat) (h1n : 2 < n0) (h01 : n0 ≤ n1) (hnl : n1 < l) (hY1 : ¬ (n0 ≤ bY ∧ bY < n1)) (hY2 : bY ≠ l)
  (J Jx : Nat → World → Prop) (q : Nat) (hJ : ∀ k A C, J k A → Kq q A C → J k C)
  (hY : ∀ m k a c W, J k W → k ≤ d → slZ n0 n1 l q W a (lvl xs k) → YieldAt Fence.wide m Tryz.prog l #[.int .i64 (k : Int), .agg #[.slice a (lvl xs k).length c, .string (zr k)]] W fun e W' =>
   (e = .returned (.bool true) ∧ J (k + 1) W' ∧ Kz n0 n1 l W W') ∨ (e = .returned (.bool false) ∧ Jx k W'))
  (W : World) (hl : Laid W) (hlW : l < W.heap.size) (hbY : bY < W.heap.size) (hcX : W.cell? ⟨bX, 0, none⟩ = some (.slice a xs.length c)) (hcY : W.cell? ⟨bY, 0, none⟩ = some (.int .i64 (d : Int))) (hs : slZ n0 n1 l q W a xs) (hq : W.heap.size = q) (h0 : J 0 W) :
  CallsIn Fence.wide n Tryz.prog 146 #[.func (.yield l) #[] #[], .pointer (some ⟨bX, 0, none⟩), .pointer (some ⟨bY, 0, none⟩)] W fun e W' => (∃ v, e = .returned v) ∧ (J (d + 1) W' ∨ ∃ k, k ≤ d ∧ Jx k W') := by
 refine callsIn_of_wp Tryz.func146 rfl trivial ?_ rfl
 simp only [Tryz.ntmps146, List.size_toArray, List.length_cons, List.length_nil, Nat.reduceAdd, Nat.reduceSub, Array.replicate_succ, Array.replicate_zero, List.push_toArray, List.append_toArray, List.nil_append, List.cons_append]
 gi_wp2
 have hA : Below W.heap.size W (W.alloc (.cells #[.slice a xs.length c, .string z32] 170)) := (Below.refl _ W).alloc (Nat.le_refl _) _
 have hn := World.alloc_heap_new W (.cells #[.slice a xs.length c, .string z32] 170)
 have HW : Hid (_ ∧ _ ∧ _) := ⟨hJ 0 _ _ h0 (Kq.below hA), hn, (Kz.below hA : Kz n0 n1 l W _)⟩
 rw [hq] at HW
 clear hA hn h0
 gi_loopw [5] (fun i wr => ∃ (k : Nat) (a : Option Addr) (c : Nat), k ≤ d ∧ i = .int .i64 (k : Int) ∧ J k wr ∧ wr.heap[q]? = some (.cells #[.slice a (lvl xs k).length c, .string (zr k)] 170 (0, 0)) ∧ slZ n0 n1 l q wr a (lvl xs k) ∧ Kz n0 n1 l W wr)
  (fun i _ => (d - (intOf i).toNat))
 case atStart => exact ⟨0, a, c, by omega, rfl, HW.out.1, HW.out.2.1, hs.kz HW.out.2.2, HW.out.2.2⟩
 case round =>
  clear HW hs
  obtain ⟨k, a, c, hk, rfl, hJs, hbL, hsl, hkz⟩ := hrel
  have hqw : q < wr.heap.size := (Array.getElem?_eq_some_iff.1 hbL).1
  have c0 : wr.cell? ⟨q, 0, none⟩ = some (.slice a (lvl xs k).length c) := by rw [Lib.cell_of_heap hbL]; rfl
  have c1 : wr.cell? ⟨q, 1, none⟩ = some (.string (zr k)) := by rw [Lib.cell_of_heap hbL]; rfl
  obtain ⟨fn, tmps, assign, body, hy, hR⟩ := hY (n - 1) k a c wr hJs hk hsl
  have hln : (lvl xs k).length ≤ 256 := by rw [lvl_len]; exact Nat.le_trans (ln_le _ _) hxs
  obtain ⟨N, hN⟩ : ∃ N, (lvl xs k).length = N := ⟨_, rfl⟩
  obtain ⟨y, hyy⟩ : ∃ y, zr k = y := ⟨_, rfl⟩
  rw [hN, hyy] at hy
  rw [hN] at c0 hln
  rw [hyy] at c1
  have HH : Hid (_ ∧ _ ∧ _ ∧ _ ∧ _) := ⟨hbL, hsl, hkz, hN, hyy⟩
  clear hJs hbL hsl hkz hN hyy
  gi_wp2
  refine ⟨fun h => (by cases h), hR.mono ?_⟩
  rintro e W3 (⟨rfl, hJ3, hk3⟩ | ⟨rfl, hJx3⟩)
  ·clear hy hR
   obtain ⟨hbL, hsl, hkz, hN, hyy⟩ := HH.out
   have hb3 := (hk3.2 q hqw (by omega) (by omega)).trans hbL
   have d0 : W3.cell? ⟨q, 0, none⟩ = some (.slice a N c) := by rw [Lib.cell_of_heap hb3, ← hN]; rfl
   have d1 : W3.cell? ⟨q, 1, none⟩ = some (.string y) := by rw [Lib.cell_of_heap hb3, ← hyy]; rfl
   have fz : ∀ o, W3.frozen? ⟨q, o, none⟩ = false := fun o => by simp [World.frozen?, hb3]
   have hkz3 := hkz.trans hk3
   have hcY3 := (hkz3.cell hbY hY1 hY2 0).trans hcY
   have hs3 := hsl.kz hk3
   have hq3 : q < W3.heap.size := (Array.getElem?_eq_some_iff.1 hb3).1
   have hKA := above_any (lvl xs k) a c (zr k) W3.heap.size W3 (hl.kz hkz3 h1n (by omega)) (Nat.le_refl _) hs3.slS (by omega) (zr_size k) (lvl_size xs h32 k)
   rw [hN, hyy] at hKA
   by_cases hlt : k < d
   ·have l0 : (k : Int) < d := by omega
    have wk : IntKind.i64.wrap ((k : Int) + 1) = ((k + 1 : Nat) : Int) := by rw [IntKind.wrap_i64]; omega
    have HK : Hid (_ ∧ _ ∧ _ ∧ _) := ⟨hb3, hkz3, hs3, hJ3⟩
    clear hb3 hkz hbL hsl hkz3 hs3 hJ3 hk3
    gi_wp2
    refine ⟨trivial, fun h => (by cases h), (callsIn_wide.2 hKA).mono ?_⟩
    rintro e w4 ⟨⟨a', c', rfl, hF⟩, B4⟩
    obtain ⟨hb3, hkz3, hs3, hJ3⟩ := HK.out
    have hb4 := (B4.block q hq3).trans hb3
    have g0 : w4.cell? ⟨q, 0, none⟩ = some (.slice a N c) := by rw [Lib.cell_of_heap hb4, ← hN]; rfl
    have g1 : w4.cell? ⟨q, 1, none⟩ = some (.string y) := by rw [Lib.cell_of_heap hb4, ← hyy]; rfl
    have gz : ∀ o, w4.frozen? ⟨q, o, none⟩ = false := fun o => by simp [World.frozen?, hb4]
    have e4 := jam (jam hb4 0 (.slice a' (upL (lvl xs k) y).length c')) 1 (.string (hs y y))
    have hq4 := (((Kq.below B4).trans (Kq.put w4 q 0 (.slice a' (upL (lvl xs k) y).length c'))).trans (Kq.put _ q 1 (.string (hs y y))) : Kq q W3 _)
    have hJ4 := hJ _ _ _ hJ3 hq4
    have hs4 : slZ n0 n1 l q w4 a' (upL (lvl xs k) y) := slZ.ofF hF (by omega) (by omega) hq3
    have hs5 := (hs4.kq (Kq.put w4 q 0 (.slice a' (upL (lvl xs k) y).length c'))).kq (Kq.put _ q 1 (.string (hs y y)))
    have hk4 : Kz n0 n1 l W ((w4.setCell ⟨q, 0, none⟩ (.slice a' (upL (lvl xs k) y).length c')).setCell ⟨q, 1, none⟩ (.string (hs y y))) := ⟨Nat.le_trans hkz3.1 hq4.size, fun b hb h1 h2 => (hq4.at (Nat.lt_of_lt_of_le hb hkz3.1) (by omega)).trans (hkz3.2 b hb h1 h2)⟩
    have HF : Hid (_ ∧ _ ∧ _ ∧ _) := ⟨e4, hJ4, hs5, hk4⟩
    clear e4 hJ4 hs4 hs5 hk4 hq4 hF B4 hb4 hb3 hkz3 hs3 hJ3 hKA HK
    have HL : Hid (upL (lvl xs k) y = lvl xs (k + 1) ∧ hs y y = zr (k + 1)) := by rw [← hyy]; exact ⟨rfl, rfl⟩
    obtain ⟨M, hM⟩ : ∃ M, (upL (lvl xs k) y).length = M := ⟨_, rfl⟩
    obtain ⟨y2, hy2⟩ : ∃ x, hs y y = x := ⟨_, rfl⟩
    have HM : Hid (_ ∧ _) := ⟨hM, hy2⟩
    rw [hM, hy2] at HF ⊢
    clear hM hy2
    gi_wp2
    go_roundw
    case rel =>
     obtain ⟨e4, hJ4, hs5, hk4⟩ := HF.out
     refine ⟨k + 1, a', c', hlt, by first | rfl | (congr 1; omega), hJ4, ?_, ?_, hk4⟩
     ·rw [← HL.out.1, ← HL.out.2, HM.out.1, HM.out.2]
      exact e4
     ·rw [← HL.out.1]
      exact hs5
    case measure => simp [intOf]; omega
   ·obtain rfl : k = d := by omega
    have l0 : ¬ (k : Int) < k := by omega
    gi_wp2
    go_end0
    exact ⟨⟨_, rfl⟩, .inl hJ3⟩
  ·clear hy hR
   gi_wp2
   go_end0
   exact ⟨⟨_, rfl⟩, .inr ⟨k, hk, hJx3⟩⟩
end Go.Proofs.YtoddangedbefgabGreatDoor
