/- Lemmas: The entries of pairs: entriesOf. The items whose bytes stand one behind the other: itemsOf. Bytes read: Decode. Numbers as bytes, and back. How deep an item is: the reference's Deep. Items and their bytes, apart from all memory: what stands for an item is read as it was, and what is read is written so again. RlpDecodes' walk: which item bytes are, or that they are none. Items and their bytes, there and back. -/
import Derived.Test.YtfdjiofogohcmaaGreatDoorM14
import Derived.Test.YtfdjiofogohcmaaGreatDoorM6
import Derived.Test.YtfdjiofogohcmaaGreatDoorM5
import Derived.Shelf.Pu.Clone
import Derived.Carry
import Derived.ChangeArms
import Derived.ChangeMaps5
import Derived.ChangeSame
import Derived.OpenShut
import Derived.ProofKit
namespace Go.Proofs.YtfdjiofogohcmaaGreatDoor
open Go.RowKit Go.Shelf Go.Sort

/-- Pairs as entries: their keys as paths. -/
def ents (es : List Pr) : List Pr := es.map fun e => (ofOf e.1, e.2)
theorem ents_at {es : List Pr} {j : Nat} {e : Pr} (h : es[j]? = some e) : (ents es)[j]? = some (ofOf e.1, e.2) := by
  unfold ents
  rw [List.getElem?_map, h]
  rfl
theorem ents_len (es : List Pr) : (ents es).length = es.length := by unfold ents; rw [List.length_map]
theorem info_entry : (Tryz.prog.info? 108).map (fun i => (i.zero, i.size, i.bytes)) = some (some (.agg #[.string ⟨#[]⟩, .string ⟨#[]⟩]), 2, 32) := by kernel_rfl
/-- The entries that a row holds, from its front. -/
def HeldE (cl : List Value) (es : List Pr) : Prop := ∀ (j : Nat) (e : Pr), es[j]? = some e → cl[2 * j]? = some (.string e.1) ∧ cl[2 * j + 1]? = some (.string e.2)
theorem HeldE.snoc {cl : List Value} {es : List Pr} (h : HeldE cl es) (e : Pr) (hl : 2 * es.length + 1 < cl.length) : HeldE ((cl.set (2 * es.length) (.string e.1)).set (2 * es.length + 1) (.string e.2)) (es ++ [e]) := by
  intro j x hx
  by_cases hj : j < es.length
  · rw [List.getElem?_append_left hj] at hx
    obtain ⟨h1, h2⟩ := h j x hx
    rw [List.getElem?_set_ne (by omega), List.getElem?_set_ne (by omega), List.getElem?_set_ne (by omega), List.getElem?_set_ne (by omega)]
    exact ⟨h1, h2⟩
  · have hjl := (List.getElem?_eq_some_iff.1 hx).1
    rw [List.length_append] at hjl
    have hj2 : j = es.length := by simp at hjl; omega
    subst hj2
    simp at hx
    subst hx
    refine ⟨?_, ?_⟩
    · rw [List.getElem?_set_ne (by omega), List.getElem?_set_self (by omega)]
    · rw [List.getElem?_set_self (by rw [List.length_set]; omega)]

set_option maxRecDepth 20000 in
set_option maxHeartbeats 2000000 in
theorem entriesOf_any (es : List Pr) (h0 : 0 < es.length) (hl : es.length ≤ 200) (hk : ∀ (j : Nat) (e : Pr), es[j]? = some e → e.1.size ≤ 64) (a : Option Addr) (c n : Nat) (w : World) (hn : n ≤ w.heap.size) (hp : slP n w a es) :
    Calls Tryz.prog 40 #[.slice a es.length c] w fun r w' => Below w.heap.size w w' ∧ r = .returned (.slice (some ⟨w.heap.size, 0, none⟩) es.length es.length) ∧ w.heap.size < w'.heap.size ∧ prs w' w.heap.size 0 (ents es) := by
  obtain ⟨i0, hi0, hz0, hz1, hz2⟩ := info_parts info_entry
  obtain ⟨N, hN⟩ : ∃ N, es.length = N := ⟨_, rfl⟩
  have HN : Hid (es.length = N) := hN
  rw [hN] at h0 hl ⊢
  clear hN
  go_enter Tryz.func40, Tryz.ntmps40
  go_wp2_with (at_make; refine wpList_make_full _ rfl _ _ 68 rfl w.heap.size 108 i0 _ 2 Tryz.underlying68 hi0 hz0 hz1 .i64 .i64 _ _ N rfl rfl rfl rfl (by rw [hz2]; omega) (by unfold maxLen; omega) (Nat.le_refl _) ?_; intro w1 hown hgr)
  obtain ⟨z, hz⟩ : ∃ z, w.heap.size = z := ⟨_, rfl⟩
  have B1 : Below z w w1 := hz ▸ (Below.refl _ w).grown hgr (Nat.le_refl _) (fun _ e => by cases e)
  have HZ : Hid (w.heap.size = z) := hz
  have hzw : z < w1.heap.size := by
    rcases hown.2 with ⟨h, _⟩ | ⟨g, _, _, h, _, h2, _⟩
    · cases h
    · cases h
      rw [← hz]
      exact (Array.getElem?_eq_some_iff.1 h2).1
  rw [hz] at hown hn ⊢
  clear hz
  go_loopg [11] N (fun gk i wr => ∃ (k : Nat) (cl : List Value), k + gk = N ∧ i = .int .i64 k ∧ wr.ownsRow z 108 2 (.slice (some ⟨z, 0, none⟩) N N) N cl ∧ HeldE cl (ents (es.take k)) ∧ Below z w wr)
  case atStart => exact ⟨0, _, by omega, rfl, hown, (fun j y h => by cases h), B1⟩
  case round =>
    obtain ⟨k, cl, hkk, rfl, hownr, hheld, BW⟩ := hrel
    have hzr : z < wr.heap.size := (hownr.lt z rfl).2
    by_cases hlt : k < N
    · have l1 : (k : Int) < N := by omega
      obtain ⟨f, hf⟩ : ∃ f, es[k]? = some f := ⟨es[k]'(by have := HN.out; omega), List.getElem?_eq_getElem (by have := HN.out; omega)⟩
      obtain ⟨b, o, rfl, hb, c0, c1⟩ := slP_at hp k f hf
      have hbz : b < z := by omega
      replace c0 := (BW.cell (p := ⟨b, _, none⟩) hbz).trans c0
      replace c1 := (BW.cell (p := ⟨b, _, none⟩) hbz).trans c1
      obtain ⟨r, hr⟩ : ∃ p, o + 2 * k = p := ⟨_, rfl⟩
      rw [hr] at c0 c1
      have hr2 : o + k * 2 = r := by omega
      have wk : IntKind.i64.wrap ((k : Int) + 1) = ((k + 1 : Nat) : Int) := by rw [IntKind.wrap_i64]; omega
      have hk64 := hk k f hf
      have KO := fun w => of_any f.1 (by omega) w
      have hstep : HeldE ((cl.set (2 * k) (.string (ofOf f.1))).set (2 * k + 1) (.string f.2)) (ents (es.take (k + 1))) := by
        have hl2 : (ents (es.take k)).length = k := by rw [ents_len, List.length_take]; have := HN.out; omega
        have hcl := hownr.1
        have := hheld.snoc (ofOf f.1, f.2) (by rw [hl2, hcl]; omega)
        rw [hl2] at this
        rw [List.take_add_one, hf]
        show HeldE _ (List.map _ (es.take k ++ [f]))
        rw [List.map_append]
        exact this
      have A1 : Below wr.heap.size wr (wr.alloc (.cells #[.string f.1, .string f.2] 40)) := (Below.refl _ wr).alloc (Nat.le_refl _) _
      have hP1 : PrIn wr.heap.size f (wr.alloc (.cells #[.string f.1, .string f.2] 40)) := World.alloc_heap_new wr _
      have hown1 := owns_below hownr A1
      obtain ⟨p, hpp⟩ : ∃ q, ofOf f.1 = q := ⟨_, rfl⟩
      rw [hpp] at KO hstep
      have HX : Hid (_ ∧ _ ∧ _ ∧ _ ∧ _) := ⟨A1, hP1, hown1, hstep, BW⟩
      clear hpp hf hk64 A1 hP1 hown1 hstep hheld hownr BW
      obtain ⟨fk, fv⟩ := f
      dsimp only at c0 c1 KO
      go_wp2_with fail
      obtain ⟨A1, hP1, hown1, hstep, BW⟩ := HX.out
      refine wpOf (fun W => Below wr.heap.size wr W ∧ PrIn wr.heap.size (fk, fv) W ∧ W.ownsRow z 108 2 (.slice (some ⟨z, 0, none⟩) N N) N cl) ⟨A1, hP1, hown1⟩ ?_
      rintro w4 ⟨B4, hP4, hown4⟩
      clear A1 hP1 hown1 HX c0 c1
      have hPl : wr.heap.size < w4.heap.size := (Array.getElem?_eq_some_iff.1 hP4).1
      have q0 : ∀ d os, (grow (redrawn w4 d) os).cell? ⟨wr.heap.size, 0, none⟩ = some (.string fk) := fun d os => ((below_regrown w4 d os).cell (p := ⟨wr.heap.size, 0, none⟩) hPl).trans (by rw [Lib.cell_of_heap hP4]; rfl)
      have q1 : ∀ d os, (grow (redrawn w4 d) os).cell? ⟨wr.heap.size, 1, none⟩ = some (.string fv) := fun d os => ((below_regrown w4 d os).cell (p := ⟨wr.heap.size, 1, none⟩) hPl).trans (by rw [Lib.cell_of_heap hP4]; rfl)
      have cO : ∀ d os, Calls Tryz.prog 29 #[.string fk] (grow (redrawn w4 d) os) fun e w'' => e = .returned (.string p) ∧ ∃ p : Regrown, w'' = grow (redrawn w4 p.d) p.os := fun d os => Calls.regrown_of (KO _)
      refine region_tail 8 (by kernel_rfl) (by kernel_rfl) ?_
      simp only [List.take_succ_cons, List.take_zero, List.drop_succ_cons, List.drop_zero]
      iterate 4 (quiet_step (fail))
      quiet_step (exact cO _ _)
      iterate 3 (quiet_step (fail))
      refine wpQuiet_nil ?_
      intro w8 hw8
      have B8 : Below w4.heap.size w4 w8 := by
        obtain ⟨p, rfl⟩ := hw8
        exact below_regrown _ _ _
      have hown8 := owns_below hown4 B8
      have BW8 := BW.trans ((belowStep B4 B4.size B8).mono (by omega))
      clear hw8 q0 q1 cO KO B8 B4 hown4 hP4 BW
      obtain ⟨v0, hv0⟩ : ∃ v, w8.cell? ⟨z, k * 2, none⟩ = some v := by
        rw [hown8.cellAt (k * 2) (by omega)]
        exact ⟨_, List.getElem?_eq_getElem (by rw [hown8.1]; omega)⟩
      obtain ⟨v1, hv1⟩ : ∃ v, w8.cell? ⟨z, k * 2 + 1, none⟩ = some v := by
        rw [hown8.cellAt (k * 2 + 1) (by omega)]
        exact ⟨_, List.getElem?_eq_getElem (by rw [hown8.1]; omega)⟩
      have g0 := hown8.frozenAt (k * 2)
      have g1 := hown8.frozenAt (k * 2 + 1)
      have hown9 := ((hown8.stored (k * 2) (.string p)).1.stored (k * 2 + 1) (.string fv)).1
      rw [show k * 2 = 2 * k by omega] at hown9
      have HY : Hid (_ ∧ _ ∧ _) := ⟨hown9, hstep, BW8⟩
      clear hown8 hown9 hstep BW8
      go_wp2
      go_roundg (gk - 1)
      case measure => omega
      case rel =>
        obtain ⟨hown9, hstep, BW8⟩ := HY.out
        refine ⟨k + 1, _, by omega, by first | rfl | (congr 1; omega), ?_, hstep, below_set (below_set BW8 z _ (Nat.le_refl _) _) z _ (Nat.le_refl _) _⟩
        rw [show k * 2 = 2 * k by omega]
        exact hown9
    · have l1 : ¬ (k : Int) < N := by omega
      have hk2 : k = N := by omega
      have HX : Hid (_ ∧ _ ∧ _) := ⟨hownr, hheld, BW⟩
      clear hownr hheld BW
      go_wp2
      go_ret
      obtain ⟨hownr, hheld, BW⟩ := HX.out
      refine ⟨by rw [HZ.out]; exact BW, by rw [HZ.out]; rfl, by rw [HZ.out]; exact hzr, fun j e he => ?_⟩
      rw [hk2, ← HN.out, List.take_length] at hheld
      have hj := (List.getElem?_eq_some_iff.1 he).1
      rw [ents_len, HN.out] at hj
      obtain ⟨p1, p2⟩ := hheld j e he
      rw [HZ.out]
      refine ⟨?_, ?_⟩
      · rw [Nat.zero_add, hownr.cellAt _ (by omega)]; exact p1
      · rw [Nat.zero_add, hownr.cellAt _ (by omega)]; exact p2
end Go.Proofs.YtfdjiofogohcmaaGreatDoor
namespace Go.Proofs.YtfdjiofogohcmaaGreatDoor
open Go.RowKit Go.Shelf Go.Sort
attribute [local go_sem] Oper.semAt_some

def comb (g : Nat × ByteArray → Option It) : List (Nat × ByteArray) → Option (List It)
  | [] => some []
  | e :: r => match g e, comb g r with
    | some x, some l => some (x :: l)
    | _, _ => none
theorem comb_some {g : Nat × ByteArray → Option It} : ∀ (l : List (Nat × ByteArray)) (its : List It), l.map g = its.map some → comb g l = some its
  | [], [], _ => rfl
  | [], _ :: _, h => by cases h
  | _ :: _, [], h => by cases h
  | e :: r, x :: l, h => by
    injection h with h1 h2
    show (match g e, comb g r with | some x, some l => some (x :: l) | _, _ => none) = _
    rw [h1, comb_some r l h2]
theorem comb_none {g : Nat × ByteArray → Option It} : ∀ (l : List (Nat × ByteArray)) (e : Nat × ByteArray), e ∈ l → g e = none → comb g l = none
  | a :: r, e, h, hn => by
    show (match g a, comb g r with | some x, some l => some (x :: l) | _, _ => none) = _
    rcases List.mem_cons.1 h with rfl | h
    · rw [hn]
    · rw [comb_none r e h hn]
      cases g a <;> rfl
/-- The items that bytes are, read no deeper than so often. -/
def decF : Nat → ByteArray → Option (List It)
  | 0, _ => some []
  | f + 1, s => comb (fun e => if e.1 = 1 then some (.mk false e.2 []) else if e.1 = 2 then (decF f e.2).map (It.mk true ⟨#[]⟩) else none) (ps s)
def one (f : Nat) (e : Nat × ByteArray) : Option It := if e.1 = 1 then some (.mk false e.2 []) else if e.1 = 2 then (decF f e.2).map (It.mk true ⟨#[]⟩) else none

/-- A block of cells. -/
def isC (W : World) (b : Nat) : Prop := ∃ c e fz, W.heap[b]? = some (.cells c e fz)
theorem isC_of {W : World} {b k : Nat} {v : Value} (h : W.cell? ⟨b, k, none⟩ = some v) : isC W b := by
  unfold World.cell? at h
  dsimp only at h
  split at h
  · rename_i c e fz hb
    exact ⟨c, e, fz, hb⟩
  · cases h
mutual
theorem inP_cells {p : Nat → Prop} {W : World} : ∀ x, inP p W x → inP (fun b => p b ∧ isC W b) W x
  | .mk _ _ a _ xs, h => rowP_cells a 0 xs h
theorem rowP_cells {p : Nat → Prop} {W : World} (a : Option Addr) : ∀ i xs, rowP p W a i xs → rowP (fun b => p b ∧ isC W b) W a i xs
  | _, [], _ => trivial
  | i, x :: r, ⟨⟨b, o, h0, h1, h2, h3, h4⟩, h5, h6⟩ => ⟨⟨b, o, ⟨h0, isC_of h2⟩, h1, h2, h3, h4⟩, inP_cells x h5, rowP_cells a (i + 1) r h6⟩
end
theorem Held.app {cl : List Value} {ys : List Im} (h : Held cl ys) (X : Im) (hl : cl.length = ys.length * 3) : Held (cl ++ cell3 X) (ys ++ [X]) := by
  intro j x hx
  by_cases hj : j < ys.length
  · rw [List.getElem?_append_left hj] at hx
    obtain ⟨h0, h1, h2⟩ := h j x hx
    rw [List.getElem?_append_left (by omega), List.getElem?_append_left (by omega), List.getElem?_append_left (by omega)]
    exact ⟨h0, h1, h2⟩
  · have hj2 : j = ys.length := by
      have := (List.getElem?_eq_some_iff.1 hx).1
      simp at this
      omega
    subst hj2
    simp at hx
    subst hx
    rw [List.getElem?_append_right (by omega), List.getElem?_append_right (by omega), List.getElem?_append_right (by omega), show 3 * ys.length - cl.length = 0 by omega, show 3 * ys.length + 1 - cl.length = 1 by omega, show 3 * ys.length + 2 - cl.length = 2 by omega]
    exact ⟨rfl, rfl, rfl⟩
theorem rowP_owned {W : World} {zz c : Nat} {ao : Option Addr} {cl : List Value} {ys : List Im} {p q : Nat → Prop} (hown : W.ownsRow zz 47 3 (.slice ao ys.length c) ys.length cl) (hheld : Held cl ys) (hin : ∀ y, y ∈ ys → inP p W y) (hpq : ∀ b, p b → q b) (hq : ∀ g, ao = some ⟨g, 0, none⟩ → q g) : rowP q W ao 0 ys := by
  rcases hown.2 with ⟨h, h0⟩ | ⟨g, cap, cur, h, _, hg, _⟩
  · have : ys = [] := List.length_eq_zero_iff.1 h0
    subst this
    exact trivial
  · injection h with h1 h2 h3
    subst h1 h3
    have key : ∀ (r : List Im) (i : Nat), ys.drop i = r → rowP q W (some ⟨g, 0, none⟩) i r := by
      intro r
      induction r with
      | nil => intro i _; trivial
      | cons y r ih =>
        intro i hi
        have hyi : ys[i]? = some y := by
          have := congrArg (·[0]?) hi
          simpa using this
        have hil := (List.getElem?_eq_some_iff.1 hyi).1
        obtain ⟨e0, e1, e2⟩ := hheld i y hyi
        refine ⟨⟨g, 0, hq g rfl, rfl, ?_, ?_, ?_⟩, ?_, ih (i + 1) ?_⟩
        · rw [show 0 + 3 * i = 3 * i by omega, hown.cellAt _ (by omega)]; exact e0
        · rw [show 0 + 3 * i + 1 = 3 * i + 1 by omega, hown.cellAt _ (by omega)]; exact e1
        · rw [show 0 + 3 * i + 2 = 3 * i + 2 by omega, hown.cellAt _ (by omega)]; exact e2
        · exact inP_of (fun b hb => ⟨hpq b hb, fun _ => rfl⟩) y (hin y (List.mem_of_getElem? hyi))
        · rw [← List.drop_drop, hi]
          rfl
    exact key ys 0 rfl
theorem Rl.keeps {W W' : World} {v u : Value} {bI zz n : Nat} {cl : List Value} (h : Rl W W' v bI) (hB : Bx bI 45 u W) (hown : W.ownsRow zz 47 3 v n cl) (B : Nat) : KeepsFrom B W W' :=
  ⟨h.size, fun k o _ hk ho => (h.block k (Array.getElem?_eq_some_iff.1 hk).1 (fun e => by
    obtain ⟨c, hc⟩ := owns_kind3 hown k e.symm
    rw [hk] at hc
    cases hc
    cases ho) (fun e => by
    rw [e, show W.heap[bI]? = _ from hB] at hk
    cases hk
    cases ho)).trans hk⟩
theorem Rl.below {W W' : World} {v : Value} {bI zz n B : Nat} {cl : List Value} (h : Rl W W' v bI) (hown : W.ownsRow zz 47 3 v n cl) (hz : B ≤ zz) (hb : B ≤ bI) (hB : B ≤ W.heap.size) : Below B W W' :=
  ⟨h.os, h.tape, h.output, h.size, fun k hk => h.block k (by omega) (fun e => by have := (hown.lt k e.symm).1; omega) (by omega)⟩
/-- The state of a round: the items so far, and that all is well. -/
def DSt {s : ByteArray} (f z bO : Nat) (w : World) (pre : List (Pe s)) (W : World) : Prop :=
  ∃ v cl ys, Bx z 45 v W ∧ Bx bO 4 (.bool true) W ∧ W.ownsRow z 47 3 v ys.length cl ∧ Held cl ys ∧ (pre.map (·.1)).map (one f) = (ers ys).map some ∧ (∀ y, y ∈ ys → inP (fun b => bO < b ∧ b < W.heap.size ∧ some b ≠ v.ownBlock) W y) ∧ Below z w W
theorem owns_own3 {A C : World} {b n : Nat} {v : Value} {xs : List Value} {row : Option Nat} (h : A.ownsRow b 47 3 v n xs) (hg : A.grownBy C row) (hr : ∀ r, row = some r → ∃ o : Obj, A.heap[r]? = some o ∧ o.isCells = false) : C.ownsRow b 47 3 v n xs := by
  refine h.kept hg ?_
  cases e' : v.ownBlock with
  | none => exact .inl rfl
  | some k =>
    obtain ⟨c, hk⟩ := owns_kind3 h k e'
    refine .inr fun e2 => ?_
    obtain ⟨o, ho, hc⟩ := hr k e2.symm
    rw [hk] at ho
    cases ho
    cases hc
theorem DSt.own {s : ByteArray} {f z bO : Nat} {w A C : World} {pre : List (Pe s)} {row : Option Nat} (h : DSt f z bO w pre A) (hg : A.grownBy C row) (hr : ∀ r, row = some r → z ≤ r ∧ ∃ o : Obj, A.heap[r]? = some o ∧ o.isCells = false) : DSt f z bO w pre C := by
  obtain ⟨v, cl, ys, h1, h2, h3, h4, h5, h6, h7⟩ := h
  have hl := h1.lt
  refine ⟨v, cl, ys, h1.own hg (fun r e => (hr r e).2), h2.own hg (fun r e => (hr r e).2), owns_own3 h3 hg (fun r e => (hr r e).2), h4, h5, fun y hy => ?_, h7.grown hg (by omega) (fun k e => (hr k e).1)⟩
  refine inP_of (fun b hb => ?_) y (inP_cells y (h6 y hy))
  obtain ⟨⟨b1, b2, b3⟩, c, e, fz, hb⟩ := hb
  have := hg.size
  refine ⟨⟨b1, by omega, b3⟩, fun k => World.cell?_of_block (w := A) (hg.block b b2 (fun e2 => ?_))⟩
  obtain ⟨_, o, ho, hc⟩ := hr b e2.symm
  rw [hb] at ho
  cases ho
  cases hc

theorem bx_same {W : World} {b : Nat} {T : TypeId} {u : Value} (h : Bx b T u W) (k : Nat) : (W.setCell ⟨b, 0, none⟩ u).heap[k]? = W.heap[k]? := by
  by_cases e : k = b
  · subst e
    exact (show (W.setCell ⟨k, 0, none⟩ u).heap[k]? = _ from h.put u).trans (show W.heap[k]? = _ from h).symm
  · exact Below.heap_setCell _ _ _ _ e
theorem below_same {B : Nat} {A W : World} {b : Nat} {T : TypeId} {u : Value} (hA : Below B A W) (h : Bx b T u W) : Below B A (W.setCell ⟨b, 0, none⟩ u) :=
  ⟨hA.os, hA.tape, hA.output, by have := hA.size; simp [World.setCell]; omega, fun k hk => (bx_same h k).trans (hA.block k hk)⟩
theorem dst_snoc {s : ByteArray} {f z bO : Nat} {w W W7 Wf : World} {pre : List (Pe s)} {x : Pe s} {v : Value} {cl : List Value} {ys : List Im} {X : Im} {g c : Nat} (hzO : z < bO)
    (hOd : Bx bO 4 (.bool true) W) (hownd : W.ownsRow z 47 3 v ys.length cl) (hheld : Held cl ys) (hone : (pre.map (·.1)).map (one f) = (ers ys).map some) (hin : ∀ y, y ∈ ys → inP (fun b => bO < b ∧ b < W.heap.size ∧ some b ≠ v.ownBlock) W y) (BWd : Below z w W)
    (hb : Below W.heap.size W W7) (hX : inP (fun b => W.heap.size ≤ b ∧ b < W7.heap.size) W7 X) (hx : one f x.1 = some (er X))
    (h1 : Bx z 45 (.slice (some ⟨g, 0, none⟩) (ys.length + 1) c) Wf) (h2 : Wf.ownsRow z 47 3 (.slice (some ⟨g, 0, none⟩) (ys.length + 1) c) (ys.length + 1) (cl ++ cell3 X)) (h3 : some g = v.ownBlock ∨ W7.heap.size ≤ g) (h4 : Rl W7 Wf v z) : DSt f z bO w (pre ++ [x]) Wf := by
  have hOw := hOd.lt
  have hs7 := hb.size
  have hs8 := h4.size
  have hvl : ∀ k, some k = v.ownBlock → k < W.heap.size := fun k e => (hownd.lt k e.symm).2
  have hOv : some bO ≠ v.ownBlock := fun e => by
    obtain ⟨c', hk⟩ := owns_kind3 hownd bO e.symm
    rw [show W.heap[bO]? = _ from hOd] at hk
    cases hk
  refine ⟨_, _, ys ++ [X], h1, ?_, ?_, hheld.app X (by rw [hownd.1]), ?_, ?_, ?_⟩
  · exact (h4.block bO (by omega) hOv (by omega)).trans ((hb.block bO hOw).trans hOd)
  · rw [List.length_append]
    exact h2
  · rw [List.map_append, List.map_append, hone, ers_map, ers_map, List.map_append, List.map_append]
    show _ ++ [one f x.1] = _ ++ [some (er X)]
    rw [hx]
  · intro y hy
    rcases List.mem_append.1 hy with h | h
    · refine inP_of ?_ y (hin y h)
      intro b hb'
      obtain ⟨c1, c2, c3⟩ := hb'
      refine ⟨⟨c1, by omega, ?_⟩, ?_⟩
      · intro e
        injection e with e
        have e' : b = g := e
        rcases h3 with h3 | h3
        · exact c3 (by rw [e']; exact h3)
        · omega
      · intro k
        exact (World.cell?_of_block (w := W7) (a := ⟨b, k, none⟩) (h4.block b (by omega) c3 (by omega))).trans (hb.cell (p := ⟨b, k, none⟩) c2)
    · simp at h
      subst h
      refine inP_of ?_ y hX
      intro b hb'
      obtain ⟨c1, c2⟩ := hb'
      refine ⟨⟨by omega, by omega, ?_⟩, ?_⟩
      · intro e
        injection e with e
        have e' : b = g := e
        rcases h3 with h3 | h3
        · have := hvl g h3
          omega
        · omega
      · intro k
        exact World.cell?_of_block (w := W7) (a := ⟨b, k, none⟩) (h4.block b c2 (fun e => by have := hvl b e; omega) (by omega))
  · exact BWd.trans ((hb.mono (by omega)).trans (h4.below (n := ys.length) (cl := cl) (owns_below hownd hb) (Nat.le_refl _) (Nat.le_refl _) (by omega)))
theorem ItIn.set1 {b : Nat} {l : Bool} {t t' : ByteArray} {a : Option Addr} {c : Nat} {xs : List Im} {W : World} (h : ItIn b (.mk l t a c xs) W) : ItIn b (.mk l t' a c xs) (W.setCell ⟨b, 1, none⟩ (.string t')) := heap_setCell_same W b 1 _ _ _ h
theorem ItIn.set0 {b : Nat} {l l' : Bool} {t : ByteArray} {a : Option Addr} {c : Nat} {xs : List Im} {W : World} (h : ItIn b (.mk l t a c xs) W) : ItIn b (.mk l' t a c xs) (W.setCell ⟨b, 0, none⟩ (.bool l')) := heap_setCell_same W b 0 _ _ _ h
theorem ItIn.set2 {b : Nat} {l : Bool} {t : ByteArray} {a a' : Option Addr} {c c' : Nat} {xs xs' : List Im} {W : World} (h : ItIn b (.mk l t a c xs) W) : ItIn b (.mk l t a' c' xs') (W.setCell ⟨b, 2, none⟩ (.slice a' xs'.length c')) := heap_setCell_same W b 2 _ _ _ h
def DStop {s : ByteArray} (f z bO : Nat) (w : World) (c : Code) (pre : List (Pe s)) (W : World) : Prop := c = Code.exit 0 ∧ Bx bO 4 (.bool false) W ∧ Below z w W ∧ ∃ e, e ∈ pre.map (·.1) ∧ one f e = none

end Go.Proofs.YtfdjiofogohcmaaGreatDoor
namespace Go.Proofs.YtfdjiofogohcmaaGreatDoor
open Go.RowKit Go.Shelf Go.Sort

theorem ps_mem : ∀ (N : Nat) (s : ByteArray), s.size ≤ N → ∀ e, e ∈ ps s → e.2.size ≤ s.size ∧ (e.1 = 2 → e.2.size < s.size)
  | N, s, h, e, he => by
    rw [ps_eq] at he
    split at he
    · cases he
    · split at he
      · simp at he
        subst he
        exact ⟨Nat.zero_le _, fun h => by cases h⟩
      · rename_i h0 h1
        have h2 := cutK_lt s (by omega) h1
        rcases List.mem_cons.1 he with he | he
        · obtain ⟨q1, q2, q3⟩ := h2
          generalize (cutK s).1 = a1 at *
          generalize (cutK s).2.1 = a2 at *
          subst he
          exact ⟨q1, q2⟩
        · match N, h with
          | 0, h => omega
          | N + 1, h =>
            have := ps_mem N (cutK s).2.2 (by omega) e he
            exact ⟨by omega, fun h => by have := this.2 h; omega⟩

def zeroI : Im := .mk false ⟨#[]⟩ none 0 []
/-- What Decode answers. -/
def DecR (s : ByteArray) (x : Im) (e : Int) : Prop :=
  (65536 < s.size ∧ e = 42 ∧ x = zeroI) ∨ (s.size ≤ 65536 ∧ (∀ y, decF 65537 s ≠ some [y]) ∧ e = 40 ∧ x = zeroI) ∨
    (s.size ≤ 65536 ∧ ∃ y : Im, decF 65537 s = some [er y] ∧ ((deep y = true ∧ e = 41 ∧ x = zeroI) ∨ (deep y = false ∧ e = 0 ∧ x = y)))

end Go.Proofs.YtfdjiofogohcmaaGreatDoor
namespace Go.Proofs.YtfdjiofogohcmaaGreatDoor
open Go.RowKit Go.Shelf Go.Sort

theorem num_size (n : Nat) : (numOf n).size = blen n := by8_size _ _
theorem num_at (n j : Nat) (h : j < blen n) : bt (numOf n) j = nAt n (blen n) j := bt_by8 _ _ (nAt_bd n _) j h
theorem num_8 (n : Nat) (hn : n < 18446744073709551616) : blen n ≤ 8 := blen_le n 8 hn
theorem blen_zero (n : Nat) : blen n = 0 ↔ n = 0 := by
  constructor
  · intro h
    by_cases h0 : n = 0
    · exact h0
    · rw [blen_pos n h0] at h
      cases h
  · intro h
    rw [h, blen_0]
theorem num_first (n : Nat) (h : 0 < blen n) : bt (numOf n) 0 ≠ 0 := by
  rw [num_at n 0 h]
  unfold nAt
  rw [Nat.sub_zero]
  have h1 := (div_pos n (blen n - 1)).2 (by omega)
  have h2 : ¬ 0 < n / 256 ^ blen n := fun h2 => by have := (div_pos n (blen n)).1 h2; omega
  have h3 : n / 256 ^ (blen n - 1) / 256 = n / 256 ^ blen n := by
    rw [Nat.div_div_eq_div_mul, ← Nat.pow_succ, show (blen n - 1).succ = blen n by omega]
  obtain ⟨q, hq⟩ : ∃ q, n / 256 ^ (blen n - 1) = q := ⟨_, rfl⟩
  rw [hq] at h1 h3 ⊢
  omega
theorem num_good (n : Nat) (hn : n < 18446744073709551616) : vGood (numOf n) = true := by
  unfold vGood
  rw [num_size, decide_eq_true (num_8 n hn), Bool.true_and]
  by_cases h : blen n = 0
  · rw [decide_eq_true h]; rfl
  · rw [decide_eq_true (num_first n (by omega)), Bool.or_true]
theorem num_val (n : Nat) : ∀ k, k ≤ blen n → val (numOf n) k = n / 256 ^ (blen n - k)
  | 0, _ => by
    show 0 = _
    have h2 : ¬ 0 < n / 256 ^ blen n := fun h2 => by have := (div_pos n (blen n)).1 h2; omega
    rw [Nat.sub_zero]
    obtain ⟨q, hq⟩ : ∃ q, n / 256 ^ blen n = q := ⟨_, rfl⟩
    rw [hq] at h2 ⊢
    omega
  | k + 1, h => by
    show val (numOf n) k * 256 + (bt (numOf n) k).toNat = _
    rw [num_val n k (by omega), num_at n k (by omega)]
    unfold nAt
    rw [show blen n - 1 - k = blen n - (k + 1) by omega, Int.toNat_natCast]
    have h3 : n / 256 ^ (blen n - (k + 1)) / 256 = n / 256 ^ (blen n - k) := by
      rw [Nat.div_div_eq_div_mul, ← Nat.pow_succ, show (blen n - (k + 1)).succ = blen n - k by omega]
    rw [← h3]
    omega
theorem num_back (n : Nat) (hn : n < 18446744073709551616) : vN (numOf n) = n ∧ vE (numOf n) = 0 := by
  unfold vN vE
  rw [num_good n hn, if_pos rfl, if_pos rfl, num_size, num_val n _ (Nat.le_refl _), Nat.sub_self, Nat.pow_zero, Nat.div_one]
  exact ⟨rfl, rfl⟩
theorem num_inj (n m : Nat) (hn : n < 18446744073709551616) (hm : m < 18446744073709551616) (h : numOf n = numOf m) : n = m := by
  rw [← (num_back n hn).1, h, (num_back m hm).1]
theorem blen_mono (n m : Nat) (h : n ≤ m) : blen n ≤ blen m := by
  by_cases h0 : blen n = 0
  · omega
  · have h1 := (div_pos n (blen n - 1)).2 (by omega)
    have h2 : 0 < m / 256 ^ (blen n - 1) := Nat.lt_of_lt_of_le h1 (Nat.div_le_div_right h)
    have := (div_pos m (blen n - 1)).1 h2
    omega
theorem val_div (s : ByteArray) (j : Nat) : ∀ k, val s (j + k) / 256 ^ k = val s j
  | 0 => by rw [Nat.pow_zero, Nat.div_one]; rfl
  | k + 1 => by
    have h := val_div s j k
    have hb := bt_bd s (j + k)
    show (val s (j + k) * 256 + (bt s (j + k)).toNat) / 256 ^ (k + 1) = _
    rw [Nat.pow_succ, Nat.mul_comm (256 ^ k) 256, ← Nat.div_div_eq_div_mul, show (val s (j + k) * 256 + (bt s (j + k)).toNat) / 256 = val s (j + k) by omega]
    exact h
theorem val_blen (s : ByteArray) (h : s.size = 0 ∨ bt s 0 ≠ 0) : blen (val s s.size) = s.size := by
  have hlt := val_lt s s.size
  have h1 : ¬ s.size < blen (val s s.size) := fun hc => by
    have := (div_pos _ _).2 hc
    rw [Nat.div_eq_of_lt hlt] at this
    omega
  by_cases h0 : s.size = 0
  · omega
  · have h2 := val_div s 1 (s.size - 1)
    rw [show 1 + (s.size - 1) = s.size by omega] at h2
    have hb := bt_bd s 0
    have h3 : val s 1 = (bt s 0).toNat := by show 0 * 256 + (bt s 0).toNat = _; omega
    have := (div_pos (val s s.size) (s.size - 1)).1 (by rw [h2, h3]; have := h.resolve_left h0; omega)
    omega
theorem val_num (s : ByteArray) (h : vE s = 0) : numOf (vN s) = s := by
  have hg : vGood s = true := by
    unfold vE at h
    split at h
    · assumption
    · cases h
  unfold vN
  rw [hg, if_pos rfl]
  have h2 : s.size = 0 ∨ bt s 0 ≠ 0 := by
    unfold vGood at hg
    simp only [Bool.and_eq_true, Bool.or_eq_true, decide_eq_true_eq] at hg
    exact hg.2
  have hb := val_blen s h2
  refine ext_bt _ _ (by rw [num_size, hb]) fun j hj => ?_
  rw [num_size, hb] at hj
  rw [num_at _ j (by rw [hb]; exact hj), hb]
  unfold nAt
  have h3 := val_div s (j + 1) (s.size - 1 - j)
  rw [show j + 1 + (s.size - 1 - j) = s.size by omega] at h3
  rw [h3]
  have hbd := bt_bd s j
  show (((val s j * 256 + (bt s j).toNat) % 256 : Nat) : Int) = _
  omega
theorem vN_lt (s : ByteArray) : vN s < 18446744073709551616 := by
  unfold vN
  split
  · rename_i hg
    unfold vGood at hg
    simp only [Bool.and_eq_true, decide_eq_true_eq] at hg
    refine Nat.lt_of_lt_of_le (val_lt s s.size) ?_
    have : 256 ^ s.size ≤ 256 ^ 8 := Nat.pow_le_pow_right (by decide) hg.1
    exact Nat.le_trans this (by decide)
  · decide
end Go.Proofs.YtfdjiofogohcmaaGreatDoor
namespace Go.Proofs.YtfdjiofogohcmaaGreatDoor
open Go.RowKit Go.Shelf Go.Sort

/-- Deeper than so much? -/
def dpr : Nat → Im → Bool
  | 0, _ => true
  | m + 1, x => x.xs.any (dpr m)
theorem any_take (xs : List Im) (g : Im → Bool) (k : Nat) (y : Im) (h : xs[k]? = some y) : (xs.take (k + 1)).any g = ((xs.take k).any g || g y) := by
  rw [List.take_add_one, h, List.any_append]
  simp

set_option maxRecDepth 20000 in
set_option maxHeartbeats 2000000 in
theorem rdeep_any : ∀ (m : Nat) (x : Im), m < 100 → cnt x < 100000000000000000 → ∀ (n : Nat) (w : World), n ≤ w.heap.size → inMem n w x →
    Calls Tryz.prog 72 #[x.val, .int .i64 m] w fun e w' => e = .returned (.bool (dpr m x)) ∧ Below w.heap.size w w'
  | 0, x, _, _, n, w, hn, hm => by
    obtain ⟨l, t, a, c, xs⟩ := x
    show Calls Tryz.prog 72 #[.agg #[.bool l, .string t, .slice a xs.length c], .int .i64 0] w _
    go_enter Tryz.func72, Tryz.ntmps72
    go_wp2
    go_ret
    exact ⟨rfl, (Below.refl _ w).alloc (Nat.le_refl _) _⟩
  | m + 1, x, hm100, hcnt, n, w, hn, hm => by
    have IH := fun (j : Nat) (y : Im) (hy : x.xs[j]? = some y) (w : World) hn hm => rdeep_any m y (by omega) (by have := cnts_at x.xs j y hy; rw [cnt_eq] at hcnt; omega) n w hn hm
    rw [inMem_eq] at hm
    have hl := len_cnts x.xs
    rw [cnt_eq] at hcnt
    obtain ⟨l, t, a, c, xs⟩ := x
    replace hm : rowMem n w a 0 xs := hm
    replace hl : xs.length ≤ cnts xs := hl
    replace hcnt : cnts xs + 1 < 100000000000000000 := hcnt
    show Calls Tryz.prog 72 #[.agg #[.bool l, .string t, .slice a xs.length c], .int .i64 ((m + 1 : Nat) : Int)] w fun e w' => e = .returned (.bool (xs.any (dpr m))) ∧ _
    have IH' : ∀ (j : Nat) (y : Im), xs[j]? = some y → ∀ w : World, n ≤ w.heap.size → inMem n w y → Calls Tryz.prog 72 #[y.val, .int .i64 m] w fun e w' => e = .returned (.bool (dpr m y)) ∧ Below w.heap.size w w' := IH
    clear IH
    have l0 : ¬ ((m + 1 : Nat) : Int) < 1 := by omega
    have wm : ((m + 1 : Nat) : Int) - 1 = m := by omega
    obtain ⟨M, hM⟩ : ∃ M, m + 1 = M := ⟨_, rfl⟩
    rw [hM] at l0 wm ⊢
    clear hM
    go_enter Tryz.func72, Tryz.ntmps72
    go_wp2_with fail
    have hbx : ItIn w.heap.size (.mk l t a c xs) (w.alloc (.cells #[.bool l, .string t, .slice a xs.length c] 47)) := World.alloc_heap_new w _
    refine wpOf (fun W => Below w.heap.size w W ∧ ItIn w.heap.size (.mk l t a c xs) W) ⟨(Below.refl _ w).alloc (Nat.le_refl _) _, hbx⟩ ?_
    rintro w1 ⟨B1, hb1⟩
    clear hbx
    obtain ⟨z, hz⟩ : ∃ z, w.heap.size = z := ⟨_, rfl⟩
    have HZ : Hid (w.heap.size = z) := hz
    rw [hz] at B1 hb1 hn ⊢
    obtain ⟨N, hN⟩ : ∃ N, xs.length = N := ⟨_, rfl⟩
    rw [hN] at hl ⊢
    go_loopg [5] N (fun gk i wr => ∃ k : Nat, k + gk = N ∧ i = .int .i64 k ∧ (xs.take k).any (dpr m) = false ∧ Below z w wr ∧ ItIn z (.mk l t a c xs) wr)
    case atStart => exact ⟨0, by omega, rfl, rfl, B1, hb1⟩
    case round =>
      obtain ⟨k, hk, rfl, hany, BW, hbx⟩ := hrel
      have hzr := hbx.lt
      have d2 : wr.cell? ⟨z, 2, none⟩ = some (.slice a N c) := by rw [Lib.cell_of_heap hbx, ← hN]; rfl
      by_cases hlt : k < N
      · have l1 : (k : Int) < N := by omega
        obtain ⟨y, hy⟩ : ∃ y, xs[k]? = some y := ⟨xs[k]'(by omega), List.getElem?_eq_getElem (by omega)⟩
        obtain ⟨⟨b, o, hb, rfl, c0, c1, c2⟩, hy2⟩ := row_at xs 0 hm k y hy
        have hy3 := inMem_below (by rw [hz]; exact hn) (BW.mono hn) y hy2
        have hbz : b < z := by omega
        replace c0 := (BW.cell (p := ⟨b, _, none⟩) hbz).trans c0
        replace c1 := (BW.cell (p := ⟨b, _, none⟩) hbz).trans c1
        replace c2 := (BW.cell (p := ⟨b, _, none⟩) hbz).trans c2
        obtain ⟨p, hp⟩ : ∃ p, o + 3 * k = p := ⟨_, rfl⟩
        rw [show o + 3 * (0 + k) = p by omega] at c0 c1 c2
        have hp2 : o + k * 3 = p := by omega
        have KS := IH' k y hy
        have hst := any_take xs (dpr m) k y hy
        rw [hany, Bool.false_or] at hst
        obtain ⟨dy, hdy⟩ : ∃ q, dpr m y = q := ⟨_, rfl⟩
        rw [hdy] at KS hst
        have wk : IntKind.i64.wrap ((k : Int) + 1) = ((k + 1 : Nat) : Int) := by rw [IntKind.wrap_i64]; omega
        have HD : Hid _ := hdy
        clear hdy
        have hmem : Hid (y ∈ xs) := List.mem_of_getElem? hy
        obtain ⟨yl, yt, ya, yc, yx⟩ := y
        simp only [Im.l, Im.t, Im.sl, Im.a, Im.xs, Im.c] at c0 c1 c2
        have HX : Hid (_ ∧ _ ∧ _ ∧ _) := ⟨hst, BW, hbx, hany⟩
        clear hst hany
        go_wp2_with fail
        refine (KS _ (by omega) hy3).mono ?_
        rintro e w3 ⟨rfl, B3⟩
        clear KS hy3 hy2 c0 c1 c2
        cases dy with
        | true =>
          go_wp2
          go_ret
          refine ⟨?_, by rw [hz]; exact belowStep HX.out.2.1 (by omega) B3⟩
          rw [show xs.any (dpr m) = true from List.any_eq_true.2 ⟨_, hmem.out, HD.out⟩]
          rfl
        | false =>
          go_wp2
          go_roundg (gk - 1)
          case measure => omega
          case rel =>
            obtain ⟨hst, BW, hbx, _⟩ := HX.out
            exact ⟨k + 1, by omega, by first | rfl | (congr 1; omega), hst, belowStep BW (by omega) B3, (B3.block z hzr).trans hbx⟩
      · have hk2 : k = N := by omega
        have l1 : ¬ (k : Int) < N := by omega
        rw [hk2, ← hN, List.take_length] at hany
        have HX : Hid _ := hany
        clear hany
        go_wp2
        go_ret
        exact ⟨by rw [HX.out]; rfl, BW⟩
end Go.Proofs.YtfdjiofogohcmaaGreatDoor
namespace Go.Proofs.YtfdjiofogohcmaaGreatDoor
open Go.RowKit Go.Shelf Go.Sort

mutual
/-- An item's bytes. -/
def encI : It → ByteArray
  | .mk l t xs => if l then hdB 192 (encIs xs).size ++ encIs xs else if bare t then t else hdB 128 t.size ++ t
def encIs : List It → ByteArray
  | [] => ⟨#[]⟩
  | x :: r => encI x ++ encIs r
end
mutual
/-- Is it right? -/
def rgI : It → Bool
  | .mk l t xs => (if l then decide (t.size = 0) else decide (xs.length = 0)) && rgIs xs
def rgIs : List It → Bool
  | [] => true
  | x :: r => rgI x && rgIs r
end
mutual
def cntI : It → Nat
  | .mk _ _ xs => cntIs xs + 1
def cntIs : List It → Nat
  | [] => 0
  | x :: r => cntI x + cntIs r
end
/-- Deeper than so much? -/
def dprI : Nat → It → Bool
  | 0, _ => true
  | m + 1, .mk _ _ xs => xs.any (dprI m)
mutual
theorem cnt_er : ∀ x, cnt x = cntI (er x)
  | .mk l t a c xs => by show cnts xs + 1 = cntIs (ers xs) + 1; rw [cnts_er xs]
theorem cnts_er : ∀ xs, cnts xs = cntIs (ers xs)
  | [] => rfl
  | x :: r => by show cnt x + cnts r = cntI (er x) + cntIs (ers r); rw [cnt_er x, cnts_er r]
end
theorem dpr_er : ∀ (m : Nat) (x : Im), dpr m x = dprI m (er x)
  | 0, _ => rfl
  | m + 1, .mk l t a c xs => by
    show xs.any (dpr m) = (ers xs).any (dprI m)
    rw [ers_map, List.any_map]
    congr 1
    funext y
    exact dpr_er m y
theorem any_deep (m d : Nat) (h : d + m = 13) : ∀ x, (pro d x).any (fun e => decide (12 < e.1)) = dpr m x := by
  induction m generalizing d with
  | zero =>
    intro x
    rw [pro_eq, List.any_cons]
    have : decide (12 < d) = true := decide_eq_true (by omega)
    rw [this, Bool.true_or]
    rfl
  | succ m ih =>
    intro x
    have ihl : ∀ xs, (pros (d + 1) xs).any (fun e => decide (12 < e.1)) = xs.any (dpr m) := by
      intro xs
      induction xs with
      | nil => rfl
      | cons y r ihr =>
        show (pro (d + 1) y ++ pros (d + 1) r).any _ = (dpr m y || r.any (dpr m))
        rw [List.any_append, ih (d + 1) (by omega) y, ihr]
    have : decide (12 < d) = false := decide_eq_false (by omega)
    rw [pro_eq, List.any_cons, this, Bool.false_or, ihl]
    rfl
theorem deep_er (x : Im) : deep x = dprI 12 (er x) := by
  rw [← dpr_er]
  exact any_deep 12 1 rfl x
mutual
theorem rg_er (d : Nat) : ∀ x, (pro d x).all (fun e => rgt e.2) = rgI (er x)
  | .mk l t a c xs => by
    show (rgt (.mk l t a c xs) && (pros (d + 1) xs).all (fun e => rgt e.2)) = ((if l then decide (t.size = 0) else decide ((ers xs).length = 0)) && rgIs (ers xs))
    rw [rgs_er (d + 1) xs, ers_map, List.length_map]
    rfl
theorem rgs_er (d : Nat) : ∀ xs, (pros d xs).all (fun e => rgt e.2) = rgIs (ers xs)
  | [] => rfl
  | x :: r => by
    show (pro d x ++ pros d r).all _ = (rgI (er x) && rgIs (ers r))
    rw [List.all_append, rg_er d x, rgs_er d r]
end
theorem right_er (x : Im) : right x = rgI (er x) := rg_er 1 x

theorem hdB_hsz (b n : Nat) : (hdB b n).size = hsz n := by
  unfold hdB hsz
  split
  · rfl
  · rw [ByteArray.size_append, num_size]
    rfl
mutual
theorem sz_er : ∀ x, rgI (er x) = true → szOf x = (encI (er x)).size
  | .mk l t a c xs, h => by
    have h' : ((if l then decide (t.size = 0) else decide ((ers xs).length = 0)) && rgIs (ers xs)) = true := h
    rw [Bool.and_eq_true] at h'
    have hx := szs_er xs h'.2
    rw [szOf_eq]
    show (if (!l && bare t) = true then t.size else hsz (t.size + szs xs) + (t.size + szs xs)) = (if l then hdB 192 (encIs (ers xs)).size ++ encIs (ers xs) else if bare t then t else hdB 128 t.size ++ t).size
    rw [hx]
    cases l with
    | true =>
      have h0 : t.size = 0 := of_decide_eq_true h'.1
      rw [if_neg (by simp), if_pos rfl, h0, Nat.zero_add, ByteArray.size_append, hdB_hsz]
    | false =>
      have h0 : (ers xs).length = 0 := of_decide_eq_true h'.1
      have h1 : ers xs = [] := List.length_eq_zero_iff.1 h0
      rw [h1]
      have h2 : (encIs []).size = 0 := rfl
      rw [h2, Nat.add_zero]
      cases hb : bare t with
      | true => rw [if_pos (by simp), if_neg (by simp), if_pos rfl]
      | false => rw [if_neg (by simp), if_neg (by simp), if_neg (by simp), ByteArray.size_append, hdB_hsz]
theorem szs_er : ∀ xs, rgIs (ers xs) = true → szs xs = (encIs (ers xs)).size
  | [], _ => rfl
  | x :: r, h => by
    have h' : (rgI (er x) && rgIs (ers r)) = true := h
    rw [Bool.and_eq_true] at h'
    show szOf x + szs r = (encI (er x) ++ encIs (ers r)).size
    rw [ByteArray.size_append, sz_er x h'.1, szs_er r h'.2]
end
theorem cat_go (l : List (Nat × Im)) : ∀ b : ByteArray, l.foldl (fun b e => b ++ hOf e.2 ++ e.2.t) b = b ++ cat l := by
  induction l with
  | nil => intro b; show b = b ++ ⟨#[]⟩; exact (ByteArray.append_empty).symm
  | cons e r ih =>
    intro b
    show r.foldl _ (b ++ hOf e.2 ++ e.2.t) = b ++ r.foldl _ (⟨#[]⟩ ++ hOf e.2 ++ e.2.t)
    rw [ih, ih (⟨#[]⟩ ++ hOf e.2 ++ e.2.t), show ((⟨#[]⟩ : ByteArray) ++ hOf e.2) = hOf e.2 from ByteArray.empty_append]
    simp only [ByteArray.append_assoc]
theorem cat_app (a b : List (Nat × Im)) : cat (a ++ b) = cat a ++ cat b := by
  show (a ++ b).foldl _ _ = _
  rw [List.foldl_append]
  exact cat_go b _
theorem cat_cons (e : Nat × Im) (r : List (Nat × Im)) : cat (e :: r) = hOf e.2 ++ e.2.t ++ cat r := by
  show r.foldl _ (⟨#[]⟩ ++ hOf e.2 ++ e.2.t) = _
  rw [cat_go, show ((⟨#[]⟩ : ByteArray) ++ hOf e.2) = hOf e.2 from ByteArray.empty_append]
theorem size_0 (t : ByteArray) (h : t.size = 0) : t = ⟨#[]⟩ := by
  refine ext_bt _ _ (by rw [h]; rfl) fun j hj => ?_
  omega
mutual
theorem cat_er (d : Nat) : ∀ x, rgI (er x) = true → cat (pro d x) = encI (er x)
  | .mk l t a c xs, h => by
    have h' : ((if l then decide (t.size = 0) else decide ((ers xs).length = 0)) && rgIs (ers xs)) = true := h
    rw [Bool.and_eq_true] at h'
    have hx := szs_er xs h'.2
    have hc := cats_er (d + 1) xs h'.2
    show cat ((d, Im.mk l t a c xs) :: pros (d + 1) xs) = if l then hdB 192 (encIs (ers xs)).size ++ encIs (ers xs) else if bare t then t else hdB 128 t.size ++ t
    rw [cat_cons, hc]
    show (if l then hdB 192 (t.size + szs xs) else if bare t then ⟨#[]⟩ else hdB 128 t.size) ++ t ++ encIs (ers xs) = _
    rw [hx]
    cases l with
    | true =>
      have h0 : t.size = 0 := of_decide_eq_true h'.1
      rw [if_pos rfl, if_pos rfl, h0, Nat.zero_add, size_0 t h0]
      rw [show ∀ q : ByteArray, q ++ ⟨#[]⟩ = q from fun q => ByteArray.append_empty]
    | false =>
      have h0 : (ers xs).length = 0 := of_decide_eq_true h'.1
      have h1 : ers xs = [] := List.length_eq_zero_iff.1 h0
      rw [h1]
      show (if false = true then _ else if bare t then (⟨#[]⟩ : ByteArray) else hdB 128 t.size) ++ t ++ ⟨#[]⟩ = if false = true then _ else if bare t then t else hdB 128 t.size ++ t
      rw [show ∀ q : ByteArray, q ++ ⟨#[]⟩ = q from fun q => ByteArray.append_empty]
      cases bare t with
      | true => exact ByteArray.empty_append
      | false => rfl
theorem cats_er (d : Nat) : ∀ xs, rgIs (ers xs) = true → cat (pros d xs) = encIs (ers xs)
  | [], _ => rfl
  | x :: r, h => by
    have h' : (rgI (er x) && rgIs (ers r)) = true := h
    rw [Bool.and_eq_true] at h'
    show cat (pro d x ++ pros d r) = encI (er x) ++ encIs (ers r)
    rw [cat_app, cat_er d x h'.1, cats_er d r h'.2]
end

/-- What an item comes to, or why not. -/
def eE (x : It) : Int := if dprI 12 x then 41 else if rgI x then (if 65536 < (encI x).size then 42 else 0) else 2
def eS (x : It) : ByteArray := if eE x = 0 then encI x else ⟨#[]⟩
theorem encE_er (x : Im) : encE x = eE (er x) := by
  unfold encE eE
  rw [deep_er, right_er]
  cases hr : rgI (er x) with
  | true => rw [sz_er x hr]
  | false => rfl
theorem eE_0 {x : It} (h : eE x = 0) : dprI 12 x = false ∧ rgI x = true ∧ (encI x).size ≤ 65536 := by
  unfold eE at h
  cases h1 : dprI 12 x with
  | true => rw [h1] at h; simp at h
  | false =>
    cases h2 : rgI x with
    | false => rw [h1, h2] at h; simp at h
    | true =>
      rw [h1, h2] at h
      simp only [Bool.false_eq_true, if_false, if_true] at h
      refine ⟨rfl, rfl, ?_⟩
      split at h
      · cases h
      · omega
theorem encS_er (x : Im) : encS x = eS (er x) := by
  unfold encS eS
  rw [encE_er]
  by_cases h : eE (er x) = 0
  · rw [if_pos h, if_pos h]
    exact cat_er 1 x (eE_0 h).2.1
  · rw [if_neg h, if_neg h]
theorem one_none (F : Nat) (b : ByteArray) : one F (0, b) = none := rfl
theorem one_text (F : Nat) (b : ByteArray) : one F (1, b) = some (.mk false b []) := rfl
theorem one_list (F : Nat) (b : ByteArray) : one F (2, b) = (decF F b).map (It.mk true ⟨#[]⟩) := rfl
theorem ext_size (s : ByteArray) (f t : Nat) (h : t ≤ s.size) : (s.extract f t).size = t - f := by rw [ByteArray.size_extract]; omega
/-- No more items are read than there are bytes. -/
theorem cnt_step (F : Nat) (hF : ∀ s its, decF F s = some its → cntIs its ≤ s.size) (s : ByteArray) (e : Nat) (he : e ≤ s.size) : ∀ (n p : Nat), e - p ≤ n → ∀ its, comb (one F) (ps (s.extract p e)) = some its → cntIs its ≤ e - p
  | n, p, hn, its, h => by
    by_cases hp : e ≤ p
    · rw [ps_none s p e hp] at h
      cases h
      exact Nat.zero_le _
    · rw [ps_itP s p e he (by omega)] at h
      have h0 := ext0_size s e he
      cases hi : itP (s.extract 0 e) p with
      | none => rw [hi] at h; cases h
      | some q =>
        obtain ⟨f, t, l⟩ := q
        have hb := itP_le (by rw [h0]; omega) hi
        rw [h0] at hb
        rw [hi] at h
        dsimp only at h
        rw [comb_cons] at h
        cases ho : one F (if l = true then 2 else 1, s.extract f t) with
        | none => rw [ho] at h; cases h
        | some x =>
          cases hr : comb (one F) (ps (s.extract t e)) with
          | none => rw [ho, hr] at h; cases h
          | some r =>
            rw [ho, hr] at h
            cases h
            match n, hn with
            | 0, hn => omega
            | n + 1, hn =>
              have ih := cnt_step F hF s e he n t (by omega) r hr
              show cntI x + cntIs r ≤ e - p
              cases l with
              | false =>
                cases ho
                show 1 + cntIs r ≤ _
                omega
              | true =>
                have ho' : (decF F (s.extract f t)).map (It.mk true ⟨#[]⟩) = some x := ho
                cases hd : decF F (s.extract f t) with
                | none => rw [hd] at ho'; cases ho'
                | some l =>
                  rw [hd] at ho'
                  cases ho'
                  have h1 := hF _ _ hd
                  rw [ext_size s f t (by omega)] at h1
                  have h2 := hb.2.2.2.2 rfl
                  show cntIs l + 1 + cntIs r ≤ _
                  omega
theorem cnt_dec : ∀ (F : Nat) (s : ByteArray) (its : List It), decF F s = some its → cntIs its ≤ s.size
  | 0, s, its, h => by
    cases h
    exact Nat.zero_le _
  | F + 1, s, its, h => by
    rw [decF_succ] at h
    have := cnt_step F (cnt_dec F) s s.size (Nat.le_refl _) s.size 0 (by omega) its (by rw [ext_all]; exact h)
    exact this
theorem cnt_one {F : Nat} {s : ByteArray} {y : Im} (h : decF F s = some [er y]) : cnt y ≤ s.size := by
  have := cnt_dec F s _ h
  rw [cnt_er]
  exact this
end Go.Proofs.YtfdjiofogohcmaaGreatDoor
namespace Go.Proofs.YtfdjiofogohcmaaGreatDoor
open Go.RowKit Go.Shelf Go.Sort

mutual
theorem inMem_mono {n m : Nat} (h : n ≤ m) {W : World} : ∀ x, inMem n W x → inMem m W x
  | .mk _ _ a _ xs, hm => rowMem_mono h a 0 xs hm
theorem rowMem_mono {n m : Nat} (h : n ≤ m) {W : World} (a : Option Addr) : ∀ i xs, rowMem n W a i xs → rowMem m W a i xs
  | _, [], _ => trivial
  | i, x :: r, ⟨⟨b, o, h0, h1⟩, h5, h6⟩ => ⟨⟨b, o, by omega, h1⟩, inMem_mono h x h5, rowMem_mono h a (i + 1) r h6⟩
end
theorem decR_same {s : ByteArray} {x y : Im} {e f : Int} (hx : DecR s x e) (hy : DecR s y f) : e = f ∧ er x = er y := by
  rcases hx with ⟨h1, rfl, rfl⟩ | ⟨h1, h2, rfl, rfl⟩ | ⟨h1, x', h2, h3⟩
  · rcases hy with ⟨k1, rfl, rfl⟩ | ⟨k1, k2, rfl, rfl⟩ | ⟨k1, y', k2, k3⟩
    · exact ⟨rfl, rfl⟩
    · omega
    · omega
  · rcases hy with ⟨k1, rfl, rfl⟩ | ⟨k1, k2, rfl, rfl⟩ | ⟨k1, y', k2, k3⟩
    · omega
    · exact ⟨rfl, rfl⟩
    · exact absurd k2 (h2 _)
  · rcases hy with ⟨k1, rfl, rfl⟩ | ⟨k1, k2, rfl, rfl⟩ | ⟨k1, y', k2, k3⟩
    · omega
    · exact absurd h2 (k2 _)
    · have he : er x' = er y' := by
        rw [h2] at k2
        injection k2 with k2
        injection k2
      have hd : deep x' = deep y' := by rw [deep_er, deep_er, he]
      rcases h3 with ⟨a1, rfl, rfl⟩ | ⟨a1, rfl, rfl⟩
      · rcases k3 with ⟨b1, rfl, rfl⟩ | ⟨b1, rfl, rfl⟩
        · exact ⟨rfl, rfl⟩
        · rw [hd, b1] at a1; cases a1
      · rcases k3 with ⟨b1, rfl, rfl⟩ | ⟨b1, rfl, rfl⟩
        · rw [hd, b1] at a1; cases a1
        · exact ⟨rfl, he⟩
theorem decR_cnt {s : ByteArray} {x : Im} {e : Int} (hx : DecR s x e) : cnt x ≤ 65537 := by
  rcases hx with ⟨h1, rfl, rfl⟩ | ⟨h1, h2, rfl, rfl⟩ | ⟨h1, x', h2, h3⟩
  · show 1 ≤ _; omega
  · show 1 ≤ _; omega
  · rcases h3 with ⟨a1, rfl, rfl⟩ | ⟨a1, rfl, rfl⟩
    · show 1 ≤ _; omega
    · have := cnt_one h2
      omega
end Go.Proofs.YtfdjiofogohcmaaGreatDoor
namespace Go.Proofs.YtfdjiofogohcmaaGreatDoor
open Go.RowKit Go.Shelf Go.Sort

/-- The kind of an item, and what stands behind its head. -/
def kI : It → Nat | .mk l _ _ => if l then 2 else 1
def bI : It → ByteArray | .mk l t xs => if l then encIs xs else t
theorem encI_eq (x : It) : encI x = hdK (kI x) (bI x) ++ bI x := by
  obtain ⟨l, t, xs⟩ := x
  cases l with
  | true => rfl
  | false =>
    show (if bare t then t else hdB 128 t.size ++ t) = (if bare t then ⟨#[]⟩ else hdB 128 t.size) ++ t
    cases bare t with
    | true => exact (ByteArray.empty_append).symm
    | false => rfl
theorem hdK_pos (k : Nat) (b : ByteArray) : 0 < (hdK k b ++ b).size := by
  unfold hdK
  rw [ByteArray.size_append]
  split
  · rw [hdB_hsz]; unfold hsz; split <;> omega
  · split
    · rename_i h
      unfold bare at h
      rw [Bool.and_eq_true] at h
      have := of_decide_eq_true h.1
      omega
    · rw [hdB_hsz]; unfold hsz; split <;> omega
theorem cutK_hd (k : Nat) (hk : k = 1 ∨ k = 2) (b r : ByteArray) (hb : b.size < 18446744073709551616) : cutK (hdK k b ++ b ++ r) = (k, b, r) := by
  unfold hdK
  rw [ByteArray.append_assoc]
  rcases hk with rfl | rfl
  · rw [if_neg (by decide)]
    cases hn : bare b with
    | true =>
      rw [if_pos rfl, show ((⟨#[]⟩ : ByteArray) ++ (b ++ r)) = b ++ r from ByteArray.empty_append]
      exact cut_bare b r hn
    | false =>
      rw [if_neg (by decide)]
      exact cut_text b r hb hn
  · rw [if_pos rfl]
    exact cut_list b r hb
theorem kI_or (x : It) : kI x = 1 ∨ kI x = 2 := by
  obtain ⟨l, t, xs⟩ := x
  cases l
  · exact .inl rfl
  · exact .inr rfl
theorem ps_enc (x : It) (r : ByteArray) (hb : (bI x).size < 18446744073709551616) : ps (encI x ++ r) = (kI x, bI x) :: ps r := by
  have hc := cutK_hd (kI x) (kI_or x) (bI x) r hb
  have hp := hdK_pos (kI x) (bI x)
  rw [encI_eq, ps_eq, hc, if_neg (by rw [ByteArray.size_append]; omega), if_neg (by have := kI_or x; dsimp only; omega)]
theorem encIs_le : ∀ (xs : List It) (x : It), x ∈ xs → (encI x).size ≤ (encIs xs).size
  | y :: r, x, h => by
    show _ ≤ (encI y ++ encIs r).size
    rw [ByteArray.size_append]
    rcases List.mem_cons.1 h with rfl | h
    · omega
    · have := encIs_le r x h
      omega
theorem bI_le (x : It) : (bI x).size ≤ (encI x).size := by
  rw [encI_eq, ByteArray.size_append]
  omega
theorem rgIs_mem : ∀ (xs : List It) (x : It), rgIs xs = true → x ∈ xs → rgI x = true
  | y :: r, x, h, hx => by
    have h' : (rgI y && rgIs r) = true := h
    rw [Bool.and_eq_true] at h'
    rcases List.mem_cons.1 hx with rfl | hx
    · exact h'.1
    · exact rgIs_mem r x h'.2 hx
theorem dec_list (F : Nat) : ∀ xs : List It, (encIs xs).size < 18446744073709551616 → (∀ x, x ∈ xs → one F (kI x, bI x) = some x) → comb (one F) (ps (encIs xs)) = some xs
  | [], _, _ => by
    show comb (one F) (ps ⟨#[]⟩) = _
    rw [ps_eq, if_pos (show (⟨#[]⟩ : ByteArray).size = 0 from rfl)]
    rfl
  | x :: r, hs, h => by
    have hs' : (encI x ++ encIs r).size < 18446744073709551616 := hs
    rw [ByteArray.size_append] at hs'
    have hb := bI_le x
    show comb (one F) (ps (encI x ++ encIs r)) = _
    rw [ps_enc x _ (by omega), comb_cons, h x (List.mem_cons_self ..), dec_list F r (by omega) (fun y hy => h y (List.mem_cons_of_mem _ hy))]
/-- What stands for an item is read as it was. -/
theorem one_enc : ∀ (m : Nat) (x : It), dprI m x = false → rgI x = true → (encI x).size < 18446744073709551616 → ∀ F, m ≤ F → one F (kI x, bI x) = some x
  | 0, x, h, _, _, _, _ => by cases h
  | m + 1, .mk l t xs, hd, hr, hs, F, hF => by
    have hr' : ((if l then decide (t.size = 0) else decide (xs.length = 0)) && rgIs xs) = true := hr
    rw [Bool.and_eq_true] at hr'
    cases l with
    | false =>
      have h0 : xs.length = 0 := of_decide_eq_true hr'.1
      obtain rfl := List.length_eq_zero_iff.1 h0
      rfl
    | true =>
      have h0 : t.size = 0 := of_decide_eq_true hr'.1
      rw [size_0 t h0]
      have hs' := bI_le (.mk true t xs)
      have hs2 : (encIs xs).size ≤ (encI (.mk true t xs)).size := hs'
      match F, hF with
      | F + 1, hF =>
        have hd' : xs.any (dprI m) = false := hd
        have : decF (F + 1) (encIs xs) = some xs := by
          rw [decF_succ]
          refine dec_list F xs (by omega) fun x hx => ?_
          have hle := encIs_le xs x hx
          refine one_enc m x ?_ (rgIs_mem xs x hr'.2 hx) (by omega) F (by omega)
          have := List.any_eq_false.1 hd' x hx
          simpa using this
        show (decF (F + 1) (encIs xs)).map (It.mk true ⟨#[]⟩) = _
        rw [this]
        rfl
theorem dec_enc {x : It} (h : eE x = 0) : decF 65537 (encI x) = some [x] := by
  obtain ⟨h1, h2, h3⟩ := eE_0 h
  have := dec_list 65536 [x] (by show (encI x ++ ⟨#[]⟩).size < _; rw [ByteArray.size_append]; show (encI x).size + 0 < _; omega) (fun y hy => by
    rw [List.mem_singleton] at hy
    subst hy
    exact one_enc 12 y h1 h2 (by omega) 65536 (by omega))
  rw [decF_succ]
  rw [show encIs [x] = encI x from ByteArray.append_empty] at this
  exact this
/-- What is read is written so again. -/
theorem enc_step (F : Nat) (hF : ∀ s its, s.size < F → decF F s = some its → encIs its = s ∧ rgIs its = true) : ∀ (n : Nat) (s : ByteArray), s.size ≤ n → s.size ≤ F → ∀ its, comb (one F) (ps s) = some its → encIs its = s ∧ rgIs its = true
  | n, s, hn, hsF, its, h => by
    rw [ps_eq] at h
    by_cases h0 : s.size = 0
    · rw [if_pos h0] at h
      cases h
      exact ⟨(size_0 s h0).symm, rfl⟩
    · rw [if_neg h0] at h
      by_cases h1 : (cutK s).1 = 0
      · rw [if_pos h1] at h
        cases h
      · rw [if_neg h1] at h
        obtain ⟨hk, hj⟩ := cutK_join s (by omega) h1
        have hlt := cutK_lt s (by omega) h1
        generalize cutK s = q at h hk hj hlt
        obtain ⟨k, b, r⟩ := q
        dsimp only at h hk hj hlt
        rw [comb_cons] at h
        cases ho : one F (k, b) with
        | none => rw [ho] at h; cases h
        | some x =>
          cases hr : comb (one F) (ps r) with
          | none => rw [ho, hr] at h; cases h
          | some l =>
            rw [ho, hr] at h
            cases h
            match n, hn with
            | 0, hn => omega
            | n + 1, hn =>
              obtain ⟨q1, q2⟩ := enc_step F hF n r (by omega) (by omega) l hr
              have hx : encI x = hdK k b ++ b ∧ rgI x = true := by
                rcases hk with rfl | rfl
                · cases ho
                  exact ⟨encI_eq (.mk false b []), rfl⟩
                · have ho' : (decF F b).map (It.mk true ⟨#[]⟩) = some x := ho
                  cases hd : decF F b with
                  | none => rw [hd] at ho'; cases ho'
                  | some l' =>
                    rw [hd] at ho'
                    cases ho'
                    have hb2 := hlt.2.1 rfl
                    obtain ⟨p1, p2⟩ := hF b l' (by omega) hd
                    refine ⟨?_, ?_⟩
                    · rw [encI_eq]
                      show hdK 2 (encIs l') ++ encIs l' = _
                      rw [p1]
                    · show (true && rgIs l') = true
                      rw [p2]
                      rfl
              refine ⟨?_, ?_⟩
              · show encI x ++ encIs l = s
                rw [hx.1, q1, ByteArray.append_assoc, hj]
              · show (rgI x && rgIs l) = true
                rw [hx.2, q2]
                rfl
theorem enc_all : ∀ (F : Nat) (s : ByteArray) (its : List It), s.size < F → decF F s = some its → encIs its = s ∧ rgIs its = true
  | 0, s, its, h, _ => by omega
  | F + 1, s, its, h, hd => enc_step F (enc_all F) s.size s (Nat.le_refl _) (by omega) its (by rw [decF_succ] at hd; exact hd)
theorem enc_dec {s : ByteArray} {y : It} (hs : s.size ≤ 65536) (h : decF 65537 s = some [y]) : encI y = s ∧ rgI y = true := by
  obtain ⟨h1, h2⟩ := enc_all 65537 s [y] (by omega) h
  rw [show encIs [y] = encI y from ByteArray.append_empty] at h1
  have h3 : (rgI y && true) = true := h2
  rw [Bool.and_true] at h3
  exact ⟨h1, h3⟩
/-- Bytes of an item with more behind them are no one's. -/
theorem dec_more {x : It} (h : eE x = 0) (more : ByteArray) (hm : 0 < more.size) (y : It) : decF 65537 (encI x ++ more) ≠ some [y] := by
  intro hd
  obtain ⟨h1, h2, h3⟩ := eE_0 h
  have hb := bI_le x
  rw [decF_succ, ps_enc x more (by omega), comb_cons] at hd
  cases ho : one 65536 (kI x, bI x) with
  | none => rw [ho] at hd; cases hd
  | some z =>
    cases hr : comb (one 65536) (ps more) with
    | none => rw [ho, hr] at hd; cases hd
    | some l =>
      rw [ho, hr] at hd
      cases hd
      rw [ps_eq, if_neg (by omega)] at hr
      split at hr
      · cases hr
      · rw [comb_cons] at hr
        cases h7 : one 65536 ((cutK more).1, (cutK more).2.1) <;> cases h8 : comb (one 65536) (ps (cutK more).2.2) <;> rw [h7, h8] at hr <;> cases hr
mutual
def tbI : It → Nat
  | .mk _ t xs => t.size + 9 + tbIs xs
def tbIs : List It → Nat
  | [] => 0
  | x :: r => tbI x + tbIs r
end
mutual
theorem tb_er : ∀ x, tb x = tbI (er x)
  | .mk l t a c xs => by show t.size + 9 + tbs xs = t.size + 9 + tbIs (ers xs); rw [tbs_er xs]
theorem tbs_er : ∀ xs, tbs xs = tbIs (ers xs)
  | [] => rfl
  | x :: r => by show tb x + tbs r = tbI (er x) + tbIs (ers r); rw [tb_er x, tbs_er r]
end
mutual
theorem tb_enc : ∀ x, rgI x = true → tbI x ≤ 10 * (encI x).size
  | .mk l t xs, h => by
    have h' : ((if l then decide (t.size = 0) else decide (xs.length = 0)) && rgIs xs) = true := h
    rw [Bool.and_eq_true] at h'
    have hx := tbs_enc xs h'.2
    have hp := hdK_pos (kI (.mk l t xs)) (bI (.mk l t xs))
    rw [encI_eq]
    rw [ByteArray.size_append] at hp ⊢
    cases l with
    | true =>
      have h0 : t.size = 0 := of_decide_eq_true h'.1
      have hh : 0 < (hdK (kI (.mk true t xs)) (bI (.mk true t xs))).size := by
        show 0 < (hdB 192 (encIs xs).size).size
        rw [hdB_hsz]; unfold hsz; split <;> omega
      have e : (bI (.mk true t xs)).size = (encIs xs).size := rfl
      show t.size + 9 + tbIs xs ≤ _
      omega
    | false =>
      have h0 : xs.length = 0 := of_decide_eq_true h'.1
      obtain rfl := List.length_eq_zero_iff.1 h0
      have e : (bI (.mk false t [])).size = t.size := rfl
      show t.size + 9 + 0 ≤ _
      omega
theorem tbs_enc : ∀ xs, rgIs xs = true → tbIs xs ≤ 10 * (encIs xs).size
  | [], _ => Nat.zero_le _
  | x :: r, h => by
    have h' : (rgI x && rgIs r) = true := h
    rw [Bool.and_eq_true] at h'
    have h1 := tb_enc x h'.1
    have h2 := tbs_enc r h'.2
    show tbI x + tbIs r ≤ 10 * (encI x ++ encIs r).size
    rw [ByteArray.size_append]
    omega
end
end Go.Proofs.YtfdjiofogohcmaaGreatDoor
