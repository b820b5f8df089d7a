/- The items whose bytes stand one behind the other: itemsOf. -/
import Derived.Test.YteaongogomhooaaQ17
namespace Go.Proofs.Yteaongogomhooaa
open Go.RowKit Go.Shelf Go.Sort
attribute [local go_sem] Oper.semAt_some

def comb (g : Nat × ByteArray → Option It) : List (Nat × ByteArray) → Option (List It)
  | [] => some []
  | e :: r => match g e, comb g r with
    | some x, some l => some (x :: l)
    | _, _ => none
theorem comb_some {g : Nat × ByteArray → Option It} : ∀ (l : List (Nat × ByteArray)) (its : List It), l.map g = its.map some → comb g l = some its
  | [], [], _ => rfl
  | [], _ :: _, h => by cases h
  | _ :: _, [], h => by cases h
  | e :: r, x :: l, h => by
    injection h with h1 h2
    show (match g e, comb g r with | some x, some l => some (x :: l) | _, _ => none) = _
    rw [h1, comb_some r l h2]
theorem comb_none {g : Nat × ByteArray → Option It} : ∀ (l : List (Nat × ByteArray)) (e : Nat × ByteArray), e ∈ l → g e = none → comb g l = none
  | a :: r, e, h, hn => by
    show (match g a, comb g r with | some x, some l => some (x :: l) | _, _ => none) = _
    rcases List.mem_cons.1 h with rfl | h
    · rw [hn]
    · rw [comb_none r e h hn]
      cases g a <;> rfl
/-- The items that bytes are, read no deeper than so often. -/
def decF : Nat → ByteArray → Option (List It)
  | 0, _ => some []
  | f + 1, s => comb (fun e => if e.1 = 1 then some (.mk false e.2 []) else if e.1 = 2 then (decF f e.2).map (It.mk true ⟨#[]⟩) else none) (ps s)
def one (f : Nat) (e : Nat × ByteArray) : Option It := if e.1 = 1 then some (.mk false e.2 []) else if e.1 = 2 then (decF f e.2).map (It.mk true ⟨#[]⟩) else none

/-- A block of cells. -/
def isC (W : World) (b : Nat) : Prop := ∃ c e fz, W.heap[b]? = some (.cells c e fz)
theorem isC_of {W : World} {b k : Nat} {v : Value} (h : W.cell? ⟨b, k, none⟩ = some v) : isC W b := by
  unfold World.cell? at h
  dsimp only at h
  split at h
  · rename_i c e fz hb
    exact ⟨c, e, fz, hb⟩
  · cases h
mutual
theorem inP_cells {p : Nat → Prop} {W : World} : ∀ x, inP p W x → inP (fun b => p b ∧ isC W b) W x
  | .mk _ _ a _ xs, h => rowP_cells a 0 xs h
theorem rowP_cells {p : Nat → Prop} {W : World} (a : Option Addr) : ∀ i xs, rowP p W a i xs → rowP (fun b => p b ∧ isC W b) W a i xs
  | _, [], _ => trivial
  | i, x :: r, ⟨⟨b, o, h0, h1, h2, h3, h4⟩, h5, h6⟩ => ⟨⟨b, o, ⟨h0, isC_of h2⟩, h1, h2, h3, h4⟩, inP_cells x h5, rowP_cells a (i + 1) r h6⟩
end
theorem Held.app {cl : List Value} {ys : List Im} (h : Held cl ys) (X : Im) (hl : cl.length = ys.length * 3) : Held (cl ++ cell3 X) (ys ++ [X]) := by
  intro j x hx
  by_cases hj : j < ys.length
  · rw [List.getElem?_append_left hj] at hx
    obtain ⟨h0, h1, h2⟩ := h j x hx
    rw [List.getElem?_append_left (by omega), List.getElem?_append_left (by omega), List.getElem?_append_left (by omega)]
    exact ⟨h0, h1, h2⟩
  · have hj2 : j = ys.length := by
      have := (List.getElem?_eq_some_iff.1 hx).1
      simp at this
      omega
    subst hj2
    simp at hx
    subst hx
    rw [List.getElem?_append_right (by omega), List.getElem?_append_right (by omega), List.getElem?_append_right (by omega), show 3 * ys.length - cl.length = 0 by omega, show 3 * ys.length + 1 - cl.length = 1 by omega, show 3 * ys.length + 2 - cl.length = 2 by omega]
    exact ⟨rfl, rfl, rfl⟩
theorem rowP_owned {W : World} {zz c : Nat} {ao : Option Addr} {cl : List Value} {ys : List Im} {p q : Nat → Prop} (hown : W.ownsRow zz 24 3 (.slice ao ys.length c) ys.length cl) (hheld : Held cl ys) (hin : ∀ y, y ∈ ys → inP p W y) (hpq : ∀ b, p b → q b) (hq : ∀ g, ao = some ⟨g, 0, none⟩ → q g) : rowP q W ao 0 ys := by
  rcases hown.2 with ⟨h, h0⟩ | ⟨g, cap, cur, h, _, hg, _⟩
  · have : ys = [] := List.length_eq_zero_iff.1 h0
    subst this
    exact trivial
  · injection h with h1 h2 h3
    subst h1 h3
    have key : ∀ (r : List Im) (i : Nat), ys.drop i = r → rowP q W (some ⟨g, 0, none⟩) i r := by
      intro r
      induction r with
      | nil => intro i _; trivial
      | cons y r ih =>
        intro i hi
        have hyi : ys[i]? = some y := by
          have := congrArg (·[0]?) hi
          simpa using this
        have hil := (List.getElem?_eq_some_iff.1 hyi).1
        obtain ⟨e0, e1, e2⟩ := hheld i y hyi
        refine ⟨⟨g, 0, hq g rfl, rfl, ?_, ?_, ?_⟩, ?_, ih (i + 1) ?_⟩
        · rw [show 0 + 3 * i = 3 * i by omega, hown.cellAt _ (by omega)]; exact e0
        · rw [show 0 + 3 * i + 1 = 3 * i + 1 by omega, hown.cellAt _ (by omega)]; exact e1
        · rw [show 0 + 3 * i + 2 = 3 * i + 2 by omega, hown.cellAt _ (by omega)]; exact e2
        · exact inP_of (fun b hb => ⟨hpq b hb, fun _ => rfl⟩) y (hin y (List.mem_of_getElem? hyi))
        · rw [← List.drop_drop, hi]
          rfl
    exact key ys 0 rfl
theorem Rl.keeps {W W' : World} {v u : Value} {bI zz n : Nat} {cl : List Value} (h : Rl W W' v bI) (hB : Bx bI 22 u W) (hown : W.ownsRow zz 24 3 v n cl) (B : Nat) : KeepsFrom B W W' :=
  ⟨h.size, fun k o _ hk ho => (h.block k (Array.getElem?_eq_some_iff.1 hk).1 (fun e => by
    obtain ⟨c, hc⟩ := owns_kind3 hown k e.symm
    rw [hk] at hc
    cases hc
    cases ho) (fun e => by
    rw [e, show W.heap[bI]? = _ from hB] at hk
    cases hk
    cases ho)).trans hk⟩
theorem Rl.below {W W' : World} {v : Value} {bI zz n B : Nat} {cl : List Value} (h : Rl W W' v bI) (hown : W.ownsRow zz 24 3 v n cl) (hz : B ≤ zz) (hb : B ≤ bI) (hB : B ≤ W.heap.size) : Below B W W' :=
  ⟨h.os, h.tape, h.output, h.size, fun k hk => h.block k (by omega) (fun e => by have := (hown.lt k e.symm).1; omega) (by omega)⟩
/-- The state of a round: the items so far, and that all is well. -/
def DSt {s : ByteArray} (f z bO : Nat) (w : World) (pre : List (Pe s)) (W : World) : Prop :=
  ∃ v cl ys, Bx z 22 v W ∧ Bx bO 4 (.bool true) W ∧ W.ownsRow z 24 3 v ys.length cl ∧ Held cl ys ∧ (pre.map (·.1)).map (one f) = (ers ys).map some ∧ (∀ y, y ∈ ys → inP (fun b => bO < b ∧ b < W.heap.size ∧ some b ≠ v.ownBlock) W y) ∧ Below z w W
theorem owns_own3 {A C : World} {b n : Nat} {v : Value} {xs : List Value} {row : Option Nat} (h : A.ownsRow b 24 3 v n xs) (hg : A.grownBy C row) (hr : ∀ r, row = some r → ∃ o : Obj, A.heap[r]? = some o ∧ o.isCells = false) : C.ownsRow b 24 3 v n xs := by
  refine h.kept hg ?_
  cases e' : v.ownBlock with
  | none => exact .inl rfl
  | some k =>
    obtain ⟨c, hk⟩ := owns_kind3 h k e'
    refine .inr fun e2 => ?_
    obtain ⟨o, ho, hc⟩ := hr k e2.symm
    rw [hk] at ho
    cases ho
    cases hc
theorem DSt.own {s : ByteArray} {f z bO : Nat} {w A C : World} {pre : List (Pe s)} {row : Option Nat} (h : DSt f z bO w pre A) (hg : A.grownBy C row) (hr : ∀ r, row = some r → z ≤ r ∧ ∃ o : Obj, A.heap[r]? = some o ∧ o.isCells = false) : DSt f z bO w pre C := by
  obtain ⟨v, cl, ys, h1, h2, h3, h4, h5, h6, h7⟩ := h
  have hl := h1.lt
  refine ⟨v, cl, ys, h1.own hg (fun r e => (hr r e).2), h2.own hg (fun r e => (hr r e).2), owns_own3 h3 hg (fun r e => (hr r e).2), h4, h5, fun y hy => ?_, h7.grown hg (by omega) (fun k e => (hr k e).1)⟩
  refine inP_of (fun b hb => ?_) y (inP_cells y (h6 y hy))
  obtain ⟨⟨b1, b2, b3⟩, c, e, fz, hb⟩ := hb
  have := hg.size
  refine ⟨⟨b1, by omega, b3⟩, fun k => World.cell?_of_block (w := A) (hg.block b b2 (fun e2 => ?_))⟩
  obtain ⟨_, o, ho, hc⟩ := hr b e2.symm
  rw [hb] at ho
  cases ho
  cases hc

theorem bx_same {W : World} {b : Nat} {T : TypeId} {u : Value} (h : Bx b T u W) (k : Nat) : (W.setCell ⟨b, 0, none⟩ u).heap[k]? = W.heap[k]? := by
  by_cases e : k = b
  · subst e
    exact (show (W.setCell ⟨k, 0, none⟩ u).heap[k]? = _ from h.put u).trans (show W.heap[k]? = _ from h).symm
  · exact Below.heap_setCell _ _ _ _ e
theorem below_same {B : Nat} {A W : World} {b : Nat} {T : TypeId} {u : Value} (hA : Below B A W) (h : Bx b T u W) : Below B A (W.setCell ⟨b, 0, none⟩ u) :=
  ⟨hA.os, hA.tape, hA.output, by have := hA.size; simp [World.setCell]; omega, fun k hk => (bx_same h k).trans (hA.block k hk)⟩
theorem dst_snoc {s : ByteArray} {f z bO : Nat} {w W W7 Wf : World} {pre : List (Pe s)} {x : Pe s} {v : Value} {cl : List Value} {ys : List Im} {X : Im} {g c : Nat} (hzO : z < bO)
    (hOd : Bx bO 4 (.bool true) W) (hownd : W.ownsRow z 24 3 v ys.length cl) (hheld : Held cl ys) (hone : (pre.map (·.1)).map (one f) = (ers ys).map some) (hin : ∀ y, y ∈ ys → inP (fun b => bO < b ∧ b < W.heap.size ∧ some b ≠ v.ownBlock) W y) (BWd : Below z w W)
    (hb : Below W.heap.size W W7) (hX : inP (fun b => W.heap.size ≤ b ∧ b < W7.heap.size) W7 X) (hx : one f x.1 = some (er X))
    (h1 : Bx z 22 (.slice (some ⟨g, 0, none⟩) (ys.length + 1) c) Wf) (h2 : Wf.ownsRow z 24 3 (.slice (some ⟨g, 0, none⟩) (ys.length + 1) c) (ys.length + 1) (cl ++ cell3 X)) (h3 : some g = v.ownBlock ∨ W7.heap.size ≤ g) (h4 : Rl W7 Wf v z) : DSt f z bO w (pre ++ [x]) Wf := by
  have hOw := hOd.lt
  have hs7 := hb.size
  have hs8 := h4.size
  have hvl : ∀ k, some k = v.ownBlock → k < W.heap.size := fun k e => (hownd.lt k e.symm).2
  have hOv : some bO ≠ v.ownBlock := fun e => by
    obtain ⟨c', hk⟩ := owns_kind3 hownd bO e.symm
    rw [show W.heap[bO]? = _ from hOd] at hk
    cases hk
  refine ⟨_, _, ys ++ [X], h1, ?_, ?_, hheld.app X (by rw [hownd.1]), ?_, ?_, ?_⟩
  · exact (h4.block bO (by omega) hOv (by omega)).trans ((hb.block bO hOw).trans hOd)
  · rw [List.length_append]
    exact h2
  · rw [List.map_append, List.map_append, hone, ers_map, ers_map, List.map_append, List.map_append]
    show _ ++ [one f x.1] = _ ++ [some (er X)]
    rw [hx]
  · intro y hy
    rcases List.mem_append.1 hy with h | h
    · refine inP_of ?_ y (hin y h)
      intro b hb'
      obtain ⟨c1, c2, c3⟩ := hb'
      refine ⟨⟨c1, by omega, ?_⟩, ?_⟩
      · intro e
        injection e with e
        have e' : b = g := e
        rcases h3 with h3 | h3
        · exact c3 (by rw [e']; exact h3)
        · omega
      · intro k
        exact (World.cell?_of_block (w := W7) (a := ⟨b, k, none⟩) (h4.block b (by omega) c3 (by omega))).trans (hb.cell (p := ⟨b, k, none⟩) c2)
    · simp at h
      subst h
      refine inP_of ?_ y hX
      intro b hb'
      obtain ⟨c1, c2⟩ := hb'
      refine ⟨⟨by omega, by omega, ?_⟩, ?_⟩
      · intro e
        injection e with e
        have e' : b = g := e
        rcases h3 with h3 | h3
        · have := hvl g h3
          omega
        · omega
      · intro k
        exact World.cell?_of_block (w := W7) (a := ⟨b, k, none⟩) (h4.block b c2 (fun e => by have := hvl b e; omega) (by omega))
  · exact BWd.trans ((hb.mono (by omega)).trans (h4.below (n := ys.length) (cl := cl) (owns_below hownd hb) (Nat.le_refl _) (Nat.le_refl _) (by omega)))
theorem ItIn.set1 {b : Nat} {l : Bool} {t t' : ByteArray} {a : Option Addr} {c : Nat} {xs : List Im} {W : World} (h : ItIn b (.mk l t a c xs) W) : ItIn b (.mk l t' a c xs) (W.setCell ⟨b, 1, none⟩ (.string t')) := heap_setCell_same W b 1 _ _ _ h
theorem ItIn.set0 {b : Nat} {l l' : Bool} {t : ByteArray} {a : Option Addr} {c : Nat} {xs : List Im} {W : World} (h : ItIn b (.mk l t a c xs) W) : ItIn b (.mk l' t a c xs) (W.setCell ⟨b, 0, none⟩ (.bool l')) := heap_setCell_same W b 0 _ _ _ h
theorem ItIn.set2 {b : Nat} {l : Bool} {t : ByteArray} {a a' : Option Addr} {c c' : Nat} {xs xs' : List Im} {W : World} (h : ItIn b (.mk l t a c xs) W) : ItIn b (.mk l t a' c' xs') (W.setCell ⟨b, 2, none⟩ (.slice a' xs'.length c')) := heap_setCell_same W b 2 _ _ _ h
def DStop {s : ByteArray} (f z bO : Nat) (w : World) (c : Code) (pre : List (Pe s)) (W : World) : Prop := c = Code.exit 0 ∧ Bx bO 4 (.bool false) W ∧ Below z w W ∧ ∃ e, e ∈ pre.map (·.1) ∧ one f e = none

set_option maxRecDepth 100000 in
set_option maxHeartbeats 4000000 in
theorem itemsOf_of (f : Nat) (s : ByteArray) (hs : s.size < 1000000)
    (IH : ∀ (e : Nat × ByteArray), e ∈ ps s → e.1 = 2 → ∀ w : World, Calls Try.prog 33 #[.string e.2] w fun r w' => Below w.heap.size w w' ∧
      ((decF f e.2 = none ∧ r = .returned (.tuple #[.slice none 0 0, .bool false])) ∨ ∃ a c ys, decF f e.2 = some (ers ys) ∧ r = .returned (.tuple #[.slice a ys.length c, .bool true]) ∧ rowP (fun b => w.heap.size ≤ b ∧ b < w'.heap.size) w' a 0 ys))
    (hsub : ∀ e, e ∈ ps s → e.2.size ≤ 1000000)
    (w : World) :
    Calls Try.prog 33 #[.string s] w fun r w' => Below w.heap.size w w' ∧
      ((decF (f + 1) s = none ∧ r = .returned (.tuple #[.slice none 0 0, .bool false])) ∨ ∃ a c ys, decF (f + 1) s = some (ers ys) ∧ r = .returned (.tuple #[.slice a ys.length c, .bool true]) ∧ rowP (fun b => w.heap.size ≤ b ∧ b < w'.heap.size) w' a 0 ys) := by
  have KP := parts_any s
  have KS := fun n bX w hb => parts_stops n bX s (by omega) w hb
  have hpl := ps_len s.size s (Nat.le_refl _)
  refine (callsIn_wide (n := 9)).1 ?_
  refine callsIn_of_wp_marks Try.func33 rfl trivial ?_ rfl
  refine wpIn_wide.2 ?_
  simp only [Try.ntmps33, List.size_toArray, List.length_cons, List.length_nil, Nat.reduceAdd, Nat.reduceSub, Array.replicate_succ, Array.replicate_zero, List.push_toArray, List.append_toArray, List.nil_append, List.cons_append]
  go_wp2_with fail
  refine wp_scope_straight ?_
  go_wp2_with fail
  refine wpOf (fun W => Bx w.heap.size 22 (.slice none 0 0) W ∧ Bx (w.heap.size + 1) 4 (.bool true) W ∧ Below w.heap.size w W) ?_ ?_
  · have a1 : Below w.heap.size w ((w.alloc (.cells #[.slice none 0 0] 22)).alloc (.cells #[.bool true] 4)) := ((Below.refl _ w).alloc (Nat.le_refl _) _).alloc (by simp) _
    refine ⟨(Lib.alloc_old _ _ _ (by simp)).trans (World.alloc_heap_new w _), ?_, a1⟩
    have := World.alloc_heap_new (w.alloc (.cells #[.slice none 0 0] 22)) (.cells #[.bool true] 4)
    rwa [World.size_alloc] at this
  rintro w2 ⟨hI, hO, BW2⟩
  obtain ⟨z, hz⟩ : ∃ c, w.heap.size = c := ⟨_, rfl⟩
  have HZ : Hid (w.heap.size = z) := hz
  rw [hz] at hI hO BW2 ⊢
  clear hz
  obtain ⟨bO, hbO⟩ : ∃ c, z + 1 = c := ⟨_, rfl⟩
  rw [hbO] at hO ⊢
  refine wp_label ?_
  go_wp2_with fail
  refine (KP w2).mono ?_
  rintro e w3 ⟨rfl, hw3⟩
  have a3 : Below w2.heap.size w2 w3 := by rw [hw3]; exact (Below.refl _ w2).alloc (Nat.le_refl _) _
  have hcx : Bx w2.heap.size 9 (.string s) w3 := by rw [hw3]; exact World.alloc_heap_new w2 _
  have hI3 : Bx z 22 (.slice none 0 0) w3 := (a3.block z hI.lt).trans hI
  have hO3 : Bx bO 4 (.bool true) w3 := (a3.block bO hO.lt).trans hO
  have hOw := hO.lt
  have BW3 := belowStep BW2 (by omega) a3
  clear hw3 a3 hI hO BW2 KP
  obtain ⟨bX, hbX⟩ : ∃ c, w2.heap.size = c := ⟨_, rfl⟩
  rw [hbX] at hcx hOw ⊢
  clear hbX
  go_wp2_with fail
  have hxz : bX < w3.heap.size := hcx.lt
  refine (wpIn_wide (n := 9)).1 ?_
  refine wpIn_rangeFunc_ownH rfl (by omega) (gf := 47) (lb := #[.pointer (some ⟨bX, 0, none⟩)]) rfl trivial (enters_of Try.func47 (by kernel_rfl) rfl)
    (KS _ bX w3 hcx) (fun _ _ => trivial) (fun _ _ _ _ _ _ _ _ => trivial) (Below.refl _ _) (fun _ => rfl)
    (fun pre W => DSt f z bO w pre W)
    (fun c pre W => DStop f z bO w c pre W)
    (fun s A C row hs hg hr => hs.own hg (fun r e => ⟨Nat.le_trans (by omega) (hr r e).1, (hr r e).2⟩))
    (fun c s A C row hs hg hr => ⟨hs.1, hs.2.1.own hg (fun r e => (hr r e).2), hs.2.2.1.grown hg (by have := hs.2.1.lt; omega) (fun k e => Nat.le_trans (by omega) (hr k e).1), hs.2.2.2⟩)
    ⟨_, _, [], hI3, hO3, World.ownsRow_nil _ _ _ _, (fun j y h => by cases h), rfl, (fun y h => by cases h), BW3⟩
    (fun x a' W => a' = { tmps := #[.string s, undef, .slice none 0 0, .bool false, .pointer (some ⟨z, 0, none⟩), .pointer (some ⟨bO, 0, none⟩), .int .i64 x.1.1, .string x.1.2, undef, .string s, .func (.func 47) #[] #[.pointer (some ⟨bX, 0, none⟩)], .int .i64 x.1.1, .string x.1.2, undef, undef, undef, undef, undef, undef, undef, undef, undef, undef, undef, undef, undef, undef, undef, undef, undef, undef, undef, undef, undef, undef, undef, undef, undef, undef], defers := [] })
    (fun _ _ _ _ _ _ h _ _ => h)
    ?assign ?body ?done ?stop
  case assign =>
    rintro l pre x W K hI hK
    dsimp only [pEnc]
    gi_wp2
    exact hK _ _ (KeepsFrom.refl _ _) trivial hI rfl
  case body =>
    rintro l pre x a' W hl ⟨r, hr⟩ ⟨v, cl, ys, hId, hOd, hownd, hheld, hone, hin, BWd⟩ rfl hlt
    obtain ⟨⟨k, bo⟩, hx⟩ := x
    have hsb := hsub _ hx
    have IHx := IH _ hx
    dsimp only at hsb IHx ⊢
    have hOw := hOd.lt
    have hIw := hId.lt
    have hyl : ys.length < 1000000 := by
      have := congrArg List.length hone
      rw [List.length_map, List.length_map, List.length_map, ers_map, List.length_map] at this
      omega
    have A1 : Below W.heap.size W (W.alloc (.cells #[.bool false, .string ⟨#[]⟩, .slice none 0 0] 24)) := (Below.refl _ W).alloc (Nat.le_refl _) _
    have hT1 : ItIn W.heap.size (.mk false ⟨#[]⟩ none 0 []) (W.alloc (.cells #[.bool false, .string ⟨#[]⟩, .slice none 0 0] 24)) := World.alloc_heap_new W _
    by_cases k1 : k = 1
    · subst k1
      have KC := fun w => clone_any bo w (by omega)
      gi_wp2_with fail
      refine ⟨trivial, (CallsIn.inRound l (callsIn_wide.2 (KC _))).mono ?_⟩
      rintro e w4 ⟨rfl, B4⟩
      have hT4 : ItIn W.heap.size (.mk false ⟨#[]⟩ none 0 []) w4 := (B4.block _ (by simp)).trans hT1
      have BA := belowStep A1 (by simp) B4
      have hT5 := ItIn.set1 (t' := bo) hT4
      have B5 := below_set BA W.heap.size 1 (Nat.le_refl _) (.string bo)
      have d1 : w4.cell? ⟨W.heap.size, 1, none⟩ = some (.string ⟨#[]⟩) := by rw [Lib.cell_of_heap hT4]; rfl
      have f1 := Lib.frozen_of_heap hT4 1
      have HX : Hid (_ ∧ _) := ⟨hT5, B5⟩
      clear KC A1 hT1 B4 hT4 BA hT5 B5
      gi_wp2_with fail
      obtain ⟨hT7, B7⟩ := HX.out
      refine append_item_in l _ 15 _ z W.heap.size z ys.length v cl (.mk false bo none 0 []) _ _ _ _ _ _ _ _ _ _ _ _ _ _ _ _ _ _ _ _ _ _ _ _ _ _ _ _ _ _ _ _ _ _ _ _ _ (by rintro ⟨_, _, h⟩; exact h) hyl ((B7.block z hIw).trans hId) hT7 (owns_below hownd B7) (by have := B7.size; omega) ?_
      intro a' Wf g c h1 h2 h3 h4
      refine (?_ : KeepsFrom _ W Wf ∧ True ∧ DSt f z bO w (pre ++ [_]) Wf)
      refine ⟨((ko_below B7).from _).trans (h4.keeps ((B7.block z hIw).trans hId) (owns_below hownd B7) _), trivial, dst_snoc (by omega) hOd hownd hheld hone hin BWd B7 (show inP _ _ (.mk false bo none 0 []) from trivial) rfl h1 h2 h3 h4⟩
    · have b1 : ((k : Int) == 1) = false := by rw [beq_eq_false_iff_ne]; omega
      by_cases k2 : k = 2
      · subst k2
        have A2 : Below W.heap.size W (W.alloc (.cells #[.bool true, .string ⟨#[]⟩, .slice none 0 0] 24)) := (Below.refl _ W).alloc (Nat.le_refl _) _
        have hT2 : ItIn W.heap.size (.mk true ⟨#[]⟩ none 0 []) (W.alloc (.cells #[.bool true, .string ⟨#[]⟩, .slice none 0 0] 24)) := World.alloc_heap_new W _
        have KI := IHx rfl
        clear A1 hT1 IHx
        gi_wp2_with fail
        refine ⟨trivial, (CallsIn.inRound l (callsIn_wide.2 (KI _))).mono ?_⟩
        rintro e w4 ⟨B4, hcase⟩
        have hT4 : ItIn W.heap.size (.mk true ⟨#[]⟩ none 0 []) w4 := (B4.block _ (by simp)).trans hT2
        have BA := belowStep A2 (by simp) B4
        have hO4 : Bx bO 4 (.bool true) w4 := (BA.block bO hOw).trans hOd
        have d2 : w4.cell? ⟨W.heap.size, 2, none⟩ = some (.slice none 0 0) := by rw [Lib.cell_of_heap hT4]; rfl
        have f2 := Lib.frozen_of_heap hT4 2
        have cO := hO4.cell
        have fO := hO4.fr
        have hbOT : bO ≠ W.heap.size := by omega
        rw [World.size_alloc] at hcase
        clear KI A2 hT2 B4
        rcases hcase with ⟨hnone, rfl⟩ | ⟨a4, c4, zs, hsome, rfl, hrow⟩
        · have hO5 := (hO4.other hbOT 2 (.slice none 0 0)).put (.bool false)
          have B5 := (below_set (BWd.trans (BA.mono (by omega))) W.heap.size 2 (by omega) (.slice none 0 0)).setCell (p := ⟨bO, 0, none⟩) (by show z ≤ bO; omega) (.bool false)
          have K5 := (((ko_below BA).from w3.heap.size).trans (ko_set _ ⟨W.heap.size, 2, none⟩ (.slice none 0 0) w3.heap.size)).trans (ko_set _ ⟨bO, 0, none⟩ (.bool false) w3.heap.size)
          have HX : Hid (_ ∧ _ ∧ _) := ⟨hO5, B5, K5⟩
          clear hO5 B5 K5 BA hT4 hO4
          gi_wp2
          obtain ⟨hO2, B2, K2⟩ := HX.out
          refine (?_ : KeepsFrom _ W _ ∧ DStop f z bO w (Code.exit 0) (pre ++ [_]) _)
          refine ⟨K2, rfl, hO2, B2, (2, bo), by simp, ?_⟩
          show (decF f bo).map _ = _
          rw [hnone]
          rfl
        · have hT5 : ItIn W.heap.size (.mk true ⟨#[]⟩ a4 c4 zs) (w4.setCell ⟨W.heap.size, 2, none⟩ (.slice a4 zs.length c4)) := ItIn.set2 hT4
          have B5 := below_set BA W.heap.size 2 (Nat.le_refl _) (.slice a4 zs.length c4)
          have hO5 := hO4.other hbOT 2 (.slice a4 zs.length c4)
          have B6 := below_same B5 hO5
          have hT6 : ItIn W.heap.size (.mk true ⟨#[]⟩ a4 c4 zs) ((w4.setCell ⟨W.heap.size, 2, none⟩ (.slice a4 zs.length c4)).setCell ⟨bO, 0, none⟩ (.bool true)) := (bx_same hO5 _).trans hT5
          have hX6 : inP (fun b => W.heap.size ≤ b ∧ b < ((w4.setCell ⟨W.heap.size, 2, none⟩ (.slice a4 zs.length c4)).setCell ⟨bO, 0, none⟩ (.bool true)).heap.size) ((w4.setCell ⟨W.heap.size, 2, none⟩ (.slice a4 zs.length c4)).setCell ⟨bO, 0, none⟩ (.bool true)) (.mk true ⟨#[]⟩ a4 c4 zs) := by
            refine rowP_of ?_ a4 0 zs hrow
            intro b hb
            obtain ⟨c1, c2⟩ := hb
            refine ⟨⟨by omega, by simp [World.setCell]; omega⟩, fun j => ?_⟩
            rw [cell_ne _ _ _ _ _ (by show b ≠ bO; omega), cell_ne _ _ _ _ _ (by show b ≠ W.heap.size; omega)]
          have HX : Hid (_ ∧ _ ∧ _) := ⟨hT6, B6, hX6⟩
          clear hT5 B5 hO5 B6 hT6 hX6 BA hT4 hO4 hrow
          gi_wp2_with fail
          obtain ⟨hT7, B7, hX7⟩ := HX.out
          refine append_item_in l _ 15 _ z W.heap.size z ys.length v cl (.mk true ⟨#[]⟩ a4 c4 zs) _ _ _ _ _ _ _ _ _ _ _ _ _ _ _ _ _ _ _ _ _ _ _ _ _ _ _ _ _ _ _ _ _ _ _ _ _ (by rintro ⟨_, _, h⟩; exact h) hyl ((B7.block z hIw).trans hId) hT7 (owns_below hownd B7) (by have := B7.size; omega) ?_
          intro a' Wf g c h1 h2 h3 h4
          refine (?_ : KeepsFrom _ W Wf ∧ True ∧ DSt f z bO w (pre ++ [_]) Wf)
          refine ⟨((ko_below B7).from _).trans (h4.keeps ((B7.block z hIw).trans hId) (owns_below hownd B7) _), trivial, dst_snoc (by omega) hOd hownd hheld hone hin BWd B7 hX7 (by show (decF f bo).map _ = _; rw [hsome]; rfl) h1 h2 h3 h4⟩
      · have b2 : ((k : Int) == 2) = false := by rw [beq_eq_false_iff_ne]; omega
        have cO := hOd.cell
        have fO := hOd.fr
        have hO2 : Bx bO 4 (.bool false) ((W.setCell ⟨bO, 0, none⟩ (.bool false)).alloc (.cells #[.bool false, .string ⟨#[]⟩, .slice none 0 0] 24)) := (Lib.alloc_old _ _ _ (by simp [World.setCell]; omega)).trans (hOd.put (.bool false))
        have A2 : Below (W.setCell ⟨bO, 0, none⟩ (.bool false)).heap.size (W.setCell ⟨bO, 0, none⟩ (.bool false)) ((W.setCell ⟨bO, 0, none⟩ (.bool false)).alloc (.cells #[.bool false, .string ⟨#[]⟩, .slice none 0 0] 24)) := (Below.refl _ _).alloc (Nat.le_refl _) _
        have B2 := (BWd.setCell (p := ⟨bO, 0, none⟩) (by show z ≤ bO; omega) (.bool false)).trans (A2.mono (by simp [World.setCell]; omega))
        have K2 := (ko_set W ⟨bO, 0, none⟩ (.bool false) w3.heap.size).trans ((ko_below A2).from w3.heap.size)
        have HX : Hid (_ ∧ _ ∧ _) := ⟨hO2, B2, K2⟩
        clear hO2 B2 K2 A1 A2 hT1
        gi_wp2
        obtain ⟨hO2, B2, K2⟩ := HX.out
        refine (?_ : KeepsFrom _ W _ ∧ DStop f z bO w (Code.exit 0) (pre ++ [_]) _)
        refine ⟨K2, rfl, hO2, B2, (k, bo), by simp, ?_⟩
        show (if k = 1 then _ else if k = 2 then _ else _) = _
        rw [if_neg k1, if_neg k2]
  case done =>
    rintro D ys W hD hys ⟨v, cl, xs, hId, hOd, hownd, hheld, hone, hin, BWd⟩ hK
    rw [hys] at hone
    have HO : Hid (decF (f + 1) s = some (ers xs)) := comb_some _ _ hone
    have hch := (Array.getElem?_eq_some_iff.1 hK).1
    obtain ⟨ao, c, rfl⟩ : ∃ ao c, v = .slice ao xs.length c := by
      rcases hownd.2 with ⟨h, h0⟩ | ⟨g, c, _, h, _⟩
      · exact ⟨none, 0, by rw [h, h0]⟩
      · exact ⟨_, c, h⟩
    have hrow : rowP (fun b => z ≤ b ∧ b < W.heap.size) W ao 0 xs := rowP_owned hownd hheld hin (fun b hb => ⟨by omega, hb.2.1⟩) (fun g hg => hownd.lt g (by rw [hg]; rfl))
    have cI := hId.cell
    have cO := hOd.cell
    have HX : Hid (_ ∧ _ ∧ _) := ⟨BWd, hK, hrow⟩
    clear BWd hK hrow hownd hheld hone hin hys
    go_wp2
    obtain ⟨BWd, hK, hrow⟩ := HX.out
    rw [Exit.noGoto_ret]
    have hbP := belowK_b (n₀ := z) (w := w3) (by omega) W D _ (.deferred none) hD hK rfl rfl
    refine ⟨by simp, .inl ⟨_, _, rfl, run_takeDeferred hK, ?_⟩⟩
    refine ⟨.tuple #[.slice ao xs.length c, .bool true], by simp [results, Try.results33, go_sem], ?_, .inr ⟨ao, c, xs, HO.out, rfl, ?_⟩⟩
    · rw [HZ.out]; exact BWd.trans hbP
    · rw [HZ.out]
      refine rowP_of (fun b hb => ⟨⟨hb.1.1, by have := hb.1.2; simpa using this⟩, fun k => World.cell?_of_block (w := W) (World.putObj_heap_other (fun e => ?_))⟩) ao 0 xs (rowP_cells ao 0 xs hrow)
      obtain ⟨_, c', e', fz, hc⟩ := hb
      rw [show b = D from e, hK] at hc
      cases hc
  case stop =>
    rintro D c pre W hD ⟨q, hq, hpre⟩ ⟨rfl, hOd, BWd, e, he, hbad⟩ hK
    have HO : Hid (decF (f + 1) s = none) := comb_none _ e (List.mem_of_mem_take (by rw [← hpre]; exact he)) hbad
    have cO := hOd.cell
    gi_wp2
    go_wp2
    rw [Exit.noGoto_ret]
    have hbP := belowK_b (n₀ := z) (w := w3) (by omega) W D _ (.deferred none) hD hK rfl rfl
    refine ⟨by simp, .inl ⟨_, _, rfl, run_takeDeferred hK, ?_⟩⟩
    refine ⟨.tuple #[.slice none 0 0, .bool false], by simp [results, Try.results33, go_sem], ?_, .inl ⟨HO.out, rfl⟩⟩
    rw [HZ.out]
    exact BWd.trans hbP
end Go.Proofs.Yteaongogomhooaa
