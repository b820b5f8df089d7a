/- Lemmas: The reference's reading: a Light. The reference's reading: a committee. -/
import Derived.Test.YtmefanagpkbjeaaDoorM1
import Derived.Test.YtmefanagpkbjeaaDoorM10
import Derived.Test.YtmefanagpkbjeaaDoorM11
import Derived.Test.YtmefanagpkbjeaaDoorM12
import Derived.Test.YtmefanagpkbjeaaDoorM13
import Derived.Test.YtmefanagpkbjeaaDoorM14
import Derived.Test.YtmefanagpkbjeaaDoorM15
import Derived.Test.YtmefanagpkbjeaaDoorM16
import Derived.Test.YtmefanagpkbjeaaDoorM17
import Derived.Test.YtmefanagpkbjeaaDoorM18
import Derived.Test.YtmefanagpkbjeaaDoorM19
import Derived.Test.YtmefanagpkbjeaaDoorM2
import Derived.Test.YtmefanagpkbjeaaDoorM20
import Derived.Test.YtmefanagpkbjeaaDoorM21
import Derived.Test.YtmefanagpkbjeaaDoorM22
import Derived.Test.YtmefanagpkbjeaaDoorM23
import Derived.Test.YtmefanagpkbjeaaDoorM24
import Derived.Test.YtmefanagpkbjeaaDoorM25
import Derived.Test.YtmefanagpkbjeaaDoorM26
import Derived.Test.YtmefanagpkbjeaaDoorM27
import Derived.Test.YtmefanagpkbjeaaDoorM28
import Derived.Test.YtmefanagpkbjeaaDoorM29
import Derived.Test.YtmefanagpkbjeaaDoorM3
import Derived.Test.YtmefanagpkbjeaaDoorM30
import Derived.Test.YtmefanagpkbjeaaDoorM31
import Derived.Test.YtmefanagpkbjeaaDoorM33
import Derived.Test.YtmefanagpkbjeaaDoorM34
import Derived.Test.YtmefanagpkbjeaaDoorM35
import Derived.Test.YtmefanagpkbjeaaDoorM36
import Derived.Test.YtmefanagpkbjeaaDoorM37
import Derived.Test.YtmefanagpkbjeaaDoorM4
import Derived.Test.YtmefanagpkbjeaaDoorM40
import Derived.Test.YtmefanagpkbjeaaDoorM6
import Derived.Test.YtmefanagpkbjeaaDoorM7
import Derived.Test.YtmefanagpkbjeaaDoorM8
import Derived.Test.YtmefanagpkbjeaaDoorM9
import Derived.Test.YtmefanagpkbjeaaDoorRows
import Derived.Laws.CopyOwn
import Derived.Laws.ResultCell
import Derived.Laws.Tables
namespace Go.Proofs.YtmefanagpkbjeaaDoor
open Go.RowKit Go.Shelf Go.Sort

theorem TsR.flat {X : Im} {ts : List ByteArray} {b : Bool} (h : TsR X ts b) : b = ((ers X.xs).all (fun y => !lI y) && X.l) := by
  rcases h with ⟨h, _, rfl⟩ | ⟨h, _, rfl⟩
  · rw [h, Bool.true_and]
  · rw [h, Bool.false_and]
theorem row_cells {n y : Nat} {w W : World} {a : Option Addr} {xs : List Im} (hn : n ≤ y) (hp : rowMem n w a 0 xs) (hB : Below y w W) (hs : y ≤ w.heap.size) (b o : Nat) (ha : a = some ⟨b, o, none⟩) (j : Nat) (x : Im) (hx : xs[j]? = some x) :
    W.cell? ⟨b, o + 3 * j, none⟩ = some (.bool x.l) ∧ W.cell? ⟨b, o + 3 * j + 1, none⟩ = some (.string x.t) ∧ W.cell? ⟨b, o + 3 * j + 2, none⟩ = some x.sl ∧ inMem n W x := by
  obtain ⟨⟨b', o', hb, h1, q0, q1, q2⟩, hm⟩ := row_at xs 0 hp j x hx
  rw [ha] at h1
  injection h1 with h1
  injection h1 with h1 h2
  subst h1 h2
  rw [Nat.zero_add] at q0 q1 q2
  exact ⟨(hB.cell (by show b < y; omega)).trans q0, (hB.cell (by show b < y; omega)).trans q1, (hB.cell (by show b < y; omega)).trans q2, inMem_below (by omega) (hB.mono hn) x hm⟩
theorem row_block {n : Nat} {w : World} {a : Option Addr} {x : Im} {xs : List Im} (hp : rowMem n w a 0 (x :: xs)) : ∃ b o, a = some ⟨b, o, none⟩ := by
  obtain ⟨⟨b, o, _, h, _⟩, _⟩ := hp
  exact ⟨b, o, h⟩
set_option maxRecDepth 20000 in
set_option maxHeartbeats 2000000 in
theorem rflat_any (X : Im) (hK : X.xs.length < 100000000) (n : Nat) (w : World) (hn : n ≤ w.heap.size) (hp : inMem n w X) :
    Calls Tryd.prog 95 #[X.val] w fun e w' => e = .returned (.bool ((ers X.xs).all (fun y => !lI y) && X.l)) ∧ Below w.heap.size w w' := by
  have A0 := be_new w (.cells #[.bool X.l, .string X.t, .slice X.a X.xs.length X.c] 70)
  have KT := fun (W : World) (hB : Below w.heap.size w W) => rtextsOf_any X hK n W (by have := hB.size; omega) (inMem_below hn (hB.mono hn) X hp)
  obtain ⟨l, t, a, c, xs⟩ := X
  simp only [Im.val, Im.l, Im.t, Im.sl, Im.a, Im.xs, Im.c] at KT A0 ⊢
  have KT0 := KT _ A0
  clear KT
  go_enter Tryd.func95, Tryd.ntmps95
  go_wp2_with fail
  refine KT0.mono ?_
  rintro e w2 ⟨B2, ts, b, a2, c2, hT, rfl, hs⟩
  have HX : Hid (_ ∧ _) := ⟨belowStep A0 A0.size B2, hT⟩
  clear A0 B2 hT KT0 hs
  go_wp2
  go_ret
  exact ⟨by rw [HX.out.2.flat]; rfl, HX.out.1⟩
/-- A Light's cells, that of nothing; what reading a Light answers. -/
def zL : List Value := [.int .u64 0, .int .u64 0, .string ⟨#[]⟩, .string ⟨#[]⟩, .string ⟨#[]⟩, .string ⟨#[]⟩, .string ⟨#[]⟩, .int .u64 0, .slice none 0 0]
def LtS (x : It) (d : LtD) (b : Bool) : Prop := (b = true ∧ d.ok ∧ x = ltI d) ∨ (b = false ∧ d = zLt ∧ ∀ g : LtD, g.ok → x ≠ ltI g)
def PostL (w : World) (x : It) (e : Ending) (w' : World) : Prop := Below w.heap.size w w' ∧ ∃ d b a c, LtS x d b ∧ e = .returned (.tuple #[.agg (ltV d a c).toArray, .bool b]) ∧ slP (fun b => w.heap.size ≤ b ∧ b < w'.heap.size) w' a d.br
theorem ls_shape {X : Im} {zs : List It} (h : er X = lsI zs) : (X.l && decide (X.xs.length = zs.length)) = true ∧ ers X.xs = zs := by
  obtain ⟨l, t, a, c, xs⟩ := X
  have h : It.mk l t (ers xs) = .mk true ⟨#[]⟩ zs := h
  injection h with h1 h2 h3
  subst h1
  refine ⟨?_, h3⟩
  show (true && decide (xs.length = zs.length)) = true
  rw [← h3, ers_len]
  simp
theorem lst2 {α : Type} (l : List α) (h : l.length = 2) : ∃ a b, l = [a, b] := by
  match l, h with
  | [a, b], _ => exact ⟨a, b, rfl⟩
theorem lst3 {α : Type} (l : List α) (h : l.length = 3) : ∃ a b c, l = [a, b, c] := by
  match l, h with
  | [a, b, c], _ => exact ⟨a, b, c, rfl⟩
theorem lst5 {α : Type} (l : List α) (h : l.length = 5) : ∃ a b c d e, l = [a, b, c, d, e] := by
  match l, h with
  | [a, b, c, d, e], _ => exact ⟨a, b, c, d, e, rfl⟩
theorem lst8 {α : Type} (l : List α) (h : l.length = 8) : ∃ a b c d e f g i, l = [a, b, c, d, e, f, g, i] := by
  match l, h with
  | [a, b, c, d, e, f, g, i], _ => exact ⟨a, b, c, d, e, f, g, i, rfl⟩
theorem flat_shape {X : Im} {zs : List It} (h : er X = lsI zs) (hz : ∀ x ∈ zs, lI x = false) : ((ers X.xs).all (fun y => !lI y) && X.l) = true := by
  obtain ⟨h1, h2⟩ := ls_shape h
  rw [Bool.and_eq_true] at h1
  rw [h2, h1.1, Bool.and_true, List.all_eq_true]
  intro x hx
  rw [hz x hx]
  rfl
theorem all_l {xs : List Im} {b : Bool} (h : ((ers xs).all (fun y => !lI y) && b) = true) : ∀ x : Im, x ∈ xs → x.l = false := fun x hx => by
  rw [Bool.and_eq_true, List.all_eq_true] at h
  have := h.1 (er x) (by rw [ers_map]; exact List.mem_map_of_mem hx)
  rw [er_l] at this
  simpa using this
theorem lt_shape {X : Im} {g : LtD} (h : er X = ltI g) : (X.l && decide (X.xs.length = 3)) = true ∧ ers X.xs = [lsI [tI (numOf g.s), tI (numOf g.u), tI g.p, tI g.t, tI g.b], lsI [tI g.ea, tI g.ra, tI (numOf g.m)], tsI g.br] := ls_shape h
theorem er_t (X : Im) : tOf (er X) = X.t := by cases X; rfl
theorem er_txt {X : Im} (hr : rgI (er X) = true) (hl : X.l = false) : er X = tI X.t := by
  rw [rgI_txt hr (by rw [er_l]; exact hl), er_t]
theorem ts_read {x : Im} {tv : List ByteArray} {bb : Bool} (hr : rgI (er x) = true) (hT : TsR x tv bb) : (bb = true → er x = tsI tv) ∧ (bb = false → ∀ ts, er x ≠ tsI ts) := by
  constructor
  · intro hb
    subst hb
    rcases hT with ⟨h1, rfl, h2⟩ | ⟨_, _, h⟩
    · obtain ⟨g1, g2⟩ := rgI_lst hr (by rw [er_l]; exact h2.symm)
      rw [g1, er_xs]
      rw [er_xs] at g2
      show It.mk true ⟨#[]⟩ _ = It.mk true ⟨#[]⟩ _
      congr 1
      have key : ∀ l : List It, rgIs l = true → l.all (fun y => !lI y) = true → l = (l.map tOf).map tI := by
        intro l
        induction l with
        | nil => intro _ _; rfl
        | cons z r ih =>
          intro k1 k2
          rw [List.all_cons, Bool.and_eq_true] at k2
          have k3 : rgI z = true := rgIs_mem _ _ k1 (List.mem_cons_self ..)
          have k4 : rgIs r = true := by
            have : (rgI z && rgIs r) = true := k1
            rw [Bool.and_eq_true] at this
            exact this.2
          rw [List.map_cons, List.map_cons, ← ih k4 k2.2]
          have := rgI_txt k3 (by simpa using k2.1)
          rw [this]
          rfl
      exact key _ g2 h1
    · cases h
  · intro hb ts h
    subst hb
    obtain ⟨h1, h2⟩ := ls_shape h
    rw [Bool.and_eq_true] at h1
    rcases hT with ⟨_, _, h3⟩ | ⟨h3, _, _⟩
    · rw [h1.1] at h3
      cases h3
    · rw [h2] at h3
      have : (ts.map tI).all (fun y => !lI y) = true := by
        rw [List.all_eq_true]
        intro x hx
        obtain ⟨t, _, rfl⟩ := List.mem_map.1 hx
        rfl
      rw [this] at h3
      cases h3
theorem num_read0 {X : Im} (hr : rgI (er X) = true) (hl : X.l = false) : (vE X.t = 0 → er X = tI (numOf (vN X.t))) ∧ ∀ n, U6 n → er X = tI (numOf n) → vE X.t = 0 := by
  rw [er_txt hr hl]
  refine ⟨fun h => by rw [val_num _ h], fun n hn h => ?_⟩
  rw [tI_inj h]
  exact (num_back n hn).2
theorem lt_read {t t0 t1 : ByteArray} {a a0 a1 : Option Addr} {c c0 c1 : Nat} {h0 h1 h2 h3 h4 e0 e1 e2 x2 : Im} (hrg : (rgI (er h0) = true ∧ rgI (er h1) = true ∧ rgI (er h2) = true ∧ rgI (er h3) = true ∧ rgI (er h4) = true) ∧ rgI (er e0) = true ∧ rgI (er e1) = true ∧ rgI (er e2) = true ∧ t = ⟨#[]⟩ ∧ t0 = ⟨#[]⟩ ∧ t1 = ⟨#[]⟩ ∧ rgI (er x2) = true)
    (hl : h0.l = false ∧ h1.l = false ∧ h2.l = false ∧ h3.l = false ∧ h4.l = false ∧ e0.l = false ∧ e1.l = false ∧ e2.l = false) {tv : List ByteArray} {bb : Bool} (hT : TsR x2 tv bb) {k0 k1 k2 : Bool} (hk0 : decide (vE h0.t = 0) = k0) (hk1 : decide (vE h1.t = 0) = k1) (hk2 : decide (vE e2.t = 0) = k2) :
    (k0 = true ∧ k1 = true ∧ k2 = true ∧ bb = true → ∃ d : LtD, d.ok ∧ er (.mk true t a c [.mk true t0 a0 c0 [h0, h1, h2, h3, h4], .mk true t1 a1 c1 [e0, e1, e2], x2]) = ltI d ∧ d = ⟨vN h0.t, vN h1.t, h2.t, h3.t, h4.t, e0.t, e1.t, vN e2.t, tv⟩) ∧ (¬ (k0 = true ∧ k1 = true ∧ k2 = true ∧ bb = true) → ∀ g : LtD, g.ok → er (.mk true t a c [.mk true t0 a0 c0 [h0, h1, h2, h3, h4], .mk true t1 a1 c1 [e0, e1, e2], x2]) ≠ ltI g) := by
  obtain ⟨⟨r0, r1, r2, r3, r4⟩, r5, r6, r7, rfl, rfl, rfl, r8⟩ := hrg
  obtain ⟨l0, l1, l2, l3, l4, l5, l6, l7⟩ := hl
  have q0 := num_read0 r0 l0
  have q1 := num_read0 r1 l1
  have q2 := num_read0 r7 l7
  have q3 := ts_read r8 hT
  constructor
  · rintro ⟨rfl, rfl, rfl, rfl⟩
    refine ⟨⟨vN h0.t, vN h1.t, h2.t, h3.t, h4.t, e0.t, e1.t, vN e2.t, tv⟩, ⟨vN_lt _, vN_lt _, vN_lt _⟩, ?_, rfl⟩
    show It.mk true ⟨#[]⟩ [It.mk true ⟨#[]⟩ [er h0, er h1, er h2, er h3, er h4], It.mk true ⟨#[]⟩ [er e0, er e1, er e2], er x2] = _
    rw [q0.1 (of_decide_eq_true hk0), q1.1 (of_decide_eq_true hk1), q2.1 (of_decide_eq_true hk2), q3.1 rfl, er_txt r2 l2, er_txt r3 l3, er_txt r4 l4, er_txt r5 l5, er_txt r6 l6]
    rfl
  · intro hno g hg h
    have h : It.mk true ⟨#[]⟩ [It.mk true ⟨#[]⟩ [er h0, er h1, er h2, er h3, er h4], It.mk true ⟨#[]⟩ [er e0, er e1, er e2], er x2] = ltI g := h
    simp only [ltI, lsI, It.mk.injEq, List.cons.injEq, and_true, true_and] at h
    obtain ⟨⟨g1, g2, _, _, _⟩, ⟨_, _, g8⟩, g9⟩ := h
    refine hno ⟨by rw [← hk0]; exact decide_eq_true (q0.2 _ hg.1 g1), by rw [← hk1]; exact decide_eq_true (q1.2 _ hg.2.1 g2), by rw [← hk2]; exact decide_eq_true (q2.2 _ hg.2.2 g8), ?_⟩
    cases hb : bb with
    | true => rfl
    | false => exact absurd g9 (q3.2 hb _)
set_option maxRecDepth 100000 in
set_option maxHeartbeats 4000000 in
theorem rlightOf_any (X : Im) (hK : cnt X < 100000000) (hr : rgI (er X) = true) (n : Nat) (w : World) (hn : n ≤ w.heap.size) (hp : inMem n w X) :
    Calls Tryd.prog 56 #[X.val] w (PostL w (er X)) := by
  obtain ⟨m1, hm1⟩ : ∃ b, (X.l && decide (X.xs.length = 3)) = b := ⟨_, rfl⟩
  have KM : ∀ W, Calls Tryd.prog 55 #[X.val, .int .i64 (3 : Nat)] W fun e w' => e = .returned (.bool m1) ∧ Below W.heap.size W w' := fun W => by rw [← hm1]; exact rmany_any X 3 W
  obtain ⟨l, t, a, c, xs⟩ := X
  replace hp : rowMem n w a 0 xs := hp
  simp only [Im.val, Im.l, Im.t, Im.sl, Im.a, Im.xs, Im.c] at KM hm1 ⊢
  obtain ⟨N, hN⟩ : ∃ N, xs.length = N := ⟨_, rfl⟩
  have HN : Hid (xs.length = N) := hN
  obtain ⟨A0, h0, h1⟩ := two_boxes w (.cells #[.bool l, .string t, .slice a N c] 70) (.cells #[.int .u64 0, .int .u64 0, .string ⟨#[]⟩, .string ⟨#[]⟩, .string ⟨#[]⟩, .string ⟨#[]⟩, .string ⟨#[]⟩, .int .u64 0, .slice none 0 0] 29)
  obtain ⟨y, hy⟩ : ∃ y, w.heap.size = y := ⟨_, rfl⟩
  have HY : Hid (w.heap.size = y) := hy
  obtain ⟨w1, hw1⟩ : ∃ W, (w.alloc (.cells #[.bool l, .string t, .slice a N c] 70)).alloc (.cells #[.int .u64 0, .int .u64 0, .string ⟨#[]⟩, .string ⟨#[]⟩, .string ⟨#[]⟩, .string ⟨#[]⟩, .string ⟨#[]⟩, .int .u64 0, .slice none 0 0] 29) = W := ⟨_, rfl⟩
  have hsz1 : w1.heap.size = y + 2 := by rw [← hw1, ← hy]; simp
  rw [hw1] at A0 h0 h1
  rw [hy] at A0 h0 h1 hn
  rw [hN] at KM ⊢
  have HM : Hid _ := hm1
  have HBX : ∀ W : World, Below w1.heap.size w1 W → Hid (Below y w W ∧ W.heap[y]? = some (.cells #[.bool l, .string t, .slice a N c] 70 (0, 0)) ∧ W.heap[y + 1]? = some (.cells #[.int .u64 0, .int .u64 0, .string ⟨#[]⟩, .string ⟨#[]⟩, .string ⟨#[]⟩, .string ⟨#[]⟩, .string ⟨#[]⟩, .int .u64 0, .slice none 0 0] 29 (0, 0)) ∧ y + 2 ≤ W.heap.size) := fun W hB => ⟨A0.trans (hB.mono (by omega)), (hB.block y (by omega)).trans h0, (hB.block (y + 1) (by omega)).trans h1, by have := hB.size; omega⟩
  have HB : Hid _ := HBX
  have d0 : w1.cell? ⟨y, 0, none⟩ = some (.bool l) := by rw [Lib.cell_of_heap h0]; rfl
  have d1 : w1.cell? ⟨y, 1, none⟩ = some (.string t) := by rw [Lib.cell_of_heap h0]; rfl
  have d2 : w1.cell? ⟨y, 2, none⟩ = some (.slice a N c) := by rw [Lib.cell_of_heap h0]; rfl
  clear hN hm1 A0 h0 h1 HBX
  go_enter Tryd.func56, Tryd.ntmps56
  have C1 : Below w1.heap.size w1 w1 := Below.refl _ _
  go_wp2_with fail
  first | rw [hw1] | skip
  clear hw1 hy d0 d1 d2
  refine (KM _).mono ?_
  rintro e w2 ⟨rfl, B2⟩
  have C2 := C1.trans (B2.mono (Nat.le_refl _))
  clear B2 C1 KM
  cases m1 with
  | false =>
    obtain ⟨bX, -, rX, sX⟩ := (HB.out w2 C2).out
    have HX : Hid (_ ∧ _) := ⟨bX, rX⟩
    have HE : Hid (∀ g : LtD, g.ok → er (.mk l t a c xs) ≠ ltI g) := fun g _ e => Bool.noConfusion (HM.out.symm.trans (lt_shape e).1)
    have gX := rX
    clear bX rX C2
    go_wp2_with (first | (with_reducible show bodyPost _ _ _ _ _ _; refine Stp.out ?_) | refine store_row0 rfl rfl 29 _ _ rfl (y + 1) #[.int .u64 0, .int .u64 0, .string ⟨#[]⟩, .string ⟨#[]⟩, .string ⟨#[]⟩, .string ⟨#[]⟩, .string ⟨#[]⟩, .int .u64 0, .slice none 0 0] (by kernel_rfl) (by kernel_rfl) 29 _ gX (by kernel_rfl) rfl (by simp [Value.oneCell']) ?_)
    refine Stp.mk ?_
    refine bodyPost_ret (results_row2 rfl _ _ (y + 1) 29 #[.int .u64 0, .int .u64 0, .string ⟨#[]⟩, .string ⟨#[]⟩, .string ⟨#[]⟩, .string ⟨#[]⟩, .string ⟨#[]⟩, .int .u64 0, .slice none 0 0] (0, 0) _ (by kernel_rfl) (setRow_heap _ _ _ _ _ _ gX) Tryd.underlying29 rfl (by kernel_rfl) (.bool false) (by kernel_rfl)) rfl ?_
    obtain ⟨bX, -⟩ := HX.out
    refine ⟨?_, zLt, false, none, 0, .inr ⟨rfl, rfl, HE.out⟩, rfl, .inl rfl⟩
    rw [HY.out]
    exact below_setRow bX (by omega) _
  | true =>
    have hml : l = true ∧ xs.length = 3 := by
      have := HM.out
      rw [Bool.and_eq_true] at this
      exact ⟨this.1, of_decide_eq_true this.2⟩
    obtain ⟨rfl, hl3⟩ := hml
    obtain ⟨x0, x1, x2, rfl⟩ := lst3 xs hl3
    obtain rfl : 3 = N := HN.out
    obtain ⟨b, o, rfl⟩ := row_block hp
    have hyw : y ≤ w.heap.size := by rw [HY.out]; exact Nat.le_refl _
    have HR : Hid (∀ W : World, Below y w W → ∀ j x, [x0, x1, x2][j]? = some x → _) := fun W hB j x hx => row_cells hn hp hB hyw b o rfl j x hx
    obtain ⟨m2, hm2⟩ : ∃ b, (x0.l && decide (x0.xs.length = 5)) = b := ⟨_, rfl⟩
    have K2 : ∀ W, Calls Tryd.prog 55 #[x0.val, .int .i64 (5 : Nat)] W fun e w' => e = .returned (.bool m2) ∧ Below W.heap.size W w' := fun W => by rw [← hm2]; exact rmany_any x0 5 W
    obtain ⟨m3, hm3⟩ : ∃ b, (x1.l && decide (x1.xs.length = 3)) = b := ⟨_, rfl⟩
    have K3 : ∀ W, Calls Tryd.prog 55 #[x1.val, .int .i64 (3 : Nat)] W fun e w' => e = .returned (.bool m3) ∧ Below W.heap.size W w' := fun W => by rw [← hm3]; exact rmany_any x1 3 W
    have hk3 : x0.xs.length < 100000000 ∧ x1.xs.length < 100000000 ∧ x2.xs.length < 100000000 := by
      have hc : cnt x0 + (cnt x1 + (cnt x2 + 0)) + 1 < 100000000 := hK
      have := len_cnts x0.xs
      have := len_cnts x1.xs
      have := len_cnts x2.xs
      rw [cnt_eq x0, cnt_eq x1, cnt_eq x2] at hc
      omega
    obtain ⟨f0, hf0⟩ : ∃ b, ((ers x0.xs).all (fun y => !lI y) && x0.l) = b := ⟨_, rfl⟩
    have K4 : ∀ W, Below y w W → Calls Tryd.prog 95 #[x0.val] W fun e w' => e = .returned (.bool f0) ∧ Below W.heap.size W w' := fun W hB => by rw [← hf0]; exact rflat_any x0 hk3.1 n W (by have := hB.size; omega) (HR.out W hB 0 x0 rfl).2.2.2
    obtain ⟨f1, hf1⟩ : ∃ b, ((ers x1.xs).all (fun y => !lI y) && x1.l) = b := ⟨_, rfl⟩
    have K5 : ∀ W, Below y w W → Calls Tryd.prog 95 #[x1.val] W fun e w' => e = .returned (.bool f1) ∧ Below W.heap.size W w' := fun W hB => by rw [← hf1]; exact rflat_any x1 hk3.2.1 n W (by have := hB.size; omega) (HR.out W hB 1 x1 rfl).2.2.2
    have K6 : ∀ W, Below y w W → Calls Tryd.prog 58 #[x2.val] W fun e w' => Below W.heap.size W w' ∧ ∃ ts b a c, TsR x2 ts b ∧ e = .returned (.tuple #[.slice a ts.length c, .bool b]) ∧ slP (fun b => W.heap.size ≤ b ∧ b < w'.heap.size) w' a ts := fun W hB => rtextsOf_any x2 hk3.2.2 n W (by have := hB.size; omega) (HR.out W hB 2 x2 rfl).2.2.2
    have HQ : Hid (_ ∧ _ ∧ _ ∧ _) := ⟨hm2, hm3, hf0, hf1⟩
    clear hm2 hm3 hf0 hf1 hk3 hl3 hp
    obtain ⟨l0, t0, a0, c0, xs0⟩ := x0
    obtain ⟨l1, t1, a1, c1, xs1⟩ := x1
    obtain ⟨l2, t2, a2, c2, xs2⟩ := x2
    simp only [Im.val, Im.l, Im.t, Im.sl, Im.a, Im.xs, Im.c] at K2 K3 K4 K5 K6
    obtain ⟨N0, hN0⟩ : ∃ N, xs0.length = N := ⟨_, rfl⟩
    obtain ⟨N1, hN1⟩ : ∃ N, xs1.length = N := ⟨_, rfl⟩
    obtain ⟨N2, hN2⟩ : ∃ N, xs2.length = N := ⟨_, rfl⟩
    rw [hN0] at K2 K4
    rw [hN1] at K3 K5
    rw [hN2] at K6
    have HN0 : Hid (xs0.length = N0 ∧ xs1.length = N1 ∧ xs2.length = N2) := ⟨hN0, hN1, hN2⟩
    have HI : Hid (∀ W : World, Below w1.heap.size w1 W → Hid (W.cell? ⟨y, 2, none⟩ = some (.slice (some ⟨b, o, none⟩) 3 c) ∧ W.cell? ⟨b, o, none⟩ = some (.bool l0) ∧ W.cell? ⟨b, o + 1, none⟩ = some (.string t0) ∧ W.cell? ⟨b, o + 2, none⟩ = some (.slice a0 N0 c0) ∧ W.cell? ⟨b, o + 3, none⟩ = some (.bool l1) ∧ W.cell? ⟨b, o + 4, none⟩ = some (.string t1) ∧ W.cell? ⟨b, o + 5, none⟩ = some (.slice a1 N1 c1) ∧ W.cell? ⟨b, o + 6, none⟩ = some (.bool l2) ∧ W.cell? ⟨b, o + 7, none⟩ = some (.string t2) ∧ W.cell? ⟨b, o + 8, none⟩ = some (.slice a2 N2 c2))) := fun W hB => by
      obtain ⟨bX, rY, _, _⟩ := (HB.out W hB).out
      have r0 := HR.out W bX 0 _ rfl
      have r1 := HR.out W bX 1 _ rfl
      have r2 := HR.out W bX 2 _ rfl
      simp only [Im.sl, Im.l, Im.t, Im.a, Im.xs, Im.c, hN0, hN1, hN2] at r0 r1 r2
      exact ⟨by rw [Lib.cell_of_heap rY]; rfl, r0.1, r0.2.1, r0.2.2.1, r1.1, r1.2.1, r1.2.2.1, r2.1, r2.2.1, r2.2.2.1⟩
    clear hN0 hN1 hN2
    obtain ⟨i0, i1, i2, i3, -⟩ := (HI.out w2 C2).out
    go_wp2_with fail
    refine (K2 _).mono ?_
    rintro e w3 ⟨rfl, B3⟩
    have C3 := C2.trans (B3.mono C2.size)
    clear B3 C2 K2 i0 i1 i2 i3
    cases m2 with
    | false =>
      obtain ⟨bX, -, rX, sX⟩ := (HB.out w3 C3).out
      have HX : Hid (_ ∧ _) := ⟨bX, rX⟩
      have HE : Hid (∀ g : LtD, g.ok → er (.mk true t (some ⟨b, o, none⟩) c [.mk l0 t0 a0 c0 xs0, .mk l1 t1 a1 c1 xs1, .mk l2 t2 a2 c2 xs2]) ≠ ltI g) := fun g _ e => by
        have := (lt_shape e).2
        injection this with this
        exact Bool.noConfusion (HQ.out.1.symm.trans (ls_shape this).1)
      have gX := rX
      clear bX rX C3
      go_wp2_with (first | (with_reducible show bodyPost _ _ _ _ _ _; refine Stp.out ?_) | refine store_row0 rfl rfl 29 _ _ rfl (y + 1) #[.int .u64 0, .int .u64 0, .string ⟨#[]⟩, .string ⟨#[]⟩, .string ⟨#[]⟩, .string ⟨#[]⟩, .string ⟨#[]⟩, .int .u64 0, .slice none 0 0] (by kernel_rfl) (by kernel_rfl) 29 _ gX (by kernel_rfl) rfl (by simp [Value.oneCell']) ?_)
      refine Stp.mk ?_
      refine bodyPost_ret (results_row2 rfl _ _ (y + 1) 29 #[.int .u64 0, .int .u64 0, .string ⟨#[]⟩, .string ⟨#[]⟩, .string ⟨#[]⟩, .string ⟨#[]⟩, .string ⟨#[]⟩, .int .u64 0, .slice none 0 0] (0, 0) _ (by kernel_rfl) (setRow_heap _ _ _ _ _ _ gX) Tryd.underlying29 rfl (by kernel_rfl) (.bool false) (by kernel_rfl)) rfl ?_
      obtain ⟨bX, -⟩ := HX.out
      refine ⟨?_, zLt, false, none, 0, .inr ⟨rfl, rfl, HE.out⟩, rfl, .inl rfl⟩
      rw [HY.out]
      exact below_setRow bX (by omega) _
    | true =>
      obtain ⟨i0, -, -, -, i4, i5, i6, -⟩ := (HI.out w3 C3).out
      go_wp2_with fail
      refine (K3 _).mono ?_
      rintro e w4 ⟨rfl, B4⟩
      have C4 := C3.trans (B4.mono C3.size)
      clear B4 C3 K3 i0 i4 i5 i6
      cases m3 with
      | false =>
        obtain ⟨bX, -, rX, sX⟩ := (HB.out w4 C4).out
        have HX : Hid (_ ∧ _) := ⟨bX, rX⟩
        have HE : Hid (∀ g : LtD, g.ok → er (.mk true t (some ⟨b, o, none⟩) c [.mk l0 t0 a0 c0 xs0, .mk l1 t1 a1 c1 xs1, .mk l2 t2 a2 c2 xs2]) ≠ ltI g) := fun g _ e => by
          have := (lt_shape e).2
          injection this with _ this
          injection this with this _
          exact Bool.noConfusion (HQ.out.2.1.symm.trans (ls_shape this).1)
        have gX := rX
        clear bX rX C4
        go_wp2_with (first | (with_reducible show bodyPost _ _ _ _ _ _; refine Stp.out ?_) | refine store_row0 rfl rfl 29 _ _ rfl (y + 1) #[.int .u64 0, .int .u64 0, .string ⟨#[]⟩, .string ⟨#[]⟩, .string ⟨#[]⟩, .string ⟨#[]⟩, .string ⟨#[]⟩, .int .u64 0, .slice none 0 0] (by kernel_rfl) (by kernel_rfl) 29 _ gX (by kernel_rfl) rfl (by simp [Value.oneCell']) ?_)
        refine Stp.mk ?_
        refine bodyPost_ret (results_row2 rfl _ _ (y + 1) 29 #[.int .u64 0, .int .u64 0, .string ⟨#[]⟩, .string ⟨#[]⟩, .string ⟨#[]⟩, .string ⟨#[]⟩, .string ⟨#[]⟩, .int .u64 0, .slice none 0 0] (0, 0) _ (by kernel_rfl) (setRow_heap _ _ _ _ _ _ gX) Tryd.underlying29 rfl (by kernel_rfl) (.bool false) (by kernel_rfl)) rfl ?_
        obtain ⟨bX, -⟩ := HX.out
        refine ⟨?_, zLt, false, none, 0, .inr ⟨rfl, rfl, HE.out⟩, rfl, .inl rfl⟩
        rw [HY.out]
        exact below_setRow bX (by omega) _
      | true =>
        obtain ⟨i0, i1, i2, i3, -⟩ := (HI.out w4 C4).out
        go_wp2_with fail
        refine (K4 _ (HB.out w4 C4).out.1).mono ?_
        rintro e w5 ⟨rfl, B5⟩
        have C5 := C4.trans (B5.mono C4.size)
        clear B5 C4 K4 i0 i1 i2 i3
        cases f0 with
        | false =>
          obtain ⟨bX, -, rX, sX⟩ := (HB.out w5 C5).out
          have HX : Hid (_ ∧ _) := ⟨bX, rX⟩
          have HE : Hid (∀ g : LtD, g.ok → er (.mk true t (some ⟨b, o, none⟩) c [.mk l0 t0 a0 c0 xs0, .mk l1 t1 a1 c1 xs1, .mk l2 t2 a2 c2 xs2]) ≠ ltI g) := fun g _ e => by
            have := (lt_shape e).2
            injection this with this
            exact Bool.noConfusion (HQ.out.2.2.1.symm.trans (flat_shape this (fun x hx => by simp at hx; rcases hx with h | h | h | h | h <;> rw [h] <;> rfl)))
          have gX := rX
          clear bX rX C5
          go_wp2_with (first | (with_reducible show bodyPost _ _ _ _ _ _; refine Stp.out ?_) | refine store_row0 rfl rfl 29 _ _ rfl (y + 1) #[.int .u64 0, .int .u64 0, .string ⟨#[]⟩, .string ⟨#[]⟩, .string ⟨#[]⟩, .string ⟨#[]⟩, .string ⟨#[]⟩, .int .u64 0, .slice none 0 0] (by kernel_rfl) (by kernel_rfl) 29 _ gX (by kernel_rfl) rfl (by simp [Value.oneCell']) ?_)
          refine Stp.mk ?_
          refine bodyPost_ret (results_row2 rfl _ _ (y + 1) 29 #[.int .u64 0, .int .u64 0, .string ⟨#[]⟩, .string ⟨#[]⟩, .string ⟨#[]⟩, .string ⟨#[]⟩, .string ⟨#[]⟩, .int .u64 0, .slice none 0 0] (0, 0) _ (by kernel_rfl) (setRow_heap _ _ _ _ _ _ gX) Tryd.underlying29 rfl (by kernel_rfl) (.bool false) (by kernel_rfl)) rfl ?_
          obtain ⟨bX, -⟩ := HX.out
          refine ⟨?_, zLt, false, none, 0, .inr ⟨rfl, rfl, HE.out⟩, rfl, .inl rfl⟩
          rw [HY.out]
          exact below_setRow bX (by omega) _
        | true =>
          obtain ⟨i0, -, -, -, i4, i5, i6, -⟩ := (HI.out w5 C5).out
          go_wp2_with fail
          refine (K5 _ (HB.out w5 C5).out.1).mono ?_
          rintro e w6 ⟨rfl, B6⟩
          have C6 := C5.trans (B6.mono C5.size)
          clear B6 C5 K5 i0 i4 i5 i6
          cases f1 with
          | false =>
            obtain ⟨bX, -, rX, sX⟩ := (HB.out w6 C6).out
            have HX : Hid (_ ∧ _) := ⟨bX, rX⟩
            have HE : Hid (∀ g : LtD, g.ok → er (.mk true t (some ⟨b, o, none⟩) c [.mk l0 t0 a0 c0 xs0, .mk l1 t1 a1 c1 xs1, .mk l2 t2 a2 c2 xs2]) ≠ ltI g) := fun g _ e => by
              have := (lt_shape e).2
              injection this with _ this
              injection this with this _
              exact Bool.noConfusion (HQ.out.2.2.2.symm.trans (flat_shape this (fun x hx => by simp at hx; rcases hx with h | h | h <;> rw [h] <;> rfl)))
            have gX := rX
            clear bX rX C6
            go_wp2_with (first | (with_reducible show bodyPost _ _ _ _ _ _; refine Stp.out ?_) | refine store_row0 rfl rfl 29 _ _ rfl (y + 1) #[.int .u64 0, .int .u64 0, .string ⟨#[]⟩, .string ⟨#[]⟩, .string ⟨#[]⟩, .string ⟨#[]⟩, .string ⟨#[]⟩, .int .u64 0, .slice none 0 0] (by kernel_rfl) (by kernel_rfl) 29 _ gX (by kernel_rfl) rfl (by simp [Value.oneCell']) ?_)
            refine Stp.mk ?_
            refine bodyPost_ret (results_row2 rfl _ _ (y + 1) 29 #[.int .u64 0, .int .u64 0, .string ⟨#[]⟩, .string ⟨#[]⟩, .string ⟨#[]⟩, .string ⟨#[]⟩, .string ⟨#[]⟩, .int .u64 0, .slice none 0 0] (0, 0) _ (by kernel_rfl) (setRow_heap _ _ _ _ _ _ gX) Tryd.underlying29 rfl (by kernel_rfl) (.bool false) (by kernel_rfl)) rfl ?_
            obtain ⟨bX, -⟩ := HX.out
            refine ⟨?_, zLt, false, none, 0, .inr ⟨rfl, rfl, HE.out⟩, rfl, .inl rfl⟩
            rw [HY.out]
            exact below_setRow bX (by omega) _
          | true =>
            obtain ⟨q2, q3, q4, q5⟩ := HQ.out
            have g0 : l0 = true ∧ xs0.length = 5 := by
              have := q2
              rw [Bool.and_eq_true] at this
              exact ⟨this.1, of_decide_eq_true this.2⟩
            have g1 : l1 = true ∧ xs1.length = 3 := by
              have := q3
              rw [Bool.and_eq_true] at this
              exact ⟨this.1, of_decide_eq_true this.2⟩
            obtain ⟨rfl, g0⟩ := g0
            obtain ⟨rfl, g1⟩ := g1
            obtain ⟨h0, h1, h2, h3, h4, rfl⟩ := lst5 xs0 g0
            obtain ⟨e0, e1, e2, rfl⟩ := lst3 xs1 g1
            obtain rfl : 5 = N0 := HN0.out.1
            obtain rfl : 3 = N1 := HN0.out.2.1
            have p0 : rowMem n w a0 0 [h0, h1, h2, h3, h4] := (HR.out w (Below.refl _ _ |>.mono hyw) 0 _ rfl).2.2.2
            have p1 : rowMem n w a1 0 [e0, e1, e2] := (HR.out w (Below.refl _ _ |>.mono hyw) 1 _ rfl).2.2.2
            obtain ⟨b0, o0, rfl⟩ := row_block p0
            obtain ⟨b1, o1, rfl⟩ := row_block p1
            have hrg : (rgI (er h0) = true ∧ rgI (er h1) = true ∧ rgI (er h2) = true ∧ rgI (er h3) = true ∧ rgI (er h4) = true) ∧ rgI (er e0) = true ∧ rgI (er e1) = true ∧ rgI (er e2) = true ∧ t = ⟨#[]⟩ ∧ t0 = ⟨#[]⟩ ∧ t1 = ⟨#[]⟩ ∧ rgI (er (.mk l2 t2 a2 c2 xs2)) = true := by
              obtain ⟨s1, s2⟩ := rgI_lst hr rfl
              injection s1 with _ s1 _
              have s2 : rgIs [er (.mk true t0 (some ⟨b0, o0, none⟩) c0 [h0, h1, h2, h3, h4]), er (.mk true t1 (some ⟨b1, o1, none⟩) c1 [e0, e1, e2]), er (.mk l2 t2 a2 c2 xs2)] = true := s2
              have u0 := rgIs_mem _ _ s2 (List.mem_cons_self ..)
              have u1 := rgIs_mem _ _ s2 (List.mem_cons_of_mem _ (List.mem_cons_self ..))
              have u2 := rgIs_mem _ _ s2 (List.mem_cons_of_mem _ (List.mem_cons_of_mem _ (List.mem_cons_self ..)))
              obtain ⟨v1, v2⟩ := rgI_lst u0 rfl
              obtain ⟨w1, w2⟩ := rgI_lst u1 rfl
              injection v1 with _ v1 _
              injection w1 with _ w1 _
              have v2 : rgIs [er h0, er h1, er h2, er h3, er h4] = true := v2
              have w2 : rgIs [er e0, er e1, er e2] = true := w2
              refine ⟨⟨rgIs_mem _ _ v2 (by simp), rgIs_mem _ _ v2 (by simp), rgIs_mem _ _ v2 (by simp), rgIs_mem _ _ v2 (by simp), rgIs_mem _ _ v2 (by simp)⟩, rgIs_mem _ _ w2 (by simp), rgIs_mem _ _ w2 (by simp), rgIs_mem _ _ w2 (by simp), s1, v1, w1, u2⟩
            have hl5 : h0.l = false ∧ h1.l = false ∧ h2.l = false ∧ h3.l = false ∧ h4.l = false ∧ e0.l = false ∧ e1.l = false ∧ e2.l = false := by
              have r4 : ∀ x : Im, x ∈ [h0, h1, h2, h3, h4] → x.l = false := all_l q4
              have r5 : ∀ x : Im, x ∈ [e0, e1, e2] → x.l = false := all_l q5
              exact ⟨r4 h0 (by simp), r4 h1 (by simp), r4 h2 (by simp), r4 h3 (by simp), r4 h4 (by simp), r5 e0 (by simp), r5 e1 (by simp), r5 e2 (by simp)⟩
            have HG : Hid (_ ∧ _) := ⟨hrg, hl5⟩
            have KN : ∀ (X : Im), X.l = false → ∀ W, Calls Tryd.prog 59 #[X.val] W fun e w' => e = .returned (.tuple #[.int .u64 (vN X.t), .bool (decide (vE X.t = 0))]) ∧ Below W.heap.size W w' := fun X hX W => by
              have := rnumberOf_any X W
              rwa [hX, Bool.not_false, Bool.and_true] at this
            have K7 := KN h0 hl5.1
            have K8 := KN h1 hl5.2.1
            have K9 := KN e2 hl5.2.2.2.2.2.2.2
            obtain ⟨n0, hn0⟩ : ∃ q, vN h0.t = q := ⟨_, rfl⟩
            obtain ⟨n1, hn1⟩ : ∃ q, vN h1.t = q := ⟨_, rfl⟩
            obtain ⟨n2, hn2⟩ : ∃ q, vN e2.t = q := ⟨_, rfl⟩
            obtain ⟨k0, hk0⟩ : ∃ q, decide (vE h0.t = 0) = q := ⟨_, rfl⟩
            obtain ⟨k1, hk1⟩ : ∃ q, decide (vE h1.t = 0) = q := ⟨_, rfl⟩
            obtain ⟨k2, hk2⟩ : ∃ q, decide (vE e2.t = 0) = q := ⟨_, rfl⟩
            rw [hn0, hk0] at K7
            rw [hn1, hk1] at K8
            rw [hn2, hk2] at K9
            have HK : Hid ((_ ∧ _ ∧ _) ∧ _ ∧ _ ∧ _) := ⟨⟨hn0, hn1, hn2⟩, hk0, hk1, hk2⟩
            have HJ : Hid (∀ W : World, Below w1.heap.size w1 W → Hid ((W.cell? ⟨b0, o0, none⟩ = some (.bool h0.l) ∧ W.cell? ⟨b0, o0 + 1, none⟩ = some (.string h0.t) ∧ W.cell? ⟨b0, o0 + 2, none⟩ = some h0.sl) ∧ (W.cell? ⟨b0, o0 + 3, none⟩ = some (.bool h1.l) ∧ W.cell? ⟨b0, o0 + 4, none⟩ = some (.string h1.t) ∧ W.cell? ⟨b0, o0 + 5, none⟩ = some h1.sl) ∧ (W.cell? ⟨b1, o1 + 6, none⟩ = some (.bool e2.l) ∧ W.cell? ⟨b1, o1 + 7, none⟩ = some (.string e2.t) ∧ W.cell? ⟨b1, o1 + 8, none⟩ = some e2.sl)
                ∧ W.cell? ⟨b0, o0 + 7, none⟩ = some (.string h2.t) ∧ W.cell? ⟨b0, o0 + 10, none⟩ = some (.string h3.t) ∧ W.cell? ⟨b0, o0 + 13, none⟩ = some (.string h4.t) ∧ W.cell? ⟨b1, o1 + 1, none⟩ = some (.string e0.t) ∧ W.cell? ⟨b1, o1 + 4, none⟩ = some (.string e1.t))) := fun W hB => by
              obtain ⟨bX, -⟩ := (HB.out W hB).out
              have c0 := row_cells hn p0 bX hyw b0 o0 rfl 0 _ rfl
              have c1 := row_cells hn p0 bX hyw b0 o0 rfl 1 _ rfl
              have c2 := row_cells hn p0 bX hyw b0 o0 rfl 2 _ rfl
              have c3 := row_cells hn p0 bX hyw b0 o0 rfl 3 _ rfl
              have c4 := row_cells hn p0 bX hyw b0 o0 rfl 4 _ rfl
              have d0 := row_cells hn p1 bX hyw b1 o1 rfl 0 _ rfl
              have d1 := row_cells hn p1 bX hyw b1 o1 rfl 1 _ rfl
              have d2 := row_cells hn p1 bX hyw b1 o1 rfl 2 _ rfl
              exact ⟨⟨c0.1, c0.2.1, c0.2.2.1⟩, ⟨c1.1, c1.2.1, c1.2.2.1⟩, ⟨d2.1, d2.2.1, d2.2.2.1⟩, c2.2.1, c3.2.1, c4.2.1, d0.2.1, d1.2.1⟩
            clear q2 q3 q4 q5 g0 g1 p0 p1 hrg hl5 KN hn0 hn1 hn2 hk0 hk1 hk2 hr
            have HS : Hid (∀ (w' : World) (tv : List ByteArray) (bb : Bool), TsR (.mk l2 t2 a2 c2 xs2) tv bb → (k0 = true ∧ k1 = true ∧ k2 = true ∧ bb = true → ∃ d : LtD, d.ok ∧ er (.mk true t (some ⟨b, o, none⟩) c [.mk true t0 (some ⟨b0, o0, none⟩) c0 [h0, h1, h2, h3, h4], .mk true t1 (some ⟨b1, o1, none⟩) c1 [e0, e1, e2], .mk l2 t2 a2 c2 xs2]) = ltI d ∧ d = ⟨n0, n1, h2.t, h3.t, h4.t, e0.t, e1.t, n2, tv⟩) ∧ (¬ (k0 = true ∧ k1 = true ∧ k2 = true ∧ bb = true) → ∀ g : LtD, g.ok → er (.mk true t (some ⟨b, o, none⟩) c [.mk true t0 (some ⟨b0, o0, none⟩) c0 [h0, h1, h2, h3, h4], .mk true t1 (some ⟨b1, o1, none⟩) c1 [e0, e1, e2], .mk l2 t2 a2 c2 xs2]) ≠ ltI g)) := fun w' tv bb hT => by
              rw [← HK.out.1.1, ← HK.out.1.2.1, ← HK.out.1.2.2]
              exact lt_read HG.out.1 HG.out.2 hT HK.out.2.1 HK.out.2.2.1 HK.out.2.2.2
            obtain ⟨i0, -, -, i3, -, -, i6, -⟩ := (HI.out w6 C6).out
            obtain ⟨⟨j0, j1, j2⟩, -⟩ := (HJ.out w6 C6).out
            obtain ⟨zl0, zt0, za0, zc0, zx0⟩ := h0
            obtain ⟨zl1, zt1, za1, zc1, zx1⟩ := h1
            obtain ⟨zl2, zt2, za2, zc2, zx2⟩ := e2
            obtain ⟨yl2, yt2, ya2, yc2, yx2⟩ := h2
            obtain ⟨yl3, yt3, ya3, yc3, yx3⟩ := h3
            obtain ⟨yl4, yt4, ya4, yc4, yx4⟩ := h4
            obtain ⟨yl5, yt5, ya5, yc5, yx5⟩ := e0
            obtain ⟨yl6, yt6, ya6, yc6, yx6⟩ := e1
            obtain ⟨v0, hv0⟩ : ∃ v, Value.slice za0 zx0.length zc0 = v := ⟨_, rfl⟩
            obtain ⟨v1, hv1⟩ : ∃ v, Value.slice za1 zx1.length zc1 = v := ⟨_, rfl⟩
            obtain ⟨v2, hv2⟩ : ∃ v, Value.slice za2 zx2.length zc2 = v := ⟨_, rfl⟩
            simp only [Im.val, Im.l, Im.t, Im.sl, Im.a, Im.xs, Im.c, hv0, hv1, hv2] at K7 K8 K9 j0 j1 j2 HJ
            clear hv0 hv1 hv2
            go_wp2_with fail
            refine (K7 _).mono ?_
            rintro e w7 ⟨rfl, B7⟩
            have C7 := C6.trans (B7.mono C6.size)
            clear B7 C6 K7 i0 i3 i6 j0 j1 j2
            obtain ⟨-, ⟨j0, j1, j2⟩, -⟩ := (HJ.out w7 C7).out
            go_wp2_with fail
            refine (K8 _).mono ?_
            rintro e w8 ⟨rfl, B8⟩
            have C8 := C7.trans (B8.mono C7.size)
            clear B8 C7 K8 j0 j1 j2
            obtain ⟨-, -, ⟨j0, j1, j2⟩, -⟩ := (HJ.out w8 C8).out
            go_wp2_with fail
            refine (K9 _).mono ?_
            rintro e w9 ⟨rfl, B9⟩
            have C9 := C8.trans (B9.mono C8.size)
            clear B9 C8 K9 j0 j1 j2
            obtain ⟨i0, -, -, -, -, -, -, i7, i8, i9⟩ := (HI.out w9 C9).out
            go_wp2_with fail
            refine (K6 _ (HB.out w9 C9).out.1).mono ?_
            rintro e wA ⟨BA, tv, bb, av, cv, hT, rfl, sT⟩
            have CA := C9.trans (BA.mono C9.size)
            obtain ⟨HS1, HS2⟩ := HS.out wA tv bb hT
            have h9 := C9.size
            have HSX : Hid (_ ∧ _ ∧ _) := ⟨HS1, HS2, slP_of (Q := fun b => y + 2 ≤ b ∧ b < wA.heap.size) (fun b hb => ⟨⟨by omega, hb.2⟩, fun _ => rfl⟩) sT⟩
            clear h9 BA C9 K6 i0 i7 i8 i9 HS1 HS2 HS hT sT HI
            obtain ⟨nn, hnn⟩ : ∃ N, tv.length = N := ⟨_, rfl⟩
            have HNN : Hid (tv.length = nn) := hnn
            rw [hnn]
            clear hnn
            by_cases hall : k0 = true ∧ k1 = true ∧ k2 = true ∧ bb = true
            · obtain ⟨rfl, rfl, rfl, rfl⟩ := hall
              obtain ⟨-, -, -, j0, j1, j2, j3, j4⟩ := (HJ.out wA CA).out
              obtain ⟨bX, -, rX, sX⟩ := (HB.out wA CA).out
              have HX : Hid (_ ∧ _ ∧ _) := ⟨bX, rX, CA⟩
              have y3 := cell_regrown j0
              have y4 := cell_regrown j1
              have y5 := cell_regrown j2
              have y6 := cell_regrown j3
              have y7 := cell_regrown j4
              clear bX rX CA j0 j1 j2 j3 j4
              go_wp2_with fail
              refine region_tail 27 (by kernel_rfl) (by kernel_rfl) ?_
              simp only [List.take_succ_cons, List.take_zero, List.drop_succ_cons, List.drop_zero]
              iterate 27 (go_big_quiet_step (fail))
              refine wpQuiet_nil ?_
              intro wB hwB
              have hbB : Below wA.heap.size wA wB := by
                obtain ⟨p, rfl⟩ := hwB
                exact below_regrown _ _ _
              obtain ⟨bX, rX, CA⟩ := HX.out
              have bY : Below y w wB := bX.trans (hbB.mono (by omega))
              have rY := (hbB.block (y + 1) (by omega)).trans rX
              have HY2 : Hid (_ ∧ _) := ⟨bY, hbB⟩
              clear bX rX CA hwB hbB bY y3 y4 y5 y6 y7 HX
              refine store_row0 rfl rfl 29 _ _ rfl (y + 1) #[.int .u64 (n0 : Int), .int .u64 (n1 : Int), .string yt2, .string yt3, .string yt4, .string yt5, .string yt6, .int .u64 (n2 : Int), .slice av nn cv] rfl rfl 29 _ rY (by kernel_rfl) rfl (by simp [Value.oneCell']) ?_
              have rZ := setRow_heap wB (y + 1) _ #[.int .u64 (n0 : Int), .int .u64 (n1 : Int), .string yt2, .string yt3, .string yt4, .string yt5, .string yt6, .int .u64 (n2 : Int), .slice av nn cv] _ _ rY
              obtain ⟨wC, hwC⟩ : ∃ W, wB.setRow (y + 1) #[.int .u64 (n0 : Int), .int .u64 (n1 : Int), .string yt2, .string yt3, .string yt4, .string yt5, .string yt6, .int .u64 (n2 : Int), .slice av nn cv] = W := ⟨_, rfl⟩
              rw [hwC] at rZ ⊢
              have HW : Hid _ := hwC
              clear hwC rY
              go_wp2_with (with_reducible show bodyPost _ _ _ _ _ _; refine Stp.out ?_)
              refine Stp.mk ?_
              refine bodyPost_ret (results_row2 rfl _ _ (y + 1) 29 _ (0, 0) _ (by kernel_rfl) rZ Tryd.underlying29 rfl (by kernel_rfl) (.bool true) (by kernel_rfl)) rfl ?_
              obtain ⟨bY, hbB⟩ := HY2.out
              have hW := HW.out
              subst hW
              obtain ⟨HS1, -, sT⟩ := HSX.out
              obtain ⟨d, dok, hd, rfl⟩ := HS1 (by simp)
              refine ⟨?_, _, true, av, cv, .inl ⟨rfl, dok, hd⟩, ?_, ?_⟩
              · rw [HY.out]
                exact below_setRow bY (by omega) _
              · rw [← HNN.out]
                rfl
              · rcases sT with h | ⟨g, q, s1, s2, s3⟩
                · exact .inl h
                · refine .inr ⟨g, q, s1, ⟨by rw [HY.out]; omega, by rw [setRow_size]; exact Nat.lt_of_lt_of_le s2.2 hbB.size⟩, fun j x hx => ?_⟩
                  exact (cell_setRow_other _ _ _ _ (by show g ≠ y + 1; omega)).trans ((hbB.cell (p := ⟨g, q + j, none⟩) s2.2).trans (s3 j x hx))
            · cases k0 with
              | false =>
                obtain ⟨bX, -, rX, sX⟩ := (HB.out wA CA).out
                have HX : Hid (_ ∧ _) := ⟨bX, rX⟩
                have HE : Hid (_) := HSX.out.2.1 (fun h => Bool.noConfusion h.1)
                have gX := rX
                clear bX rX CA
                go_wp2_with (first | (with_reducible show bodyPost _ _ _ _ _ _; refine Stp.out ?_) | refine store_row0 rfl rfl 29 _ _ rfl (y + 1) #[.int .u64 0, .int .u64 0, .string ⟨#[]⟩, .string ⟨#[]⟩, .string ⟨#[]⟩, .string ⟨#[]⟩, .string ⟨#[]⟩, .int .u64 0, .slice none 0 0] (by kernel_rfl) (by kernel_rfl) 29 _ gX (by kernel_rfl) rfl (by simp [Value.oneCell']) ?_)
                refine Stp.mk ?_
                refine bodyPost_ret (results_row2 rfl _ _ (y + 1) 29 #[.int .u64 0, .int .u64 0, .string ⟨#[]⟩, .string ⟨#[]⟩, .string ⟨#[]⟩, .string ⟨#[]⟩, .string ⟨#[]⟩, .int .u64 0, .slice none 0 0] (0, 0) _ (by kernel_rfl) (setRow_heap _ _ _ _ _ _ gX) Tryd.underlying29 rfl (by kernel_rfl) (.bool false) (by kernel_rfl)) rfl ?_
                obtain ⟨bX, -⟩ := HX.out
                refine ⟨?_, zLt, false, none, 0, .inr ⟨rfl, rfl, HE.out⟩, rfl, .inl rfl⟩
                rw [HY.out]
                exact below_setRow bX (by omega) _
              | true => cases k1 with
                | false =>
                  obtain ⟨bX, -, rX, sX⟩ := (HB.out wA CA).out
                  have HX : Hid (_ ∧ _) := ⟨bX, rX⟩
                  have HE : Hid (_) := HSX.out.2.1 (fun h => Bool.noConfusion h.2.1)
                  have gX := rX
                  clear bX rX CA
                  go_wp2_with (first | (with_reducible show bodyPost _ _ _ _ _ _; refine Stp.out ?_) | refine store_row0 rfl rfl 29 _ _ rfl (y + 1) #[.int .u64 0, .int .u64 0, .string ⟨#[]⟩, .string ⟨#[]⟩, .string ⟨#[]⟩, .string ⟨#[]⟩, .string ⟨#[]⟩, .int .u64 0, .slice none 0 0] (by kernel_rfl) (by kernel_rfl) 29 _ gX (by kernel_rfl) rfl (by simp [Value.oneCell']) ?_)
                  refine Stp.mk ?_
                  refine bodyPost_ret (results_row2 rfl _ _ (y + 1) 29 #[.int .u64 0, .int .u64 0, .string ⟨#[]⟩, .string ⟨#[]⟩, .string ⟨#[]⟩, .string ⟨#[]⟩, .string ⟨#[]⟩, .int .u64 0, .slice none 0 0] (0, 0) _ (by kernel_rfl) (setRow_heap _ _ _ _ _ _ gX) Tryd.underlying29 rfl (by kernel_rfl) (.bool false) (by kernel_rfl)) rfl ?_
                  obtain ⟨bX, -⟩ := HX.out
                  refine ⟨?_, zLt, false, none, 0, .inr ⟨rfl, rfl, HE.out⟩, rfl, .inl rfl⟩
                  rw [HY.out]
                  exact below_setRow bX (by omega) _
                | true => cases k2 with
                  | false =>
                    obtain ⟨bX, -, rX, sX⟩ := (HB.out wA CA).out
                    have HX : Hid (_ ∧ _) := ⟨bX, rX⟩
                    have HE : Hid (_) := HSX.out.2.1 (fun h => Bool.noConfusion h.2.2.1)
                    have gX := rX
                    clear bX rX CA
                    go_wp2_with (first | (with_reducible show bodyPost _ _ _ _ _ _; refine Stp.out ?_) | refine store_row0 rfl rfl 29 _ _ rfl (y + 1) #[.int .u64 0, .int .u64 0, .string ⟨#[]⟩, .string ⟨#[]⟩, .string ⟨#[]⟩, .string ⟨#[]⟩, .string ⟨#[]⟩, .int .u64 0, .slice none 0 0] (by kernel_rfl) (by kernel_rfl) 29 _ gX (by kernel_rfl) rfl (by simp [Value.oneCell']) ?_)
                    refine Stp.mk ?_
                    refine bodyPost_ret (results_row2 rfl _ _ (y + 1) 29 #[.int .u64 0, .int .u64 0, .string ⟨#[]⟩, .string ⟨#[]⟩, .string ⟨#[]⟩, .string ⟨#[]⟩, .string ⟨#[]⟩, .int .u64 0, .slice none 0 0] (0, 0) _ (by kernel_rfl) (setRow_heap _ _ _ _ _ _ gX) Tryd.underlying29 rfl (by kernel_rfl) (.bool false) (by kernel_rfl)) rfl ?_
                    obtain ⟨bX, -⟩ := HX.out
                    refine ⟨?_, zLt, false, none, 0, .inr ⟨rfl, rfl, HE.out⟩, rfl, .inl rfl⟩
                    rw [HY.out]
                    exact below_setRow bX (by omega) _
                  | true => cases bb with
                    | false =>
                      obtain ⟨bX, -, rX, sX⟩ := (HB.out wA CA).out
                      have HX : Hid (_ ∧ _) := ⟨bX, rX⟩
                      have HE : Hid (_) := HSX.out.2.1 (fun h => Bool.noConfusion h.2.2.2)
                      have gX := rX
                      clear bX rX CA
                      go_wp2_with (first | (with_reducible show bodyPost _ _ _ _ _ _; refine Stp.out ?_) | refine store_row0 rfl rfl 29 _ _ rfl (y + 1) #[.int .u64 0, .int .u64 0, .string ⟨#[]⟩, .string ⟨#[]⟩, .string ⟨#[]⟩, .string ⟨#[]⟩, .string ⟨#[]⟩, .int .u64 0, .slice none 0 0] (by kernel_rfl) (by kernel_rfl) 29 _ gX (by kernel_rfl) rfl (by simp [Value.oneCell']) ?_)
                      refine Stp.mk ?_
                      refine bodyPost_ret (results_row2 rfl _ _ (y + 1) 29 #[.int .u64 0, .int .u64 0, .string ⟨#[]⟩, .string ⟨#[]⟩, .string ⟨#[]⟩, .string ⟨#[]⟩, .string ⟨#[]⟩, .int .u64 0, .slice none 0 0] (0, 0) _ (by kernel_rfl) (setRow_heap _ _ _ _ _ _ gX) Tryd.underlying29 rfl (by kernel_rfl) (.bool false) (by kernel_rfl)) rfl ?_
                      obtain ⟨bX, -⟩ := HX.out
                      refine ⟨?_, zLt, false, none, 0, .inr ⟨rfl, rfl, HE.out⟩, rfl, .inl rfl⟩
                      rw [HY.out]
                      exact below_setRow bX (by omega) _
                    | true => exact absurd ⟨rfl, rfl, rfl, rfl⟩ hall
end Go.Proofs.YtmefanagpkbjeaaDoor
namespace Go.Proofs.YtmefanagpkbjeaaDoor
open Go.RowKit Go.Shelf Go.Sort

def CmS (x : It) (d : CmD) (b : Bool) : Prop := (b = true ∧ x = cmI d) ∨ (b = false ∧ ∀ g : CmD, x ≠ cmI g)
def PostC (w : World) (x : It) (e : Ending) (w' : World) : Prop := Below w.heap.size w w' ∧ ∃ d b a c, CmS x d b ∧ e = .returned (.tuple #[.agg (cmV d a c).toArray, .bool b]) ∧ slP (fun b => w.heap.size ≤ b ∧ b < w'.heap.size) w' a d.ks
theorem cm_shape {X : Im} {g : CmD} (h : er X = cmI g) : (X.l && decide (X.xs.length = 2)) = true ∧ ers X.xs = [tsI g.ks, tI g.sm] := ls_shape h
theorem cm_read {t : ByteArray} {a : Option Addr} {c : Nat} {x0 x1 : Im} (ht : t = ⟨#[]⟩) (h0 : rgI (er x0) = true) (h1 : rgI (er x1) = true) (hl : x1.l = false) {tv : List ByteArray} {bb : Bool} (hT : TsR x0 tv bb) : CmS (er (.mk true t a c [x0, x1])) ⟨tv, x1.t⟩ bb := by
  have q := ts_read h0 hT
  have e : er (.mk true t a c [x0, x1]) = It.mk true t [er x0, er x1] := rfl
  rw [e, er_txt h1 hl]
  subst ht
  cases bb with
  | true => exact .inl ⟨rfl, by rw [q.1 rfl]; rfl⟩
  | false =>
    refine .inr ⟨rfl, fun g h => ?_⟩
    simp only [cmI, lsI, It.mk.injEq, List.cons.injEq, and_true, true_and] at h
    exact q.2 rfl _ h.1
set_option maxRecDepth 100000 in
set_option maxHeartbeats 4000000 in
theorem rcommOf_any (X : Im) (hK : cnt X < 100000000) (hr : rgI (er X) = true) (n : Nat) (w : World) (hn : n ≤ w.heap.size) (hp : inMem n w X) :
    Calls Tryd.prog 57 #[X.val] w (PostC w (er X)) := by
  obtain ⟨m1, hm1⟩ : ∃ b, (X.l && decide (X.xs.length = 2)) = b := ⟨_, rfl⟩
  have KM : ∀ W, Calls Tryd.prog 55 #[X.val, .int .i64 (2 : Nat)] W fun e w' => e = .returned (.bool m1) ∧ Below W.heap.size W w' := fun W => by rw [← hm1]; exact rmany_any X 2 W
  obtain ⟨l, t, a, c, xs⟩ := X
  replace hp : rowMem n w a 0 xs := hp
  simp only [Im.val, Im.l, Im.t, Im.sl, Im.a, Im.xs, Im.c] at KM hm1 ⊢
  obtain ⟨N, hN⟩ : ∃ N, xs.length = N := ⟨_, rfl⟩
  have HN : Hid (xs.length = N) := hN
  obtain ⟨A0, h0, h1⟩ := two_boxes w (.cells #[.bool l, .string t, .slice a N c] 70) (.cells #[.slice none 0 0, .string ⟨#[]⟩] 31)
  obtain ⟨y, hy⟩ : ∃ y, w.heap.size = y := ⟨_, rfl⟩
  have HY : Hid (w.heap.size = y) := hy
  obtain ⟨w1, hw1⟩ : ∃ W, (w.alloc (.cells #[.bool l, .string t, .slice a N c] 70)).alloc (.cells #[.slice none 0 0, .string ⟨#[]⟩] 31) = W := ⟨_, rfl⟩
  have hsz1 : w1.heap.size = y + 2 := by rw [← hw1, ← hy]; simp
  rw [hw1] at A0 h0 h1
  rw [hy] at A0 h0 h1 hn
  rw [hN] at KM ⊢
  have HM : Hid _ := hm1
  have HB : Hid (∀ W : World, Below w1.heap.size w1 W → Hid (Below y w W ∧ W.heap[y]? = some (.cells #[.bool l, .string t, .slice a N c] 70 (0, 0)) ∧ W.heap[y + 1]? = some (.cells #[.slice none 0 0, .string ⟨#[]⟩] 31 (0, 0)) ∧ y + 2 ≤ W.heap.size)) := fun W hB => ⟨A0.trans (hB.mono (by omega)), (hB.block y (by omega)).trans h0, (hB.block (y + 1) (by omega)).trans h1, by have := hB.size; omega⟩
  have d0 : w1.cell? ⟨y, 0, none⟩ = some (.bool l) := by rw [Lib.cell_of_heap h0]; rfl
  have d1 : w1.cell? ⟨y, 1, none⟩ = some (.string t) := by rw [Lib.cell_of_heap h0]; rfl
  have d2 : w1.cell? ⟨y, 2, none⟩ = some (.slice a N c) := by rw [Lib.cell_of_heap h0]; rfl
  clear hN hm1 A0 h0 h1
  go_enter Tryd.func57, Tryd.ntmps57
  have C1 : Below w1.heap.size w1 w1 := Below.refl _ _
  go_wp2_with fail
  first | rw [hw1] | skip
  clear hw1 hy d0 d1 d2
  refine (KM _).mono ?_
  rintro e w2 ⟨rfl, B2⟩
  have C2 := C1.trans (B2.mono (Nat.le_refl _))
  clear B2 C1 KM
  cases m1 with
  | false =>
    obtain ⟨bX, -, rX, sX⟩ := (HB.out w2 C2).out
    have HX : Hid (_ ∧ _) := ⟨bX, rX⟩
    have HE : Hid (_) := (fun g e => Bool.noConfusion (HM.out.symm.trans (cm_shape e).1) : ∀ g : CmD, er (.mk l t a c xs) ≠ cmI g)
    have gX := rX
    clear bX rX C2
    go_wp2_with (refine store_row0 rfl rfl 31 _ _ rfl (y + 1) _ rfl rfl 31 _ gX (by kernel_rfl) rfl (by simp [Value.oneCell']) ?_)
    refine bodyPost_ret (results_row2 rfl _ _ (y + 1) 31 _ (0, 0) _ rfl (setRow_heap _ _ _ _ _ _ gX) Tryd.underlying31 rfl (by kernel_rfl) (.bool false) rfl) rfl ?_
    obtain ⟨bX, -⟩ := HX.out
    refine ⟨?_, zCm, false, none, 0, .inr ⟨rfl, HE.out⟩, rfl, .inl rfl⟩
    rw [HY.out]
    exact below_setRow bX (by omega) _
  | true =>
    have hml : l = true ∧ xs.length = 2 := by
      have := HM.out
      rw [Bool.and_eq_true] at this
      exact ⟨this.1, of_decide_eq_true this.2⟩
    obtain ⟨rfl, hl2⟩ := hml
    obtain ⟨x0, x1, rfl⟩ := lst2 xs hl2
    obtain rfl : 2 = N := HN.out
    obtain ⟨b, o, rfl⟩ := row_block hp
    have hyw : y ≤ w.heap.size := by rw [HY.out]; exact Nat.le_refl _
    have HR : Hid (∀ W : World, Below y w W → ∀ j x, [x0, x1][j]? = some x → _) := fun W hB j x hx => row_cells hn hp hB hyw b o rfl j x hx
    have hk3 : x0.xs.length < 100000000 := by
      have hc : cnt x0 + (cnt x1 + 0) + 1 < 100000000 := hK
      have := len_cnts x0.xs
      rw [cnt_eq x0] at hc
      omega
    have K6 : ∀ W, Below y w W → Calls Tryd.prog 58 #[x0.val] W fun e w' => Below W.heap.size W w' ∧ ∃ ts b a c, TsR x0 ts b ∧ e = .returned (.tuple #[.slice a ts.length c, .bool b]) ∧ slP (fun b => W.heap.size ≤ b ∧ b < w'.heap.size) w' a ts := fun W hB => rtextsOf_any x0 hk3 n W (by have := hB.size; omega) (HR.out W hB 0 x0 rfl).2.2.2
    have hrg : t = ⟨#[]⟩ ∧ rgI (er x0) = true ∧ rgI (er x1) = true := by
      obtain ⟨s1, s2⟩ := rgI_lst hr rfl
      injection s1 with _ s1 _
      have s2 : rgIs [er x0, er x1] = true := s2
      exact ⟨s1, rgIs_mem _ _ s2 (by simp), rgIs_mem _ _ s2 (by simp)⟩
    have HG : Hid _ := hrg
    clear hk3 hl2 hp hrg
    obtain ⟨l0, t0, a0, c0, xs0⟩ := x0
    obtain ⟨l1, t1, a1, c1, xs1⟩ := x1
    simp only [Im.val, Im.l, Im.t, Im.sl, Im.a, Im.xs, Im.c] at K6
    obtain ⟨N0, hN0⟩ : ∃ N, xs0.length = N := ⟨_, rfl⟩
    rw [hN0] at K6
    have HI : Hid (∀ W : World, Below w1.heap.size w1 W → Hid (W.cell? ⟨y, 2, none⟩ = some (.slice (some ⟨b, o, none⟩) 2 c) ∧ W.cell? ⟨b, o, none⟩ = some (.bool l0) ∧ W.cell? ⟨b, o + 1, none⟩ = some (.string t0) ∧ W.cell? ⟨b, o + 2, none⟩ = some (.slice a0 N0 c0) ∧ W.cell? ⟨b, o + 3, none⟩ = some (.bool l1) ∧ W.cell? ⟨b, o + 4, none⟩ = some (.string t1))) := fun W hB => by
      obtain ⟨bX, rY, _, _⟩ := (HB.out W hB).out
      have r0 := HR.out W bX 0 _ rfl
      have r1 := HR.out W bX 1 _ rfl
      simp only [Im.sl, Im.l, Im.t, Im.a, Im.xs, Im.c, hN0] at r0 r1
      exact ⟨by rw [Lib.cell_of_heap rY]; rfl, r0.1, r0.2.1, r0.2.2.1, r1.1, r1.2.1⟩
    clear hN0
    obtain ⟨i0, -, -, -, i1, -⟩ := (HI.out w2 C2).out
    cases l1 with
    | true =>
      obtain ⟨bX, -, rX, sX⟩ := (HB.out w2 C2).out
      have HX : Hid (_ ∧ _) := ⟨bX, rX⟩
      have HE : Hid (_) := (fun g e => by
        have := (cm_shape e).2
        injection this with _ this
        injection this with this _
        injection this with this
        exact Bool.noConfusion this : ∀ g : CmD, er (.mk true t (some ⟨b, o, none⟩) c [.mk l0 t0 a0 c0 xs0, .mk true t1 a1 c1 xs1]) ≠ cmI g)
      have gX := rX
      clear bX rX C2
      go_wp2_with (refine store_row0 rfl rfl 31 _ _ rfl (y + 1) _ rfl rfl 31 _ gX (by kernel_rfl) rfl (by simp [Value.oneCell']) ?_)
      refine bodyPost_ret (results_row2 rfl _ _ (y + 1) 31 _ (0, 0) _ rfl (setRow_heap _ _ _ _ _ _ gX) Tryd.underlying31 rfl (by kernel_rfl) (.bool false) rfl) rfl ?_
      obtain ⟨bX, -⟩ := HX.out
      refine ⟨?_, zCm, false, none, 0, .inr ⟨rfl, HE.out⟩, rfl, .inl rfl⟩
      rw [HY.out]
      exact below_setRow bX (by omega) _
    | false =>
      clear i0 i1
      obtain ⟨i0, i1, i2, i3, i4, -⟩ := (HI.out w2 C2).out
      go_wp2_with fail
      refine (K6 _ (HB.out w2 C2).out.1).mono ?_
      rintro e wA ⟨BA, tv, bb, av, cv, hT, rfl, sT⟩
      have CA := C2.trans (BA.mono C2.size)
      have h9 := C2.size
      have HSX : Hid (_ ∧ _) := ⟨cm_read (a := some ⟨b, o, none⟩) (c := c) HG.out.1 HG.out.2.1 HG.out.2.2 rfl hT, slP_of (Q := fun b => y + 2 ≤ b ∧ b < wA.heap.size) (fun b hb => ⟨⟨by omega, hb.2⟩, fun _ => rfl⟩) sT⟩
      clear h9 BA C2 K6 i0 i1 i2 i3 i4 hT sT
      obtain ⟨nn, hnn⟩ : ∃ N, tv.length = N := ⟨_, rfl⟩
      have HNN : Hid (tv.length = nn) := hnn
      rw [hnn]
      clear hnn
      obtain ⟨i0, -, -, -, -, i5⟩ := (HI.out wA CA).out
      obtain ⟨bX, -, rX, sX⟩ := (HB.out wA CA).out
      have HX : Hid (_ ∧ _ ∧ _) := ⟨bX, rX, CA.size⟩
      have gX := rX
      clear bX rX CA
      go_wp2_with (refine store_row0 rfl rfl 31 _ _ rfl (y + 1) _ rfl rfl 31 _ gX (by kernel_rfl) rfl (by simp [Value.oneCell']) ?_)
      refine bodyPost_ret (results_row2 rfl _ _ (y + 1) 31 _ (0, 0) _ rfl (setRow_heap _ _ _ _ _ _ gX) Tryd.underlying31 rfl (by kernel_rfl) (.bool bb) rfl) rfl ?_
      obtain ⟨bX, -, hzA⟩ := HX.out
      obtain ⟨hC, sT⟩ := HSX.out
      refine ⟨?_, ⟨tv, t1⟩, bb, av, cv, hC, ?_, ?_⟩
      · rw [HY.out]
        exact below_setRow bX (by omega) _
      · rw [← HNN.out]
        rfl
      · rcases sT with h | ⟨g, q, s1, s2, s3⟩
        · exact .inl h
        · refine .inr ⟨g, q, s1, ⟨by rw [HY.out]; omega, by rw [setRow_size]; exact s2.2⟩, fun j x hx => ?_⟩
          exact (cell_setRow_other _ _ _ _ (by show g ≠ y + 1; omega)).trans (s3 j x hx)
end Go.Proofs.YtmefanagpkbjeaaDoor
