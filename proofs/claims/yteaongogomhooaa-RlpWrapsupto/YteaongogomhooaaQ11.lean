/- Items made anew: copied, List, Text. -/
import Derived.Test.YteaongogomhooaaQ10
import Derived.Deep.WholeRow
import Derived.Deep.MidRow
namespace Go.Proofs.Yteaongogomhooaa
open Go.RowKit Go.Shelf Go.Sort

/-- An item, wherever it lies. -/
inductive It where
  | mk (l : Bool) (t : ByteArray) (xs : List It)
mutual
def er : Im → It
  | .mk l t _ _ xs => .mk l t (ers xs)
def ers : List Im → List It
  | [] => []
  | x :: r => er x :: ers r
end
theorem ers_map : ∀ xs, ers xs = xs.map er
  | [] => rfl
  | x :: r => by
    show er x :: ers r = _
    rw [ers_map r]
    rfl
mutual
/-- It lies in blocks of a kind. -/
def inP (p : Nat → Prop) (W : World) : Im → Prop
  | .mk _ _ a _ xs => rowP p W a 0 xs
def rowP (p : Nat → Prop) (W : World) (a : Option Addr) : Nat → List Im → Prop
  | _, [] => True
  | i, x :: r => (∃ b o, p b ∧ a = some ⟨b, o, none⟩ ∧ W.cell? ⟨b, o + 3 * i, none⟩ = some (.bool x.l) ∧ W.cell? ⟨b, o + 3 * i + 1, none⟩ = some (.string x.t) ∧ W.cell? ⟨b, o + 3 * i + 2, none⟩ = some x.sl) ∧ inP p W x ∧ rowP p W a (i + 1) r
end
mutual
theorem inMem_of {p : Nat → Prop} {n : Nat} {W : World} (hp : ∀ b, p b → b < n) : ∀ x, inP p W x → inMem n W x
  | .mk _ _ a _ xs, h => rowMem_of hp a 0 xs h
theorem rowMem_of {p : Nat → Prop} {n : Nat} {W : World} (hp : ∀ b, p b → b < n) (a : Option Addr) : ∀ i xs, rowP p W a i xs → rowMem n W a i xs
  | _, [], _ => trivial
  | i, x :: r, ⟨⟨b, o, h0, h1, h2⟩, h5, h6⟩ => ⟨⟨b, o, hp b h0, h1, h2⟩, inMem_of hp x h5, rowMem_of hp a (i + 1) r h6⟩
end
mutual
theorem inP_of {p q : Nat → Prop} {W W' : World} (hp : ∀ b, p b → q b ∧ ∀ k, W'.cell? ⟨b, k, none⟩ = W.cell? ⟨b, k, none⟩) : ∀ x, inP p W x → inP q W' x
  | .mk _ _ a _ xs, h => rowP_of hp a 0 xs h
theorem rowP_of {p q : Nat → Prop} {W W' : World} (hp : ∀ b, p b → q b ∧ ∀ k, W'.cell? ⟨b, k, none⟩ = W.cell? ⟨b, k, none⟩) (a : Option Addr) : ∀ i xs, rowP p W a i xs → rowP q W' a i xs
  | _, [], _ => trivial
  | i, x :: r, ⟨⟨b, o, h0, h1, h2, h3, h4⟩, h5, h6⟩ => ⟨⟨b, o, (hp b h0).1, h1, ((hp b h0).2 _).trans h2, ((hp b h0).2 _).trans h3, ((hp b h0).2 _).trans h4⟩, inP_of hp x h5, rowP_of hp a (i + 1) r h6⟩
end

theorem info_item : (Try.prog.info? 24).map (fun i => (i.zero, i.size, i.bytes)) = some (some (.agg #[.bool false, .string ⟨#[]⟩, .slice none 0 0]), 3, 48) := by kernel_rfl
theorem cell_ne (W : World) (p : Addr) (u : Value) (b k : Nat) (h : b ≠ p.block) : (W.setCell p u).cell? ⟨b, k, none⟩ = W.cell? ⟨b, k, none⟩ := World.cell?_of_block (w := W) (Below.heap_setCell _ _ _ _ h)
/-- A row that is written at three places. -/
theorem owns_three {W : World} {z N bx q : Nat} {cl : List Value} (h : W.ownsRow z 24 3 (.slice (some ⟨z, 0, none⟩) N N) N cl) (hb : z ≠ bx) (u u0 u1 u2 : Value) :
    ((((W.setCell ⟨bx, 2, none⟩ u).setCell ⟨z, q, none⟩ u0).setCell ⟨z, q + 1, none⟩ u1).setCell ⟨z, q + 2, none⟩ u2).ownsRow z 24 3 (.slice (some ⟨z, 0, none⟩) N N) N (((cl.set q u0).set (q + 1) u1).set (q + 2) u2) := by
  have h1 : (W.setCell ⟨bx, 2, none⟩ u).ownsRow z 24 3 (.slice (some ⟨z, 0, none⟩) N N) N cl :=
    h.kept (row := some bx) ⟨rfl, rfl, rfl, by simp [World.setCell], fun k _ hk => Below.heap_setCell _ _ _ _ (fun e => hk (by simp [e]))⟩ (Or.inr (fun e => hb (by injection e)))
  exact ((((h1.stored q u0).1).stored (q + 1) u1).1.stored (q + 2) u2).1
theorem below_set {B : Nat} {A W : World} (h : Below B A W) (b o : Nat) (hb : B ≤ b) (u : Value) : Below B A (W.setCell ⟨b, o, none⟩ u) := h.setCell (p := ⟨b, o, none⟩) hb u
/-- The items that a row holds, from its front. -/
def Held (cl : List Value) (ys : List Im) : Prop := ∀ j y, ys[j]? = some y → cl[3 * j]? = some (.bool y.l) ∧ cl[3 * j + 1]? = some (.string y.t) ∧ cl[3 * j + 2]? = some y.sl
theorem Held.snoc {cl : List Value} {ys : List Im} (h : Held cl ys) (y : Im) (hl : 3 * ys.length + 2 < cl.length) : Held (((cl.set (3 * ys.length) (.bool y.l)).set (3 * ys.length + 1) (.string y.t)).set (3 * ys.length + 2) y.sl) (ys ++ [y]) := by
  intro j x hx
  by_cases hj : j < ys.length
  · rw [List.getElem?_append_left hj] at hx
    have := h j x hx
    rw [List.getElem?_set_ne (by omega), List.getElem?_set_ne (by omega), List.getElem?_set_ne (by omega), List.getElem?_set_ne (by omega), List.getElem?_set_ne (by omega), List.getElem?_set_ne (by omega), List.getElem?_set_ne (by omega), List.getElem?_set_ne (by omega), List.getElem?_set_ne (by omega)]
    exact this
  · have hj2 : j = ys.length := by
      have := (List.getElem?_eq_some_iff.1 hx).1
      simp at this
      omega
    subst hj2
    simp at hx
    subst hx
    refine ⟨?_, ?_, ?_⟩
    · rw [List.getElem?_set_ne (by omega), List.getElem?_set_ne (by omega), List.getElem?_set_self (by omega)]
    · rw [List.getElem?_set_ne (by omega), List.getElem?_set_self (by simp; omega)]
    · rw [List.getElem?_set_self (by simp; omega)]

set_option maxRecDepth 20000 in
set_option maxHeartbeats 2000000 in
theorem copied_of (xs : List Im) (hc : xs.length < 100000000) (n : Nat) (a : Option Addr) (c : Nat)
    (IH : ∀ (j : Nat) (y : Im), xs[j]? = some y → ∀ w : World, n ≤ w.heap.size → inMem n w y → Calls Try.prog 36 #[y.sl] w fun e w' => ∃ a' c' ys, e = .returned (.slice a' ys.length c') ∧ ers ys = ers y.xs ∧ rowP (fun b => w.heap.size ≤ b ∧ b < w'.heap.size) w' a' 0 ys ∧ Below w.heap.size w w')
    (w : World) (hn : n ≤ w.heap.size) (hm : rowMem n w a 0 xs) :
    Calls Try.prog 36 #[.slice a xs.length c] w fun e w' => ∃ a' c' ys, e = .returned (.slice a' ys.length c') ∧ ers ys = ers xs ∧ rowP (fun b => w.heap.size ≤ b ∧ b < w'.heap.size) w' a' 0 ys ∧ Below w.heap.size w w' := by
  obtain ⟨i0, hi0, hz0, hz1, hz2⟩ := info_parts info_item
  go_enter Try.func36, Try.ntmps36
  obtain ⟨N, hN⟩ : ∃ N, xs.length = N := ⟨_, rfl⟩
  rw [hN] at hc ⊢
  by_cases h0 : N = 0
  · subst h0
    go_wp2
    go_ret
    have : xs = [] := List.length_eq_zero_iff.1 hN
    subst this
    exact ⟨none, 0, [], rfl, rfl, trivial, Below.refl _ _⟩
  · have l0 : ¬ (N : Int) = 0 := by omega
    go_wp2_with (at_make; refine wpList_make_full _ rfl _ _ 22 rfl w.heap.size 24 i0 _ 3 Try.underlying22 hi0 hz0 hz1 .i64 .i64 _ _ N rfl rfl rfl rfl (by rw [hz2]; omega) (by unfold maxLen; omega) (Nat.le_refl _) ?_; intro w1 hown hgr)
    obtain ⟨z, hz⟩ : ∃ z, w.heap.size = z := ⟨_, rfl⟩
    have B1 : Below z w w1 := hz ▸ (Below.refl _ w).grown hgr (Nat.le_refl _) (fun _ e => by cases e)
    have HZ : Hid (w.heap.size = z) := hz
    have hzw : z < w1.heap.size := by
      rcases hown.2 with ⟨h, _⟩ | ⟨g, _, _, h, _, h2, _⟩
      · cases h
      · cases h
        rw [← hz]
        exact (Array.getElem?_eq_some_iff.1 h2).1
    rw [hz] at hown hn ⊢
    go_loopg [14] N (fun gk i wr => ∃ (k : Nat) (cl : List Value) (ys : List Im), k + gk = N ∧ i = .int .i64 k ∧ wr.ownsRow z 24 3 (.slice (some ⟨z, 0, none⟩) N N) N cl ∧ Held cl ys ∧ ys.length = k ∧ ers ys = ers (xs.take k) ∧ (∀ y, y ∈ ys → inP (fun b => z < b ∧ b < wr.heap.size) wr y) ∧ Below z w wr)
    case atStart => exact ⟨0, _, [], by omega, rfl, hown, (fun j y h => by cases h), rfl, rfl, (fun y h => by cases h), B1⟩
    case round =>
      obtain ⟨k, cl, ys, hk, rfl, hownr, hheld, hys, hers, hin, BW⟩ := hrel
      have hzr : z < wr.heap.size := (hownr.lt z rfl).2
      by_cases hlt : k < N
      · have l1 : (k : Int) < N := by omega
        obtain ⟨y, hy⟩ : ∃ y, xs[k]? = some y := ⟨xs[k]'(by omega), List.getElem?_eq_getElem (by omega)⟩
        obtain ⟨⟨b, o, hb, rfl, c0, c1, c2⟩, hy2⟩ := row_at xs 0 hm k y hy
        have hbw : b < w.heap.size := by rw [HZ.out]; omega
        have hnr : n ≤ wr.heap.size := by omega
        have hy3 := inMem_below (by rw [HZ.out]; exact hn) (BW.mono hn) y hy2
        have hbz : b < z := by omega
        replace c0 := (BW.cell (p := ⟨b, _, none⟩) hbz).trans c0
        replace c1 := (BW.cell (p := ⟨b, _, none⟩) hbz).trans c1
        replace c2 := (BW.cell (p := ⟨b, _, none⟩) hbz).trans c2
        obtain ⟨p, hp⟩ : ∃ p, o + 3 * k = p := ⟨_, rfl⟩
        rw [show o + 3 * (0 + k) = p by omega] at c0 c1 c2
        have hp2 : o + k * 3 = p := by omega
        have KS := IH k y hy
        have wk : IntKind.i64.wrap ((k : Int) + 1) = ((k + 1 : Nat) : Int) := by rw [IntKind.wrap_i64]; omega
        obtain ⟨yl, yt, ya, yc, yx⟩ := y
        simp only [Im.l, Im.t, Im.sl, Im.a, Im.xs, Im.c] at c0 c1 c2 KS
        clear IH
        go_wp2_with fail
        have A1 : Below wr.heap.size wr (wr.alloc (.cells #[.bool yl, .string yt, .slice ya yx.length yc] 24)) := (Below.refl _ wr).alloc (Nat.le_refl _) _
        have hbx : ItIn wr.heap.size (.mk yl yt ya yc yx) (wr.alloc (.cells #[.bool yl, .string yt, .slice ya yx.length yc] 24)) := World.alloc_heap_new wr _
        refine (KS _ (by simp; omega) (inMem_below hnr (A1.mono hnr) _ hy3)).mono ?_
        rintro e w3 ⟨a', c', zs, rfl, hzs, hrow, B3⟩
        have hbx3 : ItIn wr.heap.size (.mk yl yt ya yc yx) w3 := (B3.block _ (by simp)).trans hbx
        have BA := belowStep A1 (by simp) B3
        rw [World.size_alloc] at hrow
        have hs3 : wr.heap.size < w3.heap.size := hbx3.lt
        have hown3 := owns_below hownr BA
        clear A1 hbx B3 KS hy3 hy2 c0 c1 c2
        have d0 : w3.cell? ⟨wr.heap.size, 0, none⟩ = some (.bool yl) := by rw [Lib.cell_of_heap hbx3]; rfl
        have d1 : w3.cell? ⟨wr.heap.size, 1, none⟩ = some (.string yt) := by rw [Lib.cell_of_heap hbx3]; rfl
        have d2 : w3.cell? ⟨wr.heap.size, 2, none⟩ = some (.slice ya yx.length yc) := by rw [Lib.cell_of_heap hbx3]; rfl
        have f2 := Lib.frozen_of_heap hbx3 2
        obtain ⟨bx, hbxe⟩ : ∃ q, wr.heap.size = q := ⟨_, rfl⟩
        rw [hbxe] at d0 d1 d2 f2 hrow hs3 hbx3 hzr hin ⊢
        have hzx : z ≠ bx := by omega
        obtain ⟨v0, hv0⟩ : ∃ v, w3.cell? ⟨z, k * 3, none⟩ = some v := by
          rw [hown3.cellAt (k * 3) (by omega)]
          exact ⟨_, List.getElem?_eq_getElem (by rw [hown3.1]; omega)⟩
        obtain ⟨v1, hv1⟩ : ∃ v, w3.cell? ⟨z, k * 3 + 1, none⟩ = some v := by
          rw [hown3.cellAt (k * 3 + 1) (by omega)]
          exact ⟨_, List.getElem?_eq_getElem (by rw [hown3.1]; omega)⟩
        obtain ⟨v2, hv2⟩ : ∃ v, w3.cell? ⟨z, k * 3 + 2, none⟩ = some v := by
          rw [hown3.cellAt (k * 3 + 2) (by omega)]
          exact ⟨_, List.getElem?_eq_getElem (by rw [hown3.1]; omega)⟩
        have g0 := hown3.frozenAt (k * 3)
        have g1 := hown3.frozenAt (k * 3 + 1)
        have g2 := hown3.frozenAt (k * 3 + 2)
        have hown4 := owns_three (bx := bx) (q := k * 3) hown3 hzx (.slice a' zs.length c') (.bool yl) (.string yt) (.slice a' zs.length c')
        have HX : Hid (_ ∧ _ ∧ _ ∧ _ ∧ _ ∧ _ ∧ _ ∧ _ ∧ _) := ⟨hown4, hown3.1, BA, BW, hheld, hin, hrow, hers, hzs⟩
        clear hown3 hown4 BA BW hheld hin hrow hers hzs hownr
        go_wp2
        go_roundg (gk - 1)
        case measure => omega
        case rel =>
          obtain ⟨hown4, hcl, BA, BW, hheld, hin, hrow, hers, hzs⟩ := HX.out
          have BWz : Below z w w3 := belowStep BW (by omega) BA
          have hhe := hheld.snoc (.mk yl yt a' c' zs) (by rw [hcl, hys]; omega)
          rw [hys, show 3 * k = k * 3 by omega] at hhe
          simp only [Im.l, Im.t, Im.sl, Im.a, Im.xs, Im.c] at hhe
          refine ⟨k + 1, _, ys ++ [.mk yl yt a' c' zs], by omega, by first | rfl | (congr 1; omega), hown4, hhe, by simp [hys], ?_, ?_, below_set (below_set (below_set (below_set BWz bx 2 (by omega) _) z _ (Nat.le_refl _) _) z _ (Nat.le_refl _) _) z _ (Nat.le_refl _) _⟩
          · rw [ers_map, List.map_append, ← ers_map, hers, List.take_add_one, hy, ers_map, ers_map, List.map_append]
            show _ ++ [It.mk yl yt (ers zs)] = _ ++ [It.mk yl yt (ers yx)]
            rw [hzs]
          · intro y' hy'
            rcases List.mem_append.1 hy' with h | h
            · refine inP_of (fun b hb => ⟨⟨hb.1, by simp [World.setCell]; omega⟩, fun j => ?_⟩) y' (hin y' h)
              rw [cell_ne _ _ _ _ _ (by show b ≠ z; omega), cell_ne _ _ _ _ _ (by show b ≠ z; omega), cell_ne _ _ _ _ _ (by show b ≠ z; omega), cell_ne _ _ _ _ _ (by show b ≠ bx; omega)]
              exact BA.cell (p := ⟨b, j, none⟩) (by rw [hbxe]; exact hb.2)
            · simp at h
              subst h
              refine rowP_of (fun b hb => ⟨⟨by omega, by simp [World.setCell]; omega⟩, fun j => ?_⟩) a' 0 zs hrow
              rw [cell_ne _ _ _ _ _ (by show b ≠ z; omega), cell_ne _ _ _ _ _ (by show b ≠ z; omega), cell_ne _ _ _ _ _ (by show b ≠ z; omega), cell_ne _ _ _ _ _ (by show b ≠ bx; omega)]
      · have hk2 : k = N := by omega
        have l1 : ¬ (k : Int) < N := by omega
        have HX : Hid (_ ∧ _ ∧ _ ∧ _ ∧ _) := ⟨hownr, BW, hheld, hin, hers⟩
        clear hownr BW hheld hin hers
        go_wp2
        go_ret
        obtain ⟨hownr, BW, hheld, hin, hers⟩ := HX.out
        rw [hk2, ← hN, List.take_length] at hers
        refine ⟨some ⟨z, 0, none⟩, N, ys, by rw [hys, hk2]; rfl, hers, ?_, BW⟩
        have key : ∀ (r : List Im) (i : Nat), ys.drop i = r → rowP (fun b => z ≤ b ∧ b < wr.heap.size) wr (some ⟨z, 0, none⟩) i r := by
          intro r
          induction r with
          | nil => intro i _; trivial
          | cons y r ih =>
            intro i hi
            have hyi : ys[i]? = some y := by
              have := congrArg (·[0]?) hi
              simpa using this
            have hil := (List.getElem?_eq_some_iff.1 hyi).1
            obtain ⟨e0, e1, e2⟩ := hheld i y hyi
            refine ⟨⟨z, 0, ⟨Nat.le_refl _, hzr⟩, rfl, ?_, ?_, ?_⟩, ?_, ih (i + 1) ?_⟩
            · rw [show 0 + 3 * i = 3 * i by omega, hownr.cellAt _ (by omega)]; exact e0
            · rw [show 0 + 3 * i + 1 = 3 * i + 1 by omega, hownr.cellAt _ (by omega)]; exact e1
            · rw [show 0 + 3 * i + 2 = 3 * i + 2 by omega, hownr.cellAt _ (by omega)]; exact e2
            · exact inP_of (fun b hb => ⟨⟨by omega, hb.2⟩, fun _ => rfl⟩) y (hin y (List.mem_of_getElem? hyi))
            · rw [← List.drop_drop, hi]
              rfl
        exact key ys 0 rfl
theorem copied_all : ∀ (M : Nat) (xs : List Im), cnts xs ≤ M → cnts xs < 100000000 → ∀ (n : Nat) (a : Option Addr) (c : Nat) (w : World), n ≤ w.heap.size → rowMem n w a 0 xs →
    Calls Try.prog 36 #[.slice a xs.length c] w fun e w' => ∃ a' c' ys, e = .returned (.slice a' ys.length c') ∧ ers ys = ers xs ∧ rowP (fun b => w.heap.size ≤ b ∧ b < w'.heap.size) w' a' 0 ys ∧ Below w.heap.size w w'
  | 0, xs, h, h2, n, a, c, w, hn, hm => by
    have hl := len_cnts xs
    have : xs = [] := List.length_eq_zero_iff.1 (by omega)
    subst this
    exact copied_of [] (by simp) n a c (fun j y h => by cases h) w hn hm
  | M + 1, xs, h, h2, n, a, c, w, hn, hm => by
    have hl := len_cnts xs
    refine copied_of xs (by omega) n a c (fun j y hy w' hn' hm' => ?_) w hn hm
    have hc := cnts_at xs j y hy
    rw [cnt_eq] at hc
    rw [inMem_eq] at hm'
    exact copied_all M y.xs (by omega) (by omega) n y.a y.c w' hn' hm'

def txt (s : ByteArray) : Im := .mk false s none 0 []
theorem text_any (s : ByteArray) (w : World) : Calls Try.prog 22 #[.string s] w fun e w' => e = .returned (txt s).val ∧ Below w.heap.size w w' := by
  go_enter Try.func22, Try.ntmps22
  go_wp2
  refine bodyPost_ret (v := .agg #[.bool false, .string s, .slice none 0 0]) (by simp [results, Try.results22, go_sem]) rfl ⟨rfl, ?_⟩
  exact (Below.refl _ w).alloc (Nat.le_refl _) _
theorem list_any (xs : List Im) (h : cnts xs < 100000000) (n : Nat) (a : Option Addr) (c : Nat) (w : World) (hn : n ≤ w.heap.size) (hm : rowMem n w a 0 xs) :
    Calls Try.prog 21 #[.slice a xs.length c] w fun e w' => ∃ x : Im, e = .returned x.val ∧ er x = .mk true ⟨#[]⟩ (ers xs) ∧ inP (fun b => w.heap.size ≤ b ∧ b < w'.heap.size) w' x ∧ Below w.heap.size w w' := by
  have KC := copied_all (cnts xs) xs (Nat.le_refl _) h n a c
  go_enter Try.func21, Try.ntmps21
  go_wp2_with fail
  have A1 : Below w.heap.size w (w.alloc (.cells #[.bool false, .string ⟨#[]⟩, .slice none 0 0] 24)) := (Below.refl _ w).alloc (Nat.le_refl _) _
  have hbx : ItIn w.heap.size (.mk false ⟨#[]⟩ none 0 []) (w.alloc (.cells #[.bool false, .string ⟨#[]⟩, .slice none 0 0] 24)) := World.alloc_heap_new w _
  refine (KC _ (by simp; omega) (rowMem_below hn (A1.mono hn) _ _ _ hm)).mono ?_
  rintro e w3 ⟨a', c', zs, rfl, hzs, hrow, B3⟩
  have hbx3 : ItIn w.heap.size (.mk false ⟨#[]⟩ none 0 []) w3 := (B3.block _ (by simp)).trans hbx
  have BA := belowStep A1 (by simp) B3
  rw [World.size_alloc] at hrow
  have hs3 : w.heap.size < w3.heap.size := hbx3.lt
  clear A1 hbx B3 KC
  have d0 : w3.cell? ⟨w.heap.size, 0, none⟩ = some (.bool false) := by rw [Lib.cell_of_heap hbx3]; rfl
  have d1 : w3.cell? ⟨w.heap.size, 1, none⟩ = some (.string ⟨#[]⟩) := by rw [Lib.cell_of_heap hbx3]; rfl
  have d2 : w3.cell? ⟨w.heap.size, 2, none⟩ = some (.slice none 0 0) := by rw [Lib.cell_of_heap hbx3]; rfl
  have f0 := Lib.frozen_of_heap hbx3 0
  have f1 := Lib.frozen_of_heap hbx3 1
  have f2 := Lib.frozen_of_heap hbx3 2
  obtain ⟨bx, hbxe⟩ : ∃ q, w.heap.size = q := ⟨_, rfl⟩
  have HZ : Hid (w.heap.size = bx) := hbxe
  have HX : Hid (_ ∧ _ ∧ _) := ⟨hrow, BA, hzs⟩
  rw [hbxe] at d0 d1 d2 f0 f1 f2 hs3 ⊢
  clear hrow BA hbxe hbx3 hzs
  go_wp2
  obtain ⟨hrow, BA, hzs⟩ := HX.out
  rw [HZ.out] at hrow BA
  refine bodyPost_ret (v := .agg #[.bool true, .string ⟨#[]⟩, .slice a' zs.length c']) (by simp [results, Try.results21, go_sem, d0, d1, d2]) rfl ⟨.mk true ⟨#[]⟩ a' c' zs, rfl, by rw [← hzs]; rfl, ?_, ?_⟩
  · rw [HZ.out]
    refine rowP_of (fun b hb => ⟨⟨by omega, by simp [World.setCell]; omega⟩, fun j => ?_⟩) a' 0 zs hrow
    rw [cell_ne _ _ _ _ _ (by show b ≠ bx; omega), cell_ne _ _ _ _ _ (by show b ≠ bx; omega), cell_ne _ _ _ _ _ (by show b ≠ bx; omega)]
  · rw [HZ.out]
    exact below_set (below_set (below_set BA bx _ (Nat.le_refl _) _) bx _ (Nat.le_refl _) _) bx _ (Nat.le_refl _) _
end Go.Proofs.Yteaongogomhooaa
