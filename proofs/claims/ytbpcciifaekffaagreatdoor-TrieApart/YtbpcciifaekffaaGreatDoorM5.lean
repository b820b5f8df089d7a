/- Lemmas: Items made anew: copied, List, Text. A slice of items that is appended to: where it lies then. Pairs gathered anew: slices.Values, AppendSeq, Collect. -/
import Derived.Test.YtbpcciifaekffaaGreatDoorM1
import Derived.Test.YtbpcciifaekffaaGreatDoorM2
import Derived.Test.YtbpcciifaekffaaGreatDoorM3
import Derived.Test.YtbpcciifaekffaaGreatDoorM4
import Derived.Test.YtbpcciifaekffaaGreatDoorRows
import Derived.Test.YtbpcciifaekffaaGreatDoorM15
import Derived.Deep.MidRow
import Derived.Deep.WholeRow
namespace Go.Proofs.YtbpcciifaekffaaGreatDoor
open Go.RowKit Go.Shelf Go.Sort

/-- An item, wherever it lies. -/
inductive It where
  | mk (l : Bool) (t : ByteArray) (xs : List It)
mutual
def er : Im → It
  | .mk l t _ _ xs => .mk l t (ers xs)
def ers : List Im → List It
  | [] => []
  | x :: r => er x :: ers r
end
theorem ers_map : ∀ xs, ers xs = xs.map er
  | [] => rfl
  | x :: r => by
    show er x :: ers r = _
    rw [ers_map r]
    rfl
mutual
/-- It lies in blocks of a kind. -/
def inP (p : Nat → Prop) (W : World) : Im → Prop
  | .mk _ _ a _ xs => rowP p W a 0 xs
def rowP (p : Nat → Prop) (W : World) (a : Option Addr) : Nat → List Im → Prop
  | _, [] => True
  | i, x :: r => (∃ b o, p b ∧ a = some ⟨b, o, none⟩ ∧ W.cell? ⟨b, o + 3 * i, none⟩ = some (.bool x.l) ∧ W.cell? ⟨b, o + 3 * i + 1, none⟩ = some (.string x.t) ∧ W.cell? ⟨b, o + 3 * i + 2, none⟩ = some x.sl) ∧ inP p W x ∧ rowP p W a (i + 1) r
end
mutual
theorem inMem_of {p : Nat → Prop} {n : Nat} {W : World} (hp : ∀ b, p b → b < n) : ∀ x, inP p W x → inMem n W x
  | .mk _ _ a _ xs, h => rowMem_of hp a 0 xs h
theorem rowMem_of {p : Nat → Prop} {n : Nat} {W : World} (hp : ∀ b, p b → b < n) (a : Option Addr) : ∀ i xs, rowP p W a i xs → rowMem n W a i xs
  | _, [], _ => trivial
  | i, x :: r, ⟨⟨b, o, h0, h1, h2⟩, h5, h6⟩ => ⟨⟨b, o, hp b h0, h1, h2⟩, inMem_of hp x h5, rowMem_of hp a (i + 1) r h6⟩
end
mutual
theorem inP_of {p q : Nat → Prop} {W W' : World} (hp : ∀ b, p b → q b ∧ ∀ k, W'.cell? ⟨b, k, none⟩ = W.cell? ⟨b, k, none⟩) : ∀ x, inP p W x → inP q W' x
  | .mk _ _ a _ xs, h => rowP_of hp a 0 xs h
theorem rowP_of {p q : Nat → Prop} {W W' : World} (hp : ∀ b, p b → q b ∧ ∀ k, W'.cell? ⟨b, k, none⟩ = W.cell? ⟨b, k, none⟩) (a : Option Addr) : ∀ i xs, rowP p W a i xs → rowP q W' a i xs
  | _, [], _ => trivial
  | i, x :: r, ⟨⟨b, o, h0, h1, h2, h3, h4⟩, h5, h6⟩ => ⟨⟨b, o, (hp b h0).1, h1, ((hp b h0).2 _).trans h2, ((hp b h0).2 _).trans h3, ((hp b h0).2 _).trans h4⟩, inP_of hp x h5, rowP_of hp a (i + 1) r h6⟩
end

theorem info_item : (Tryz.prog.info? 47).map (fun i => (i.zero, i.size, i.bytes)) = some (some (.agg #[.bool false, .string ⟨#[]⟩, .slice none 0 0]), 3, 48) := by kernel_rfl
theorem cell_ne (W : World) (p : Addr) (u : Value) (b k : Nat) (h : b ≠ p.block) : (W.setCell p u).cell? ⟨b, k, none⟩ = W.cell? ⟨b, k, none⟩ := World.cell?_of_block (w := W) (Below.heap_setCell _ _ _ _ h)
/-- A row that is written at three places. -/
theorem owns_three {W : World} {z N bx q : Nat} {cl : List Value} (h : W.ownsRow z 47 3 (.slice (some ⟨z, 0, none⟩) N N) N cl) (hb : z ≠ bx) (u u0 u1 u2 : Value) :
    ((((W.setCell ⟨bx, 2, none⟩ u).setCell ⟨z, q, none⟩ u0).setCell ⟨z, q + 1, none⟩ u1).setCell ⟨z, q + 2, none⟩ u2).ownsRow z 47 3 (.slice (some ⟨z, 0, none⟩) N N) N (((cl.set q u0).set (q + 1) u1).set (q + 2) u2) := by
  have h1 : (W.setCell ⟨bx, 2, none⟩ u).ownsRow z 47 3 (.slice (some ⟨z, 0, none⟩) N N) N cl :=
    h.kept (row := some bx) ⟨rfl, rfl, rfl, by simp [World.setCell], fun k _ hk => Below.heap_setCell _ _ _ _ (fun e => hk (by simp [e]))⟩ (Or.inr (fun e => hb (by injection e)))
  exact ((((h1.stored q u0).1).stored (q + 1) u1).1.stored (q + 2) u2).1
theorem below_set {B : Nat} {A W : World} (h : Below B A W) (b o : Nat) (hb : B ≤ b) (u : Value) : Below B A (W.setCell ⟨b, o, none⟩ u) := h.setCell (p := ⟨b, o, none⟩) hb u
/-- The items that a row holds, from its front. -/
def Held (cl : List Value) (ys : List Im) : Prop := ∀ j y, ys[j]? = some y → cl[3 * j]? = some (.bool y.l) ∧ cl[3 * j + 1]? = some (.string y.t) ∧ cl[3 * j + 2]? = some y.sl
theorem Held.snoc {cl : List Value} {ys : List Im} (h : Held cl ys) (y : Im) (hl : 3 * ys.length + 2 < cl.length) : Held (((cl.set (3 * ys.length) (.bool y.l)).set (3 * ys.length + 1) (.string y.t)).set (3 * ys.length + 2) y.sl) (ys ++ [y]) := by
  intro j x hx
  by_cases hj : j < ys.length
  · rw [List.getElem?_append_left hj] at hx
    have := h j x hx
    rw [List.getElem?_set_ne (by omega), List.getElem?_set_ne (by omega), List.getElem?_set_ne (by omega), List.getElem?_set_ne (by omega), List.getElem?_set_ne (by omega), List.getElem?_set_ne (by omega), List.getElem?_set_ne (by omega), List.getElem?_set_ne (by omega), List.getElem?_set_ne (by omega)]
    exact this
  · have hj2 : j = ys.length := by
      have := (List.getElem?_eq_some_iff.1 hx).1
      simp at this
      omega
    subst hj2
    simp at hx
    subst hx
    refine ⟨?_, ?_, ?_⟩
    · rw [List.getElem?_set_ne (by omega), List.getElem?_set_ne (by omega), List.getElem?_set_self (by omega)]
    · rw [List.getElem?_set_ne (by omega), List.getElem?_set_self (by simp; omega)]
    · rw [List.getElem?_set_self (by simp; omega)]

set_option maxRecDepth 20000 in
set_option maxHeartbeats 2000000 in
theorem copied_of (xs : List Im) (hc : xs.length < 100000000) (n : Nat) (a : Option Addr) (c : Nat)
    (IH : ∀ (j : Nat) (y : Im), xs[j]? = some y → ∀ w : World, n ≤ w.heap.size → inMem n w y → Calls Tryz.prog 122 #[y.sl] w fun e w' => ∃ a' c' ys, e = .returned (.slice a' ys.length c') ∧ ers ys = ers y.xs ∧ rowP (fun b => w.heap.size ≤ b ∧ b < w'.heap.size) w' a' 0 ys ∧ Below w.heap.size w w')
    (w : World) (hn : n ≤ w.heap.size) (hm : rowMem n w a 0 xs) :
    Calls Tryz.prog 122 #[.slice a xs.length c] w fun e w' => ∃ a' c' ys, e = .returned (.slice a' ys.length c') ∧ ers ys = ers xs ∧ rowP (fun b => w.heap.size ≤ b ∧ b < w'.heap.size) w' a' 0 ys ∧ Below w.heap.size w w' := by
  obtain ⟨i0, hi0, hz0, hz1, hz2⟩ := info_parts info_item
  go_enter Tryz.func122, Tryz.ntmps122
  obtain ⟨N, hN⟩ : ∃ N, xs.length = N := ⟨_, rfl⟩
  rw [hN] at hc ⊢
  by_cases h0 : N = 0
  · subst h0
    go_wp2
    go_ret
    have : xs = [] := List.length_eq_zero_iff.1 hN
    subst this
    exact ⟨none, 0, [], rfl, rfl, trivial, Below.refl _ _⟩
  · have l0 : ¬ (N : Int) = 0 := by omega
    go_wp2_with (at_make; refine wpList_make_full _ rfl _ _ 45 rfl w.heap.size 47 i0 _ 3 Tryz.underlying45 hi0 hz0 hz1 .i64 .i64 _ _ N rfl rfl rfl rfl (by rw [hz2]; omega) (by unfold maxLen; omega) (Nat.le_refl _) ?_; intro w1 hown hgr)
    obtain ⟨z, hz⟩ : ∃ z, w.heap.size = z := ⟨_, rfl⟩
    have B1 : Below z w w1 := hz ▸ (Below.refl _ w).grown hgr (Nat.le_refl _) (fun _ e => by cases e)
    have HZ : Hid (w.heap.size = z) := hz
    have hzw : z < w1.heap.size := by
      rcases hown.2 with ⟨h, _⟩ | ⟨g, _, _, h, _, h2, _⟩
      · cases h
      · cases h
        rw [← hz]
        exact (Array.getElem?_eq_some_iff.1 h2).1
    rw [hz] at hown hn ⊢
    go_loopg [14] N (fun gk i wr => ∃ (k : Nat) (cl : List Value) (ys : List Im), k + gk = N ∧ i = .int .i64 k ∧ wr.ownsRow z 47 3 (.slice (some ⟨z, 0, none⟩) N N) N cl ∧ Held cl ys ∧ ys.length = k ∧ ers ys = ers (xs.take k) ∧ (∀ y, y ∈ ys → inP (fun b => z < b ∧ b < wr.heap.size) wr y) ∧ Below z w wr)
    case atStart => exact ⟨0, _, [], by omega, rfl, hown, (fun j y h => by cases h), rfl, rfl, (fun y h => by cases h), B1⟩
    case round =>
      obtain ⟨k, cl, ys, hk, rfl, hownr, hheld, hys, hers, hin, BW⟩ := hrel
      have hzr : z < wr.heap.size := (hownr.lt z rfl).2
      by_cases hlt : k < N
      · have l1 : (k : Int) < N := by omega
        obtain ⟨y, hy⟩ : ∃ y, xs[k]? = some y := ⟨xs[k]'(by omega), List.getElem?_eq_getElem (by omega)⟩
        obtain ⟨⟨b, o, hb, rfl, c0, c1, c2⟩, hy2⟩ := row_at xs 0 hm k y hy
        have hbw : b < w.heap.size := by rw [HZ.out]; omega
        have hnr : n ≤ wr.heap.size := by omega
        have hy3 := inMem_below (by rw [HZ.out]; exact hn) (BW.mono hn) y hy2
        have hbz : b < z := by omega
        replace c0 := (BW.cell (p := ⟨b, _, none⟩) hbz).trans c0
        replace c1 := (BW.cell (p := ⟨b, _, none⟩) hbz).trans c1
        replace c2 := (BW.cell (p := ⟨b, _, none⟩) hbz).trans c2
        obtain ⟨p, hp⟩ : ∃ p, o + 3 * k = p := ⟨_, rfl⟩
        rw [show o + 3 * (0 + k) = p by omega] at c0 c1 c2
        have hp2 : o + k * 3 = p := by omega
        have KS := IH k y hy
        have wk : IntKind.i64.wrap ((k : Int) + 1) = ((k + 1 : Nat) : Int) := by rw [IntKind.wrap_i64]; omega
        obtain ⟨yl, yt, ya, yc, yx⟩ := y
        simp only [Im.l, Im.t, Im.sl, Im.a, Im.xs, Im.c] at c0 c1 c2 KS
        clear IH
        go_wp2_with fail
        have A1 : Below wr.heap.size wr (wr.alloc (.cells #[.bool yl, .string yt, .slice ya yx.length yc] 47)) := (Below.refl _ wr).alloc (Nat.le_refl _) _
        have hbx : ItIn wr.heap.size (.mk yl yt ya yc yx) (wr.alloc (.cells #[.bool yl, .string yt, .slice ya yx.length yc] 47)) := World.alloc_heap_new wr _
        refine (KS _ (by simp; omega) (inMem_below hnr (A1.mono hnr) _ hy3)).mono ?_
        rintro e w3 ⟨a', c', zs, rfl, hzs, hrow, B3⟩
        have hbx3 : ItIn wr.heap.size (.mk yl yt ya yc yx) w3 := (B3.block _ (by simp)).trans hbx
        have BA := belowStep A1 (by simp) B3
        rw [World.size_alloc] at hrow
        have hs3 : wr.heap.size < w3.heap.size := hbx3.lt
        have hown3 := owns_below hownr BA
        clear A1 hbx B3 KS hy3 hy2 c0 c1 c2
        have d0 : w3.cell? ⟨wr.heap.size, 0, none⟩ = some (.bool yl) := by rw [Lib.cell_of_heap hbx3]; rfl
        have d1 : w3.cell? ⟨wr.heap.size, 1, none⟩ = some (.string yt) := by rw [Lib.cell_of_heap hbx3]; rfl
        have d2 : w3.cell? ⟨wr.heap.size, 2, none⟩ = some (.slice ya yx.length yc) := by rw [Lib.cell_of_heap hbx3]; rfl
        have f2 := Lib.frozen_of_heap hbx3 2
        obtain ⟨bx, hbxe⟩ : ∃ q, wr.heap.size = q := ⟨_, rfl⟩
        rw [hbxe] at d0 d1 d2 f2 hrow hs3 hbx3 hzr hin ⊢
        have hzx : z ≠ bx := by omega
        obtain ⟨v0, hv0⟩ : ∃ v, w3.cell? ⟨z, k * 3, none⟩ = some v := by
          rw [hown3.cellAt (k * 3) (by omega)]
          exact ⟨_, List.getElem?_eq_getElem (by rw [hown3.1]; omega)⟩
        obtain ⟨v1, hv1⟩ : ∃ v, w3.cell? ⟨z, k * 3 + 1, none⟩ = some v := by
          rw [hown3.cellAt (k * 3 + 1) (by omega)]
          exact ⟨_, List.getElem?_eq_getElem (by rw [hown3.1]; omega)⟩
        obtain ⟨v2, hv2⟩ : ∃ v, w3.cell? ⟨z, k * 3 + 2, none⟩ = some v := by
          rw [hown3.cellAt (k * 3 + 2) (by omega)]
          exact ⟨_, List.getElem?_eq_getElem (by rw [hown3.1]; omega)⟩
        have g0 := hown3.frozenAt (k * 3)
        have g1 := hown3.frozenAt (k * 3 + 1)
        have g2 := hown3.frozenAt (k * 3 + 2)
        have hown4 := owns_three (bx := bx) (q := k * 3) hown3 hzx (.slice a' zs.length c') (.bool yl) (.string yt) (.slice a' zs.length c')
        have HX : Hid (_ ∧ _ ∧ _ ∧ _ ∧ _ ∧ _ ∧ _ ∧ _ ∧ _) := ⟨hown4, hown3.1, BA, BW, hheld, hin, hrow, hers, hzs⟩
        clear hown3 hown4 BA BW hheld hin hrow hers hzs hownr
        go_wp2
        go_roundg (gk - 1)
        case measure => omega
        case rel =>
          obtain ⟨hown4, hcl, BA, BW, hheld, hin, hrow, hers, hzs⟩ := HX.out
          have BWz : Below z w w3 := belowStep BW (by omega) BA
          have hhe := hheld.snoc (.mk yl yt a' c' zs) (by rw [hcl, hys]; omega)
          rw [hys, show 3 * k = k * 3 by omega] at hhe
          simp only [Im.l, Im.t, Im.sl, Im.a, Im.xs, Im.c] at hhe
          refine ⟨k + 1, _, ys ++ [.mk yl yt a' c' zs], by omega, by first | rfl | (congr 1; omega), hown4, hhe, by simp [hys], ?_, ?_, below_set (below_set (below_set (below_set BWz bx 2 (by omega) _) z _ (Nat.le_refl _) _) z _ (Nat.le_refl _) _) z _ (Nat.le_refl _) _⟩
          · rw [ers_map, List.map_append, ← ers_map, hers, List.take_add_one, hy, ers_map, ers_map, List.map_append]
            show _ ++ [It.mk yl yt (ers zs)] = _ ++ [It.mk yl yt (ers yx)]
            rw [hzs]
          · intro y' hy'
            rcases List.mem_append.1 hy' with h | h
            · refine inP_of (fun b hb => ⟨⟨hb.1, by simp [World.setCell]; omega⟩, fun j => ?_⟩) y' (hin y' h)
              rw [cell_ne _ _ _ _ _ (by show b ≠ z; omega), cell_ne _ _ _ _ _ (by show b ≠ z; omega), cell_ne _ _ _ _ _ (by show b ≠ z; omega), cell_ne _ _ _ _ _ (by show b ≠ bx; omega)]
              exact BA.cell (p := ⟨b, j, none⟩) (by rw [hbxe]; exact hb.2)
            · simp at h
              subst h
              refine rowP_of (fun b hb => ⟨⟨by omega, by simp [World.setCell]; omega⟩, fun j => ?_⟩) a' 0 zs hrow
              rw [cell_ne _ _ _ _ _ (by show b ≠ z; omega), cell_ne _ _ _ _ _ (by show b ≠ z; omega), cell_ne _ _ _ _ _ (by show b ≠ z; omega), cell_ne _ _ _ _ _ (by show b ≠ bx; omega)]
      · have hk2 : k = N := by omega
        have l1 : ¬ (k : Int) < N := by omega
        have HX : Hid (_ ∧ _ ∧ _ ∧ _ ∧ _) := ⟨hownr, BW, hheld, hin, hers⟩
        clear hownr BW hheld hin hers
        go_wp2
        go_ret
        obtain ⟨hownr, BW, hheld, hin, hers⟩ := HX.out
        rw [hk2, ← hN, List.take_length] at hers
        refine ⟨some ⟨z, 0, none⟩, N, ys, by rw [hys, hk2]; rfl, hers, ?_, BW⟩
        have key : ∀ (r : List Im) (i : Nat), ys.drop i = r → rowP (fun b => z ≤ b ∧ b < wr.heap.size) wr (some ⟨z, 0, none⟩) i r := by
          intro r
          induction r with
          | nil => intro i _; trivial
          | cons y r ih =>
            intro i hi
            have hyi : ys[i]? = some y := by
              have := congrArg (·[0]?) hi
              simpa using this
            have hil := (List.getElem?_eq_some_iff.1 hyi).1
            obtain ⟨e0, e1, e2⟩ := hheld i y hyi
            refine ⟨⟨z, 0, ⟨Nat.le_refl _, hzr⟩, rfl, ?_, ?_, ?_⟩, ?_, ih (i + 1) ?_⟩
            · rw [show 0 + 3 * i = 3 * i by omega, hownr.cellAt _ (by omega)]; exact e0
            · rw [show 0 + 3 * i + 1 = 3 * i + 1 by omega, hownr.cellAt _ (by omega)]; exact e1
            · rw [show 0 + 3 * i + 2 = 3 * i + 2 by omega, hownr.cellAt _ (by omega)]; exact e2
            · exact inP_of (fun b hb => ⟨⟨by omega, hb.2⟩, fun _ => rfl⟩) y (hin y (List.mem_of_getElem? hyi))
            · rw [← List.drop_drop, hi]
              rfl
        exact key ys 0 rfl
theorem copied_all : ∀ (M : Nat) (xs : List Im), cnts xs ≤ M → cnts xs < 100000000 → ∀ (n : Nat) (a : Option Addr) (c : Nat) (w : World), n ≤ w.heap.size → rowMem n w a 0 xs →
    Calls Tryz.prog 122 #[.slice a xs.length c] w fun e w' => ∃ a' c' ys, e = .returned (.slice a' ys.length c') ∧ ers ys = ers xs ∧ rowP (fun b => w.heap.size ≤ b ∧ b < w'.heap.size) w' a' 0 ys ∧ Below w.heap.size w w'
  | 0, xs, h, h2, n, a, c, w, hn, hm => by
    have hl := len_cnts xs
    have : xs = [] := List.length_eq_zero_iff.1 (by omega)
    subst this
    exact copied_of [] (by simp) n a c (fun j y h => by cases h) w hn hm
  | M + 1, xs, h, h2, n, a, c, w, hn, hm => by
    have hl := len_cnts xs
    refine copied_of xs (by omega) n a c (fun j y hy w' hn' hm' => ?_) w hn hm
    have hc := cnts_at xs j y hy
    rw [cnt_eq] at hc
    rw [inMem_eq] at hm'
    exact copied_all M y.xs (by omega) (by omega) n y.a y.c w' hn' hm'

def txt (s : ByteArray) : Im := .mk false s none 0 []
theorem text_any (s : ByteArray) (w : World) : Calls Tryz.prog 90 #[.string s] w fun e w' => e = .returned (txt s).val ∧ Below w.heap.size w w' := by
  go_enter Tryz.func90, Tryz.ntmps90
  go_wp2
  refine bodyPost_ret (v := .agg #[.bool false, .string s, .slice none 0 0]) (by simp [results, Tryz.results90, go_sem]) rfl ⟨rfl, ?_⟩
  exact (Below.refl _ w).alloc (Nat.le_refl _) _
theorem list_any (xs : List Im) (h : cnts xs < 100000000) (n : Nat) (a : Option Addr) (c : Nat) (w : World) (hn : n ≤ w.heap.size) (hm : rowMem n w a 0 xs) :
    Calls Tryz.prog 105 #[.slice a xs.length c] w fun e w' => ∃ x : Im, e = .returned x.val ∧ er x = .mk true ⟨#[]⟩ (ers xs) ∧ inP (fun b => w.heap.size ≤ b ∧ b < w'.heap.size) w' x ∧ Below w.heap.size w w' := by
  have KC := copied_all (cnts xs) xs (Nat.le_refl _) h n a c
  go_enter Tryz.func105, Tryz.ntmps105
  go_wp2_with fail
  have A1 : Below w.heap.size w (w.alloc (.cells #[.bool false, .string ⟨#[]⟩, .slice none 0 0] 47)) := (Below.refl _ w).alloc (Nat.le_refl _) _
  have hbx : ItIn w.heap.size (.mk false ⟨#[]⟩ none 0 []) (w.alloc (.cells #[.bool false, .string ⟨#[]⟩, .slice none 0 0] 47)) := World.alloc_heap_new w _
  refine (KC _ (by simp; omega) (rowMem_below hn (A1.mono hn) _ _ _ hm)).mono ?_
  rintro e w3 ⟨a', c', zs, rfl, hzs, hrow, B3⟩
  have hbx3 : ItIn w.heap.size (.mk false ⟨#[]⟩ none 0 []) w3 := (B3.block _ (by simp)).trans hbx
  have BA := belowStep A1 (by simp) B3
  rw [World.size_alloc] at hrow
  have hs3 : w.heap.size < w3.heap.size := hbx3.lt
  clear A1 hbx B3 KC
  have d0 : w3.cell? ⟨w.heap.size, 0, none⟩ = some (.bool false) := by rw [Lib.cell_of_heap hbx3]; rfl
  have d1 : w3.cell? ⟨w.heap.size, 1, none⟩ = some (.string ⟨#[]⟩) := by rw [Lib.cell_of_heap hbx3]; rfl
  have d2 : w3.cell? ⟨w.heap.size, 2, none⟩ = some (.slice none 0 0) := by rw [Lib.cell_of_heap hbx3]; rfl
  have f0 := Lib.frozen_of_heap hbx3 0
  have f1 := Lib.frozen_of_heap hbx3 1
  have f2 := Lib.frozen_of_heap hbx3 2
  obtain ⟨bx, hbxe⟩ : ∃ q, w.heap.size = q := ⟨_, rfl⟩
  have HZ : Hid (w.heap.size = bx) := hbxe
  have HX : Hid (_ ∧ _ ∧ _) := ⟨hrow, BA, hzs⟩
  rw [hbxe] at d0 d1 d2 f0 f1 f2 hs3 ⊢
  clear hrow BA hbxe hbx3 hzs
  go_wp2
  obtain ⟨hrow, BA, hzs⟩ := HX.out
  rw [HZ.out] at hrow BA
  refine bodyPost_ret (v := .agg #[.bool true, .string ⟨#[]⟩, .slice a' zs.length c']) (by simp [results, Tryz.results105, go_sem, d0, d1, d2]) rfl ⟨.mk true ⟨#[]⟩ a' c' zs, rfl, by rw [← hzs]; rfl, ?_, ?_⟩
  · rw [HZ.out]
    refine rowP_of (fun b hb => ⟨⟨by omega, by simp [World.setCell]; omega⟩, fun j => ?_⟩) a' 0 zs hrow
    rw [cell_ne _ _ _ _ _ (by show b ≠ bx; omega), cell_ne _ _ _ _ _ (by show b ≠ bx; omega), cell_ne _ _ _ _ _ (by show b ≠ bx; omega)]
  · rw [HZ.out]
    exact below_set (below_set (below_set BA bx _ (Nat.le_refl _) _) bx _ (Nat.le_refl _) _) bx _ (Nat.le_refl _) _
end Go.Proofs.YtbpcciifaekffaaGreatDoor
namespace Go.Proofs.YtbpcciifaekffaaGreatDoor
open Go.RowKit Go.Shelf Go.Sort

theorem append_where {P : Program} (w : World) (base : Nat) (t ty e : TypeId) (i : TypeInfo) (z : Value) (size bytes : Nat) (ht : P.underlying t = some (.slice e)) (hi : P.info? e = some i) (hz : i.zero = some z)
    (hsize : i.size = size) (hby : i.bytes = bytes) (hzs : z.cells.size = size) (hsz : 0 < size)
    (v : Value) (n : Nat) (xs : List Value) (hown : w.ownsRow base e size v n xs)
    (a : Addr) (m c : Nat) (news : List Value) (hl : news.length = m * size) (hnews : ∀ j u, news[j]? = some u → w.cell? (a.add j) = some u) (h1 : ∀ u ∈ news, u.oneCell' = true)
    (h63 : n + m ≤ maxLen) (hbytes : (n + m) * bytes ≤ 140737488355328) (hbase : base ≤ w.heap.size) (hm : 0 < m) :
    ∃ v' w', (Builtin.append_ #[t, t] ty #[v, .slice (some a) m c]).run P w = .ok v' w' ∧ w'.ownsRow base e size v' (n + m) (xs ++ news) ∧ w.grownBy w' v.ownBlock ∧
      v' ≠ .slice none 0 0 ∧ (v'.ownBlock = v.ownBlock ∨ ∃ g, v'.ownBlock = some g ∧ w.heap.size ≤ g) := by
  obtain ⟨v', w', hr, h2, h3, h4⟩ := run_append_own (P := P) w base t ty e i z size bytes ht hi hz hsize hby hzs hsz v n xs hown a m c news hl hnews h1 h63 hbytes hbase
  refine ⟨v', w', hr, h2, h3, fun e => by have := (h4.1 e).2; omega, ?_⟩
  rcases hown.2 with ⟨rfl, rfl⟩ | ⟨g, cap, cur, rfl, hbg, hg, hnc, hcm, hcs, htake⟩
  · have hx : xs = [] := List.eq_nil_of_length_eq_zero (by simpa using hown.1)
    subst hx
    obtain ⟨v2, w2, hr2, k2, -, k4⟩ := run_append_own (P := P) w w.heap.size t ty e i z size bytes ht hi hz hsize hby hzs hsz _ 0 [] (World.ownsRow_nil w w.heap.size e size) a m c news hl hnews h1 h63 hbytes (Nat.le_refl _)
    rw [hr] at hr2
    injection hr2 with e1 e2
    subst e1 e2
    obtain ⟨g, cp, hv⟩ : ∃ g c, v' = .slice (some ⟨g, 0, none⟩) (0 + m) c := by
      rcases k2.2 with ⟨h, _⟩ | ⟨g, c, _, h, _⟩
      · have := (k4.1 h).2
        omega
      · exact ⟨g, c, h⟩
    exact .inr ⟨g, by rw [hv]; rfl, (k2.lt g (by rw [hv]; rfl)).1⟩
  · by_cases hroom : n + m ≤ cap
    · obtain ⟨w2, hr2, -, -⟩ := run_append_fits (P := P) w base t ty e i size ht hi hsize g n cap xs hown a m c news hl hnews h1 hroom
      rw [hr] at hr2
      injection hr2 with e1 e2
      exact .inl (by rw [e1]; rfl)
    · have hr2 := run_append_grow (P := P) w t ty e i z ht hi hz ⟨g, 0, none⟩ n cap xs (by rw [hsize]; exact hown.1) (fun j u hu => hown.cells (g := g) rfl j u hu) a m c news (by rw [hsize]; exact hl) hnews (by omega) (by simp only [maxLen] at h63; omega) (growslice_fits (by omega) (by rw [hby]; omega))
      rw [hr] at hr2
      injection hr2 with e1 e2
      exact .inr ⟨w.heap.size, by rw [e1]; rfl, Nat.le_refl _⟩

theorem wpList_append_where {P : Program} (w : World) {ops : Array Oper} {rest : List Oper} {o : Oper} {a : Act} {Q : Exit → Act → World → Prop} (hgd : o.guard = none) (sl x : Operand) (t : TypeId)
    (ho : o.op = .call { callee := .builtin .append, args := #[sl, x], argTypes := #[t, t] })
    (base : Nat) (e : TypeId) (i : TypeInfo) (z : Value) (size bytes : Nat) (ht : P.underlying t = some (.slice e)) (hi : P.info? e = some i) (hz : i.zero = some z) (hsize : i.size = size) (hby : i.bytes = bytes) (hzs : z.cells.size = size) (hsz : 0 < size)
    (v : Value) (n : Nat) (xs : List Value) (hs : a.eval sl = v) (hown : w.ownsRow base e size v n xs) (ad : Addr) (m c : Nat) (news : List Value) (hx : a.eval x = .slice (some ad) m c) (hl : news.length = m * size)
    (hnews : ∀ j u, news[j]? = some u → w.cell? (ad.add j) = some u) (h1 : ∀ u ∈ news, u.oneCell' = true) (h63 : n + m ≤ maxLen) (hbytes : (n + m) * bytes ≤ 140737488355328) (hbase : base ≤ w.heap.size) (hm : 0 < m)
    (h : ∀ v' w', w'.ownsRow base e size v' (n + m) (xs ++ news) → w.grownBy w' v.ownBlock → v' ≠ .slice none 0 0 → (v'.ownBlock = v.ownBlock ∨ ∃ g, v'.ownBlock = some g ∧ w.heap.size ≤ g) → wpList P ops Q rest (a.put o.dst v') w') : wpList P ops Q (o :: rest) a w := by
  refine wpList_plain hgd fun K hK => ?_
  obtain ⟨v', w', hr, h2, h3, h4, h5⟩ := append_where (P := P) w base t o.type e i z size bytes ht hi hz hsize hby hzs hsz v n xs hown ad m c news hl hnews h1 h63 hbytes hbase hm
  unfold Oper.wp execOp
  simp only [ho, resolve, invoke, builtin, Sem.run_bind, Sem.run_pure, Result.andThen_ok, List.map_toArray, List.map_cons, List.map_nil, hs, hx, hr]
  exact hK _ _ (h v' w' h2 h3 h4 h5)
end Go.Proofs.YtbpcciifaekffaaGreatDoor
namespace Go.Proofs.YtbpcciifaekffaaGreatDoor
open Go.RowKit Go.Shelf Go.Sort
attribute [local go_sem] Oper.semAt_some

def kz : Value → Nat
  | .int _ k => k.toNat
  | _ => 0
def pArr (e : ByteArray × ByteArray) : Array Value := #[pV e]

set_option maxHeartbeats 1000000 in
theorem values_any (a : Option Addr) (m c : Nat) (w : World) :
    Calls Tryz.prog 49 #[.slice a m c] w fun e w' => e = .returned (.func (.func 81) #[] #[.pointer (some ⟨w.heap.size, 0, none⟩)]) ∧ w' = w.alloc (.cells #[.slice a m c] 22) := by
  go_enter Tryz.func49, Tryz.ntmps49
  go_wp2
  go_ret
  exact ⟨rfl, rfl⟩

set_option maxRecDepth 100000 in
set_option maxHeartbeats 2000000 in
theorem values1_in (n l bX n0 : Nat) (es : List (ByteArray × ByteArray)) (hl : es.length < 1000000) (a : Option Addr) (c : Nat) (J Jx : List (ByteArray × ByteArray) → World → Prop) (B : Nat) (hJ : AbidesFrom B J)
    (W : World) (hn0 : n0 ≤ W.heap.size) (hp : slP n0 W a es) (hc0 : W.cell? ⟨bX, 0, none⟩ = some (.slice a es.length c))
    (hY : ∀ m pre e W, J pre W → pre.length < es.length → YieldAt Fence.wide m Tryz.prog l (pArr e) W fun e' W' =>
      (e' = .returned (.bool true) ∧ J (pre ++ [e]) W' ∧ Below n0 W W') ∨ (e' = .returned (.bool false) ∧ Jx (pre ++ [e]) W'))
    (h0 : J [] W) :
    CallsIn Fence.wide n Tryz.prog 81 #[.func (.yield l) #[] #[], .pointer (some ⟨bX, 0, none⟩)] W fun e W' => (∃ v, e = .returned v) ∧
      (J es W' ∨ (∃ q, q ≤ es.length ∧ Jx (es.take q) W')) := by
  obtain ⟨N, hN⟩ : ∃ N, es.length = N := ⟨_, rfl⟩
  rw [hN] at hl hc0
  refine callsIn_of_wp Tryz.func81 rfl trivial ?_ rfl
  simp only [Tryz.ntmps81, List.size_toArray, List.length_cons, List.length_nil, Nat.reduceAdd, Nat.reduceSub, Array.replicate_succ, Array.replicate_zero, List.push_toArray, List.append_toArray, List.nil_append, List.cons_append]
  gi_wp2
  gi_loopw [7] (fun v wr => ∃ k : Nat, v = .int .i64 k ∧ k ≤ N ∧ J (es.take k) wr ∧ Below n0 W wr) (fun v _ => N - kz v)
  case atStart => exact ⟨0, rfl, Nat.zero_le _, h0, Below.refl _ _⟩
  case round =>
    obtain ⟨k, rfl, hk, hJs, BW⟩ := hrel
    by_cases hlt : k < N
    · have l1 : (k : Int) < N := by omega
      obtain ⟨f, hf⟩ : ∃ f, es[k]? = some f := ⟨es[k]'(by omega), List.getElem?_eq_getElem (by omega)⟩
      have htl : (es.take k).length = k := by rw [List.length_take]; omega
      obtain ⟨b, o, rfl, hb, c0, c1⟩ := slP_at (slP_below BW hp) k f hf
      obtain ⟨r, hr⟩ : ∃ p, o + 2 * k = p := ⟨_, rfl⟩
      rw [hr] at c0 c1
      have hr2 : o + k * 2 = r := by omega
      have wk : IntKind.i64.wrap ((k : Int) + 1) = ((k + 1 : Nat) : Int) := by rw [IntKind.wrap_i64]; omega
      have hA : Below wr.heap.size wr (wr.alloc (.cells #[.string f.1, .string f.2] 40)) := (Below.refl _ wr).alloc (Nat.le_refl _) _
      have hJ3 := hJ _ wr _ none hJs (grown_of hA) (fun _ h => by cases h)
      obtain ⟨fn, tmps, assign, body, hy, hR⟩ := hY (n - 1) (es.take k) f _ hJ3 (by omega)
      have htk : es.take k ++ [f] = es.take (k + 1) := by rw [List.take_add_one, hf]; rfl
      rw [htk] at hR
      have BW3 := BW.trans (hA.mono (Nat.le_trans hn0 BW.size))
      clear htl htk hf hJ3 hA BW
      obtain ⟨fk, fv⟩ := f
      unfold pArr pV at hy
      dsimp only at hy c0 c1 hR BW3
      gi_wp2
      refine ⟨fun h => (by cases h), hR.mono ?_⟩
      rintro e W4 (⟨rfl, hJ4, B4⟩ | ⟨rfl, hJx4⟩)
      · clear hy hR c0 c1
        have BW4 := BW3.trans B4
        clear BW3 B4
        gi_wp2
        go_roundw
        case rel => exact ⟨k + 1, by first | rfl | (congr 1; omega), by omega, hJ4, BW4⟩
        case measure => show N - (((k + 1 : Nat) : Int)).toNat < N - ((k : Int)).toNat; omega
      · clear hy hR c0 c1
        gi_wp2
        refine bodyPost_ret (v := .tuple #[]) (by simp [results, Tryz.results81, go_sem]) rfl ⟨⟨_, rfl⟩, .inr ⟨k + 1, by omega, hJx4⟩⟩
    · have l1 : ¬ (k : Int) < N := by omega
      have hk2 : k = N := by omega
      rw [hk2, ← hN, List.take_length] at hJs
      have HJ : Hid _ := hJs
      clear hJs
      gi_wp2
      go_end0
      exact ⟨⟨_, rfl⟩, .inl HJ.out⟩
theorem values_stops (n bX n0 : Nat) (es : List (ByteArray × ByteArray)) (hl : es.length < 1000000) (a : Option Addr) (c : Nat) (w : World) (hn0 : n0 ≤ w.heap.size) (hp : slP n0 w a es) (hbx : Bx bX 22 (.slice a es.length c) w) :
    SeqStopsK Fence.wide n Tryz.prog 81 #[.pointer (some ⟨bX, 0, none⟩)] pArr (fun A B => Below n0 A B) (fun ys => ys = es) (fun pre => ∃ q, q ≤ es.length ∧ pre = es.take q) es.length w := fun l J Jx W hW hJ hJx hY h0 => by
  refine (values1_in n l bX n0 es hl a c J Jx W.heap.size hJ W (Nat.le_trans hn0 hW.size) (slP_below (hW.mono hn0) hp) (Bx.cell ((hW.block bX hbx.lt).trans hbx)) (fun m pre e W1 hj hl => (yieldAny m (hY pre e W1 hj hl)).mono fun e' W' h => h) h0).mono ?_
  rintro e W' ⟨he, h | ⟨q, hq, h⟩⟩
  · exact ⟨he, .inl ⟨es, rfl, h⟩⟩
  · exact ⟨he, .inr ⟨_, ⟨q, hq, rfl⟩, h⟩⟩

/-- The cells of pairs. -/
def pC (es : List (ByteArray × ByteArray)) : List Value := es.flatMap fun e => [.string e.1, .string e.2]
theorem pC_snoc (es : List (ByteArray × ByteArray)) (e : ByteArray × ByteArray) : pC (es ++ [e]) = pC es ++ [.string e.1, .string e.2] := by simp [pC]
theorem pC_at : ∀ (es : List (ByteArray × ByteArray)) (j : Nat) (e : ByteArray × ByteArray), es[j]? = some e → (pC es)[2 * j]? = some (.string e.1) ∧ (pC es)[2 * j + 1]? = some (.string e.2)
  | [], _, _, h => by cases h
  | a :: r, 0, e, h => by
    cases h
    exact ⟨rfl, rfl⟩
  | a :: r, j + 1, e, h => by
    have := pC_at r j e h
    have e1 : pC (a :: r) = .string a.1 :: .string a.2 :: pC r := rfl
    rw [e1, show 2 * (j + 1) = 2 * j + 1 + 1 by omega, List.getElem?_cons_succ, List.getElem?_cons_succ, List.getElem?_cons_succ, List.getElem?_cons_succ]
    exact this
theorem owns_kind {W : World} {zz n k : Nat} {e : TypeId} {size : Nat} {v : Value} {xs : List Value} (h : W.ownsRow zz e size v n xs) (hk : v.ownBlock = some k) : ∃ c, W.heap[k]? = some (.cells c e (0, 0)) := by
  rcases h.2 with ⟨rfl, _⟩ | ⟨g, c, cur, rfl, _, hg, _⟩
  · cases hk
  · injection hk with hk
    subst hk
    exact ⟨cur, hg⟩
theorem owns_owned {A C : World} {b n : Nat} {e : TypeId} {size : Nat} {v : Value} {xs : List Value} {row : Option Nat} (h : A.ownsRow b e size v n xs) (hg : A.grownBy C row) (hr : ∀ r, row = some r → ∃ o : Obj, A.heap[r]? = some o ∧ o.isCells = false) : C.ownsRow b e size v n xs := by
  refine h.kept hg ?_
  cases e' : v.ownBlock with
  | none => exact .inl rfl
  | some k =>
    obtain ⟨c, hk⟩ := owns_kind h e'
    refine .inr fun e2 => ?_
    obtain ⟨o, ho, hc⟩ := hr k e2.symm
    rw [hk] at ho
    cases ho
    cases hc
theorem frozen_block {W W' : World} {b : Nat} (h : W'.heap[b]? = W.heap[b]?) (k : Nat) : W'.frozen? ⟨b, k, none⟩ = W.frozen? ⟨b, k, none⟩ := by
  unfold World.frozen?
  dsimp only
  rw [h]
/-- What has been gathered so far. -/
def GSt (z : Nat) (w : World) (pre : List (ByteArray × ByteArray)) (W : World) : Prop := ∃ v, Bx z 22 v W ∧ W.ownsRow (z + 1) 40 2 v pre.length (pC pre) ∧ Below z w W
theorem GSt.own {z : Nat} {w A C : World} {pre : List (ByteArray × ByteArray)} {row : Option Nat} (h : GSt z w pre A) (hg : A.grownBy C row) (hr : ∀ r, row = some r → z ≤ r ∧ ∃ o : Obj, A.heap[r]? = some o ∧ o.isCells = false) : GSt z w pre C := by
  obtain ⟨v, h1, h2, h3⟩ := h
  have := h1.lt
  exact ⟨v, h1.own hg (fun r e => (hr r e).2), owns_owned h2 hg (fun r e => (hr r e).2), h3.grown hg (by omega) (fun k e => (hr k e).1)⟩
def PrIn (b : Nat) (e : ByteArray × ByteArray) (W : World) : Prop := W.heap[b]? = some (.cells #[.string e.1, .string e.2] 40 (0, 0))
theorem info_pair : (Tryz.prog.info? 40).map (fun i => (i.zero, i.size, i.bytes)) = some (some (.agg #[.string ⟨#[]⟩, .string ⟨#[]⟩]), 2, 32) := by kernel_rfl

set_option maxRecDepth 100000 in
set_option maxHeartbeats 4000000 in
theorem appendSeq_of (es : List (ByteArray × ByteArray)) (hl : es.length < 1000000) (a : Option Addr) (c bX n0 : Nat) (w : World) (hn : n0 ≤ w.heap.size) (hp : slP n0 w a es) (hbx : Bx bX 22 (.slice a es.length c) w) :
    Calls Tryz.prog 98 #[.slice none 0 0, .func (.func 81) #[] #[.pointer (some ⟨bX, 0, none⟩)]] w fun r w' => Below w.heap.size w w' ∧
      ∃ a' c', r = .returned (.slice a' es.length c') ∧ (es = [] ∧ a' = none ∧ c' = 0 ∨ ∃ g, a' = some ⟨g, 0, none⟩ ∧ w.heap.size ≤ g ∧ g < w'.heap.size ∧ prs w' g 0 es ∧ ∀ k, w'.frozen? ⟨g, k, none⟩ = false) := by
  refine (callsIn_wide (n := 9)).1 ?_
  refine callsIn_of_wp_marks Tryz.func98 rfl trivial ?_ rfl
  refine wpIn_wide.2 ?_
  simp only [Tryz.ntmps98, List.size_toArray, List.length_cons, List.length_nil, Nat.reduceAdd, Nat.reduceSub, Array.replicate_succ, Array.replicate_zero, List.push_toArray, List.append_toArray, List.nil_append, List.cons_append]
  obtain ⟨i0, hi0, hz0, hz1, hz2⟩ := info_parts info_pair
  have A1 : Below w.heap.size w (w.alloc (.cells #[.slice none 0 0] 22)) := (Below.refl _ w).alloc (Nat.le_refl _) _
  have hB1 : Bx w.heap.size 22 (.slice none 0 0) (w.alloc (.cells #[.slice none 0 0] 22)) := World.alloc_heap_new w _
  go_wp2_with fail
  refine wpOf (fun W => Below w.heap.size w W ∧ Bx w.heap.size 22 (.slice none 0 0) W) ⟨A1, hB1⟩ ?_
  rintro w2 ⟨BW2, hB2⟩
  clear A1 hB1
  have KS := fun n => values_stops n bX n0 es hl a c w2 (Nat.le_trans hn BW2.size) (slP_below (BW2.mono hn) hp) ((BW2.block bX hbx.lt).trans hbx)
  obtain ⟨z, hz⟩ : ∃ c, w.heap.size = c := ⟨_, rfl⟩
  have HZ : Hid (w.heap.size = z) := hz
  rw [hz] at hn BW2 hB2 ⊢
  clear hz
  have hzw := hB2.lt
  refine (wpIn_wide (n := 9)).1 ?_
  refine wpIn_rangeFunc_ownH rfl (by omega) (gf := 81) (lb := #[.pointer (some ⟨bX, 0, none⟩)]) rfl trivial (enters_of Tryz.func81 (by kernel_rfl) rfl)
    (KS _) (fun h1 h2 => h1.trans h2) (fun W l o o' h1 h2 h3 h4 => belowK_b (Nat.le_trans hn (Nat.le_of_lt hzw)) W l o o' h1 h2 h3 h4) (Below.refl _ _) (fun _ => rfl)
    (fun pre W => GSt z w pre W)
    (fun _ _ _ => False)
    (fun s A C row hs hg hr => hs.own hg (fun r e => ⟨Nat.le_trans (by omega) (hr r e).1, (hr r e).2⟩))
    (fun c s A C row hs hg hr => hs)
    ⟨_, hB2, World.ownsRow_nil _ _ _ _, BW2⟩
    (fun x a' W => ∃ bV, z < bV ∧ PrIn bV x W ∧ a' = { tmps := #[.slice none 0 0, .func (.func 81) #[] #[.pointer (some ⟨bX, 0, none⟩)], .pointer (some ⟨z, 0, none⟩), undef, .slice none 0 0, .pointer (some ⟨bV, 0, none⟩), .func (.func 81) #[] #[.pointer (some ⟨bX, 0, none⟩)], pV x, undef, undef, undef, undef, undef], defers := [] })
    (fun x a' _ A C row hs hg hr => by
      obtain ⟨bV, h1, h2, h3⟩ := hs
      refine ⟨bV, h1, (hg.block bV (Array.getElem?_eq_some_iff.1 h2).1 (fun e => ?_)).trans h2, h3⟩
      obtain ⟨_, o, ho, hc⟩ := hr bV e.symm
      rw [show A.heap[bV]? = _ from h2] at ho
      cases ho
      cases hc)
    ?assign ?body ?done ?stop
  case assign =>
    rintro l pre x W K hI hK
    dsimp only [pArr, pV]
    have hzW : z < W.heap.size := by
      obtain ⟨v, h1, h2, h3⟩ := hI
      exact h1.lt
    have hA : Below W.heap.size W (W.alloc (.cells #[.string x.1, .string x.2] 40)) := (Below.refl _ W).alloc (Nat.le_refl _) _
    have hN : PrIn W.heap.size x (W.alloc (.cells #[.string x.1, .string x.2] 40)) := World.alloc_heap_new W _
    have hI2 := hI.own (grown_of hA) (fun _ h => by cases h)
    obtain ⟨x1, x2⟩ := x
    have HX : Hid (_ ∧ _ ∧ _) := ⟨hA, hN, hI2⟩
    clear hA hN hI2 hI
    dsimp only at HX ⊢
    gi_wp2
    obtain ⟨hA, hN, hI2⟩ := HX.out
    exact hK _ _ ((ko_below hA).from _) (hA.mono (by omega)) hI2 ⟨W.heap.size, hzW, hN, rfl⟩
  case body =>
    rintro l pre x a' W hl ⟨r, hr⟩ ⟨v, hId, hownd, BWd⟩ ⟨bV, hbV, hPr, rfl⟩ hlt
    have hbVl : bV < W.heap.size := (Array.getElem?_eq_some_iff.1 hPr).1
    have hzl := hId.lt
    have hplen : pre.length < 1000000 := by omega
    obtain ⟨x1, x2⟩ := x
    have c0 : W.cell? ⟨bV, 0, none⟩ = some (.string x1) := by rw [Lib.cell_of_heap hPr]; rfl
    have c1 : W.cell? ⟨bV, 1, none⟩ = some (.string x2) := by rw [Lib.cell_of_heap hPr]; rfl
    have cB := hId.cell
    have fB := hId.fr
    have A1 : Below W.heap.size W (W.alloc (.cells #[.string x1, .string x2] 40)) := (Below.refl _ W).alloc (Nat.le_refl _) _
    have hN1 : (W.alloc (.cells #[.string x1, .string x2] 40)).heap[W.heap.size]? = some (.cells #[.string x1, .string x2] 40 (0, 0)) := World.alloc_heap_new W _
    have hown1 := owns_below hownd A1
    have hB1 : Bx z 22 v (W.alloc (.cells #[.string x1, .string x2] 40)) := (A1.block z hzl).trans hId
    obtain ⟨ao, c0', hv⟩ : ∃ ao c0, v = .slice ao pre.length c0 := by
      rcases hownd.2 with ⟨h, h0⟩ | ⟨g, c, _, h, _⟩
      · exact ⟨none, 0, by rw [h, h0]⟩
      · exact ⟨_, c, h⟩
    have HX : Hid (_ ∧ _ ∧ _ ∧ _ ∧ _) := ⟨A1, hN1, hown1, hB1, BWd⟩
    clear A1 hN1 hown1 hB1 BWd hownd hPr hId
    subst hv
    dsimp only [pV]
    refine wpIn_block ?_
    refine region_ord_in l _ (by kernel_rfl) (by rintro ⟨_, _, h⟩; exact h) ?_
    go_wp2_with (at_builtin; refine wpList_append_where _ rfl _ _ 22 rfl (z + 1) 40 i0 _ 2 32 Tryz.underlying22 hi0 hz0 hz1 hz2 rfl (by decide) _ pre.length (pC pre) rfl HX.out.2.2.1 ⟨W.heap.size, 0, none⟩ 1 1 [.string x1, .string x2] rfl rfl ?c1 ?c2 (by unfold maxLen; omega) (by omega) ?c3 (by decide) ?_)
    case c1 =>
      intro j u hj
      rw [Addr.add_lit, Lib.cell_of_heap HX.out.2.1, Nat.zero_add]
      simpa using hj
    case c2 =>
      intro u hu
      simp only [List.mem_cons, List.not_mem_nil, or_false] at hu
      rcases hu with rfl | rfl <;> rfl
    case c3 => simp; omega
    intro v' w6 k2 k3 k4 k5
    obtain ⟨A1, hN1, hown1, hB1, BWd⟩ := HX.out
    have hne : some z ≠ (Value.slice ao pre.length c0').ownBlock := fun e => by
      have := (hown1.lt z e.symm).1
      omega
    have hB6 : Bx z 22 (.slice ao pre.length c0') w6 := (k3.block z (by simp; omega) hne).trans hB1
    have cB6 := hB6.cell
    have fB6 := hB6.fr
    obtain ⟨g, c6, rfl⟩ : ∃ g c, v' = .slice (some ⟨g, 0, none⟩) (pre.length + 1) c := by
      rcases k2.2 with ⟨h, _⟩ | ⟨g, c, _, h, _⟩
      · exact absurd h k4
      · exact ⟨g, c, h⟩
    have hgz := (k2.lt g rfl).1
    have hB7 := hB6.put (.slice (some ⟨g, 0, none⟩) (pre.length + 1) c6)
    have hown7 : (w6.setCell ⟨z, 0, none⟩ (.slice (some ⟨g, 0, none⟩) (pre.length + 1) c6)).ownsRow (z + 1) 40 2 (.slice (some ⟨g, 0, none⟩) (pre.length + 1) c6) (pre.length + 1) (pC pre ++ [.string x1, .string x2]) :=
      k2.kept (row := some z) ⟨rfl, rfl, rfl, by simp [World.setCell], fun k _ hk => Below.heap_setCell _ _ _ _ (fun e => hk (by simp [e]))⟩ (Or.inr (fun e => by injection e with e; have e' : g = z := e; omega))
    have G16 : ∀ k, k < W.heap.size → some k ≠ (Value.slice ao pre.length c0').ownBlock → w6.heap[k]? = W.heap[k]? := fun k h1 h2 => (k3.block k (by simp; omega) h2).trans (A1.block k h1)
    have hs6 := k3.size
    have hvl : ∀ k, some k = (Value.slice ao pre.length c0').ownBlock → z + 1 ≤ k := fun k e => (hown1.lt k e.symm).1
    have B67 : ∀ m, m ≤ z → Below m W (w6.setCell ⟨z, 0, none⟩ (.slice (some ⟨g, 0, none⟩) (pre.length + 1) c6)) := fun m hm => Below.setCell (p := ⟨z, 0, none⟩) ⟨k3.os.trans A1.os, k3.tape.trans A1.tape, k3.output.trans A1.output, Nat.le_trans A1.size hs6, fun k hk => G16 k (by omega) (fun e => by have := hvl k e; omega)⟩ hm _
    have KF : KeepsFrom w2.heap.size W (w6.setCell ⟨z, 0, none⟩ (.slice (some ⟨g, 0, none⟩) (pre.length + 1) c6)) := by
      refine (show KeepsFrom w2.heap.size W w6 from ⟨Nat.le_trans A1.size hs6, fun k o hk ho hc => ?_⟩).trans (ko_set _ ⟨z, 0, none⟩ _ _)
      have hkW := (Array.getElem?_eq_some_iff.1 ho).1
      refine (G16 k hkW (fun e => ?_)).trans ho
      obtain ⟨c, hc'⟩ := owns_kind hown1 e.symm
      rw [A1.block k hkW, ho] at hc'
      cases hc'
      cases hc
    have HY : Hid (_ ∧ _ ∧ _ ∧ _) := ⟨hB7, hown7, B67, KF⟩
    clear hB7 hown7 B67 KF hB6 k2 k3 k4 k5 A1 hN1 hown1 hB1 G16
    go_wp2
    obtain ⟨hB7, hown7, B67, KF⟩ := HY.out
    refine (?_ : KeepsFrom _ W _ ∧ Below n0 W _ ∧ GSt z w (pre ++ [_]) _)
    refine ⟨KF, B67 n0 (by omega), _, hB7, ?_, BWd.trans (B67 z (Nat.le_refl _))⟩
    rw [pC_snoc, List.length_append]
    exact hown7
  case done =>
    rintro D ys W hD rfl ⟨v, hId, hownd, BWd⟩ hK
    have hch := (Array.getElem?_eq_some_iff.1 hK).1
    obtain ⟨ao, c, rfl⟩ : ∃ ao c, v = .slice ao ys.length c := by
      rcases hownd.2 with ⟨h, h0⟩ | ⟨g, c, _, h, _⟩
      · exact ⟨none, 0, by rw [h, h0]⟩
      · exact ⟨_, c, h⟩
    have cI := hId.cell
    have HX : Hid (_ ∧ _ ∧ _) := ⟨BWd, hK, hownd⟩
    clear BWd hK hownd
    go_wp2
    obtain ⟨BWd, hK, hownd⟩ := HX.out
    have hbP := belowK_b (n₀ := z) (w := w2) (by omega) W D _ (.deferred none) hD hK rfl rfl
    refine ⟨by simp, .inl ⟨_, _, rfl, run_takeDeferred hK, ?_⟩⟩
    refine ⟨.slice ao ys.length c, by simp [results, Tryz.results98, go_sem], ?_, ao, c, rfl, ?_⟩
    · rw [HZ.out]; exact BWd.trans hbP
    · rcases hownd.2 with ⟨h, h0⟩ | ⟨g, cp, _, h, _⟩
      · injection h with h1 h2 h3
        exact .inl ⟨List.length_eq_zero_iff.1 h0, h1, h3⟩
      · injection h with h1 h2 h3
        subst h1 h3
        have hlt := hownd.lt g rfl
        refine .inr ⟨g, rfl, by rw [HZ.out]; omega, by simpa using hlt.2, fun j e he => ?_, fun k => ?_⟩
        rotate_left
        · have hgD : g ≠ D := fun e => by
            obtain ⟨cc, hcc⟩ := owns_kind hownd (k := g) rfl
            rw [e, hK] at hcc
            cases hcc
          have hfr := hownd.frozenAt k
          rw [← hfr]
          exact frozen_block (World.putObj_heap_other hgD) k
        have hj := (List.getElem?_eq_some_iff.1 he).1
        obtain ⟨p1, p2⟩ := pC_at ys j e he
        have hgD : g ≠ D := fun e => by
          obtain ⟨cc, hcc⟩ := owns_kind hownd (k := g) rfl
          rw [e, hK] at hcc
          cases hcc
        refine ⟨(World.cell?_of_block (w := W) (World.putObj_heap_other hgD)).trans ?_, (World.cell?_of_block (w := W) (World.putObj_heap_other hgD)).trans ?_⟩
        · rw [Nat.zero_add, hownd.cellAt _ (by omega)]; exact p1
        · rw [Nat.zero_add, hownd.cellAt _ (by omega)]; exact p2
  case stop =>
    rintro D c pre W hD _ h
    exact h.elim
end Go.Proofs.YtbpcciifaekffaaGreatDoor
