/- Lemmas: The reference's items of committees. The reference's reading: how many items, a number, texts. -/
import Derived.Test.YtmefanagpkbjeaaDoorM1
import Derived.Test.YtmefanagpkbjeaaDoorM10
import Derived.Test.YtmefanagpkbjeaaDoorM11
import Derived.Test.YtmefanagpkbjeaaDoorM12
import Derived.Test.YtmefanagpkbjeaaDoorM13
import Derived.Test.YtmefanagpkbjeaaDoorM14
import Derived.Test.YtmefanagpkbjeaaDoorM15
import Derived.Test.YtmefanagpkbjeaaDoorM16
import Derived.Test.YtmefanagpkbjeaaDoorM17
import Derived.Test.YtmefanagpkbjeaaDoorM18
import Derived.Test.YtmefanagpkbjeaaDoorM19
import Derived.Test.YtmefanagpkbjeaaDoorM2
import Derived.Test.YtmefanagpkbjeaaDoorM20
import Derived.Test.YtmefanagpkbjeaaDoorM21
import Derived.Test.YtmefanagpkbjeaaDoorM22
import Derived.Test.YtmefanagpkbjeaaDoorM23
import Derived.Test.YtmefanagpkbjeaaDoorM24
import Derived.Test.YtmefanagpkbjeaaDoorM25
import Derived.Test.YtmefanagpkbjeaaDoorM26
import Derived.Test.YtmefanagpkbjeaaDoorM27
import Derived.Test.YtmefanagpkbjeaaDoorM28
import Derived.Test.YtmefanagpkbjeaaDoorM29
import Derived.Test.YtmefanagpkbjeaaDoorM3
import Derived.Test.YtmefanagpkbjeaaDoorM30
import Derived.Test.YtmefanagpkbjeaaDoorM31
import Derived.Test.YtmefanagpkbjeaaDoorM33
import Derived.Test.YtmefanagpkbjeaaDoorM34
import Derived.Test.YtmefanagpkbjeaaDoorM35
import Derived.Test.YtmefanagpkbjeaaDoorM36
import Derived.Test.YtmefanagpkbjeaaDoorM4
import Derived.Test.YtmefanagpkbjeaaDoorM6
import Derived.Test.YtmefanagpkbjeaaDoorM7
import Derived.Test.YtmefanagpkbjeaaDoorM8
import Derived.Test.YtmefanagpkbjeaaDoorM9
import Derived.Test.YtmefanagpkbjeaaDoorRows
namespace Go.Proofs.YtmefanagpkbjeaaDoor
open Go.RowKit Go.Shelf Go.Sort

/-- An item that was made anew. -/
def ItR (x : It) (B : Nat) (X : Value) (W : World) : Prop := ∃ Y : Im, X = Y.val ∧ er Y = x ∧ inP (fun b => B ≤ b ∧ b < W.heap.size) W Y
theorem ItR.grow {x : It} {B : Nat} {X : Value} {W W' : World} (h : ItR x B X W) (hb : Below W.heap.size W W') : ItR x B X W' := by
  obtain ⟨Y, h1, h2, h3⟩ := h
  exact ⟨Y, h1, h2, inP_of (fun b k => ⟨⟨k.1, Nat.lt_of_lt_of_le k.2 hb.size⟩, fun j => hb.cell (p := ⟨b, j, none⟩) k.2⟩) _ h3⟩
/-- A row of items that was made anew. -/
def RwI (n : Nat) (xs : List It) (B : Nat) (X : Value) (W : World) : Prop := ∃ (g : Nat) (Ys : List Im), X = .slice (some ⟨g, 0, none⟩) n n ∧ Ys.length = n ∧ ers Ys = xs ∧ rowP (fun b => B ≤ b ∧ b < W.heap.size) W (some ⟨g, 0, none⟩) 0 Ys
theorem RwI.grow {n : Nat} {xs : List It} {B : Nat} {X : Value} {W W' : World} (h : RwI n xs B X W) (hb : Below W.heap.size W W') : RwI n xs B X W' := by
  obtain ⟨g, Ys, h1, h0, h2, h3⟩ := h
  exact ⟨g, Ys, h1, h0, h2, rowP_of (fun b k => ⟨⟨k.1, Nat.lt_of_lt_of_le k.2 hb.size⟩, fun j => hb.cell (p := ⟨b, j, none⟩) k.2⟩) _ _ _ h3⟩
theorem RwI.list {n : Nat} {xs : List It} {B g : Nat} {W : World} {Ys : List Im} (h0 : Ys.length = n) (h2 : ers Ys = xs) (h3 : rowP (fun b => B ≤ b ∧ b < W.heap.size) W (some ⟨g, 0, none⟩) 0 Ys) : ItR (lsI xs) B (.agg #[.bool true, .string ⟨#[]⟩, .slice (some ⟨g, 0, none⟩) n n]) W :=
  ⟨.mk true ⟨#[]⟩ (some ⟨g, 0, none⟩) n Ys, by rw [← h0]; rfl, by show It.mk true ⟨#[]⟩ (ers Ys) = _; rw [h2]; rfl, h3⟩
/-- What holds while a statement runs. -/
structure Mc_comm (V : World) (p N c : Nat) (a : Option Addr) (sm : ByteArray) (tx : It) (S : Nat → Bool) (x3 x4 x5 x6 x7 x8 x9 x10 : Value) (W : World) : Prop where
  e : Below V.heap.size V W
  f0 : S 0 = true → x3 = Value.pointer (some ⟨p, 0, none⟩)
  f1 : S 1 = true → x4 = Value.slice a N c
  f2 : S 2 = true → ItR tx V.heap.size x5 W
  f3 : S 3 = true → x6 = Value.pointer (some ⟨p, 1, none⟩)
  f4 : S 4 = true → x7 = Value.string sm
  f5 : S 5 = true → x8 = Value.agg #[.bool false, .string sm, .slice none 0 0]
  f6 : S 6 = true → RwI 2 [tx, tI sm] V.heap.size x9 W
  f7 : S 7 = true → ItR (lsI [tx, tI sm]) V.heap.size x10 W
theorem Mc_comm.grow {V : World} {p N c : Nat} {a : Option Addr} {sm : ByteArray} {tx : It} {S : Nat → Bool} {x3 x4 x5 x6 x7 x8 x9 x10 : Value} {W W' : World} (h : Mc_comm V p N c a sm tx S x3 x4 x5 x6 x7 x8 x9 x10 W) (hb : Below W.heap.size W W') : Mc_comm V p N c a sm tx S x3 x4 x5 x6 x7 x8 x9 x10 W' :=
  ⟨belowStep h.e h.e.size hb, h.f0, h.f1, fun s => ItR.grow (h.f2 s) hb, h.f3, h.f4, h.f5, fun s => RwI.grow (h.f6 s) hb, fun s => ItR.grow (h.f7 s) hb⟩
set_option maxRecDepth 100000 in
set_option maxHeartbeats 4000000 in
theorem rcomm_any (d : CmD) (hK : d.ks.length < 100000000) (a : Option Addr) (c n : Nat) (w : World) (hn : n ≤ w.heap.size) (hp : slS n w a d.ks) :
    Calls Tryd.prog 48 #[.agg #[.slice a d.ks.length c, .string d.sm]] w fun e w' => ∃ X : Im, e = .returned X.val ∧ er X = cmI d ∧ inP (fun b => w.heap.size ≤ b ∧ b < w'.heap.size) w' X ∧ Below w.heap.size w w' := by
  obtain ⟨ks, sm⟩ := d
  dsimp only at hK hp ⊢
  obtain ⟨A0, h0, h1⟩ := two_boxes w (.cells #[.slice a ks.length c, .string sm] 31) (.cells #[.bool false, .string ⟨#[]⟩, .slice none 0 0] 70)
  obtain ⟨p, hp0⟩ : ∃ p, w.heap.size = p := ⟨_, rfl⟩
  have HP : Hid (w.heap.size = p) := hp0
  obtain ⟨w1, hw1⟩ : ∃ W, (w.alloc (.cells #[.slice a ks.length c, .string sm] 31)).alloc (.cells #[.bool false, .string ⟨#[]⟩, .slice none 0 0] 70) = W := ⟨_, rfl⟩
  have hsz : w1.heap.size = p + 2 := by rw [← hw1, ← hp0]; simp
  rw [hw1] at A0 h0 h1
  rw [hp0] at A0 h0 h1 hn
  have KT : ∀ W : World, Below w1.heap.size w1 W → _ := fun W hB => rtexts_any ks hK a c n W (by have := hB.size; omega) (slS_below (hB.mono (by omega)) (slS_below (A0.mono hn) hp))
  obtain ⟨N, hN⟩ : ∃ N, ks.length = N := ⟨_, rfl⟩
  rw [hN] at KT h0 hw1 ⊢
  have c0 : w1.cell? ⟨p, 0, none⟩ = some (.slice a N c) := by rw [Lib.cell_of_heap h0]; rfl
  have c1 : w1.cell? ⟨p, 1, none⟩ = some (.string sm) := by rw [Lib.cell_of_heap h0]; rfl
  have hI : cmI ⟨ks, sm⟩ = lsI [tsI ks, tI sm] := rfl
  rw [hI]
  obtain ⟨tx, htx⟩ : ∃ x, tsI ks = x := ⟨_, rfl⟩
  rw [htx] at KT ⊢
  clear h0 hN hK hp hI htx
  go_enter Tryd.func48, Tryd.ntmps48
  go_wp2_with fail
  clear hw1 hp0
  refine region_inv_tail 8 (fun S aa W => ∃ x3 x4 x5 x6 x7 x8 x9 x10 : Value, aa = { tmps := #[Value.agg #[Value.slice a N c, Value.string sm], Value.pointer (some { block := p, off := 0 }), Value.pointer (some { block := p + 1, off := 0 }), x3, x4, x5, x6, x7, x8, x9, x10], defers := [] } ∧ Mc_comm w1 p N c a sm tx S x3 x4 x5 x6 x7 x8 x9 x10 W) (by kernel_rfl) (by kernel_rfl) ?_ ?_ ?_
  · exact ⟨undef, undef, undef, undef, undef, undef, undef, undef, rfl, ⟨(Below.refl _ w1).drew, nofun, nofun, nofun, nofun, nofun, nofun, nofun, nofun⟩⟩
  · intro i o S aa W hin hi hun hJ hall K hK
    obtain ⟨x3, x4, x5, x6, x7, x8, x9, x10, rfl, h⟩ := hJ
    have hlt : i < 8 := hin
    have hcase : i = 0 ∨ i = 1 ∨ i = 2 ∨ i = 3 ∨ i = 4 ∨ i = 5 ∨ i = 6 ∨ i = 7 := by omega
    rcases hcase with rfl | rfl | rfl | rfl | rfl | rfl | rfl | rfl
    all_goals (have ho := (Option.some.inj hi).symm; subst ho; clear hi hlt hin)
    · go_simp
      exact hK _ _ ⟨_, x4, x5, x6, x7, x8, x9, x10, rfl, ⟨h.e, fun _ => rfl, h.f1, h.f2, h.f3, h.f4, h.f5, h.f6, h.f7⟩⟩
    · have s_0 : S 0 = true := hall ⟨0, .data⟩ (by simp) rfl
      obtain rfl := h.f0 s_0
      have cW := (h.e.cell (p := ⟨p, 0, none⟩) (by show p < _; omega)).trans c0
      go_simp
      exact hK _ _ ⟨_, _, x5, x6, x7, x8, x9, x10, rfl, ⟨h.e, h.f0, fun _ => rfl, h.f2, h.f3, h.f4, h.f5, h.f6, h.f7⟩⟩
    · have s_1 : S 1 = true := hall ⟨1, .data⟩ (by simp) rfl
      obtain rfl := h.f1 s_1
      go_simp
      refine (KT W h.e).mono ?_
      rintro e w5 ⟨Y5, rfl, k1, k2, hb5⟩
      have h1 := h.grow hb5
      exact hK _ _ ⟨x3, _, _, x6, x7, x8, x9, x10, rfl, ⟨h1.e, h1.f0, h1.f1, fun _ => ⟨Y5, rfl, k1, inP_of (fun b hb => ⟨⟨Nat.le_trans h.e.size hb.1, hb.2⟩, fun _ => rfl⟩) _ k2⟩, h1.f3, h1.f4, h1.f5, h1.f6, h1.f7⟩⟩
    · go_simp
      exact hK _ _ ⟨x3, x4, x5, _, x7, x8, x9, x10, rfl, ⟨h.e, h.f0, h.f1, h.f2, fun _ => rfl, h.f4, h.f5, h.f6, h.f7⟩⟩
    · have s_3 : S 3 = true := hall ⟨3, .data⟩ (by simp) rfl
      obtain rfl := h.f3 s_3
      have cW := (h.e.cell (p := ⟨p, 1, none⟩) (by show p < _; omega)).trans c1
      go_simp
      exact hK _ _ ⟨x3, x4, x5, _, _, x8, x9, x10, rfl, ⟨h.e, h.f0, h.f1, h.f2, h.f3, fun _ => rfl, h.f5, h.f6, h.f7⟩⟩
    · have s_4 : S 4 = true := hall ⟨4, .data⟩ (by simp) rfl
      obtain rfl := h.f4 s_4
      go_simp
      refine (rtext_any sm W).mono ?_
      rintro e w5 ⟨rfl, hb5⟩
      have h1 := h.grow hb5
      exact hK _ _ ⟨x3, x4, x5, x6, _, _, x9, x10, rfl, ⟨h1.e, h1.f0, h1.f1, h1.f2, h1.f3, h1.f4, fun _ => rfl, h1.f6, h1.f7⟩⟩
    · have s_2 : S 2 = true := hall ⟨2, .data⟩ (by simp) rfl
      obtain ⟨⟨yl, yt, ya, yc, yx⟩, rfl, he2, hi2⟩ := h.f2 s_2
      have s_5 : S 5 = true := hall ⟨5, .data⟩ (by simp) rfl
      obtain rfl := h.f5 s_5
      simp only [Im.val, Im.sl, Im.l, Im.t, Im.a, Im.xs, Im.c]
      go_simp
      have h1 := h.grow (be_new W (.cells #[.bool yl, .string yt, .slice ya yx.length yc, .bool false, .string sm, .slice none 0 0] 70))
      have hrw := row_new (W := W) h.e.size [.mk yl yt ya yc yx, txt sm] (fun y hy => by rcases List.mem_cons.1 hy with e | hy; (rw [e]; exact hi2); (have e := List.mem_singleton.1 hy; rw [e]; exact trivial)) (cs := #[.bool yl, .string yt, .slice ya yx.length yc, .bool false, .string sm, .slice none 0 0]) rfl
      exact hK _ _ ⟨x3, x4, _, x6, x7, _, _, x10, rfl, ⟨h1.e, h1.f0, h1.f1, h1.f2, h1.f3, h1.f4, h1.f5, fun _ => ⟨W.heap.size, _, rfl, rfl, by show [er _, er _] = _; rw [he2]; rfl, hrw⟩, h1.f7⟩⟩
    · have s_6 : S 6 = true := hall ⟨6, .data⟩ (by simp) rfl
      obtain ⟨g6, Ys, rfl, hl6, he6, hr6⟩ := h.f6 s_6
      go_simp
      refine (rlist_any (some ⟨g6, 0, none⟩) 2 2 W).mono ?_
      rintro e w5 ⟨rfl, hb5⟩
      have h1 := h.grow hb5
      exact hK _ _ ⟨x3, x4, x5, x6, x7, x8, _, _, rfl, ⟨h1.e, h1.f0, h1.f1, h1.f2, h1.f3, h1.f4, h1.f5, h1.f6, fun _ => (RwI.list hl6 he6 hr6).grow hb5⟩⟩
  · rintro S aa W hall ⟨x3, x4, x5, x6, x7, x8, x9, x10, rfl, h⟩
    obtain rfl := h.f0 (hall 0 (by decide))
    obtain rfl := h.f1 (hall 1 (by decide))
    obtain hO2 := h.f2 (hall 2 (by decide))
    obtain rfl := h.f3 (hall 3 (by decide))
    obtain rfl := h.f4 (hall 4 (by decide))
    obtain rfl := h.f5 (hall 5 (by decide))
    obtain hO6 := h.f6 (hall 6 (by decide))
    obtain ⟨⟨zl, zt, za, zc, zx⟩, rfl, hez, hiz⟩ := h.f7 (hall 7 (by decide))
    have BWD := h.e
    clear h hall
    simp only [List.drop_succ_cons, List.drop_zero]
    simp only [Im.val, Im.sl, Im.l, Im.t, Im.a, Im.xs, Im.c]
    have hr1 := (BWD.block (p + 1) (by omega)).trans h1
    have hz1 := BWD.size
    have f0 := fun o => Lib.frozen_of_heap hr1 o
    have d0 : W.cell? ⟨p + 1, 0, none⟩ = some (.bool false) := by rw [Lib.cell_of_heap hr1]; rfl
    have d1 : W.cell? ⟨p + 1, 1, none⟩ = some (.string ⟨#[]⟩) := by rw [Lib.cell_of_heap hr1]; rfl
    have d2 : W.cell? ⟨p + 1, 2, none⟩ = some (.slice none 0 0) := by rw [Lib.cell_of_heap hr1]; rfl
    have HX : Hid (_ ∧ _ ∧ _) := ⟨A0.trans (BWD.mono (by omega)), hez, hiz⟩
    clear BWD hez hiz hO2 hO6 h1 hr1 A0 KT c0 c1
    go_wp2
    obtain ⟨BX, hez, hiz⟩ := HX.out
    refine bodyPost_ret (v := .agg #[.bool zl, .string zt, .slice za zx.length zc]) (by simp [results, Tryd.results48, go_sem, d0, d1, d2]) rfl ⟨.mk zl zt za zc zx, rfl, hez, ?_, ?_⟩
    · rw [HP.out]
      refine inP_of (fun b hb => ⟨⟨by omega, by simp [World.setCell]; omega⟩, fun j => ?_⟩) _ hiz
      rw [cell_ne _ _ _ _ _ (by show b ≠ p + 1; omega), cell_ne _ _ _ _ _ (by show b ≠ p + 1; omega), cell_ne _ _ _ _ _ (by show b ≠ p + 1; omega)]
    · rw [HP.out]
      exact below_set (below_set (below_set BX _ _ (by omega) _) _ _ (by omega) _) _ _ (by omega) _
end Go.Proofs.YtmefanagpkbjeaaDoor
namespace Go.Proofs.YtmefanagpkbjeaaDoor
open Go.RowKit Go.Shelf Go.Sort

set_option maxRecDepth 20000 in
set_option maxHeartbeats 2000000 in
theorem rmany_any (X : Im) (n : Nat) (w : World) : Calls Tryd.prog 55 #[X.val, .int .i64 n] w fun e w' => e = .returned (.bool (X.l && decide (X.xs.length = n))) ∧ Below w.heap.size w w' := by
  obtain ⟨l, t, a, c, xs⟩ := X
  show Calls Tryd.prog 55 #[.agg #[.bool l, .string t, .slice a xs.length c], .int .i64 n] w fun e w' => e = .returned (.bool (l && decide (xs.length = n))) ∧ Below w.heap.size w w'
  obtain ⟨N, hN⟩ : ∃ N, xs.length = N := ⟨_, rfl⟩
  rw [hN]
  have A0 := be_new w (.cells #[.bool l, .string t, .slice a N c] 70)
  have HX : Hid _ := A0
  clear A0 hN
  cases l with
  | true =>
    by_cases h : N = n
    · subst h
      have l2 : ((N : Int) == (N : Int)) = true := by simp
      go_enter Tryd.func55, Tryd.ntmps55
      go_wp2
      go_ret
      exact ⟨by simp, HX.out⟩
    · have l2 : ((N : Int) == (n : Int)) = false := by rw [beq_eq_false_iff_ne]; omega
      go_enter Tryd.func55, Tryd.ntmps55
      go_wp2
      go_ret
      exact ⟨by simp [h], HX.out⟩
  | false =>
    go_enter Tryd.func55, Tryd.ntmps55
    go_wp2
    go_ret
    exact ⟨by simp, HX.out⟩
set_option maxRecDepth 20000 in
set_option maxHeartbeats 2000000 in
theorem rnumberOf_any (X : Im) (w : World) : Calls Tryd.prog 59 #[X.val] w fun e w' => e = .returned (.tuple #[.int .u64 (vN X.t), .bool (decide (vE X.t = 0) && !X.l)]) ∧ Below w.heap.size w w' := by
  obtain ⟨l, t, a, c, xs⟩ := X
  show Calls Tryd.prog 59 #[.agg #[.bool l, .string t, .slice a xs.length c]] w fun e w' => e = .returned (.tuple #[.int .u64 (vN t), .bool (decide (vE t = 0) && !l)]) ∧ Below w.heap.size w w'
  have KV := fun w => rvalue_any t w
  obtain ⟨n, hn⟩ : ∃ n, vN t = n := ⟨_, rfl⟩
  obtain ⟨v, hv⟩ : ∃ v, vE t = v := ⟨_, rfl⟩
  rw [hn, hv] at KV
  rw [hn, hv]
  clear hn hv
  obtain ⟨N, hN⟩ : ∃ N, xs.length = N := ⟨_, rfl⟩
  rw [hN]
  have A0 := be_new w (.cells #[.bool l, .string t, .slice a N c] 70)
  have hx := World.alloc_heap_new w (.cells #[.bool l, .string t, .slice a N c] 70)
  clear hN
  go_enter Tryd.func59, Tryd.ntmps59
  go_wp2_with fail
  refine (KV _).mono ?_
  rintro e w1 ⟨rfl, B1⟩
  have hx1 := (B1.block w.heap.size (by simp)).trans hx
  have A1 := belowStep A0 A0.size B1
  have d0 : w1.cell? ⟨w.heap.size, 0, none⟩ = some (.bool l) := by rw [Lib.cell_of_heap hx1]; rfl
  have k0 := cell_regrown d0
  have HX : Hid _ := A1
  clear A0 A1 B1 hx hx1 KV
  have FIN : ∀ (b : Bool) (w8 : World), (∃ p : Regrown, w8 = grow (redrawn w1 p.d) p.os) → Below w.heap.size w w8 := fun b w8 hw8 => by
    obtain ⟨p, rfl⟩ := hw8
    exact belowStep HX.out HX.out.size (below_regrown _ _ _)
  by_cases h : v = 0
  · subst h
    cases l <;> (
      go_wp2_with fail
      refine wp_region_quiet_below (by kernel_rfl) (by kernel_rfl) ?_
      repeat (quiet_step (fail))
      refine wpQuiet_nil ?_
      intro w8 hw8
      have hF := FIN true w8 hw8
      clear FIN hw8
      have HF : Hid _ := hF
      clear hF
      go_wp2
      go_ret2
      exact ⟨by simp, HF.out⟩)
  · have h2 : (v == 0) = false := by rw [beq_eq_false_iff_ne]; exact h
    go_wp2_with fail
    refine wp_region_quiet_below (by kernel_rfl) (by kernel_rfl) ?_
    repeat (quiet_step (fail))
    refine wpQuiet_nil ?_
    intro w8 hw8
    have hF := FIN true w8 hw8
    clear FIN hw8
    have HF : Hid _ := hF
    clear hF
    go_wp2
    go_ret2
    exact ⟨by simp [h], HF.out⟩
theorem slP_owns {z : Nat} {v : Value} {xs : List ByteArray} {W : World} (h : W.ownsRow z 9 1 v xs.length (xs.map .string)) : ∃ a c, v = .slice a xs.length c ∧ slP (fun b => z ≤ b ∧ b < W.heap.size) W a xs := by
  rcases h.2 with ⟨h1, h2⟩ | ⟨g, c, cur, h1, h2, h3, h4, h5, h6, h7⟩
  · exact ⟨none, 0, by rw [h1, h2], .inl (List.length_eq_zero_iff.1 h2)⟩
  · have hlt := h.lt g (by rw [h1]; rfl)
    refine ⟨_, c, h1, .inr ⟨g, 0, rfl, hlt, fun j x hx => ?_⟩⟩
    have hj : j < xs.length := (List.getElem?_eq_some_iff.1 hx).1
    subst h1
    rw [h.cellAt (0 + j) (by omega), Nat.zero_add, List.getElem?_map, hx]
    rfl
/-- What an item's texts are, or that they are none. -/
def TsR (X : Im) (ts : List ByteArray) (b : Bool) : Prop := ((ers X.xs).all (fun y => !lI y) = true ∧ ts = (ers X.xs).map tOf ∧ b = X.l) ∨ ((ers X.xs).all (fun y => !lI y) = false ∧ ts = [] ∧ b = false)
theorem all_snoc {xs : List Im} {k : Nat} {x : Im} (hx : xs[k]? = some x) : (ers xs).take (k + 1) = (ers xs).take k ++ [er x] := by
  rw [List.take_add_one, ers_at xs k x hx]
  rfl
set_option maxRecDepth 20000 in
set_option maxHeartbeats 2000000 in
theorem rtextsOf_any (X : Im) (hK : X.xs.length < 100000000) (n : Nat) (w : World) (hn : n ≤ w.heap.size) (hp : inMem n w X) :
    Calls Tryd.prog 58 #[X.val] w fun e w' => Below w.heap.size w w' ∧ ∃ ts b a c, TsR X ts b ∧ e = .returned (.tuple #[.slice a ts.length c, .bool b]) ∧ slP (fun b => w.heap.size ≤ b ∧ b < w'.heap.size) w' a ts := by
  obtain ⟨i0, hi0, hz0, hz1, hz2⟩ := info_parts info_str13
  obtain ⟨l, t, a, c, xs⟩ := X
  replace hp : rowMem n w a 0 xs := hp
  simp only [Im.val, Im.l, Im.t, Im.sl, Im.a, Im.xs, Im.c] at hK ⊢
  obtain ⟨N, hN⟩ : ∃ N, xs.length = N := ⟨_, rfl⟩
  have HN : Hid (xs.length = N) := hN
  rw [hN] at hK ⊢
  have A0 := be_new w (.cells #[.bool l, .string t, .slice a N c] 70)
  have hx := World.alloc_heap_new w (.cells #[.bool l, .string t, .slice a N c] 70)
  obtain ⟨y, hy⟩ : ∃ y, w.heap.size = y := ⟨_, rfl⟩
  have HY : Hid (w.heap.size = y) := hy
  go_enter Tryd.func58, Tryd.ntmps58
  go_wp2_with fail
  obtain ⟨w1, hw1⟩ : ∃ W, w.alloc (.cells #[.bool l, .string t, .slice a N c] 70) = W := ⟨_, rfl⟩
  have hsz1 : w1.heap.size = y + 1 := by rw [← hw1]; simp [hy]
  rw [hy] at A0 hx hn
  rw [hw1] at A0 hx ⊢
  clear hw1 hN
  clear hy
  go_loopg [4, 5] N (fun gk v i wr => ∃ k : Nat, k + gk = N ∧ i = .int .i64 k ∧ Below w1.heap.size w1 wr ∧ wr.ownsRow w1.heap.size 9 1 v k (((ers xs).take k).map (fun y => .string (tOf y))) ∧ ((ers xs).take k).all (fun y => !lI y) = true)
  case atStart => exact ⟨0, by omega, rfl, Below.refl _ _, World.ownsRow_nil _ _ _ _, rfl⟩
  case round =>
    obtain ⟨k, hk, rfl, BW, hown, hall⟩ := hrel
    have hzr := BW.size
    have hxr := (BW.block y (by omega)).trans hx
    have e0 : wr.cell? ⟨y, 0, none⟩ = some (.bool l) := by rw [Lib.cell_of_heap hxr]; rfl
    have e2 : wr.cell? ⟨y, 2, none⟩ = some (.slice a N c) := by rw [Lib.cell_of_heap hxr]; rfl
    by_cases hlt : k < N
    · have l1 : (k : Int) < N := by omega
      obtain ⟨x, hxk⟩ : ∃ x, xs[k]? = some x := ⟨xs[k]'(by have := HN.out; omega), List.getElem?_eq_getElem (by have := HN.out; omega)⟩
      obtain ⟨⟨b, o, hb, rfl, q0, q1, _⟩, _⟩ := row_at xs 0 hp k x hxk
      rw [Nat.zero_add] at q0 q1
      have q0 := (BW.cell (p := ⟨b, o + 3 * k, none⟩) (by show b < _; omega)).trans ((A0.cell (p := ⟨b, o + 3 * k, none⟩) (by show b < y; omega)).trans q0)
      have q1 := (BW.cell (p := ⟨b, o + 3 * k + 1, none⟩) (by show b < _; omega)).trans ((A0.cell (p := ⟨b, o + 3 * k + 1, none⟩) (by show b < y; omega)).trans q1)
      rw [show o + 3 * k = o + k * 3 by omega] at q0 q1
      have wk : IntKind.i64.wrap ((k : Int) + 1) = ((k + 1 : Nat) : Int) := by rw [IntKind.wrap_i64]; omega
      have HXK : Hid _ := all_snoc hxk
      have HXL : Hid _ := ers_at xs k x hxk
      have HX : Hid (_ ∧ _ ∧ _) := ⟨BW, hown, hall⟩
      obtain ⟨xl, xt, xa, xc, xx⟩ := x
      simp only [Im.l, Im.t] at q0 q1
      clear hp BW hown hall
      cases xl with
      | true =>
        go_wp2
        refine bodyPost_ret (v := .tuple #[.slice none 0 0, .bool false]) (by simp [results, Tryd.results58, go_sem]) rfl ?_
        obtain ⟨BW, hown, hall⟩ := HX.out
        refine ⟨?_, [], false, none, 0, .inr ⟨?_, rfl, rfl⟩, rfl, .inl rfl⟩
        · rw [HY.out]
          exact A0.trans (BW.mono (by omega))
        · exact List.all_eq_false.2 ⟨_, List.mem_of_getElem? HXL.out, by simp [lI, er]⟩
      | false =>
        obtain ⟨BW, hown, hall⟩ := HX.out
        have A6 := be_new wr (.cells #[.string xt] 9)
        have hown6 := owns_below hown A6
        obtain ⟨v7, w7, hrun7, ho7, hg7, _⟩ := run_append_own (P := Tryd.prog) (wr.alloc (.cells #[.string xt] 9)) w1.heap.size 27 27 9 i0 _ 1 16 Tryd.underlying27 hi0 hz0 hz1 hz2 rfl (by decide) u4 k _ hown6 ⟨wr.heap.size, 0, none⟩ 1 1 [.string xt] rfl (fun j u hu => by
          rw [Addr.add_mid, Nat.zero_add, Lib.cell_of_heap (World.alloc_heap_new wr _)]
          simpa using hu) (fun u hu => by
          simp at hu
          rw [hu]; rfl) (by unfold maxLen; omega) (by omega) (by simp; omega)
        have HR7 : Hid _ := hrun7
        have HO7 : Hid (_ ∧ _ ∧ _ ∧ _) := ⟨ho7, hg7, A6, fun bb hb' => (hown6.lt bb hb').1⟩
        clear hown6 hrun7 ho7 hg7 A6 BW hown hall
        go_wp2_with (at_builtin; refine Lib.wpList_append_run _ rfl _ _ 27 27 rfl _ _ rfl rfl _ _ HR7.out ?_)
        go_roundg (gk - 1)
        case measure => omega
        case rel =>
          obtain ⟨ho7, hg7, B5, hr7⟩ := HO7.out
          obtain ⟨BW, hown, hall⟩ := HX.out
          refine ⟨k + 1, by omega, by first | rfl | (congr 1; omega), (BW.trans (B5.mono hzr)).grown hg7 (by have := B5.size; omega) (fun bb hb' => hr7 bb hb'), ?_, ?_⟩
          · rw [HXK.out, List.map_append]
            exact ho7
          · rw [HXK.out, List.all_append, hall]
            rfl
    · have hk2 : k = N := by omega
      have l1 : ¬ (k : Int) < N := by omega
      rw [hk2, List.take_of_length_le (by rw [ers_len]; have := HN.out; omega)] at hown hall
      have HX : Hid (_ ∧ _ ∧ _) := ⟨BW, hown, hall⟩
      clear BW hown hall
      have hyn : ((ers xs).map tOf).length = N := by rw [List.length_map, ers_len]; exact HN.out
      obtain ⟨BW, hown, hall⟩ := HX.out
      rw [← hyn, show (ers xs).map (fun y => Value.string (tOf y)) = ((ers xs).map tOf).map Value.string by rw [List.map_map]; rfl] at hown
      obtain ⟨a7, c7, rfl, hrow⟩ := slP_owns hown
      have k0 := cell_regrown e0
      have hF : ∀ w8 : World, (∃ p : Regrown, w8 = grow (redrawn wr p.d) p.os) → Below y w w8 ∧ slP (fun b => y ≤ b ∧ b < w8.heap.size) w8 a7 ((ers xs).map tOf) := fun w8 hw8 => by
        have hb : Below wr.heap.size wr w8 := by obtain ⟨p, rfl⟩ := hw8; exact below_regrown _ _ _
        refine ⟨A0.trans ((BW.trans (hb.mono hzr)).mono (by omega)), ?_⟩
        rcases hrow with h | ⟨b, o, h1, h2, h3⟩
        · exact .inl h
        · exact .inr ⟨b, o, h1, ⟨by omega, Nat.lt_of_lt_of_le h2.2 hb.size⟩, fun j x hx => (hb.cell (p := ⟨b, o + j, none⟩) h2.2).trans (h3 j x hx)⟩
      have HR : Hid (_ ∧ _) := ⟨hall, hF⟩
      clear BW hown hall hrow HX A0 hF
      go_wp2_with fail
      refine wp_region_quiet_below (by kernel_rfl) (by kernel_rfl) ?_
      repeat (quiet_step (fail))
      refine wpQuiet_nil ?_
      intro w8 hw8
      obtain ⟨hall, hF⟩ := HR.out
      obtain ⟨hB, hS⟩ := hF w8 hw8
      have HS : Hid (_ ∧ _ ∧ _) := ⟨hall, hB, hS⟩
      clear hall hF hB hS hw8 HR
      go_wp2
      refine bodyPost_ret (v := .tuple #[.slice a7 ((ers xs).map tOf).length c7, .bool l]) (by simp [results, Tryd.results58, go_sem]; rw [ers_len]; exact HN.out.symm) rfl ?_
      obtain ⟨hall, hB, hS⟩ := HS.out
      rw [HY.out]
      exact ⟨hB, (ers xs).map tOf, l, a7, c7, .inl ⟨hall, rfl, rfl⟩, rfl, hS⟩
end Go.Proofs.YtmefanagpkbjeaaDoor
