/- Lemmas: The document's answer: a path's form. -/
import Derived.Test.YtbmapdkcccdmfaaDoorM1
import Derived.Test.YtbmapdkcccdmfaaDoorM11
import Derived.Test.YtbmapdkcccdmfaaDoorM18
import Derived.Test.YtbmapdkcccdmfaaDoorM19
import Derived.Test.YtbmapdkcccdmfaaDoorM2
import Derived.Test.YtbmapdkcccdmfaaDoorM20
import Derived.Test.YtbmapdkcccdmfaaDoorM21
import Derived.Test.YtbmapdkcccdmfaaDoorM22
import Derived.Test.YtbmapdkcccdmfaaDoorM23
import Derived.Test.YtbmapdkcccdmfaaDoorM24
import Derived.Test.YtbmapdkcccdmfaaDoorM25
import Derived.Test.YtbmapdkcccdmfaaDoorM26
import Derived.Test.YtbmapdkcccdmfaaDoorM29
import Derived.Test.YtbmapdkcccdmfaaDoorM3
import Derived.Test.YtbmapdkcccdmfaaDoorM30
import Derived.Test.YtbmapdkcccdmfaaDoorRows
import Derived.Lib.AppendStr
namespace Go.Proofs.YtbmapdkcccdmfaaDoor
open Go.RowKit Go.Sort

theorem strCells_fl (s : ByteArray) : Lib.strCells s = fl s.size fun j => .int .u8 (n_bt s j) := by
 refine List.ext_getElem? fun j => ?_
 by_cases h : j < s.size
 ·rw [fl_at _ _ _ h]
  have h' : j < s.data.size := h
  simp [Lib.strCells, n_bt, Array.getD, h]
 ·rw [List.getElem?_eq_none (by rw [Lib.strCells_length]; omega), List.getElem?_eq_none (by rw [fl_len]; omega)]
theorem fl_full (p : ByteArray) (leaf : Bool) : fl (full p leaf).size (fun j => .int .u8 (n_bt (full p leaf) j)) = fl (hdOf p.size leaf).size (fun j => .int .u8 (n_bt (hdOf p.size leaf) j)) ++ Lib.strCells p := by
 rw [strCells_fl]
 refine List.ext_getElem? fun j => ?_
 by_cases h : j < (full p leaf).size
 ·rw [fl_at _ _ _ h]
  unfold full
  rw [n_bt_app]
  by_cases h1 : j < (hdOf p.size leaf).size
  ·rw [if_pos h1, List.getElem?_append_left (by rw [fl_len]; exact h1), fl_at _ _ _ h1]
  ·rw [full_size] at h
   rw [if_neg h1, List.getElem?_append_right (by rw [fl_len]; omega), fl_len, fl_at _ _ _ (by omega)]
 ·have := full_size p leaf
  rw [List.getElem?_eq_none (by rw [fl_len]; omega), List.getElem?_eq_none (by rw [List.length_append, fl_len, fl_len]; omega)]

theorem n_own_lit (w : World) (cs : Array Value) (n : Nat) (hn : cs.size = n) (hm : n ≤ maxLen) : (w.alloc (.cells cs 5)).ownsRow w.heap.size 5 1 (.slice (some ⟨w.heap.size, 0, none⟩) n n) n cs.toList :=
 ⟨by simp [hn], .inr ⟨_, n, cs, rfl, Nat.le_refl _, World.alloc_heap_new w _, Nat.le_refl _, hm, by omega, by rw [Nat.mul_one, ← hn, show cs.toList.take cs.size = cs.toList from List.take_of_length_le (by simp)]⟩⟩
theorem n_one_new (w : World) (x : Value) (t : TypeId) : ∀ j u, [x][j]? = some u → (w.alloc (.cells #[x] t)).cell? ((⟨w.heap.size, 0, none⟩ : Addr).add j) = some u := by
 intro j u hj
 match j, hj with
 | 0, hj => simp at hj; subst hj; simp [Addr.add]

structure JF (V : World) (g N cap p1 q1 : Nat) (u v d : Int) (u8 : Value) (S : Nat → Bool) (x36 x37 x38 x39 x40 x41 x42 x43 x44 x45 x46 x47 x48 : Value) (W : World) : Prop where
 e : Below V.heap.size V W
 f0 : S 0 = true → x36 = u8
 f1 : S 1 = true → x37 = .slice (some ⟨g, 0, none⟩) N cap
 f2 : S 2 = true → x38 = .int .i64 (p1 : Int)
 f3 : S 3 = true → x39 = .pointer (some ⟨g, p1, none⟩)
 f4 : S 4 = true → x40 = .int .u8 u
 f5 : S 5 = true → x41 = .int .u8 (u * 16)
 f6 : S 6 = true → x42 = .slice (some ⟨g, 0, none⟩) N cap
 f7 : S 7 = true → x43 = .int .i64 (p1 : Int)
 f8 : S 8 = true → x44 = .int .i64 (q1 : Int)
 f9 : S 9 = true → x45 = .pointer (some ⟨g, q1, none⟩)
 f10 : S 10 = true → x46 = .int .u8 v
 f11 : S 11 = true → x47 = .int .u8 d
 f12 : S 12 = true → ∃ g, x48 = .slice (some ⟨g, 0, none⟩) 1 1 ∧ V.heap.size ≤ g ∧ g < W.heap.size ∧ ∀ j u, [Value.int .u8 d][j]? = some u → W.cell? ((⟨g, 0, none⟩ : Addr).add j) = some u
theorem JF.grow {V : World} {g N cap p1 q1 : Nat} {u v d : Int} {u8 : Value} {S : Nat → Bool} {x36 x37 x38 x39 x40 x41 x42 x43 x44 x45 x46 x47 x48 : Value} {W W' : World} (h : JF V g N cap p1 q1 u v d u8 S x36 x37 x38 x39 x40 x41 x42 x43 x44 x45 x46 x47 x48 W) (hb : Below W.heap.size W W') : JF V g N cap p1 q1 u v d u8 S x36 x37 x38 x39 x40 x41 x42 x43 x44 x45 x46 x47 x48 W' :=
 ⟨belowStep h.e h.e.size hb, h.f0, h.f1, h.f2, h.f3, h.f4, h.f5, h.f6, h.f7, h.f8, h.f9, h.f10, h.f11, fun s => (h.f12 s).imp fun _ ⟨j1, j0, j2, j3⟩ => ⟨j1, j0, Nat.lt_of_lt_of_le j2 hb.size, fun j u hj => (hb.cell (p := Addr.add ⟨_, 0, none⟩ j) (by rw [Addr.add_mid]; exact j2)).trans (j3 j u hj)⟩⟩

set_option maxRecDepth 20000 in
set_option maxHeartbeats 4000000 in
theorem rform_any (p : ByteArray) (leaf : Bool) (hp : p.size ≤ 100000000) (w : World) :
  Calls Tryd.prog 91 #[.string p, .bool leaf] w fun e w' => e = .returned (.tuple #[.string (fmS p leaf), .int .i64 (fmE p)]) ∧ Below w.heap.size w w' := by
 obtain ⟨i0, hi0, hz0, hz1, hz2⟩ := info_parts n_info_u8
 have KP : Hid (∀ w : World, _) := fun w : World => risPath_any p (by omega) w
 cases hgood : isP p with
 | false =>
  have HO : Hid (fmS p leaf = ⟨#[]⟩ ∧ fmE p = 2) := by unfold fmS fmE; rw [hgood]; exact ⟨rfl, rfl⟩
  rw [hgood] at KP
  go_enter Tryd.func91, Tryd.ntmps91
  go_wp2_with fail
  refine (KP.out _).mono ?_
  rintro e w1 ⟨rfl, B1⟩
  go_wp2
  refine bodyPost_ret (v := .tuple #[.string ⟨#[]⟩, .int .i64 2]) (by simp [results, Tryd.results91, go_sem]) rfl ⟨by rw [HO.out.1, HO.out.2], B1⟩
 | true =>
  rw [hgood] at KP
  go_enter Tryd.func91, Tryd.ntmps91
  go_wp2_with fail
  refine (KP.out _).mono ?_
  rintro e w1 ⟨rfl, B1⟩
  cases leaf with
  | false =>
   by_cases h2 : p.size % 2 = 1
   ·have h3 : (p.size : Int).tmod 2 = 1 := by rw [Int.tmod_eq_emod_of_nonneg (by omega)]; omega
    have h4 : (p.size : Int) % 2 = 1 := by omega
    go_wp2_with (at_builtin; refine Lib.wpList_append_own_string _ rfl _ _ 24 9 rfl w1.heap.size 5 i0 Tryd.underlying24 Tryd.underlying9 hi0 hz0 hz1 hz2 _ 1 [.int .u8 1] rfl ?o1 p rfl (by unfold maxLen; omega) (by omega) ?o2 ?_)
    case o1 => exact n_own_lit w1 #[.int .u8 1] 1 rfl (by decide)
    case o2 => simp
    intro v5 w5 hown5 hgr5 _
    have B5 : Below w1.heap.size w1 w5 := ((Below.refl _ w1).alloc (Nat.le_refl _) _).grown hgr5 (by simp) (fun b e => by cases e; exact Nat.le_refl _)
    have hN1 : (full p false).size = 1 + p.size := by rw [full_size, hd_size]; omega
    have hx : [.int .u8 1] ++ Lib.strCells p = fl (full p false).size (fun j => .int .u8 (n_bt (full p false) j)) := by
     have hh : hdOf p.size false = ⟨#[1]⟩ := if_neg (by omega)
     rw [fl_full, hh]
     rfl
    replace hx : _ = _ := hx
    simp only [List.cons_append, List.nil_append] at hown5 hx
    rw [hx] at hown5
    clear hx
    have hN2 : 1 + p.size = (full p false).size := hN1.symm
    rw [hN2] at hown5
    obtain ⟨N, hN⟩ : ∃ N, (full p false).size = N := ⟨_, rfl⟩
    rw [hN] at hown5
    obtain ⟨M, hM⟩ : ∃ M, 2 * M = N := ⟨N / 2, by omega⟩
    obtain ⟨g, cap, rfl⟩ : ∃ g cap, v5 = .slice (some ⟨g, 0, none⟩) N cap := by
     rcases hown5.2 with ⟨_, h0⟩ | ⟨g, cap, cur, hv, _⟩
     ·omega
     ·exact ⟨g, cap, hv⟩
    have hcell : ∀ j, j < N → w5.cell? ⟨g, j, none⟩ = some (.int .u8 (n_bt (full p false) j)) := fun j hj => by
     have := hown5.cells (g := g) rfl j _ (fl_at N _ j hj)
     rwa [Addr.add_mid, Nat.zero_add] at this
    have hgz := (hown5.lt g rfl).2
    have hNs : N ≤ 100000002 := by omega
    have HO : Hid (fmS p false = ⟨(n_by8 M (fmAt p false)).toArray⟩ ∧ fmE p = 0 ∧ 1 ≤ M) := by
     unfold fmS fmE fmOf
     rw [if_pos hgood, if_pos hgood, hN, show N / 2 = M by omega]
     exact ⟨rfl, rfl, by omega⟩
    have BW5 := belowStep B1 B1.size B5
    obtain ⟨z, hz⟩ : ∃ c, w.heap.size = c := ⟨_, rfl⟩
    have HZ : Hid (w.heap.size = z) := hz
    rw [hz] at BW5
    have hz5 : z ≤ w5.heap.size := by have := B1.size; have := B5.size; omega
    have HP : Hid (isP p = true) := hgood
    have hNp : ((1 : Int) + p.size) = N ∨ True := .inr trivial
    clear hgr5 hown5 B5 B1 hN1 hN2 hN h3 h4 hz hNp hgood
    go_wp2
    go_loopg [8, 9] M (fun gk v i wr => ∃ k : Nat, k + gk = M ∧ i = .int .i64 ((2 * k : Nat) : Int) ∧ Below z w wr ∧ Below w5.heap.size w5 wr ∧ wr.ownsRow w5.heap.size 5 1 v k (fl k fun j => .int .u8 (fmAt p false j)))
    case atStart => exact ⟨0, by omega, rfl, BW5, Below.refl _ _, World.ownsRow_nil _ _ _ _⟩
    case round =>
     clear BW5
     obtain ⟨k, hk, rfl, BW, B5, hown⟩ := hrel
     have hr3 : ∀ b, u8.ownBlock = some b → w5.heap.size ≤ b := fun b hb => (hown.lt b hb).1
     by_cases hlt : k < M
     ·obtain ⟨p1, hp1⟩ : ∃ q, 2 * k = q := ⟨_, rfl⟩
      obtain ⟨q1, hq1⟩ : ∃ q, p1 + 1 = q := ⟨_, rfl⟩
      rw [hp1]
      have l1 : (p1 : Int) < N := by omega
      have l2 : (q1 : Int) < N := by omega
      have l3 : p1 < N := by omega
      have l4 : q1 < N := by omega
      have wq : IntKind.i64.wrap ((p1 : Int) + 1) = q1 := by rw [IntKind.wrap_i64]; omega
      have wq2 : IntKind.i64.wrap ((p1 : Int) + 2) = ((2 * (k + 1) : Nat) : Int) := by rw [IntKind.wrap_i64]; omega
      have c1 := (B5.cell (p := ⟨g, p1, none⟩) hgz).trans (hcell p1 l3)
      have c2 := (B5.cell (p := ⟨g, q1, none⟩) hgz).trans (hcell q1 l4)
      obtain ⟨u, hu⟩ : ∃ u, n_bt (full p false) p1 = u := ⟨_, rfl⟩
      obtain ⟨v, hv⟩ : ∃ v, n_bt (full p false) q1 = v := ⟨_, rfl⟩
      have hub := full_le p false HP.out p1
      have hvb := full_le p false HP.out q1
      rw [hu] at c1 hub
      rw [hv] at c2 hvb
      have hsh : u * 16 % 256 = u * 16 := by omega
      have hsw : IntKind.u8.wrap (u * 16) = u * 16 := by rw [IntKind.wrap_u8]; exact hsh
      have hor := or_16 u v hub hvb
      obtain ⟨d, hd⟩ : ∃ d, u * 16 + v = d := ⟨_, rfl⟩
      rw [hd] at hor
      have HD : Hid (fmAt p false k = d) := by
       unfold fmAt
       rw [hp1, hq1, hu, hv, hd]
       exact rfl
      clear hd hu hv hub hvb
      have hgw : g < wr.heap.size := Nat.lt_of_lt_of_le hgz B5.size
      go_wp2
      refine region_inv_tail 13 (fun S aa W => ∃ x36 x37 x38 x39 x40 x41 x42 x43 x44 x45 x46 x47 x48 : Value, aa = { tmps := #[Value.string p, Value.bool false, undef, undef, Value.string { data := #[] }, Value.int IntKind.i64 0, Value.int IntKind.u8 0, Value.slice (some { block := g, off := 0 }) N cap, u8, Value.int IntKind.i64 ↑p1, Value.string p, Value.bool true, Value.bool false, Value.bool false, Value.int IntKind.u8 0, Value.slice (some { block := w1.heap.size, off := 0 }) 1 1, Value.string p, Value.int IntKind.i64 ↑p.size, Value.int IntKind.i64 1, Value.bool true, Value.slice (some { block := w1.heap.size, off := 0 }) 1 1, Value.int IntKind.u8 0, Value.int IntKind.u8 1, Value.pointer (some { block := w1.heap.size, off := 0 }), undef, undef, undef, Value.slice (some { block := w1.heap.size, off := 0 }) 1 1, Value.string p, Value.slice (some { block := g, off := 0 }) N cap, Value.int IntKind.i64 ↑p1, Value.slice (some { block := g, off := 0 }) N cap, Value.int IntKind.i64 ↑N, Value.bool true, u34, u35, x36, x37, x38, x39, x40, x41, x42, x43, x44, x45, x46, x47, x48, u49, undef, undef], defers := [] } ∧ JF wr g N cap p1 q1 u v d u8 S x36 x37 x38 x39 x40 x41 x42 x43 x44 x45 x46 x47 x48 W) (by kernel_rfl) (by kernel_rfl) ?_ ?_ ?_
      ·exact ⟨u36, u37, u38, u39, u40, u41, u42, u43, u44, u45, u46, u47, u48, rfl, ⟨(Below.refl _ wr).drew, nofun, nofun, nofun, nofun, nofun, nofun, nofun, nofun, nofun, nofun, nofun, nofun, nofun⟩⟩
      ·intro i o S aa W hin hi hun hJ hall K hK
       obtain ⟨x36, x37, x38, x39, x40, x41, x42, x43, x44, x45, x46, x47, x48, rfl, h⟩ := hJ
       have hlt : i < 13 := hin
       have hcase : i = 0 ∨ i = 1 ∨ i = 2 ∨ i = 3 ∨ i = 4 ∨ i = 5 ∨ i = 6 ∨ i = 7 ∨ i = 8 ∨ i = 9 ∨ i = 10 ∨ i = 11 ∨ i = 12 := by omega
       rcases hcase with rfl | rfl | rfl | rfl | rfl | rfl | rfl | rfl | rfl | rfl | rfl | rfl | rfl
       all_goals (have ho := (Option.some.inj hi).symm; subst ho; clear hi hlt hin)
       ·go_simp
        exact hK _ _ ⟨_, _, _, _, _, _, _, _, _, _, _, _, _, rfl, { h with f0 := fun _ => rfl }⟩
       ·go_simp
        exact hK _ _ ⟨_, _, _, _, _, _, _, _, _, _, _, _, _, rfl, { h with f1 := fun _ => rfl }⟩
       ·go_simp
        exact hK _ _ ⟨_, _, _, _, _, _, _, _, _, _, _, _, _, rfl, { h with f2 := fun _ => rfl }⟩
       ·have s_1 : S 1 = true := hall ⟨1, .data⟩ (by simp) rfl
        obtain rfl := h.f1 s_1
        have s_2 : S 2 = true := hall ⟨2, .data⟩ (by simp) rfl
        obtain rfl := h.f2 s_2
        go_simp
        exact hK _ _ ⟨_, _, _, _, _, _, _, _, _, _, _, _, _, rfl, { h with f3 := fun _ => rfl }⟩
       ·have s_3 : S 3 = true := hall ⟨3, .data⟩ (by simp) rfl
        obtain rfl := h.f3 s_3
        have cW := (h.e.cell (p := ⟨g, p1, none⟩) hgw).trans c1
        go_simp
        exact hK _ _ ⟨_, _, _, _, _, _, _, _, _, _, _, _, _, rfl, { h with f4 := fun _ => rfl }⟩
       ·have s_4 : S 4 = true := hall ⟨4, .data⟩ (by simp) rfl
        obtain rfl := h.f4 s_4
        go_simp
        exact hK _ _ ⟨_, _, _, _, _, _, _, _, _, _, _, _, _, rfl, { h with f5 := fun _ => rfl }⟩
       ·go_simp
        exact hK _ _ ⟨_, _, _, _, _, _, _, _, _, _, _, _, _, rfl, { h with f6 := fun _ => rfl }⟩
       ·go_simp
        exact hK _ _ ⟨_, _, _, _, _, _, _, _, _, _, _, _, _, rfl, { h with f7 := fun _ => rfl }⟩
       ·have s_7 : S 7 = true := hall ⟨7, .data⟩ (by simp) rfl
        obtain rfl := h.f7 s_7
        go_simp
        exact hK _ _ ⟨_, _, _, _, _, _, _, _, _, _, _, _, _, rfl, { h with f8 := fun _ => rfl }⟩
       ·have s_6 : S 6 = true := hall ⟨6, .data⟩ (by simp) rfl
        obtain rfl := h.f6 s_6
        have s_8 : S 8 = true := hall ⟨8, .data⟩ (by simp) rfl
        obtain rfl := h.f8 s_8
        go_simp
        exact hK _ _ ⟨_, _, _, _, _, _, _, _, _, _, _, _, _, rfl, { h with f9 := fun _ => rfl }⟩
       ·have s_9 : S 9 = true := hall ⟨9, .data⟩ (by simp) rfl
        obtain rfl := h.f9 s_9
        have cW := (h.e.cell (p := ⟨g, q1, none⟩) hgw).trans c2
        go_simp
        exact hK _ _ ⟨_, _, _, _, _, _, _, _, _, _, _, _, _, rfl, { h with f10 := fun _ => rfl }⟩
       ·have s_5 : S 5 = true := hall ⟨5, .data⟩ (by simp) rfl
        obtain rfl := h.f5 s_5
        have s_10 : S 10 = true := hall ⟨10, .data⟩ (by simp) rfl
        obtain rfl := h.f10 s_10
        go_simp
        exact hK _ _ ⟨_, _, _, _, _, _, _, _, _, _, _, _, _, rfl, { h with f11 := fun _ => rfl }⟩
       ·have s_11 : S 11 = true := hall ⟨11, .data⟩ (by simp) rfl
        obtain rfl := h.f11 s_11
        go_simp
        have h1 := h.grow ((Below.refl _ W).alloc (Nat.le_refl _) (.cells #[.int .u8 d] 5))
        exact hK _ _ ⟨_, _, _, _, _, _, _, _, _, _, _, _, _, rfl, { h1 with f12 := fun _ => ⟨W.heap.size, rfl, h.e.size, by simp, n_one_new _ _ _⟩ }⟩
      ·rintro S aa W hall ⟨x36, x37, x38, x39, x40, x41, x42, x43, x44, x45, x46, x47, x48, rfl, h⟩
       obtain rfl := h.f0 (hall 0 (by decide))
       obtain rfl := h.f1 (hall 1 (by decide))
       obtain rfl := h.f2 (hall 2 (by decide))
       obtain rfl := h.f3 (hall 3 (by decide))
       obtain rfl := h.f4 (hall 4 (by decide))
       obtain rfl := h.f5 (hall 5 (by decide))
       obtain rfl := h.f6 (hall 6 (by decide))
       obtain rfl := h.f7 (hall 7 (by decide))
       obtain rfl := h.f8 (hall 8 (by decide))
       obtain rfl := h.f9 (hall 9 (by decide))
       obtain rfl := h.f10 (hall 10 (by decide))
       obtain rfl := h.f11 (hall 11 (by decide))
       obtain ⟨gg, rfl, hgg, hhg, hcg⟩ := h.f12 (hall 12 (by decide))
       have BWD := h.e
       clear h hall
       simp only [List.drop_succ_cons, List.drop_zero]
       have hown2 := n_owns_below hown BWD
       have hzr : z ≤ wr.heap.size := Nat.le_trans hz5 B5.size
       have BW2 := belowStep BW hzr BWD
       have B52 := belowStep B5 B5.size BWD
       clear hown BW BWD B5
       go_wp2_with (at_builtin; refine wpList_append_own _ rfl _ _ 24 rfl w5.heap.size 5 i0 (.int .u8 0) 1 1 Tryd.underlying24 hi0 hz0 hz1 hz2 rfl (by decide) _ _ _ rfl hown2 ⟨gg, 0, none⟩ 1 1 [.int .u8 d] rfl rfl ?c1 ?c2 ?c3 ?c4 ?c5 ?_)
       case c1 => exact hcg
       case c2 => intro u hu; simp at hu; subst hu; rfl
       case c3 => unfold maxLen; omega
       case c4 => omega
       case c5 => exact B52.size
       ·intro v' w3 hown' hgrow _
        go_wp2
        go_roundg (gk - 1)
        case measure => omega
        case rel =>
         refine ⟨k + 1, by omega, rfl, BW2.grown hgrow (by have := B52.size; omega) (fun b hb => Nat.le_trans hz5 (hr3 b hb)), B52.grown hgrow B52.size (fun b hb => hr3 b hb), ?_⟩
         rw [n_fl_succ, HD.out]
         exact hown'
     ·have hk2 : k = M := by omega
      subst hk2
      clear hlt
      have l0 : ¬ ((2 * k : Nat) : Int) < N := by omega
      rcases hown.2 with ⟨rfl, h0⟩ | ⟨g2, cap2, cur, rfl, hg1, hg2, hg3, hg4, hg5, hg6⟩
      ·have := HO.out.2.2
       omega
      ·have hcv := run_convert_bytes_back (P := Tryd.prog) wr 24 9 5 ⟨g2, 0, none⟩ cap2 (n_by8 k (fmAt p false)) Tryd.underlying24 Tryd.underlying5 Tryd.underlying9 (fun j hj => by
        have hj' : j < k := by rw [n_by8_len] at hj; exact hj
        rw [n_by8_at _ _ (fm_bd p false HP.out)]
        exact hown.cells (g := g2) rfl j _ (fl_at k _ j hj'))
       rw [n_by8_len] at hcv
       clear hown hg2 hg3 hg4 hg5 hg6
       go_wp2
       refine bodyPost_ret (v := .tuple #[.string ⟨(n_by8 k (fmAt p false)).toArray⟩, .int .i64 0]) (by simp [results, Tryd.results91, go_sem]) rfl ⟨by rw [HO.out.1, HO.out.2.1], ?_⟩
       rw [HZ.out]
       exact BW
   ·have h3 : (p.size : Int).tmod 2 = 0 := by rw [Int.tmod_eq_emod_of_nonneg (by omega)]; omega
    have h4 : (p.size : Int) % 2 = 0 := by omega
    go_wp2_with (at_builtin; refine wpList_append_own _ rfl _ _ 24 rfl w1.heap.size 5 i0 (.int .u8 0) 1 1 Tryd.underlying24 hi0 hz0 hz1 hz2 rfl (by decide) _ 1 [.int .u8 0] rfl ?o1 ⟨(w1.alloc (.cells #[.int .u8 0] 5)).heap.size, 0, none⟩ 1 1 [.int .u8 0] ?o3 rfl ?o4 ?o5 (by unfold maxLen; omega) (by omega) ?o2 ?_)
    case o1 => exact (n_own_lit w1 #[.int .u8 0] 1 rfl (by decide)).alloc _
    case o2 => simp; omega
    case o3 => simp [go_sem]
    case o4 => exact n_one_new _ _ _
    case o5 => intro u hu; simp at hu; subst hu; rfl
    intro v4 w4 hown4 hgr4 _
    have B4 : Below w1.heap.size w1 w4 := (((Below.refl _ w1).alloc (Nat.le_refl _) _).alloc (by simp) _).grown hgr4 (by simp; omega) (fun b e => by cases e; exact Nat.le_refl _)
    go_wp2_with (at_builtin; refine Lib.wpList_append_own_string _ rfl _ _ 24 9 rfl w1.heap.size 5 i0 Tryd.underlying24 Tryd.underlying9 hi0 hz0 hz1 hz2 _ _ _ rfl hown4 p rfl (by unfold maxLen; omega) (by omega) ?p2 ?_)
    case p2 => exact B4.size
    intro v5 w5 hown5 hgr5 _
    have B5 : Below w1.heap.size w1 w5 := B4.grown hgr5 B4.size (fun b e => (hown4.lt b e).1)
    clear hgr4 hown4 B4
    have hN1 : (full p false).size = 2 + p.size := by rw [full_size, hd_size]; omega
    have hx : [.int .u8 0, .int .u8 0] ++ Lib.strCells p = fl (full p false).size (fun j => .int .u8 (n_bt (full p false) j)) := by
     have hh : hdOf p.size false = ⟨#[0, 0]⟩ := if_pos (by omega)
     rw [fl_full, hh]
     rfl
    replace hx : _ = _ := hx
    simp only [List.cons_append, List.nil_append] at hown5 hx
    rw [hx] at hown5
    clear hx
    have hN2 : 1 + 1 + p.size = (full p false).size := by omega
    rw [hN2] at hown5
    obtain ⟨N, hN⟩ : ∃ N, (full p false).size = N := ⟨_, rfl⟩
    rw [hN] at hown5
    obtain ⟨M, hM⟩ : ∃ M, 2 * M = N := ⟨N / 2, by omega⟩
    obtain ⟨g, cap, rfl⟩ : ∃ g cap, v5 = .slice (some ⟨g, 0, none⟩) N cap := by
     rcases hown5.2 with ⟨_, h0⟩ | ⟨g, cap, cur, hv, _⟩
     ·omega
     ·exact ⟨g, cap, hv⟩
    have hcell : ∀ j, j < N → w5.cell? ⟨g, j, none⟩ = some (.int .u8 (n_bt (full p false) j)) := fun j hj => by
     have := hown5.cells (g := g) rfl j _ (fl_at N _ j hj)
     rwa [Addr.add_mid, Nat.zero_add] at this
    have hgz := (hown5.lt g rfl).2
    have hNs : N ≤ 100000002 := by omega
    have HO : Hid (fmS p false = ⟨(n_by8 M (fmAt p false)).toArray⟩ ∧ fmE p = 0 ∧ 1 ≤ M) := by
     unfold fmS fmE fmOf
     rw [if_pos hgood, if_pos hgood, hN, show N / 2 = M by omega]
     exact ⟨rfl, rfl, by omega⟩
    have BW5 := belowStep B1 B1.size B5
    obtain ⟨z, hz⟩ : ∃ c, w.heap.size = c := ⟨_, rfl⟩
    have HZ : Hid (w.heap.size = z) := hz
    rw [hz] at BW5
    have hz5 : z ≤ w5.heap.size := by have := B1.size; have := B5.size; omega
    have HP : Hid (isP p = true) := hgood
    have hNp : ((1 : Int) + p.size) = N ∨ True := .inr trivial
    clear hgr5 hown5 B5 B1 hN1 hN2 hN h3 h4 hz hNp hgood
    go_wp2
    go_loopg [8, 9] M (fun gk v i wr => ∃ k : Nat, k + gk = M ∧ i = .int .i64 ((2 * k : Nat) : Int) ∧ Below z w wr ∧ Below w5.heap.size w5 wr ∧ wr.ownsRow w5.heap.size 5 1 v k (fl k fun j => .int .u8 (fmAt p false j)))
    case atStart => exact ⟨0, by omega, rfl, BW5, Below.refl _ _, World.ownsRow_nil _ _ _ _⟩
    case round =>
     clear BW5
     obtain ⟨k, hk, rfl, BW, B5, hown⟩ := hrel
     have hr3 : ∀ b, u8.ownBlock = some b → w5.heap.size ≤ b := fun b hb => (hown.lt b hb).1
     by_cases hlt : k < M
     ·obtain ⟨p1, hp1⟩ : ∃ q, 2 * k = q := ⟨_, rfl⟩
      obtain ⟨q1, hq1⟩ : ∃ q, p1 + 1 = q := ⟨_, rfl⟩
      rw [hp1]
      have l1 : (p1 : Int) < N := by omega
      have l2 : (q1 : Int) < N := by omega
      have l3 : p1 < N := by omega
      have l4 : q1 < N := by omega
      have wq : IntKind.i64.wrap ((p1 : Int) + 1) = q1 := by rw [IntKind.wrap_i64]; omega
      have wq2 : IntKind.i64.wrap ((p1 : Int) + 2) = ((2 * (k + 1) : Nat) : Int) := by rw [IntKind.wrap_i64]; omega
      have c1 := (B5.cell (p := ⟨g, p1, none⟩) hgz).trans (hcell p1 l3)
      have c2 := (B5.cell (p := ⟨g, q1, none⟩) hgz).trans (hcell q1 l4)
      obtain ⟨u, hu⟩ : ∃ u, n_bt (full p false) p1 = u := ⟨_, rfl⟩
      obtain ⟨v, hv⟩ : ∃ v, n_bt (full p false) q1 = v := ⟨_, rfl⟩
      have hub := full_le p false HP.out p1
      have hvb := full_le p false HP.out q1
      rw [hu] at c1 hub
      rw [hv] at c2 hvb
      have hsh : u * 16 % 256 = u * 16 := by omega
      have hsw : IntKind.u8.wrap (u * 16) = u * 16 := by rw [IntKind.wrap_u8]; exact hsh
      have hor := or_16 u v hub hvb
      obtain ⟨d, hd⟩ : ∃ d, u * 16 + v = d := ⟨_, rfl⟩
      rw [hd] at hor
      have HD : Hid (fmAt p false k = d) := by
       unfold fmAt
       rw [hp1, hq1, hu, hv, hd]
       exact rfl
      clear hd hu hv hub hvb
      have hgw : g < wr.heap.size := Nat.lt_of_lt_of_le hgz B5.size
      go_wp2
      refine region_inv_tail 13 (fun S aa W => ∃ x36 x37 x38 x39 x40 x41 x42 x43 x44 x45 x46 x47 x48 : Value, aa = { tmps := #[Value.string p, Value.bool false, undef, undef, Value.string { data := #[] }, Value.int IntKind.i64 0, Value.int IntKind.u8 0, Value.slice (some { block := g, off := 0 }) N cap, u8, Value.int IntKind.i64 ↑p1, Value.string p, Value.bool true, Value.bool false, Value.bool false, Value.int IntKind.u8 0, Value.slice (some { block := w1.heap.size, off := 0 }) 1 1, Value.string p, Value.int IntKind.i64 ↑p.size, Value.int IntKind.i64 0, Value.bool false, undef, undef, undef, undef, Value.slice (some { block := w1.heap.size, off := 0 }) 1 1, Value.slice (some { block := w1.heap.size + 1, off := 0 }) 1 1, v4, v4, Value.string p, Value.slice (some { block := g, off := 0 }) N cap, Value.int IntKind.i64 ↑p1, Value.slice (some { block := g, off := 0 }) N cap, Value.int IntKind.i64 ↑N, Value.bool true, u34, u35, x36, x37, x38, x39, x40, x41, x42, x43, x44, x45, x46, x47, x48, u49, undef, undef], defers := [] } ∧ JF wr g N cap p1 q1 u v d u8 S x36 x37 x38 x39 x40 x41 x42 x43 x44 x45 x46 x47 x48 W) (by kernel_rfl) (by kernel_rfl) ?_ ?_ ?_
      ·exact ⟨u36, u37, u38, u39, u40, u41, u42, u43, u44, u45, u46, u47, u48, rfl, ⟨(Below.refl _ wr).drew, nofun, nofun, nofun, nofun, nofun, nofun, nofun, nofun, nofun, nofun, nofun, nofun, nofun⟩⟩
      ·intro i o S aa W hin hi hun hJ hall K hK
       obtain ⟨x36, x37, x38, x39, x40, x41, x42, x43, x44, x45, x46, x47, x48, rfl, h⟩ := hJ
       have hlt : i < 13 := hin
       have hcase : i = 0 ∨ i = 1 ∨ i = 2 ∨ i = 3 ∨ i = 4 ∨ i = 5 ∨ i = 6 ∨ i = 7 ∨ i = 8 ∨ i = 9 ∨ i = 10 ∨ i = 11 ∨ i = 12 := by omega
       rcases hcase with rfl | rfl | rfl | rfl | rfl | rfl | rfl | rfl | rfl | rfl | rfl | rfl | rfl
       all_goals (have ho := (Option.some.inj hi).symm; subst ho; clear hi hlt hin)
       ·go_simp
        exact hK _ _ ⟨_, _, _, _, _, _, _, _, _, _, _, _, _, rfl, { h with f0 := fun _ => rfl }⟩
       ·go_simp
        exact hK _ _ ⟨_, _, _, _, _, _, _, _, _, _, _, _, _, rfl, { h with f1 := fun _ => rfl }⟩
       ·go_simp
        exact hK _ _ ⟨_, _, _, _, _, _, _, _, _, _, _, _, _, rfl, { h with f2 := fun _ => rfl }⟩
       ·have s_1 : S 1 = true := hall ⟨1, .data⟩ (by simp) rfl
        obtain rfl := h.f1 s_1
        have s_2 : S 2 = true := hall ⟨2, .data⟩ (by simp) rfl
        obtain rfl := h.f2 s_2
        go_simp
        exact hK _ _ ⟨_, _, _, _, _, _, _, _, _, _, _, _, _, rfl, { h with f3 := fun _ => rfl }⟩
       ·have s_3 : S 3 = true := hall ⟨3, .data⟩ (by simp) rfl
        obtain rfl := h.f3 s_3
        have cW := (h.e.cell (p := ⟨g, p1, none⟩) hgw).trans c1
        go_simp
        exact hK _ _ ⟨_, _, _, _, _, _, _, _, _, _, _, _, _, rfl, { h with f4 := fun _ => rfl }⟩
       ·have s_4 : S 4 = true := hall ⟨4, .data⟩ (by simp) rfl
        obtain rfl := h.f4 s_4
        go_simp
        exact hK _ _ ⟨_, _, _, _, _, _, _, _, _, _, _, _, _, rfl, { h with f5 := fun _ => rfl }⟩
       ·go_simp
        exact hK _ _ ⟨_, _, _, _, _, _, _, _, _, _, _, _, _, rfl, { h with f6 := fun _ => rfl }⟩
       ·go_simp
        exact hK _ _ ⟨_, _, _, _, _, _, _, _, _, _, _, _, _, rfl, { h with f7 := fun _ => rfl }⟩
       ·have s_7 : S 7 = true := hall ⟨7, .data⟩ (by simp) rfl
        obtain rfl := h.f7 s_7
        go_simp
        exact hK _ _ ⟨_, _, _, _, _, _, _, _, _, _, _, _, _, rfl, { h with f8 := fun _ => rfl }⟩
       ·have s_6 : S 6 = true := hall ⟨6, .data⟩ (by simp) rfl
        obtain rfl := h.f6 s_6
        have s_8 : S 8 = true := hall ⟨8, .data⟩ (by simp) rfl
        obtain rfl := h.f8 s_8
        go_simp
        exact hK _ _ ⟨_, _, _, _, _, _, _, _, _, _, _, _, _, rfl, { h with f9 := fun _ => rfl }⟩
       ·have s_9 : S 9 = true := hall ⟨9, .data⟩ (by simp) rfl
        obtain rfl := h.f9 s_9
        have cW := (h.e.cell (p := ⟨g, q1, none⟩) hgw).trans c2
        go_simp
        exact hK _ _ ⟨_, _, _, _, _, _, _, _, _, _, _, _, _, rfl, { h with f10 := fun _ => rfl }⟩
       ·have s_5 : S 5 = true := hall ⟨5, .data⟩ (by simp) rfl
        obtain rfl := h.f5 s_5
        have s_10 : S 10 = true := hall ⟨10, .data⟩ (by simp) rfl
        obtain rfl := h.f10 s_10
        go_simp
        exact hK _ _ ⟨_, _, _, _, _, _, _, _, _, _, _, _, _, rfl, { h with f11 := fun _ => rfl }⟩
       ·have s_11 : S 11 = true := hall ⟨11, .data⟩ (by simp) rfl
        obtain rfl := h.f11 s_11
        go_simp
        have h1 := h.grow ((Below.refl _ W).alloc (Nat.le_refl _) (.cells #[.int .u8 d] 5))
        exact hK _ _ ⟨_, _, _, _, _, _, _, _, _, _, _, _, _, rfl, { h1 with f12 := fun _ => ⟨W.heap.size, rfl, h.e.size, by simp, n_one_new _ _ _⟩ }⟩
      ·rintro S aa W hall ⟨x36, x37, x38, x39, x40, x41, x42, x43, x44, x45, x46, x47, x48, rfl, h⟩
       obtain rfl := h.f0 (hall 0 (by decide))
       obtain rfl := h.f1 (hall 1 (by decide))
       obtain rfl := h.f2 (hall 2 (by decide))
       obtain rfl := h.f3 (hall 3 (by decide))
       obtain rfl := h.f4 (hall 4 (by decide))
       obtain rfl := h.f5 (hall 5 (by decide))
       obtain rfl := h.f6 (hall 6 (by decide))
       obtain rfl := h.f7 (hall 7 (by decide))
       obtain rfl := h.f8 (hall 8 (by decide))
       obtain rfl := h.f9 (hall 9 (by decide))
       obtain rfl := h.f10 (hall 10 (by decide))
       obtain rfl := h.f11 (hall 11 (by decide))
       obtain ⟨gg, rfl, hgg, hhg, hcg⟩ := h.f12 (hall 12 (by decide))
       have BWD := h.e
       clear h hall
       simp only [List.drop_succ_cons, List.drop_zero]
       have hown2 := n_owns_below hown BWD
       have hzr : z ≤ wr.heap.size := Nat.le_trans hz5 B5.size
       have BW2 := belowStep BW hzr BWD
       have B52 := belowStep B5 B5.size BWD
       clear hown BW BWD B5
       go_wp2_with (at_builtin; refine wpList_append_own _ rfl _ _ 24 rfl w5.heap.size 5 i0 (.int .u8 0) 1 1 Tryd.underlying24 hi0 hz0 hz1 hz2 rfl (by decide) _ _ _ rfl hown2 ⟨gg, 0, none⟩ 1 1 [.int .u8 d] rfl rfl ?c1 ?c2 ?c3 ?c4 ?c5 ?_)
       case c1 => exact hcg
       case c2 => intro u hu; simp at hu; subst hu; rfl
       case c3 => unfold maxLen; omega
       case c4 => omega
       case c5 => exact B52.size
       ·intro v' w3 hown' hgrow _
        go_wp2
        go_roundg (gk - 1)
        case measure => omega
        case rel =>
         refine ⟨k + 1, by omega, rfl, BW2.grown hgrow (by have := B52.size; omega) (fun b hb => Nat.le_trans hz5 (hr3 b hb)), B52.grown hgrow B52.size (fun b hb => hr3 b hb), ?_⟩
         rw [n_fl_succ, HD.out]
         exact hown'
     ·have hk2 : k = M := by omega
      subst hk2
      clear hlt
      have l0 : ¬ ((2 * k : Nat) : Int) < N := by omega
      rcases hown.2 with ⟨rfl, h0⟩ | ⟨g2, cap2, cur, rfl, hg1, hg2, hg3, hg4, hg5, hg6⟩
      ·have := HO.out.2.2
       omega
      ·have hcv := run_convert_bytes_back (P := Tryd.prog) wr 24 9 5 ⟨g2, 0, none⟩ cap2 (n_by8 k (fmAt p false)) Tryd.underlying24 Tryd.underlying5 Tryd.underlying9 (fun j hj => by
        have hj' : j < k := by rw [n_by8_len] at hj; exact hj
        rw [n_by8_at _ _ (fm_bd p false HP.out)]
        exact hown.cells (g := g2) rfl j _ (fl_at k _ j hj'))
       rw [n_by8_len] at hcv
       clear hown hg2 hg3 hg4 hg5 hg6
       go_wp2
       refine bodyPost_ret (v := .tuple #[.string ⟨(n_by8 k (fmAt p false)).toArray⟩, .int .i64 0]) (by simp [results, Tryd.results91, go_sem]) rfl ⟨by rw [HO.out.1, HO.out.2.1], ?_⟩
       rw [HZ.out]
       exact BW
  | true =>
   by_cases h2 : p.size % 2 = 1
   ·have h3 : (p.size : Int).tmod 2 = 1 := by rw [Int.tmod_eq_emod_of_nonneg (by omega)]; omega
    have h4 : (p.size : Int) % 2 = 1 := by omega
    go_wp2_with (at_builtin; refine Lib.wpList_append_own_string _ rfl _ _ 24 9 rfl w1.heap.size 5 i0 Tryd.underlying24 Tryd.underlying9 hi0 hz0 hz1 hz2 _ 1 [.int .u8 3] rfl ?o1 p rfl (by unfold maxLen; omega) (by omega) ?o2 ?_)
    case o1 => exact n_own_lit w1 #[.int .u8 3] 1 rfl (by decide)
    case o2 => simp
    intro v5 w5 hown5 hgr5 _
    have B5 : Below w1.heap.size w1 w5 := ((Below.refl _ w1).alloc (Nat.le_refl _) _).grown hgr5 (by simp) (fun b e => by cases e; exact Nat.le_refl _)
    have hN1 : (full p true).size = 1 + p.size := by rw [full_size, hd_size]; omega
    have hx : [.int .u8 3] ++ Lib.strCells p = fl (full p true).size (fun j => .int .u8 (n_bt (full p true) j)) := by
     have hh : hdOf p.size true = ⟨#[3]⟩ := if_neg (by omega)
     rw [fl_full, hh]
     rfl
    replace hx : _ = _ := hx
    simp only [List.cons_append, List.nil_append] at hown5 hx
    rw [hx] at hown5
    clear hx
    have hN2 : 1 + p.size = (full p true).size := hN1.symm
    rw [hN2] at hown5
    obtain ⟨N, hN⟩ : ∃ N, (full p true).size = N := ⟨_, rfl⟩
    rw [hN] at hown5
    obtain ⟨M, hM⟩ : ∃ M, 2 * M = N := ⟨N / 2, by omega⟩
    obtain ⟨g, cap, rfl⟩ : ∃ g cap, v5 = .slice (some ⟨g, 0, none⟩) N cap := by
     rcases hown5.2 with ⟨_, h0⟩ | ⟨g, cap, cur, hv, _⟩
     ·omega
     ·exact ⟨g, cap, hv⟩
    have hcell : ∀ j, j < N → w5.cell? ⟨g, j, none⟩ = some (.int .u8 (n_bt (full p true) j)) := fun j hj => by
     have := hown5.cells (g := g) rfl j _ (fl_at N _ j hj)
     rwa [Addr.add_mid, Nat.zero_add] at this
    have hgz := (hown5.lt g rfl).2
    have hNs : N ≤ 100000002 := by omega
    have HO : Hid (fmS p true = ⟨(n_by8 M (fmAt p true)).toArray⟩ ∧ fmE p = 0 ∧ 1 ≤ M) := by
     unfold fmS fmE fmOf
     rw [if_pos hgood, if_pos hgood, hN, show N / 2 = M by omega]
     exact ⟨rfl, rfl, by omega⟩
    have BW5 := belowStep B1 B1.size B5
    obtain ⟨z, hz⟩ : ∃ c, w.heap.size = c := ⟨_, rfl⟩
    have HZ : Hid (w.heap.size = z) := hz
    rw [hz] at BW5
    have hz5 : z ≤ w5.heap.size := by have := B1.size; have := B5.size; omega
    have HP : Hid (isP p = true) := hgood
    have hNp : ((1 : Int) + p.size) = N ∨ True := .inr trivial
    clear hgr5 hown5 B5 B1 hN1 hN2 hN h3 h4 hz hNp hgood
    go_wp2
    go_loopg [8, 9] M (fun gk v i wr => ∃ k : Nat, k + gk = M ∧ i = .int .i64 ((2 * k : Nat) : Int) ∧ Below z w wr ∧ Below w5.heap.size w5 wr ∧ wr.ownsRow w5.heap.size 5 1 v k (fl k fun j => .int .u8 (fmAt p true j)))
    case atStart => exact ⟨0, by omega, rfl, BW5, Below.refl _ _, World.ownsRow_nil _ _ _ _⟩
    case round =>
     clear BW5
     obtain ⟨k, hk, rfl, BW, B5, hown⟩ := hrel
     have hr3 : ∀ b, u8.ownBlock = some b → w5.heap.size ≤ b := fun b hb => (hown.lt b hb).1
     by_cases hlt : k < M
     ·obtain ⟨p1, hp1⟩ : ∃ q, 2 * k = q := ⟨_, rfl⟩
      obtain ⟨q1, hq1⟩ : ∃ q, p1 + 1 = q := ⟨_, rfl⟩
      rw [hp1]
      have l1 : (p1 : Int) < N := by omega
      have l2 : (q1 : Int) < N := by omega
      have l3 : p1 < N := by omega
      have l4 : q1 < N := by omega
      have wq : IntKind.i64.wrap ((p1 : Int) + 1) = q1 := by rw [IntKind.wrap_i64]; omega
      have wq2 : IntKind.i64.wrap ((p1 : Int) + 2) = ((2 * (k + 1) : Nat) : Int) := by rw [IntKind.wrap_i64]; omega
      have c1 := (B5.cell (p := ⟨g, p1, none⟩) hgz).trans (hcell p1 l3)
      have c2 := (B5.cell (p := ⟨g, q1, none⟩) hgz).trans (hcell q1 l4)
      obtain ⟨u, hu⟩ : ∃ u, n_bt (full p true) p1 = u := ⟨_, rfl⟩
      obtain ⟨v, hv⟩ : ∃ v, n_bt (full p true) q1 = v := ⟨_, rfl⟩
      have hub := full_le p true HP.out p1
      have hvb := full_le p true HP.out q1
      rw [hu] at c1 hub
      rw [hv] at c2 hvb
      have hsh : u * 16 % 256 = u * 16 := by omega
      have hsw : IntKind.u8.wrap (u * 16) = u * 16 := by rw [IntKind.wrap_u8]; exact hsh
      have hor := or_16 u v hub hvb
      obtain ⟨d, hd⟩ : ∃ d, u * 16 + v = d := ⟨_, rfl⟩
      rw [hd] at hor
      have HD : Hid (fmAt p true k = d) := by
       unfold fmAt
       rw [hp1, hq1, hu, hv, hd]
       exact rfl
      clear hd hu hv hub hvb
      have hgw : g < wr.heap.size := Nat.lt_of_lt_of_le hgz B5.size
      go_wp2
      refine region_inv_tail 13 (fun S aa W => ∃ x36 x37 x38 x39 x40 x41 x42 x43 x44 x45 x46 x47 x48 : Value, aa = { tmps := #[Value.string p, Value.bool true, undef, undef, Value.string { data := #[] }, Value.int IntKind.i64 0, Value.int IntKind.u8 2, Value.slice (some { block := g, off := 0 }) N cap, u8, Value.int IntKind.i64 ↑p1, Value.string p, Value.bool true, Value.bool false, Value.bool true, Value.int IntKind.u8 2, Value.slice (some { block := w1.heap.size, off := 0 }) 1 1, Value.string p, Value.int IntKind.i64 ↑p.size, Value.int IntKind.i64 1, Value.bool true, Value.slice (some { block := w1.heap.size, off := 0 }) 1 1, Value.int IntKind.u8 2, Value.int IntKind.u8 3, Value.pointer (some { block := w1.heap.size, off := 0 }), undef, undef, undef, Value.slice (some { block := w1.heap.size, off := 0 }) 1 1, Value.string p, Value.slice (some { block := g, off := 0 }) N cap, Value.int IntKind.i64 ↑p1, Value.slice (some { block := g, off := 0 }) N cap, Value.int IntKind.i64 ↑N, Value.bool true, u34, u35, x36, x37, x38, x39, x40, x41, x42, x43, x44, x45, x46, x47, x48, u49, undef, undef], defers := [] } ∧ JF wr g N cap p1 q1 u v d u8 S x36 x37 x38 x39 x40 x41 x42 x43 x44 x45 x46 x47 x48 W) (by kernel_rfl) (by kernel_rfl) ?_ ?_ ?_
      ·exact ⟨u36, u37, u38, u39, u40, u41, u42, u43, u44, u45, u46, u47, u48, rfl, ⟨(Below.refl _ wr).drew, nofun, nofun, nofun, nofun, nofun, nofun, nofun, nofun, nofun, nofun, nofun, nofun, nofun⟩⟩
      ·intro i o S aa W hin hi hun hJ hall K hK
       obtain ⟨x36, x37, x38, x39, x40, x41, x42, x43, x44, x45, x46, x47, x48, rfl, h⟩ := hJ
       have hlt : i < 13 := hin
       have hcase : i = 0 ∨ i = 1 ∨ i = 2 ∨ i = 3 ∨ i = 4 ∨ i = 5 ∨ i = 6 ∨ i = 7 ∨ i = 8 ∨ i = 9 ∨ i = 10 ∨ i = 11 ∨ i = 12 := by omega
       rcases hcase with rfl | rfl | rfl | rfl | rfl | rfl | rfl | rfl | rfl | rfl | rfl | rfl | rfl
       all_goals (have ho := (Option.some.inj hi).symm; subst ho; clear hi hlt hin)
       ·go_simp
        exact hK _ _ ⟨_, _, _, _, _, _, _, _, _, _, _, _, _, rfl, { h with f0 := fun _ => rfl }⟩
       ·go_simp
        exact hK _ _ ⟨_, _, _, _, _, _, _, _, _, _, _, _, _, rfl, { h with f1 := fun _ => rfl }⟩
       ·go_simp
        exact hK _ _ ⟨_, _, _, _, _, _, _, _, _, _, _, _, _, rfl, { h with f2 := fun _ => rfl }⟩
       ·have s_1 : S 1 = true := hall ⟨1, .data⟩ (by simp) rfl
        obtain rfl := h.f1 s_1
        have s_2 : S 2 = true := hall ⟨2, .data⟩ (by simp) rfl
        obtain rfl := h.f2 s_2
        go_simp
        exact hK _ _ ⟨_, _, _, _, _, _, _, _, _, _, _, _, _, rfl, { h with f3 := fun _ => rfl }⟩
       ·have s_3 : S 3 = true := hall ⟨3, .data⟩ (by simp) rfl
        obtain rfl := h.f3 s_3
        have cW := (h.e.cell (p := ⟨g, p1, none⟩) hgw).trans c1
        go_simp
        exact hK _ _ ⟨_, _, _, _, _, _, _, _, _, _, _, _, _, rfl, { h with f4 := fun _ => rfl }⟩
       ·have s_4 : S 4 = true := hall ⟨4, .data⟩ (by simp) rfl
        obtain rfl := h.f4 s_4
        go_simp
        exact hK _ _ ⟨_, _, _, _, _, _, _, _, _, _, _, _, _, rfl, { h with f5 := fun _ => rfl }⟩
       ·go_simp
        exact hK _ _ ⟨_, _, _, _, _, _, _, _, _, _, _, _, _, rfl, { h with f6 := fun _ => rfl }⟩
       ·go_simp
        exact hK _ _ ⟨_, _, _, _, _, _, _, _, _, _, _, _, _, rfl, { h with f7 := fun _ => rfl }⟩
       ·have s_7 : S 7 = true := hall ⟨7, .data⟩ (by simp) rfl
        obtain rfl := h.f7 s_7
        go_simp
        exact hK _ _ ⟨_, _, _, _, _, _, _, _, _, _, _, _, _, rfl, { h with f8 := fun _ => rfl }⟩
       ·have s_6 : S 6 = true := hall ⟨6, .data⟩ (by simp) rfl
        obtain rfl := h.f6 s_6
        have s_8 : S 8 = true := hall ⟨8, .data⟩ (by simp) rfl
        obtain rfl := h.f8 s_8
        go_simp
        exact hK _ _ ⟨_, _, _, _, _, _, _, _, _, _, _, _, _, rfl, { h with f9 := fun _ => rfl }⟩
       ·have s_9 : S 9 = true := hall ⟨9, .data⟩ (by simp) rfl
        obtain rfl := h.f9 s_9
        have cW := (h.e.cell (p := ⟨g, q1, none⟩) hgw).trans c2
        go_simp
        exact hK _ _ ⟨_, _, _, _, _, _, _, _, _, _, _, _, _, rfl, { h with f10 := fun _ => rfl }⟩
       ·have s_5 : S 5 = true := hall ⟨5, .data⟩ (by simp) rfl
        obtain rfl := h.f5 s_5
        have s_10 : S 10 = true := hall ⟨10, .data⟩ (by simp) rfl
        obtain rfl := h.f10 s_10
        go_simp
        exact hK _ _ ⟨_, _, _, _, _, _, _, _, _, _, _, _, _, rfl, { h with f11 := fun _ => rfl }⟩
       ·have s_11 : S 11 = true := hall ⟨11, .data⟩ (by simp) rfl
        obtain rfl := h.f11 s_11
        go_simp
        have h1 := h.grow ((Below.refl _ W).alloc (Nat.le_refl _) (.cells #[.int .u8 d] 5))
        exact hK _ _ ⟨_, _, _, _, _, _, _, _, _, _, _, _, _, rfl, { h1 with f12 := fun _ => ⟨W.heap.size, rfl, h.e.size, by simp, n_one_new _ _ _⟩ }⟩
      ·rintro S aa W hall ⟨x36, x37, x38, x39, x40, x41, x42, x43, x44, x45, x46, x47, x48, rfl, h⟩
       obtain rfl := h.f0 (hall 0 (by decide))
       obtain rfl := h.f1 (hall 1 (by decide))
       obtain rfl := h.f2 (hall 2 (by decide))
       obtain rfl := h.f3 (hall 3 (by decide))
       obtain rfl := h.f4 (hall 4 (by decide))
       obtain rfl := h.f5 (hall 5 (by decide))
       obtain rfl := h.f6 (hall 6 (by decide))
       obtain rfl := h.f7 (hall 7 (by decide))
       obtain rfl := h.f8 (hall 8 (by decide))
       obtain rfl := h.f9 (hall 9 (by decide))
       obtain rfl := h.f10 (hall 10 (by decide))
       obtain rfl := h.f11 (hall 11 (by decide))
       obtain ⟨gg, rfl, hgg, hhg, hcg⟩ := h.f12 (hall 12 (by decide))
       have BWD := h.e
       clear h hall
       simp only [List.drop_succ_cons, List.drop_zero]
       have hown2 := n_owns_below hown BWD
       have hzr : z ≤ wr.heap.size := Nat.le_trans hz5 B5.size
       have BW2 := belowStep BW hzr BWD
       have B52 := belowStep B5 B5.size BWD
       clear hown BW BWD B5
       go_wp2_with (at_builtin; refine wpList_append_own _ rfl _ _ 24 rfl w5.heap.size 5 i0 (.int .u8 0) 1 1 Tryd.underlying24 hi0 hz0 hz1 hz2 rfl (by decide) _ _ _ rfl hown2 ⟨gg, 0, none⟩ 1 1 [.int .u8 d] rfl rfl ?c1 ?c2 ?c3 ?c4 ?c5 ?_)
       case c1 => exact hcg
       case c2 => intro u hu; simp at hu; subst hu; rfl
       case c3 => unfold maxLen; omega
       case c4 => omega
       case c5 => exact B52.size
       ·intro v' w3 hown' hgrow _
        go_wp2
        go_roundg (gk - 1)
        case measure => omega
        case rel =>
         refine ⟨k + 1, by omega, rfl, BW2.grown hgrow (by have := B52.size; omega) (fun b hb => Nat.le_trans hz5 (hr3 b hb)), B52.grown hgrow B52.size (fun b hb => hr3 b hb), ?_⟩
         rw [n_fl_succ, HD.out]
         exact hown'
     ·have hk2 : k = M := by omega
      subst hk2
      clear hlt
      have l0 : ¬ ((2 * k : Nat) : Int) < N := by omega
      rcases hown.2 with ⟨rfl, h0⟩ | ⟨g2, cap2, cur, rfl, hg1, hg2, hg3, hg4, hg5, hg6⟩
      ·have := HO.out.2.2
       omega
      ·have hcv := run_convert_bytes_back (P := Tryd.prog) wr 24 9 5 ⟨g2, 0, none⟩ cap2 (n_by8 k (fmAt p true)) Tryd.underlying24 Tryd.underlying5 Tryd.underlying9 (fun j hj => by
        have hj' : j < k := by rw [n_by8_len] at hj; exact hj
        rw [n_by8_at _ _ (fm_bd p true HP.out)]
        exact hown.cells (g := g2) rfl j _ (fl_at k _ j hj'))
       rw [n_by8_len] at hcv
       clear hown hg2 hg3 hg4 hg5 hg6
       go_wp2
       refine bodyPost_ret (v := .tuple #[.string ⟨(n_by8 k (fmAt p true)).toArray⟩, .int .i64 0]) (by simp [results, Tryd.results91, go_sem]) rfl ⟨by rw [HO.out.1, HO.out.2.1], ?_⟩
       rw [HZ.out]
       exact BW
   ·have h3 : (p.size : Int).tmod 2 = 0 := by rw [Int.tmod_eq_emod_of_nonneg (by omega)]; omega
    have h4 : (p.size : Int) % 2 = 0 := by omega
    go_wp2_with (at_builtin; refine wpList_append_own _ rfl _ _ 24 rfl w1.heap.size 5 i0 (.int .u8 0) 1 1 Tryd.underlying24 hi0 hz0 hz1 hz2 rfl (by decide) _ 1 [.int .u8 2] rfl ?o1 ⟨(w1.alloc (.cells #[.int .u8 2] 5)).heap.size, 0, none⟩ 1 1 [.int .u8 0] ?o3 rfl ?o4 ?o5 (by unfold maxLen; omega) (by omega) ?o2 ?_)
    case o1 => exact (n_own_lit w1 #[.int .u8 2] 1 rfl (by decide)).alloc _
    case o2 => simp; omega
    case o3 => simp [go_sem]
    case o4 => exact n_one_new _ _ _
    case o5 => intro u hu; simp at hu; subst hu; rfl
    intro v4 w4 hown4 hgr4 _
    have B4 : Below w1.heap.size w1 w4 := (((Below.refl _ w1).alloc (Nat.le_refl _) _).alloc (by simp) _).grown hgr4 (by simp; omega) (fun b e => by cases e; exact Nat.le_refl _)
    go_wp2_with (at_builtin; refine Lib.wpList_append_own_string _ rfl _ _ 24 9 rfl w1.heap.size 5 i0 Tryd.underlying24 Tryd.underlying9 hi0 hz0 hz1 hz2 _ _ _ rfl hown4 p rfl (by unfold maxLen; omega) (by omega) ?p2 ?_)
    case p2 => exact B4.size
    intro v5 w5 hown5 hgr5 _
    have B5 : Below w1.heap.size w1 w5 := B4.grown hgr5 B4.size (fun b e => (hown4.lt b e).1)
    clear hgr4 hown4 B4
    have hN1 : (full p true).size = 2 + p.size := by rw [full_size, hd_size]; omega
    have hx : [.int .u8 2, .int .u8 0] ++ Lib.strCells p = fl (full p true).size (fun j => .int .u8 (n_bt (full p true) j)) := by
     have hh : hdOf p.size true = ⟨#[2, 0]⟩ := if_pos (by omega)
     rw [fl_full, hh]
     rfl
    replace hx : _ = _ := hx
    simp only [List.cons_append, List.nil_append] at hown5 hx
    rw [hx] at hown5
    clear hx
    have hN2 : 1 + 1 + p.size = (full p true).size := by omega
    rw [hN2] at hown5
    obtain ⟨N, hN⟩ : ∃ N, (full p true).size = N := ⟨_, rfl⟩
    rw [hN] at hown5
    obtain ⟨M, hM⟩ : ∃ M, 2 * M = N := ⟨N / 2, by omega⟩
    obtain ⟨g, cap, rfl⟩ : ∃ g cap, v5 = .slice (some ⟨g, 0, none⟩) N cap := by
     rcases hown5.2 with ⟨_, h0⟩ | ⟨g, cap, cur, hv, _⟩
     ·omega
     ·exact ⟨g, cap, hv⟩
    have hcell : ∀ j, j < N → w5.cell? ⟨g, j, none⟩ = some (.int .u8 (n_bt (full p true) j)) := fun j hj => by
     have := hown5.cells (g := g) rfl j _ (fl_at N _ j hj)
     rwa [Addr.add_mid, Nat.zero_add] at this
    have hgz := (hown5.lt g rfl).2
    have hNs : N ≤ 100000002 := by omega
    have HO : Hid (fmS p true = ⟨(n_by8 M (fmAt p true)).toArray⟩ ∧ fmE p = 0 ∧ 1 ≤ M) := by
     unfold fmS fmE fmOf
     rw [if_pos hgood, if_pos hgood, hN, show N / 2 = M by omega]
     exact ⟨rfl, rfl, by omega⟩
    have BW5 := belowStep B1 B1.size B5
    obtain ⟨z, hz⟩ : ∃ c, w.heap.size = c := ⟨_, rfl⟩
    have HZ : Hid (w.heap.size = z) := hz
    rw [hz] at BW5
    have hz5 : z ≤ w5.heap.size := by have := B1.size; have := B5.size; omega
    have HP : Hid (isP p = true) := hgood
    have hNp : ((1 : Int) + p.size) = N ∨ True := .inr trivial
    clear hgr5 hown5 B5 B1 hN1 hN2 hN h3 h4 hz hNp hgood
    go_wp2
    go_loopg [8, 9] M (fun gk v i wr => ∃ k : Nat, k + gk = M ∧ i = .int .i64 ((2 * k : Nat) : Int) ∧ Below z w wr ∧ Below w5.heap.size w5 wr ∧ wr.ownsRow w5.heap.size 5 1 v k (fl k fun j => .int .u8 (fmAt p true j)))
    case atStart => exact ⟨0, by omega, rfl, BW5, Below.refl _ _, World.ownsRow_nil _ _ _ _⟩
    case round =>
     clear BW5
     obtain ⟨k, hk, rfl, BW, B5, hown⟩ := hrel
     have hr3 : ∀ b, u8.ownBlock = some b → w5.heap.size ≤ b := fun b hb => (hown.lt b hb).1
     by_cases hlt : k < M
     ·obtain ⟨p1, hp1⟩ : ∃ q, 2 * k = q := ⟨_, rfl⟩
      obtain ⟨q1, hq1⟩ : ∃ q, p1 + 1 = q := ⟨_, rfl⟩
      rw [hp1]
      have l1 : (p1 : Int) < N := by omega
      have l2 : (q1 : Int) < N := by omega
      have l3 : p1 < N := by omega
      have l4 : q1 < N := by omega
      have wq : IntKind.i64.wrap ((p1 : Int) + 1) = q1 := by rw [IntKind.wrap_i64]; omega
      have wq2 : IntKind.i64.wrap ((p1 : Int) + 2) = ((2 * (k + 1) : Nat) : Int) := by rw [IntKind.wrap_i64]; omega
      have c1 := (B5.cell (p := ⟨g, p1, none⟩) hgz).trans (hcell p1 l3)
      have c2 := (B5.cell (p := ⟨g, q1, none⟩) hgz).trans (hcell q1 l4)
      obtain ⟨u, hu⟩ : ∃ u, n_bt (full p true) p1 = u := ⟨_, rfl⟩
      obtain ⟨v, hv⟩ : ∃ v, n_bt (full p true) q1 = v := ⟨_, rfl⟩
      have hub := full_le p true HP.out p1
      have hvb := full_le p true HP.out q1
      rw [hu] at c1 hub
      rw [hv] at c2 hvb
      have hsh : u * 16 % 256 = u * 16 := by omega
      have hsw : IntKind.u8.wrap (u * 16) = u * 16 := by rw [IntKind.wrap_u8]; exact hsh
      have hor := or_16 u v hub hvb
      obtain ⟨d, hd⟩ : ∃ d, u * 16 + v = d := ⟨_, rfl⟩
      rw [hd] at hor
      have HD : Hid (fmAt p true k = d) := by
       unfold fmAt
       rw [hp1, hq1, hu, hv, hd]
       exact rfl
      clear hd hu hv hub hvb
      have hgw : g < wr.heap.size := Nat.lt_of_lt_of_le hgz B5.size
      go_wp2
      refine region_inv_tail 13 (fun S aa W => ∃ x36 x37 x38 x39 x40 x41 x42 x43 x44 x45 x46 x47 x48 : Value, aa = { tmps := #[Value.string p, Value.bool true, undef, undef, Value.string { data := #[] }, Value.int IntKind.i64 0, Value.int IntKind.u8 2, Value.slice (some { block := g, off := 0 }) N cap, u8, Value.int IntKind.i64 ↑p1, Value.string p, Value.bool true, Value.bool false, Value.bool true, Value.int IntKind.u8 2, Value.slice (some { block := w1.heap.size, off := 0 }) 1 1, Value.string p, Value.int IntKind.i64 ↑p.size, Value.int IntKind.i64 0, Value.bool false, undef, undef, undef, undef, Value.slice (some { block := w1.heap.size, off := 0 }) 1 1, Value.slice (some { block := w1.heap.size + 1, off := 0 }) 1 1, v4, v4, Value.string p, Value.slice (some { block := g, off := 0 }) N cap, Value.int IntKind.i64 ↑p1, Value.slice (some { block := g, off := 0 }) N cap, Value.int IntKind.i64 ↑N, Value.bool true, u34, u35, x36, x37, x38, x39, x40, x41, x42, x43, x44, x45, x46, x47, x48, u49, undef, undef], defers := [] } ∧ JF wr g N cap p1 q1 u v d u8 S x36 x37 x38 x39 x40 x41 x42 x43 x44 x45 x46 x47 x48 W) (by kernel_rfl) (by kernel_rfl) ?_ ?_ ?_
      ·exact ⟨u36, u37, u38, u39, u40, u41, u42, u43, u44, u45, u46, u47, u48, rfl, ⟨(Below.refl _ wr).drew, nofun, nofun, nofun, nofun, nofun, nofun, nofun, nofun, nofun, nofun, nofun, nofun, nofun⟩⟩
      ·intro i o S aa W hin hi hun hJ hall K hK
       obtain ⟨x36, x37, x38, x39, x40, x41, x42, x43, x44, x45, x46, x47, x48, rfl, h⟩ := hJ
       have hlt : i < 13 := hin
       have hcase : i = 0 ∨ i = 1 ∨ i = 2 ∨ i = 3 ∨ i = 4 ∨ i = 5 ∨ i = 6 ∨ i = 7 ∨ i = 8 ∨ i = 9 ∨ i = 10 ∨ i = 11 ∨ i = 12 := by omega
       rcases hcase with rfl | rfl | rfl | rfl | rfl | rfl | rfl | rfl | rfl | rfl | rfl | rfl | rfl
       all_goals (have ho := (Option.some.inj hi).symm; subst ho; clear hi hlt hin)
       ·go_simp
        exact hK _ _ ⟨_, _, _, _, _, _, _, _, _, _, _, _, _, rfl, { h with f0 := fun _ => rfl }⟩
       ·go_simp
        exact hK _ _ ⟨_, _, _, _, _, _, _, _, _, _, _, _, _, rfl, { h with f1 := fun _ => rfl }⟩
       ·go_simp
        exact hK _ _ ⟨_, _, _, _, _, _, _, _, _, _, _, _, _, rfl, { h with f2 := fun _ => rfl }⟩
       ·have s_1 : S 1 = true := hall ⟨1, .data⟩ (by simp) rfl
        obtain rfl := h.f1 s_1
        have s_2 : S 2 = true := hall ⟨2, .data⟩ (by simp) rfl
        obtain rfl := h.f2 s_2
        go_simp
        exact hK _ _ ⟨_, _, _, _, _, _, _, _, _, _, _, _, _, rfl, { h with f3 := fun _ => rfl }⟩
       ·have s_3 : S 3 = true := hall ⟨3, .data⟩ (by simp) rfl
        obtain rfl := h.f3 s_3
        have cW := (h.e.cell (p := ⟨g, p1, none⟩) hgw).trans c1
        go_simp
        exact hK _ _ ⟨_, _, _, _, _, _, _, _, _, _, _, _, _, rfl, { h with f4 := fun _ => rfl }⟩
       ·have s_4 : S 4 = true := hall ⟨4, .data⟩ (by simp) rfl
        obtain rfl := h.f4 s_4
        go_simp
        exact hK _ _ ⟨_, _, _, _, _, _, _, _, _, _, _, _, _, rfl, { h with f5 := fun _ => rfl }⟩
       ·go_simp
        exact hK _ _ ⟨_, _, _, _, _, _, _, _, _, _, _, _, _, rfl, { h with f6 := fun _ => rfl }⟩
       ·go_simp
        exact hK _ _ ⟨_, _, _, _, _, _, _, _, _, _, _, _, _, rfl, { h with f7 := fun _ => rfl }⟩
       ·have s_7 : S 7 = true := hall ⟨7, .data⟩ (by simp) rfl
        obtain rfl := h.f7 s_7
        go_simp
        exact hK _ _ ⟨_, _, _, _, _, _, _, _, _, _, _, _, _, rfl, { h with f8 := fun _ => rfl }⟩
       ·have s_6 : S 6 = true := hall ⟨6, .data⟩ (by simp) rfl
        obtain rfl := h.f6 s_6
        have s_8 : S 8 = true := hall ⟨8, .data⟩ (by simp) rfl
        obtain rfl := h.f8 s_8
        go_simp
        exact hK _ _ ⟨_, _, _, _, _, _, _, _, _, _, _, _, _, rfl, { h with f9 := fun _ => rfl }⟩
       ·have s_9 : S 9 = true := hall ⟨9, .data⟩ (by simp) rfl
        obtain rfl := h.f9 s_9
        have cW := (h.e.cell (p := ⟨g, q1, none⟩) hgw).trans c2
        go_simp
        exact hK _ _ ⟨_, _, _, _, _, _, _, _, _, _, _, _, _, rfl, { h with f10 := fun _ => rfl }⟩
       ·have s_5 : S 5 = true := hall ⟨5, .data⟩ (by simp) rfl
        obtain rfl := h.f5 s_5
        have s_10 : S 10 = true := hall ⟨10, .data⟩ (by simp) rfl
        obtain rfl := h.f10 s_10
        go_simp
        exact hK _ _ ⟨_, _, _, _, _, _, _, _, _, _, _, _, _, rfl, { h with f11 := fun _ => rfl }⟩
       ·have s_11 : S 11 = true := hall ⟨11, .data⟩ (by simp) rfl
        obtain rfl := h.f11 s_11
        go_simp
        have h1 := h.grow ((Below.refl _ W).alloc (Nat.le_refl _) (.cells #[.int .u8 d] 5))
        exact hK _ _ ⟨_, _, _, _, _, _, _, _, _, _, _, _, _, rfl, { h1 with f12 := fun _ => ⟨W.heap.size, rfl, h.e.size, by simp, n_one_new _ _ _⟩ }⟩
      ·rintro S aa W hall ⟨x36, x37, x38, x39, x40, x41, x42, x43, x44, x45, x46, x47, x48, rfl, h⟩
       obtain rfl := h.f0 (hall 0 (by decide))
       obtain rfl := h.f1 (hall 1 (by decide))
       obtain rfl := h.f2 (hall 2 (by decide))
       obtain rfl := h.f3 (hall 3 (by decide))
       obtain rfl := h.f4 (hall 4 (by decide))
       obtain rfl := h.f5 (hall 5 (by decide))
       obtain rfl := h.f6 (hall 6 (by decide))
       obtain rfl := h.f7 (hall 7 (by decide))
       obtain rfl := h.f8 (hall 8 (by decide))
       obtain rfl := h.f9 (hall 9 (by decide))
       obtain rfl := h.f10 (hall 10 (by decide))
       obtain rfl := h.f11 (hall 11 (by decide))
       obtain ⟨gg, rfl, hgg, hhg, hcg⟩ := h.f12 (hall 12 (by decide))
       have BWD := h.e
       clear h hall
       simp only [List.drop_succ_cons, List.drop_zero]
       have hown2 := n_owns_below hown BWD
       have hzr : z ≤ wr.heap.size := Nat.le_trans hz5 B5.size
       have BW2 := belowStep BW hzr BWD
       have B52 := belowStep B5 B5.size BWD
       clear hown BW BWD B5
       go_wp2_with (at_builtin; refine wpList_append_own _ rfl _ _ 24 rfl w5.heap.size 5 i0 (.int .u8 0) 1 1 Tryd.underlying24 hi0 hz0 hz1 hz2 rfl (by decide) _ _ _ rfl hown2 ⟨gg, 0, none⟩ 1 1 [.int .u8 d] rfl rfl ?c1 ?c2 ?c3 ?c4 ?c5 ?_)
       case c1 => exact hcg
       case c2 => intro u hu; simp at hu; subst hu; rfl
       case c3 => unfold maxLen; omega
       case c4 => omega
       case c5 => exact B52.size
       ·intro v' w3 hown' hgrow _
        go_wp2
        go_roundg (gk - 1)
        case measure => omega
        case rel =>
         refine ⟨k + 1, by omega, rfl, BW2.grown hgrow (by have := B52.size; omega) (fun b hb => Nat.le_trans hz5 (hr3 b hb)), B52.grown hgrow B52.size (fun b hb => hr3 b hb), ?_⟩
         rw [n_fl_succ, HD.out]
         exact hown'
     ·have hk2 : k = M := by omega
      subst hk2
      clear hlt
      have l0 : ¬ ((2 * k : Nat) : Int) < N := by omega
      rcases hown.2 with ⟨rfl, h0⟩ | ⟨g2, cap2, cur, rfl, hg1, hg2, hg3, hg4, hg5, hg6⟩
      ·have := HO.out.2.2
       omega
      ·have hcv := run_convert_bytes_back (P := Tryd.prog) wr 24 9 5 ⟨g2, 0, none⟩ cap2 (n_by8 k (fmAt p true)) Tryd.underlying24 Tryd.underlying5 Tryd.underlying9 (fun j hj => by
        have hj' : j < k := by rw [n_by8_len] at hj; exact hj
        rw [n_by8_at _ _ (fm_bd p true HP.out)]
        exact hown.cells (g := g2) rfl j _ (fl_at k _ j hj'))
       rw [n_by8_len] at hcv
       clear hown hg2 hg3 hg4 hg5 hg6
       go_wp2
       refine bodyPost_ret (v := .tuple #[.string ⟨(n_by8 k (fmAt p true)).toArray⟩, .int .i64 0]) (by simp [results, Tryd.results91, go_sem]) rfl ⟨by rw [HO.out.1, HO.out.2.1], ?_⟩
       rw [HZ.out]
       exact BW
end Go.Proofs.YtbmapdkcccdmfaaDoor
