/- Lemmas: The document's answer: a key's path. Condition: the key has at most 2^46 bytes. -/
import Derived.Test.YtbmapdkcccdmfaaDoorM1
import Derived.Test.YtbmapdkcccdmfaaDoorM11
import Derived.Test.YtbmapdkcccdmfaaDoorM18
import Derived.Test.YtbmapdkcccdmfaaDoorM19
import Derived.Test.YtbmapdkcccdmfaaDoorM2
import Derived.Test.YtbmapdkcccdmfaaDoorM20
import Derived.Test.YtbmapdkcccdmfaaDoorM21
import Derived.Test.YtbmapdkcccdmfaaDoorM22
import Derived.Test.YtbmapdkcccdmfaaDoorM23
import Derived.Test.YtbmapdkcccdmfaaDoorM24
import Derived.Test.YtbmapdkcccdmfaaDoorM25
import Derived.Test.YtbmapdkcccdmfaaDoorM26
import Derived.Test.YtbmapdkcccdmfaaDoorM29
import Derived.Test.YtbmapdkcccdmfaaDoorM3
import Derived.Test.YtbmapdkcccdmfaaDoorRows
namespace Go.Proofs.YtbmapdkcccdmfaaDoor
open Go.RowKit Go.Sort

theorem n_convert_nil (w : World) : (convert 24 9 (.slice none 0 0)).run Tryd.prog w = .ok (.string ⟨#[]⟩) w := by
 rw [run_convert_bytes_string w 24 9 5 none 0 0 Tryd.underlying24 Tryd.underlying5 Tryd.underlying9]
 first | rfl | simp [Conv.bytesToString, go_sem]

theorem n_fl_succ (k : Nat) (f : Nat → Value) : fl (k + 1) f = fl k f ++ [f k] := by simp [fl, List.range_succ]
theorem n_owns_below {w w' : World} {b : Nat} {e : TypeId} {size : Nat} {v : Value} {n : Nat} {xs : List Value} (h : w.ownsRow b e size v n xs) (hb : Below w.heap.size w w') : w'.ownsRow b e size v n xs :=
 h.kept (row := none) ⟨hb.os, hb.tape, hb.output, hb.size, fun k hk _ => hb.block k hk⟩ (by cases v.ownBlock <;> simp)
theorem n_two_new (w : World) (x y : Value) (t : TypeId) : ∀ j u, [x, y][j]? = some u → (w.alloc (.cells #[x, y] t)).cell? ((⟨w.heap.size, 0, none⟩ : Addr).add j) = some u := by
 intro j u hj
 match j, hj with
 | 0, hj => simp at hj; subst hj; simp [Addr.add]
 | 1, hj => simp at hj; subst hj; simp [Addr.add]

structure JR (V : World) (s : ByteArray) (k y p q : Nat) (u3 : Value) (S : Nat → Bool) (x11 x12 x13 x14 x15 x16 x17 x18 x19 x20 : Value) (W : World) : Prop where
 e : Below V.heap.size V W
 f0 : S 0 = true → x11 = u3
 f1 : S 1 = true → x12 = .string s
 f2 : S 2 = true → x13 = .int .i64 (k : Int)
 f3 : S 3 = true → x14 = .int .u8 (y : Int)
 f4 : S 4 = true → x15 = .int .u8 (p : Int)
 f5 : S 5 = true → x16 = .string s
 f6 : S 6 = true → x17 = .int .i64 (k : Int)
 f7 : S 7 = true → x18 = .int .u8 (y : Int)
 f8 : S 8 = true → x19 = .int .u8 (q : Int)
 f9 : S 9 = true → ∃ g, x20 = .slice (some ⟨g, 0, none⟩) 2 2 ∧ V.heap.size ≤ g ∧ g < W.heap.size ∧ ∀ j u, [Value.int .u8 (p : Int), .int .u8 (q : Int)][j]? = some u → W.cell? ((⟨g, 0, none⟩ : Addr).add j) = some u
theorem JR.grow {V : World} {s : ByteArray} {k y p q : Nat} {u3 : Value} {S : Nat → Bool} {x11 x12 x13 x14 x15 x16 x17 x18 x19 x20 : Value} {W W' : World} (h : JR V s k y p q u3 S x11 x12 x13 x14 x15 x16 x17 x18 x19 x20 W) (hb : Below W.heap.size W W') : JR V s k y p q u3 S x11 x12 x13 x14 x15 x16 x17 x18 x19 x20 W' :=
 ⟨belowStep h.e h.e.size hb, h.f0, h.f1, h.f2, h.f3, h.f4, h.f5, h.f6, h.f7, h.f8, fun s => (h.f9 s).imp fun _ ⟨j1, j0, j2, j3⟩ => ⟨j1, j0, Nat.lt_of_lt_of_le j2 hb.size, fun j u hj => (hb.cell (p := Addr.add ⟨_, 0, none⟩ j) (by rw [Addr.add_mid]; exact j2)).trans (j3 j u hj)⟩⟩

set_option maxRecDepth 20000 in
set_option maxHeartbeats 4000000 in
theorem rof_any (s : ByteArray) (hs : s.size ≤ 70368744177664) (w : World) :
  Calls Tryd.prog 27 #[.string s] w fun e w' => e = .returned (.string (ofOf s)) ∧ Below w.heap.size w w' := by
 obtain ⟨i0, hi0, hz0, hz1, hz2⟩ := info_parts n_info_u8
 go_enter Tryd.func27, Tryd.ntmps27
 obtain ⟨z, hz⟩ : ∃ c, w.heap.size = c := ⟨_, rfl⟩
 have HZ : Hid (w.heap.size = z) := hz
 go_wp2
 go_loopg [3, 4] s.size (fun gk v i wr => ∃ k : Nat, k + gk = s.size ∧ i = .int .i64 k ∧ Below z w wr ∧ z ≤ wr.heap.size ∧ wr.ownsRow z 5 1 v (2 * k) (fl (2 * k) fun j => .int .u8 (half s j)))
 case atStart => exact ⟨0, by omega, rfl, by rw [← hz]; exact Below.refl _ _, by rw [← hz]; exact Nat.le_refl _, World.ownsRow_nil _ _ _ _⟩
 case round =>
  clear hz
  obtain ⟨k, hk, rfl, BW, hzw, hown⟩ := hrel
  have hr3 : ∀ b, u3.ownBlock = some b → z ≤ b := fun b hb => (hown.lt b hb).1
  by_cases hlt : k < s.size
  ·have l0 : (k : Int) < s.size := by omega
   obtain ⟨y, hy, hy2⟩ : ∃ y : Nat, n_bt s k = (y : Int) ∧ y < 256 := ⟨(n_bt s k).toNat, by have := n_bt_bd s k; omega, by have := n_bt_bd s k; omega⟩
   have hsk : (((s[k]'hlt).toNat : Nat) : Int) = y := by rw [n_bt_get, hy]
   obtain ⟨p, hp, hp2⟩ : ∃ p : Nat, y / 16 = p ∧ p < 16 := ⟨_, rfl, by omega⟩
   obtain ⟨q, hq, hq2⟩ : ∃ q : Nat, y % 16 = q ∧ q < 16 := ⟨_, rfl, by omega⟩
   have hsh : (y : Int) / 16 = p := by omega
   have hsh2 : (y : Int) / 2 ^ 4 = p := by show (y : Int) / 16 = p; omega
   have han : bits .and .u8 (y : Int) 15 = q := by rw [and_15 y hy2, hq]
   have HD : Hid (half s (2 * k) = p ∧ half s (2 * k + 1) = q) := by
    unfold half
    rw [if_pos (by omega), if_neg (by omega), show 2 * k / 2 = k by omega, show (2 * k + 1) / 2 = k by omega, hy, show (y : Int) / 16 = p by omega, show (y : Int) % 16 = q by omega]
    exact ⟨rfl, rfl⟩
   go_wp2
   refine region_inv_tail 10 (fun S aa W => ∃ x11 x12 x13 x14 x15 x16 x17 x18 x19 x20 : Value, aa = { tmps := #[Value.string s, undef, Value.string { data := #[] }, u3, Value.int IntKind.i64 ↑k, Value.int IntKind.i64 ↑k, Value.string s, Value.int IntKind.i64 ↑s.size, Value.bool true, u9, u10, x11, x12, x13, x14, x15, x16, x17, x18, x19, x20, u21, undef, undef], defers := [] } ∧ JR wr s k y p q u3 S x11 x12 x13 x14 x15 x16 x17 x18 x19 x20 W) (by kernel_rfl) (by kernel_rfl) ?_ ?_ ?_
   ·exact ⟨u11, u12, u13, u14, u15, u16, u17, u18, u19, u20, rfl, ⟨(Below.refl _ wr).drew, nofun, nofun, nofun, nofun, nofun, nofun, nofun, nofun, nofun, nofun⟩⟩
   ·intro i o S aa W hin hi hun hJ hall K hK
    obtain ⟨x11, x12, x13, x14, x15, x16, x17, x18, x19, x20, rfl, h⟩ := hJ
    have hlt : i < 10 := hin
    have hcase : i = 0 ∨ i = 1 ∨ i = 2 ∨ i = 3 ∨ i = 4 ∨ i = 5 ∨ i = 6 ∨ i = 7 ∨ i = 8 ∨ i = 9 := by omega
    rcases hcase with rfl | rfl | rfl | rfl | rfl | rfl | rfl | rfl | rfl | rfl
    all_goals (have ho := (Option.some.inj hi).symm; subst ho; clear hi hlt hin)
    ·go_simp
     exact hK _ _ ⟨_, _, _, _, _, _, _, _, _, _, rfl, { h with f0 := fun _ => rfl }⟩
    ·go_simp
     exact hK _ _ ⟨_, _, _, _, _, _, _, _, _, _, rfl, { h with f1 := fun _ => rfl }⟩
    ·go_simp
     exact hK _ _ ⟨_, _, _, _, _, _, _, _, _, _, rfl, { h with f2 := fun _ => rfl }⟩
    ·have s_1 : S 1 = true := hall ⟨1, .data⟩ (by simp) rfl
     obtain rfl := h.f1 s_1
     have s_2 : S 2 = true := hall ⟨2, .data⟩ (by simp) rfl
     obtain rfl := h.f2 s_2
     go_simp
     exact hK _ _ ⟨_, _, _, _, _, _, _, _, _, _, rfl, { h with f3 := fun _ => by rw [← hsk] }⟩
    ·have s_3 : S 3 = true := hall ⟨3, .data⟩ (by simp) rfl
     obtain rfl := h.f3 s_3
     go_simp
     exact hK _ _ ⟨_, _, _, _, _, _, _, _, _, _, rfl, { h with f4 := fun _ => rfl }⟩
    ·go_simp
     exact hK _ _ ⟨_, _, _, _, _, _, _, _, _, _, rfl, { h with f5 := fun _ => rfl }⟩
    ·go_simp
     exact hK _ _ ⟨_, _, _, _, _, _, _, _, _, _, rfl, { h with f6 := fun _ => rfl }⟩
    ·have s_5 : S 5 = true := hall ⟨5, .data⟩ (by simp) rfl
     obtain rfl := h.f5 s_5
     have s_6 : S 6 = true := hall ⟨6, .data⟩ (by simp) rfl
     obtain rfl := h.f6 s_6
     go_simp
     exact hK _ _ ⟨_, _, _, _, _, _, _, _, _, _, rfl, { h with f7 := fun _ => by rw [← hsk] }⟩
    ·have s_7 : S 7 = true := hall ⟨7, .data⟩ (by simp) rfl
     obtain rfl := h.f7 s_7
     go_simp
     exact hK _ _ ⟨_, _, _, _, _, _, _, _, _, _, rfl, { h with f8 := fun _ => rfl }⟩
    ·have s_4 : S 4 = true := hall ⟨4, .data⟩ (by simp) rfl
     obtain rfl := h.f4 s_4
     have s_8 : S 8 = true := hall ⟨8, .data⟩ (by simp) rfl
     obtain rfl := h.f8 s_8
     go_simp
     have h1 := h.grow ((Below.refl _ W).alloc (Nat.le_refl _) (.cells #[.int .u8 (p : Int), .int .u8 (q : Int)] 5))
     exact hK _ _ ⟨_, _, _, _, _, _, _, _, _, _, rfl, { h1 with f9 := fun _ => ⟨W.heap.size, rfl, h.e.size, by simp, n_two_new _ _ _ _⟩ }⟩
   ·rintro S aa W hall ⟨x11, x12, x13, x14, x15, x16, x17, x18, x19, x20, rfl, h⟩
    obtain rfl := h.f0 (hall 0 (by decide))
    obtain rfl := h.f1 (hall 1 (by decide))
    obtain rfl := h.f2 (hall 2 (by decide))
    obtain rfl := h.f3 (hall 3 (by decide))
    obtain rfl := h.f4 (hall 4 (by decide))
    obtain rfl := h.f5 (hall 5 (by decide))
    obtain rfl := h.f6 (hall 6 (by decide))
    obtain rfl := h.f7 (hall 7 (by decide))
    obtain rfl := h.f8 (hall 8 (by decide))
    obtain ⟨gg, rfl, hgg, hhg, hcg⟩ := h.f9 (hall 9 (by decide))
    have BWD := h.e
    clear h hall
    simp only [List.drop_succ_cons, List.drop_zero]
    have hown2 := n_owns_below hown BWD
    have hzW : z ≤ W.heap.size := Nat.le_trans hzw BWD.size
    have BW2 := belowStep BW hzw BWD
    clear hown BW BWD
    go_wp2_with (at_builtin; refine wpList_append_own _ rfl _ _ 24 rfl z 5 i0 (.int .u8 0) 1 1 Tryd.underlying24 hi0 hz0 hz1 hz2 rfl (by decide) _ _ _ rfl hown2 ⟨gg, 0, none⟩ 2 2 [.int .u8 (p : Int), .int .u8 (q : Int)] rfl rfl ?c1 ?c2 ?c3 ?c4 ?c5 ?_)
    case c1 => exact hcg
    case c2 => intro u hu; simp at hu; rcases hu with rfl | rfl <;> rfl
    case c3 => unfold maxLen; omega
    case c4 => omega
    case c5 => exact hzW
    ·intro v' w3 hown' hgrow _
     go_wp2
     go_roundg (gk - 1)
     case measure => omega
     case rel =>
      refine ⟨k + 1, by omega, rfl, BW2.grown hgrow hzW (fun b hb => hr3 b hb), Nat.le_trans hzW hgrow.size, ?_⟩
      rw [show 2 * (k + 1) = 2 * k + 1 + 1 by omega, n_fl_succ, n_fl_succ, HD.out.1, HD.out.2, List.append_assoc]
      exact hown'
  ·have hk2 : k = s.size := by omega
   subst hk2
   clear hlt
   rcases hown.2 with ⟨rfl, h0⟩ | ⟨g, cap, cur, rfl, hg1, hg2, hg3, hg4, hg5, hg6⟩
   ·have he : ofOf s = ⟨#[]⟩ := by rw [ofOf, h0]; rfl
    have HE : Hid (_ = _) := he
    have hcv := n_convert_nil wr
    clear he
    have h0' : s.size = 0 := by omega
    go_wp2
    go_ret
    rw [HZ.out]
    exact ⟨by rw [HE.out]; rfl, BW⟩
   ·have hcv := run_convert_bytes_back (P := Tryd.prog) wr 24 9 5 ⟨g, 0, none⟩ cap (n_by8 (2 * s.size) (half s)) Tryd.underlying24 Tryd.underlying5 Tryd.underlying9 (fun j hj => by
     have hj' : j < 2 * s.size := by rw [n_by8_len] at hj; exact hj
     rw [n_by8_at _ _ (fun j => by have := half_bd s j; omega)]
     exact hown.cells (g := g) rfl j _ (fl_at (2 * s.size) _ j hj'))
    rw [n_by8_len] at hcv
    clear hown hg2 hg3 hg4 hg5 hg6
    go_wp2
    go_ret
    rw [HZ.out]
    exact ⟨rfl, BW⟩
end Go.Proofs.YtbmapdkcccdmfaaDoor
