/- What Hex does at this translation. -/
import Derived.Test.YtpaiopnhipdikaaDoorS3
import Derived.Test.YtpaiopnhipdikaaDoorS6
import Derived.Test.YtpaiopnhipdikaaDoorTail3
namespace Go.Proofs.YtpaiopnhipdikaaDoor
open Go.RowKit Go.Sort

/-- A digit. -/
def dig (n : Int) : Int := [48, 49, 50, 51, 52, 53, 54, 55, 56, 57, 97, 98, 99, 100, 101, 102].getD n.toNat 0
def hexAt (s : ByteArray) (j : Nat) : Int := dig (if j % 2 = 0 then bt s (j / 2) / 16 else bt s (j / 2) % 16)
def hexOf (s : ByteArray) : ByteArray := ⟨(by8 (2 * s.size) (hexAt s)).toArray⟩
theorem dig_bd (n : Int) : 0 ≤ dig n ∧ dig n < 256 := by
  unfold dig
  match n.toNat with
  | 0 | 1 | 2 | 3 | 4 | 5 | 6 | 7 | 8 | 9 | 10 | 11 | 12 | 13 | 14 | 15 => decide
  | k + 16 => simp
theorem hexAt_bd (s : ByteArray) (j : Nat) : 0 ≤ hexAt s j ∧ hexAt s j < 256 := dig_bd _
theorem fl_succ (k : Nat) (f : Nat → Value) : fl (k + 1) f = fl k f ++ [f k] := by simp [fl, List.range_succ]
theorem info_u8 : (Tryd.prog.info? 5).map (fun i => (i.zero, i.size, i.bytes)) = some (some (.int .u8 0), 1, 1) := by kernel_rfl
/-- The constant text of the digits. -/
abbrev digs : ByteArray := ⟨#[48, 49, 50, 51, 52, 53, 54, 55, 56, 57, 97, 98, 99, 100, 101, 102]⟩
theorem digs_at (n : Nat) (h : n < 16) (hh : n < digs.size) : ((digs[n]'hh).toNat : Int) = dig n := by
  have e : ∀ j : Fin 16, ∀ hh : j.val < digs.size, ((digs[j.val]'hh).toNat : Int) = dig (j.val : Nat) := by decide +kernel
  exact e ⟨n, h⟩ hh
theorem and_15 (y : Nat) (h : y < 256) : bits .and .u8 (y : Int) 15 = ((y % 16 : Nat) : Int) := by
  have e : ∀ j : Fin 256, bits .and .u8 ((j.val : Nat) : Int) 15 = ((j.val % 16 : Nat) : Int) := by decide +kernel
  exact e ⟨y, h⟩
theorem owns_below {w w' : World} {b : Nat} {e : TypeId} {size : Nat} {v : Value} {n : Nat} {xs : List Value} (h : w.ownsRow b e size v n xs) (hb : Below w.heap.size w w') : w'.ownsRow b e size v n xs :=
  h.kept (row := none) ⟨hb.os, hb.tape, hb.output, hb.size, fun k hk _ => hb.block k hk⟩ (by cases v.ownBlock <;> simp)
theorem two_new (w : World) (x y : Value) (t : TypeId) : ∀ j u, [x, y][j]? = some u → (w.alloc (.cells #[x, y] t)).cell? ((⟨w.heap.size, 0, none⟩ : Addr).add j) = some u := by
  intro j u hj
  match j, hj with
  | 0, hj => simp at hj; subst hj; simp [Addr.add]
  | 1, hj => simp at hj; subst hj; simp [Addr.add]

/-- What holds while a statement runs. -/
structure JH (V : World) (s : ByteArray) (k y p q : Nat) (d1 d2 : Int) (u3 : Value) (S : Nat → Bool) (x14 x15 x16 x17 x18 x19 x20 x21 x22 x23 x24 x25 : Value) (W : World) : Prop where
  e : Below V.heap.size V W
  f0 : S 0 = true → x14 = u3
  f1 : S 1 = true → x15 = .string s
  f2 : S 2 = true → x16 = .int .i64 (k : Int)
  f3 : S 3 = true → x17 = .int .u8 (y : Int)
  f4 : S 4 = true → x18 = .int .u8 (p : Int)
  f5 : S 5 = true → x19 = .int .u8 d1
  f6 : S 6 = true → x20 = .string s
  f7 : S 7 = true → x21 = .int .i64 (k : Int)
  f8 : S 8 = true → x22 = .int .u8 (y : Int)
  f9 : S 9 = true → x23 = .int .u8 (q : Int)
  f10 : S 10 = true → x24 = .int .u8 d2
  f11 : S 11 = true → ∃ g, x25 = .slice (some ⟨g, 0, none⟩) 2 2 ∧ V.heap.size ≤ g ∧ g < W.heap.size ∧ ∀ j u, [Value.int .u8 d1, .int .u8 d2][j]? = some u → W.cell? ((⟨g, 0, none⟩ : Addr).add j) = some u
theorem JH.grow {V : World} {s : ByteArray} {k y p q : Nat} {d1 d2 : Int} {u3 : Value} {S : Nat → Bool} {x14 x15 x16 x17 x18 x19 x20 x21 x22 x23 x24 x25 : Value} {W W' : World} (h : JH V s k y p q d1 d2 u3 S x14 x15 x16 x17 x18 x19 x20 x21 x22 x23 x24 x25 W) (hb : Below W.heap.size W W') : JH V s k y p q d1 d2 u3 S x14 x15 x16 x17 x18 x19 x20 x21 x22 x23 x24 x25 W' :=
  ⟨belowStep h.e h.e.size hb, h.f0, h.f1, h.f2, h.f3, h.f4, h.f5, h.f6, h.f7, h.f8, h.f9, h.f10, fun s => (h.f11 s).imp fun _ ⟨j1, j0, j2, j3⟩ => ⟨j1, j0, Nat.lt_of_lt_of_le j2 hb.size, fun j u hj => (hb.cell (p := Addr.add ⟨_, 0, none⟩ j) (by rw [Addr.add_mid]; exact j2)).trans (j3 j u hj)⟩⟩

set_option maxRecDepth 20000 in
set_option maxHeartbeats 4000000 in
theorem hex_any (s : ByteArray) (hs : s.size ≤ 70368744177664) (w : World) :
    Calls Tryd.prog 14 #[.string s] w fun e w' => e = .returned (.string (hexOf s)) ∧ Below w.heap.size w w' := by
  obtain ⟨i0, hi0, hz0, hz1, hz2⟩ := info_parts info_u8
  go_enter Tryd.func14, Tryd.ntmps14
  go_wp2_with (at_make; refine wpList_make_own _ rfl _ _ 46 rfl w.heap.size 5 i0 (.int .u8 0) 1 Tryd.underlying46 hi0 hz0 hz1 .i64 .i64 _ (2 * s.size) rfl rfl (by omega) (by rw [hz2]; omega) (by unfold maxLen; omega) (Nat.le_refl _) ?_; intro w2 hown hgr)
  have B2 : Below w.heap.size w w2 := (Below.refl _ w).grown hgr (Nat.le_refl _) (fun _ e => by cases e)
  clear hgr
  replace hown : w2.ownsRow w.heap.size 5 1 (.slice (some ⟨w.heap.size, 0, none⟩) 0 (2 * s.size)) 0 [] := by simpa using hown
  obtain ⟨z, hz⟩ : ∃ c, w.heap.size = c := ⟨_, rfl⟩
  have HZ : Hid (w.heap.size = z) := hz
  rw [hz] at B2 hown ⊢
  clear hz
  go_wp2
  go_loopg [3, 11] s.size (fun gk v i wr => ∃ k : Nat, k + gk = s.size ∧ i = .int .i64 k ∧ Below z w wr ∧ z ≤ wr.heap.size ∧ Hid (v ≠ .slice none 0 0) ∧ wr.ownsRow z 5 1 v (2 * k) (fl (2 * k) fun j => .int .u8 (hexAt s j)))
  case atStart => exact ⟨0, by omega, rfl, B2, by rw [← HZ.out] at B2 ⊢; exact B2.size, (fun e => Value.noConfusion e fun a _ _ => by cases a), hown⟩
  case round =>
    clear hown B2
    obtain ⟨k, hk, rfl, BW, hzw, hnv, hown⟩ := hrel
    have hr3 : ∀ b, u3.ownBlock = some b → z ≤ b := fun b hb => (hown.lt b hb).1
    by_cases hlt : k < s.size
    · have l0 : (k : Int) < s.size := by omega
      obtain ⟨y, hy, hy2⟩ : ∃ y : Nat, bt s k = (y : Int) ∧ y < 256 := ⟨(bt s k).toNat, by have := bt_bd s k; omega, by have := bt_bd s k; omega⟩
      have hsk : (((s[k]'hlt).toNat : Nat) : Int) = y := by rw [bt_get, hy]
      obtain ⟨p, hp, hp2⟩ : ∃ p : Nat, y / 16 = p ∧ p < 16 := ⟨_, rfl, by omega⟩
      obtain ⟨q, hq, hq2⟩ : ∃ q : Nat, y % 16 = q ∧ q < 16 := ⟨_, rfl, by omega⟩
      have hsh : (y : Int) / 16 = p := by omega
      have hsh2 : (y : Int) / 2 ^ 4 = p := by show (y : Int) / 16 = p; omega
      have han : bits .and .u8 (y : Int) 15 = q := by rw [and_15 y hy2, hq]
      have lp : (p : Int) < 16 := by omega
      have lq : (q : Int) < 16 := by omega
      obtain ⟨d1, hd1⟩ : ∃ d, dig p = d := ⟨_, rfl⟩
      obtain ⟨d2, hd2⟩ : ∃ d, dig q = d := ⟨_, rfl⟩
      have HD : Hid (hexAt s (2 * k) = d1 ∧ hexAt s (2 * k + 1) = d2) := by
        unfold hexAt
        rw [if_pos (by omega), if_neg (by omega), show 2 * k / 2 = k by omega, show (2 * k + 1) / 2 = k by omega, hy, show (y : Int) / 16 = p by omega, show (y : Int) % 16 = q by omega]
        exact ⟨hd1, hd2⟩
      go_wp2
      refine region_inv_tail 12 (fun S aa W => ∃ x14 x15 x16 x17 x18 x19 x20 x21 x22 x23 x24 x25 : Value, aa = { tmps := #[Value.string s, undef, Value.string { data := #[] }, u3, Value.int IntKind.i64 ↑k, Value.string s, Value.int IntKind.i64 ↑s.size, Value.int IntKind.i64 (2 * ↑s.size), Value.slice (some { block := z, off := 0 }) 0 (2 * s.size), Value.string s, Value.int IntKind.i64 ↑s.size, Value.int IntKind.i64 ↑k, Value.bool true, Value.int IntKind.i64 ↑k, x14, x15, x16, x17, x18, x19, x20, x21, x22, x23, x24, x25, u26, u27, undef, undef], defers := [] } ∧ JH wr s k y p q d1 d2 u3 S x14 x15 x16 x17 x18 x19 x20 x21 x22 x23 x24 x25 W) (by kernel_rfl) (by kernel_rfl) ?_ ?_ ?_
      · exact ⟨u14, u15, u16, u17, u18, u19, u20, u21, u22, u23, u24, u25, rfl, ⟨(Below.refl _ wr).drew, nofun, nofun, nofun, nofun, nofun, nofun, nofun, nofun, nofun, nofun, nofun, nofun⟩⟩
      · intro i o S aa W hin hi hun hJ hall K hK
        obtain ⟨x14, x15, x16, x17, x18, x19, x20, x21, x22, x23, x24, x25, rfl, h⟩ := hJ
        have hlt : i < 12 := hin
        have hcase : i = 0 ∨ i = 1 ∨ i = 2 ∨ i = 3 ∨ i = 4 ∨ i = 5 ∨ i = 6 ∨ i = 7 ∨ i = 8 ∨ i = 9 ∨ i = 10 ∨ i = 11 := by omega
        rcases hcase with rfl | rfl | rfl | rfl | rfl | rfl | rfl | rfl | rfl | rfl | rfl | rfl
        all_goals (have ho := (Option.some.inj hi).symm; subst ho; clear hi hlt hin)
        · go_simp
          exact hK _ _ ⟨_, x15, x16, x17, x18, x19, x20, x21, x22, x23, x24, x25, rfl, ⟨h.e, fun _ => rfl, h.f1, h.f2, h.f3, h.f4, h.f5, h.f6, h.f7, h.f8, h.f9, h.f10, h.f11⟩⟩
        · go_simp
          exact hK _ _ ⟨x14, _, x16, x17, x18, x19, x20, x21, x22, x23, x24, x25, rfl, ⟨h.e, h.f0, fun _ => rfl, h.f2, h.f3, h.f4, h.f5, h.f6, h.f7, h.f8, h.f9, h.f10, h.f11⟩⟩
        · go_simp
          exact hK _ _ ⟨x14, x15, _, x17, x18, x19, x20, x21, x22, x23, x24, x25, rfl, ⟨h.e, h.f0, h.f1, fun _ => rfl, h.f3, h.f4, h.f5, h.f6, h.f7, h.f8, h.f9, h.f10, h.f11⟩⟩
        · have s_1 : S 1 = true := hall ⟨1, .data⟩ (by simp) rfl
          obtain rfl := h.f1 s_1
          have s_2 : S 2 = true := hall ⟨2, .data⟩ (by simp) rfl
          obtain rfl := h.f2 s_2
          go_simp
          exact hK _ _ ⟨x14, _, _, _, x18, x19, x20, x21, x22, x23, x24, x25, rfl, ⟨h.e, h.f0, h.f1, h.f2, fun _ => by rw [← hsk], h.f4, h.f5, h.f6, h.f7, h.f8, h.f9, h.f10, h.f11⟩⟩
        · have s_3 : S 3 = true := hall ⟨3, .data⟩ (by simp) rfl
          obtain rfl := h.f3 s_3
          go_simp
          exact hK _ _ ⟨x14, x15, x16, _, _, x19, x20, x21, x22, x23, x24, x25, rfl, ⟨h.e, h.f0, h.f1, h.f2, h.f3, fun _ => rfl, h.f5, h.f6, h.f7, h.f8, h.f9, h.f10, h.f11⟩⟩
        · have s_4 : S 4 = true := hall ⟨4, .data⟩ (by simp) rfl
          obtain rfl := h.f4 s_4
          go_simp
          exact hK _ _ ⟨x14, x15, x16, x17, _, _, x20, x21, x22, x23, x24, x25, rfl, ⟨h.e, h.f0, h.f1, h.f2, h.f3, h.f4, fun _ => by rw [← hd1]; exact congrArg (Value.int .u8) (digs_at p hp2 _), h.f6, h.f7, h.f8, h.f9, h.f10, h.f11⟩⟩
        · go_simp
          exact hK _ _ ⟨x14, x15, x16, x17, x18, x19, _, x21, x22, x23, x24, x25, rfl, ⟨h.e, h.f0, h.f1, h.f2, h.f3, h.f4, h.f5, fun _ => rfl, h.f7, h.f8, h.f9, h.f10, h.f11⟩⟩
        · go_simp
          exact hK _ _ ⟨x14, x15, x16, x17, x18, x19, x20, _, x22, x23, x24, x25, rfl, ⟨h.e, h.f0, h.f1, h.f2, h.f3, h.f4, h.f5, h.f6, fun _ => rfl, h.f8, h.f9, h.f10, h.f11⟩⟩
        · have s_6 : S 6 = true := hall ⟨6, .data⟩ (by simp) rfl
          obtain rfl := h.f6 s_6
          have s_7 : S 7 = true := hall ⟨7, .data⟩ (by simp) rfl
          obtain rfl := h.f7 s_7
          go_simp
          exact hK _ _ ⟨x14, x15, x16, x17, x18, x19, _, _, _, x23, x24, x25, rfl, ⟨h.e, h.f0, h.f1, h.f2, h.f3, h.f4, h.f5, h.f6, h.f7, fun _ => by rw [← hsk], h.f9, h.f10, h.f11⟩⟩
        · have s_8 : S 8 = true := hall ⟨8, .data⟩ (by simp) rfl
          obtain rfl := h.f8 s_8
          go_simp
          exact hK _ _ ⟨x14, x15, x16, x17, x18, x19, x20, x21, _, _, x24, x25, rfl, ⟨h.e, h.f0, h.f1, h.f2, h.f3, h.f4, h.f5, h.f6, h.f7, h.f8, fun _ => rfl, h.f10, h.f11⟩⟩
        · have s_9 : S 9 = true := hall ⟨9, .data⟩ (by simp) rfl
          obtain rfl := h.f9 s_9
          go_simp
          exact hK _ _ ⟨x14, x15, x16, x17, x18, x19, x20, x21, x22, _, _, x25, rfl, ⟨h.e, h.f0, h.f1, h.f2, h.f3, h.f4, h.f5, h.f6, h.f7, h.f8, h.f9, fun _ => by rw [← hd2]; exact congrArg (Value.int .u8) (digs_at q hq2 _), h.f11⟩⟩
        · have s_5 : S 5 = true := hall ⟨5, .data⟩ (by simp) rfl
          obtain rfl := h.f5 s_5
          have s_10 : S 10 = true := hall ⟨10, .data⟩ (by simp) rfl
          obtain rfl := h.f10 s_10
          go_simp
          have h1 := h.grow ((Below.refl _ W).alloc (Nat.le_refl _) (.cells #[.int .u8 d1, .int .u8 d2] 5))
          exact hK _ _ ⟨x14, x15, x16, x17, x18, _, x20, x21, x22, x23, _, _, rfl, ⟨h1.e, h1.f0, h1.f1, h1.f2, h1.f3, h1.f4, h1.f5, h1.f6, h1.f7, h1.f8, h1.f9, h1.f10, fun _ => ⟨W.heap.size, rfl, h.e.size, by simp, two_new _ _ _ _⟩⟩⟩
      · rintro S aa W hall ⟨x14, x15, x16, x17, x18, x19, x20, x21, x22, x23, x24, x25, rfl, h⟩
        obtain rfl := h.f0 (hall 0 (by decide))
        obtain rfl := h.f1 (hall 1 (by decide))
        obtain rfl := h.f2 (hall 2 (by decide))
        obtain rfl := h.f3 (hall 3 (by decide))
        obtain rfl := h.f4 (hall 4 (by decide))
        obtain rfl := h.f5 (hall 5 (by decide))
        obtain rfl := h.f6 (hall 6 (by decide))
        obtain rfl := h.f7 (hall 7 (by decide))
        obtain rfl := h.f8 (hall 8 (by decide))
        obtain rfl := h.f9 (hall 9 (by decide))
        obtain rfl := h.f10 (hall 10 (by decide))
        obtain ⟨gg, rfl, hgg, hhg, hcg⟩ := h.f11 (hall 11 (by decide))
        have BWD := h.e
        clear h hall
        simp only [List.drop_succ_cons, List.drop_zero]
        have hown2 := owns_below hown BWD
        have hzW : z ≤ W.heap.size := Nat.le_trans hzw BWD.size
        have BW2 := belowStep BW hzw BWD
        clear hown BW BWD
        go_wp2_with (at_builtin; refine wpList_append_own _ rfl _ _ 46 rfl z 5 i0 (.int .u8 0) 1 1 Tryd.underlying46 hi0 hz0 hz1 hz2 rfl (by decide) _ _ _ rfl hown2 ⟨gg, 0, none⟩ 2 2 [.int .u8 d1, .int .u8 d2] rfl rfl ?c1 ?c2 ?c3 ?c4 ?c5 ?_)
        case c1 => exact hcg
        case c2 => intro u hu; simp at hu; rcases hu with rfl | rfl <;> rfl
        case c3 => unfold maxLen; omega
        case c4 => omega
        case c5 => exact hzW
        · intro v' w3 hown' hgrow hiff
          have HI : Hid (v' ≠ .slice none 0 0) := hiff
          clear hiff
          go_wp2
          go_roundg (gk - 1)
          case measure => omega
          case rel =>
            refine ⟨k + 1, by omega, rfl, BW2.grown hgrow hzW (fun b hb => hr3 b hb), Nat.le_trans hzW hgrow.size, HI, ?_⟩
            rw [show 2 * (k + 1) = 2 * k + 1 + 1 by omega, fl_succ, fl_succ, HD.out.1, HD.out.2, List.append_assoc]
            exact hown'
    · have hk2 : k = s.size := by omega
      subst hk2
      clear hlt
      rcases hown.2 with ⟨rfl, h0⟩ | ⟨g, cap, cur, rfl, hg1, hg2, hg3, hg4, hg5, hg6⟩
      · exact absurd rfl hnv.out
      · have hcv := run_convert_bytes_back (P := Tryd.prog) wr 46 9 5 ⟨g, 0, none⟩ cap (by8 (2 * s.size) (hexAt s)) Tryd.underlying46 Tryd.underlying5 Tryd.underlying9 (fun j hj => by
          have hj' : j < 2 * s.size := by rw [by8_len] at hj; exact hj
          rw [by8_at _ _ (hexAt_bd s)]
          exact hown.cells (g := g) rfl j _ (fl_at (2 * s.size) _ j hj'))
        rw [by8_len] at hcv
        clear hown hg2 hg3 hg4 hg5 hg6
        go_wp2
        go_ret
        rw [HZ.out]
        exact ⟨rfl, BW⟩
end Go.Proofs.YtpaiopnhipdikaaDoor
