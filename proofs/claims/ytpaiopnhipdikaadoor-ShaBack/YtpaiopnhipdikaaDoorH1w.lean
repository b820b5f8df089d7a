/- Hex, for texts of any length that a machine holds: the room is made once. -/
import Derived.Test.YtpaiopnhipdikaaDoorH1
import Derived.Test.YtpaiopnhipdikaaDoorBs
namespace Go.Proofs.YtpaiopnhipdikaaDoor
open Go.RowKit Go.Sort

theorem bs_owned {w : World} {b c : Nat} {f : Nat → Value} {B : Nat} {e : TypeId} (h : w.ownsRow B e 1 (.slice (some ⟨b, 0, none⟩) 0 c) 0 []) : Bs b 0 c f w := by
  rcases h.2 with ⟨h0, _⟩ | ⟨g, cap, cur, h0, _, hh, hn, _, hz, _⟩
  · cases h0
  · simp only [Value.slice.injEq, Option.some.injEq, Addr.mk.injEq] at h0
    obtain ⟨⟨rfl, _⟩, _, rfl⟩ := h0
    refine ⟨(Array.getElem?_eq_some_iff.1 hh).1, hn, fun j hj => absurd hj (by omega), fun j hj => ?_, fun j hj => ?_⟩
    · simp [World.cell?, hh]; omega
    · simp [World.frozen?, hh]
theorem run_append_room {P : Program} {W : World} (t ty e : TypeId) (i : TypeInfo) (ht : P.underlying t = some (.slice e)) (hi : P.info? e = some i) (h1 : i.size = 1)
    (g n cap : Nat) (f : Nat → Value) (BB : Bs g n cap f W) (ad : Addr) (m c : Nat) (news : List Value) (hl : news.length = m) (hnews : ∀ j v, news[j]? = some v → W.cell? (ad.add j) = some v) (hone : ∀ u ∈ news, u.oneCell' = true)
    (hf : ∀ j u, news[j]? = some u → u = f (n + j)) (hroom : n + m ≤ cap) :
    ∃ W', (Builtin.append_ #[t, t] ty #[.slice (some ⟨g, 0, none⟩) n cap, .slice (some ad) m c]).run P W = .ok (.slice (some ⟨g, 0, none⟩) (n + m) cap) W' ∧ Bs g (n + m) cap f W' ∧ W.grownBy W' (some g) := by
  · refine ⟨W.setCells g n news, ?_, ?_, grown_setCells _ _ _⟩
    · have hfc := run_firstCells_some (P := P) W i.size m ad m c news (by rw [h1, Nat.mul_one]; exact hl) hnews
      rw [h1] at hfc
      have hst := run_storeCells_cells (P := P) g n news 0 W (fun j hj => BB.s _ (by omega)) (fun j hj => BB.fr _ (by omega)) hone
      simp only [Nat.add_zero] at hst
      simp [Builtin.append_, run_underlying ht, sizeOf, typeInfo, hi, Builtin.lenOf, hroom, hfc, Addr.add_lit, h1, hst]
    · refine ⟨by rw [setCells_size]; exact BB.z, hroom, fun j hj => ?_, fun j hj => ?_, fun j hj => by rw [World.frozen?_setCells]; exact BB.fr j hj⟩
      · by_cases hjn : j < n
        · rw [World.cell?_setCells_out g news n W ⟨g, j, none⟩ (fun _ _ => .inl hjn)]
          exact BB.c j hjn
        · have hin := World.cell?_setCells_in g news n W (fun k hk => BB.s _ (by omega)) (j - n) (by omega)
          rw [show n + (j - n) = j by omega] at hin
          rw [hin]
          have := hf (j - n) (news[j - n]'(by omega)) (by simp)
          rw [show n + (j - n) = j by omega] at this
          rw [← this]
      · by_cases hjn : j < n ∨ n + m ≤ j
        · rw [World.cell?_setCells_out g news n W ⟨g, j, none⟩ (fun _ _ => by dsimp only; omega)]
          exact BB.s j hj
        · have hin := World.cell?_setCells_in g news n W (fun k hk => BB.s _ (by omega)) (j - n) (by omega)
          rw [show n + (j - n) = j by omega] at hin
          rw [hin]
          rfl
theorem wpList_append_room {P : Program} {W : World} {ops : Array Oper} {rest : List Oper} {o : Oper} {a : Act} {Q : Exit → Act → World → Prop} (hgd : o.guard = none) (s x : Operand) (t : TypeId)
    (hop : o.op = .call { callee := .builtin .append, args := #[s, x], argTypes := #[t, t] })
    (e : TypeId) (i : TypeInfo) (ht : P.underlying t = some (.slice e)) (hi : P.info? e = some i) (h1 : i.size = 1)
    (g n cap : Nat) (f : Nat → Value) (hs : a.eval s = .slice (some ⟨g, 0, none⟩) n cap) (BB : Bs g n cap f W) (ad : Addr) (m c : Nat) (news : List Value) (hx : a.eval x = .slice (some ad) m c) (hl : news.length = m)
    (hnews : ∀ j v, news[j]? = some v → W.cell? (ad.add j) = some v) (hone : ∀ u ∈ news, u.oneCell' = true) (hf : ∀ j u, news[j]? = some u → u = f (n + j)) (hroom : n + m ≤ cap)
    (h : ∀ W', Bs g (n + m) cap f W' → W.grownBy W' (some g) → wpList P ops Q rest (a.put o.dst (.slice (some ⟨g, 0, none⟩) (n + m) cap)) W') : wpList P ops Q (o :: rest) a W := by
  refine wpList_plain hgd fun _ hK => ?_
  obtain ⟨W', hr, b1, b3⟩ := run_append_room (P := P) (W := W) t o.type e i ht hi h1 g n cap f BB ad m c news hl hnews hone hf hroom
  unfold Oper.wp execOp
  simp only [hop, resolve, invoke, builtin, Sem.run_bind, Sem.run_pure, Result.andThen_ok, List.map_toArray, List.map_cons, List.map_nil, hs, hx, hr]
  exact hK _ _ (h W' b1 b3)


set_option maxRecDepth 20000 in
set_option maxHeartbeats 4000000 in
theorem hexw_any (s : ByteArray) (hs : s.size ≤ 140737488351232) (w : World) :
    Calls Tryd.prog 14 #[.string s] w fun e w' => e = .returned (.string (hexOf s)) ∧ Below w.heap.size w w' := by
  obtain ⟨i0, hi0, hz0, hz1, hz2⟩ := info_parts info_u8
  go_enter Tryd.func14, Tryd.ntmps14
  go_wp2_with (at_make; refine wpList_make_own _ rfl _ _ 46 rfl w.heap.size 5 i0 (.int .u8 0) 1 Tryd.underlying46 hi0 hz0 hz1 .i64 .i64 _ (2 * s.size) rfl rfl (by omega) (by rw [hz2]; omega) (by unfold maxLen; omega) (Nat.le_refl _) ?_; intro w2 hown hgr)
  have B2 : Below w.heap.size w w2 := (Below.refl _ w).grown hgr (Nat.le_refl _) (fun _ e => by cases e)
  clear hgr
  replace hown : w2.ownsRow w.heap.size 5 1 (.slice (some ⟨w.heap.size, 0, none⟩) 0 (2 * s.size)) 0 [] := by simpa using hown
  have hbs := bs_owned (f := fun j => .int .u8 (hexAt s j)) hown
  clear hown
  obtain ⟨z, hz⟩ : ∃ c, w.heap.size = c := ⟨_, rfl⟩
  have HZ : Hid (w.heap.size = z) := hz
  rw [hz] at B2 hbs ⊢
  clear hz
  go_wp2
  go_loopg [3, 11] s.size (fun gk v i wr => ∃ k : Nat, k + gk = s.size ∧ i = .int .i64 k ∧ Below z w wr ∧ z ≤ wr.heap.size ∧ Hid (v = .slice (some ⟨z, 0, none⟩) (2 * k) (2 * s.size)) ∧ Bs z (2 * k) (2 * s.size) (fun j => .int .u8 (hexAt s j)) wr)
  case atStart => exact ⟨0, by omega, rfl, B2, by rw [← HZ.out] at B2 ⊢; exact B2.size, (rfl : _ = _), hbs⟩
  case round =>
    clear hbs B2
    obtain ⟨k, hk, rfl, BW, hzw, hnv, hbs⟩ := hrel
    by_cases hlt : k < s.size
    · have l0 : (k : Int) < s.size := by omega
      obtain ⟨y, hy, hy2⟩ : ∃ y : Nat, bt s k = (y : Int) ∧ y < 256 := ⟨(bt s k).toNat, by have := bt_bd s k; omega, by have := bt_bd s k; omega⟩
      have hsk : (((s[k]'hlt).toNat : Nat) : Int) = y := by rw [bt_get, hy]
      obtain ⟨p, hp, hp2⟩ : ∃ p : Nat, y / 16 = p ∧ p < 16 := ⟨_, rfl, by omega⟩
      obtain ⟨q, hq, hq2⟩ : ∃ q : Nat, y % 16 = q ∧ q < 16 := ⟨_, rfl, by omega⟩
      have hsh : (y : Int) / 16 = p := by omega
      have hsh2 : (y : Int) / 2 ^ 4 = p := by show (y : Int) / 16 = p; omega
      have han : bits .and .u8 (y : Int) 15 = q := by rw [and_15 y hy2, hq]
      have lp : (p : Int) < 16 := by omega
      have lq : (q : Int) < 16 := by omega
      obtain ⟨d1, hd1⟩ : ∃ d, dig p = d := ⟨_, rfl⟩
      obtain ⟨d2, hd2⟩ : ∃ d, dig q = d := ⟨_, rfl⟩
      have HD : Hid (hexAt s (2 * k) = d1 ∧ hexAt s (2 * k + 1) = d2) := by
        unfold hexAt
        rw [if_pos (by omega), if_neg (by omega), show 2 * k / 2 = k by omega, show (2 * k + 1) / 2 = k by omega, hy, show (y : Int) / 16 = p by omega, show (y : Int) % 16 = q by omega]
        exact ⟨hd1, hd2⟩
      go_wp2
      refine region_inv_tail 12 (fun S aa W => ∃ x14 x15 x16 x17 x18 x19 x20 x21 x22 x23 x24 x25 : Value, aa = { tmps := #[Value.string s, undef, Value.string { data := #[] }, u3, Value.int IntKind.i64 ↑k, Value.string s, Value.int IntKind.i64 ↑s.size, Value.int IntKind.i64 (2 * ↑s.size), Value.slice (some { block := z, off := 0 }) 0 (2 * s.size), Value.string s, Value.int IntKind.i64 ↑s.size, Value.int IntKind.i64 ↑k, Value.bool true, Value.int IntKind.i64 ↑k, x14, x15, x16, x17, x18, x19, x20, x21, x22, x23, x24, x25, u26, u27, undef, undef], defers := [] } ∧ JH wr s k y p q d1 d2 u3 S x14 x15 x16 x17 x18 x19 x20 x21 x22 x23 x24 x25 W) (by kernel_rfl) (by kernel_rfl) ?_ ?_ ?_
      · exact ⟨u14, u15, u16, u17, u18, u19, u20, u21, u22, u23, u24, u25, rfl, ⟨(Below.refl _ wr).drew, nofun, nofun, nofun, nofun, nofun, nofun, nofun, nofun, nofun, nofun, nofun, nofun⟩⟩
      · intro i o S aa W hin hi hun hJ hall K hK
        obtain ⟨x14, x15, x16, x17, x18, x19, x20, x21, x22, x23, x24, x25, rfl, h⟩ := hJ
        have hlt : i < 12 := hin
        have hcase : i = 0 ∨ i = 1 ∨ i = 2 ∨ i = 3 ∨ i = 4 ∨ i = 5 ∨ i = 6 ∨ i = 7 ∨ i = 8 ∨ i = 9 ∨ i = 10 ∨ i = 11 := by omega
        rcases hcase with rfl | rfl | rfl | rfl | rfl | rfl | rfl | rfl | rfl | rfl | rfl | rfl
        all_goals (have ho := (Option.some.inj hi).symm; subst ho; clear hi hlt hin)
        · go_simp
          exact hK _ _ ⟨_, x15, x16, x17, x18, x19, x20, x21, x22, x23, x24, x25, rfl, ⟨h.e, fun _ => rfl, h.f1, h.f2, h.f3, h.f4, h.f5, h.f6, h.f7, h.f8, h.f9, h.f10, h.f11⟩⟩
        · go_simp
          exact hK _ _ ⟨x14, _, x16, x17, x18, x19, x20, x21, x22, x23, x24, x25, rfl, ⟨h.e, h.f0, fun _ => rfl, h.f2, h.f3, h.f4, h.f5, h.f6, h.f7, h.f8, h.f9, h.f10, h.f11⟩⟩
        · go_simp
          exact hK _ _ ⟨x14, x15, _, x17, x18, x19, x20, x21, x22, x23, x24, x25, rfl, ⟨h.e, h.f0, h.f1, fun _ => rfl, h.f3, h.f4, h.f5, h.f6, h.f7, h.f8, h.f9, h.f10, h.f11⟩⟩
        · have s_1 : S 1 = true := hall ⟨1, .data⟩ (by simp) rfl
          obtain rfl := h.f1 s_1
          have s_2 : S 2 = true := hall ⟨2, .data⟩ (by simp) rfl
          obtain rfl := h.f2 s_2
          go_simp
          exact hK _ _ ⟨x14, _, _, _, x18, x19, x20, x21, x22, x23, x24, x25, rfl, ⟨h.e, h.f0, h.f1, h.f2, fun _ => by rw [← hsk], h.f4, h.f5, h.f6, h.f7, h.f8, h.f9, h.f10, h.f11⟩⟩
        · have s_3 : S 3 = true := hall ⟨3, .data⟩ (by simp) rfl
          obtain rfl := h.f3 s_3
          go_simp
          exact hK _ _ ⟨x14, x15, x16, _, _, x19, x20, x21, x22, x23, x24, x25, rfl, ⟨h.e, h.f0, h.f1, h.f2, h.f3, fun _ => rfl, h.f5, h.f6, h.f7, h.f8, h.f9, h.f10, h.f11⟩⟩
        · have s_4 : S 4 = true := hall ⟨4, .data⟩ (by simp) rfl
          obtain rfl := h.f4 s_4
          go_simp
          exact hK _ _ ⟨x14, x15, x16, x17, _, _, x20, x21, x22, x23, x24, x25, rfl, ⟨h.e, h.f0, h.f1, h.f2, h.f3, h.f4, fun _ => by rw [← hd1]; exact congrArg (Value.int .u8) (digs_at p hp2 _), h.f6, h.f7, h.f8, h.f9, h.f10, h.f11⟩⟩
        · go_simp
          exact hK _ _ ⟨x14, x15, x16, x17, x18, x19, _, x21, x22, x23, x24, x25, rfl, ⟨h.e, h.f0, h.f1, h.f2, h.f3, h.f4, h.f5, fun _ => rfl, h.f7, h.f8, h.f9, h.f10, h.f11⟩⟩
        · go_simp
          exact hK _ _ ⟨x14, x15, x16, x17, x18, x19, x20, _, x22, x23, x24, x25, rfl, ⟨h.e, h.f0, h.f1, h.f2, h.f3, h.f4, h.f5, h.f6, fun _ => rfl, h.f8, h.f9, h.f10, h.f11⟩⟩
        · have s_6 : S 6 = true := hall ⟨6, .data⟩ (by simp) rfl
          obtain rfl := h.f6 s_6
          have s_7 : S 7 = true := hall ⟨7, .data⟩ (by simp) rfl
          obtain rfl := h.f7 s_7
          go_simp
          exact hK _ _ ⟨x14, x15, x16, x17, x18, x19, _, _, _, x23, x24, x25, rfl, ⟨h.e, h.f0, h.f1, h.f2, h.f3, h.f4, h.f5, h.f6, h.f7, fun _ => by rw [← hsk], h.f9, h.f10, h.f11⟩⟩
        · have s_8 : S 8 = true := hall ⟨8, .data⟩ (by simp) rfl
          obtain rfl := h.f8 s_8
          go_simp
          exact hK _ _ ⟨x14, x15, x16, x17, x18, x19, x20, x21, _, _, x24, x25, rfl, ⟨h.e, h.f0, h.f1, h.f2, h.f3, h.f4, h.f5, h.f6, h.f7, h.f8, fun _ => rfl, h.f10, h.f11⟩⟩
        · have s_9 : S 9 = true := hall ⟨9, .data⟩ (by simp) rfl
          obtain rfl := h.f9 s_9
          go_simp
          exact hK _ _ ⟨x14, x15, x16, x17, x18, x19, x20, x21, x22, _, _, x25, rfl, ⟨h.e, h.f0, h.f1, h.f2, h.f3, h.f4, h.f5, h.f6, h.f7, h.f8, h.f9, fun _ => by rw [← hd2]; exact congrArg (Value.int .u8) (digs_at q hq2 _), h.f11⟩⟩
        · have s_5 : S 5 = true := hall ⟨5, .data⟩ (by simp) rfl
          obtain rfl := h.f5 s_5
          have s_10 : S 10 = true := hall ⟨10, .data⟩ (by simp) rfl
          obtain rfl := h.f10 s_10
          go_simp
          have h1 := h.grow ((Below.refl _ W).alloc (Nat.le_refl _) (.cells #[.int .u8 d1, .int .u8 d2] 5))
          exact hK _ _ ⟨x14, x15, x16, x17, x18, _, x20, x21, x22, x23, _, _, rfl, ⟨h1.e, h1.f0, h1.f1, h1.f2, h1.f3, h1.f4, h1.f5, h1.f6, h1.f7, h1.f8, h1.f9, h1.f10, fun _ => ⟨W.heap.size, rfl, h.e.size, by simp, two_new _ _ _ _⟩⟩⟩
      · rintro S aa W hall ⟨x14, x15, x16, x17, x18, x19, x20, x21, x22, x23, x24, x25, rfl, h⟩
        obtain rfl := h.f0 (hall 0 (by decide))
        obtain rfl := h.f1 (hall 1 (by decide))
        obtain rfl := h.f2 (hall 2 (by decide))
        obtain rfl := h.f3 (hall 3 (by decide))
        obtain rfl := h.f4 (hall 4 (by decide))
        obtain rfl := h.f5 (hall 5 (by decide))
        obtain rfl := h.f6 (hall 6 (by decide))
        obtain rfl := h.f7 (hall 7 (by decide))
        obtain rfl := h.f8 (hall 8 (by decide))
        obtain rfl := h.f9 (hall 9 (by decide))
        obtain rfl := h.f10 (hall 10 (by decide))
        obtain ⟨gg, rfl, hgg, hhg, hcg⟩ := h.f11 (hall 11 (by decide))
        have BWD := h.e
        clear h hall
        simp only [List.drop_succ_cons, List.drop_zero]
        have hbs2 := hbs.below BWD
        have hzW : z ≤ W.heap.size := Nat.le_trans hzw BWD.size
        have BW2 := belowStep BW hzw BWD
        clear hbs BW BWD
        obtain rfl := hnv.out
        go_wp2_with (at_builtin; refine wpList_append_room rfl _ _ 46 rfl 5 i0 Tryd.underlying46 hi0 hz1 z (2 * k) (2 * s.size) (fun j => .int .u8 (hexAt s j)) rfl hbs2 ⟨gg, 0, none⟩ 2 2 [.int .u8 d1, .int .u8 d2] rfl rfl hcg (by intro u hu; simp at hu; rcases hu with rfl | rfl <;> rfl) ?c3 (by omega) ?_)
        case c3 =>
          intro j u hj
          match j, hj with
          | 0, hj => cases hj; rw [Nat.add_zero, HD.out.1]
          | 1, hj => cases hj; rw [HD.out.2]
        · intro w3 hbs3 hgrow
          go_wp2
          go_roundg (gk - 1)
          case measure => omega
          case rel =>
            exact ⟨k + 1, by omega, rfl, BW2.grown hgrow hzW (fun b hb => by cases hb; exact Nat.le_refl _), Nat.le_trans hzW hgrow.size, (rfl : _ = _), hbs3⟩
    · have hk2 : k = s.size := by omega
      subst hk2
      clear hlt
      obtain rfl := hnv.out
      have hcv := run_convert_bytes_back (P := Tryd.prog) wr 46 9 5 ⟨z, 0, none⟩ (2 * s.size) (by8 (2 * s.size) (hexAt s)) Tryd.underlying46 Tryd.underlying5 Tryd.underlying9 (fun j hj => by
        have hj' : j < 2 * s.size := by rw [by8_len] at hj; exact hj
        rw [by8_at _ _ (hexAt_bd s), Addr.add_mid, Nat.zero_add]
        exact hbs.c j hj')
      rw [by8_len] at hcv
      clear hbs hnv
      go_wp2
      go_ret
      rw [HZ.out]
      exact ⟨rfl, BW⟩
end Go.Proofs.YtpaiopnhipdikaaDoor
