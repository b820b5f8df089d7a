/- Lemmas: Texts read from an item. A part read from an item, whichever it is. The parts of headers, of what a block did, of committees. -/
import Derived.Test.YtmefanagpkbjeaaDoorM1
import Derived.Test.YtmefanagpkbjeaaDoorM10
import Derived.Test.YtmefanagpkbjeaaDoorM11
import Derived.Test.YtmefanagpkbjeaaDoorM12
import Derived.Test.YtmefanagpkbjeaaDoorM13
import Derived.Test.YtmefanagpkbjeaaDoorM14
import Derived.Test.YtmefanagpkbjeaaDoorM15
import Derived.Test.YtmefanagpkbjeaaDoorM16
import Derived.Test.YtmefanagpkbjeaaDoorM17
import Derived.Test.YtmefanagpkbjeaaDoorM18
import Derived.Test.YtmefanagpkbjeaaDoorM19
import Derived.Test.YtmefanagpkbjeaaDoorM2
import Derived.Test.YtmefanagpkbjeaaDoorM20
import Derived.Test.YtmefanagpkbjeaaDoorM21
import Derived.Test.YtmefanagpkbjeaaDoorM22
import Derived.Test.YtmefanagpkbjeaaDoorM23
import Derived.Test.YtmefanagpkbjeaaDoorM24
import Derived.Test.YtmefanagpkbjeaaDoorM25
import Derived.Test.YtmefanagpkbjeaaDoorM26
import Derived.Test.YtmefanagpkbjeaaDoorM27
import Derived.Test.YtmefanagpkbjeaaDoorM28
import Derived.Test.YtmefanagpkbjeaaDoorM29
import Derived.Test.YtmefanagpkbjeaaDoorM3
import Derived.Test.YtmefanagpkbjeaaDoorM30
import Derived.Test.YtmefanagpkbjeaaDoorM31
import Derived.Test.YtmefanagpkbjeaaDoorM33
import Derived.Test.YtmefanagpkbjeaaDoorM4
import Derived.Test.YtmefanagpkbjeaaDoorM6
import Derived.Test.YtmefanagpkbjeaaDoorM7
import Derived.Test.YtmefanagpkbjeaaDoorM8
import Derived.Test.YtmefanagpkbjeaaDoorM9
import Derived.Test.YtmefanagpkbjeaaDoorRows
import Derived.Lib.AppendZeros
namespace Go.Proofs.YtmefanagpkbjeaaDoor
open Go.RowKit Go.Shelf Go.Sort

theorem info_str13 : (Tryd.prog.info? 9).map (fun i => (i.zero, i.size, i.bytes)) = some (some (.string ⟨#[]⟩), 1, 16) := by kernel_rfl
theorem zero_row (m n : Nat) (e : TypeId) : (Obj.cells (Builtin.zeroCells #[Value.string ⟨#[]⟩] n ++ Builtin.zeroCells #[Value.string ⟨#[]⟩] m) e) = .cells (Builtin.zeroCells #[Value.string ⟨#[]⟩] n ++ Builtin.zeroCells #[Value.string ⟨#[]⟩] m) e (0, 0) := rfl
theorem zero_size (n : Nat) : (Builtin.zeroCells #[Value.string ⟨#[]⟩] n).size = n := by simp [Builtin.zeroCells]
/-- append(nil, make(.., n)...): none, or a new row. -/
theorem run_zeros (n : Nat) (hn : n < 1000000000000) (ty : TypeId) (W : World) : ∃ v W', (Builtin.append_ #[27, 3] ty #[.slice none 0 0, .int .i64 n]).run Tryd.prog W = .ok v W' ∧ Below W.heap.size W W' ∧
    ((n = 0 ∧ v = .slice none 0 0) ∨ ∃ g c Z, v = .slice (some ⟨g, 0, none⟩) n c ∧ W.heap.size ≤ g ∧ g < W'.heap.size ∧ Ld g 9 Z W' ∧ n ≤ Z) := by
  obtain ⟨i0, hi0, hz0, hz1, hz2⟩ := info_parts info_str13
  by_cases h0 : n = 0
  · subst h0
    refine ⟨.slice none 0 0, W, ?_, Below.refl _ _, .inl ⟨rfl, rfl⟩⟩
    have hw : IntKind.i64.wrap ((0 : Nat) : Int) = 0 := by rw [IntKind.wrap_i64]; omega
    simp [Builtin.append_, run_underlying Tryd.underlying27, run_underlying Tryd.underlying3, sizeOf, typeInfo, zeroValue, hi0, hz0, hz2, asInt, asIntOf, IntKind.wrap_i64]
  · have h := Lib.run_append_nil_zeros (P := Tryd.prog) W 27 3 ty 9 i0 _ .i64 .i64 Tryd.underlying27 Tryd.underlying3 hi0 hz0 n (by omega) (by rw [hz1]; decide) (by omega) (by rw [hz2]; omega)
    refine ⟨_, _, h, ?_, .inr ⟨_, _, _, rfl, Nat.le_refl _, by simp, ⟨_, World.alloc_heap_new W.drew _, rfl⟩, ?_⟩⟩
    · exact ((Below.refl _ W).drew).alloc (Nat.le_refl _) _
    · show n ≤ (Builtin.zeroCells #[Value.string ⟨#[]⟩] n ++ Builtin.zeroCells #[Value.string ⟨#[]⟩] _).size
      rw [Array.size_append, zero_size]
      omega
theorem step_app6 {P : Program} {w : World} {o : Oper} {a : Act} {K : Act → World → Prop} {Q : Exit → Act → World → Prop} {ys : Nat → Option Bool} (hgd : o.guard = none) (sl x : Operand) (t u : TypeId)
    (ho : o.op = .call { callee := .builtin .append, args := #[sl, x], argTypes := #[t, u] }) (v y v' : Value) (w' : World) (hs : a.eval sl = v) (hx : a.eval x = y)
    (hr : (Builtin.append_ #[t, u] o.type #[v, y]).run P w = .ok v' w') (h : K (a.put o.dst v') w') : if Region.wanted o ys then o.wp P a w K Q else K (a.put o.dst undef) w := by
  rw [if_pos (by simp [Region.wanted, hgd])]
  unfold Oper.wp execOp
  simp only [ho, resolve, invoke, builtin, Sem.run_bind, Sem.run_pure, Result.andThen_ok, List.map_toArray, List.map_cons, List.map_nil, hs, hx, hr]
  exact h
theorem rdL_snoc : ∀ (ps : List Pt) (xs : List It) (p : Pt) (y : It), xs.length = ps.length → rdL (ps ++ [p]) (xs ++ [y]) = (rdL ps xs && rdS p y)
  | [], [], p, y, _ => by
    show (rdS p y && true) = (true && rdS p y)
    rw [Bool.and_true, Bool.true_and]
  | [], _ :: _, _, _, h => by cases h
  | _ :: _, [], _, _, h => by cases h
  | q :: r, z :: s, p, y, h => by
    show (rdS q z && rdL (r ++ [p]) (s ++ [y])) = ((rdS q z && rdL r s) && rdS p y)
    rw [rdL_snoc r s p y (by simpa using h), Bool.and_assoc]
theorem rdL_txP (b o : Nat) : ∀ (k : Nat) (xs : List It), k ≤ xs.length → rdL (txP b o k) (xs.take k) = (xs.take k).all (fun y => !lI y)
  | 0, xs, _ => by
    rw [List.take_zero]
    rfl
  | k + 1, xs, h => by
    obtain ⟨y, hy⟩ : ∃ y, xs[k]? = some y := ⟨xs[k]'(by omega), List.getElem?_eq_getElem (by omega)⟩
    rw [List.take_add_one, hy]
    show rdL (txP b o k ++ [.txt ⟨b, o + k, none⟩]) (xs.take k ++ [y]) = _
    rw [rdL_snoc _ _ _ _ (by rw [txP_len, List.length_take]; omega), rdL_txP b o k xs (by omega)]
    simp [rdS]
theorem txP_get (b o : Nat) : ∀ k j, j < k → (txP b o k)[j]? = some (.txt ⟨b, o + j, none⟩)
  | 0, j, h => by omega
  | k + 1, j, h => by
    show (txP b o k ++ [.txt ⟨b, o + k, none⟩])[j]? = _
    by_cases hj : j < k
    · rw [List.getElem?_append_left (by rw [txP_len]; exact hj)]
      exact txP_get b o k j hj
    · obtain rfl : j = k := by omega
      rw [List.getElem?_append_right (by rw [txP_len]; omega), txP_len, Nat.sub_self]
      rfl
theorem txP_dt {P : Nat → Prop} {W : World} {b o k : Nat} {xs : List It} (h : dtAll P W (txP b o k) xs) : xs = (xs.map tOf).map tI ∧ ∀ j t, (xs.map tOf)[j]? = some t → W.cell? ⟨b, o + j, none⟩ = some (.string t) := by
  have hl := dt_len _ _ h
  rw [txP_len] at hl
  have key : ∀ j x, xs[j]? = some x → ∃ t, x = tI t ∧ W.cell? ⟨b, o + j, none⟩ = some (.string t) := fun j x hx => by
    have hj := (List.getElem?_eq_some_iff.1 hx).1
    obtain ⟨y, hy, hd⟩ := dt_at _ _ h j _ (txP_get b o k j (by omega))
    rw [hx] at hy
    cases hy
    obtain ⟨t, h1, h2⟩ := hd
    exact ⟨t, h2, h1⟩
  refine ⟨?_, fun j t ht => ?_⟩
  · rw [List.map_map]
    refine List.ext_getElem? fun j => ?_
    rw [List.getElem?_map]
    cases hx : xs[j]? with
    | none => rfl
    | some x =>
      obtain ⟨t, rfl, _⟩ := key j x hx
      rfl
  · rw [List.getElem?_map] at ht
    cases hx : xs[j]? with
    | none => rw [hx] at ht; cases ht
    | some x =>
      rw [hx] at ht
      obtain ⟨t', rfl, hc⟩ := key j x hx
      cases ht
      exact hc
theorem rgIs_im : ∀ (xs : List Im), rgIs (ers xs) = true → ∀ (j : Nat) (y : Im), xs[j]? = some y → rgI (er y) = true := fun xs h j y hy => rgIs_mem (ers xs) (er y) h (by rw [ers_map]; exact List.mem_map.2 ⟨y, List.mem_of_getElem? hy, rfl⟩)
/-- What each answers. -/
def EaR (L B : Nat) (sa : Option Addr) (X : Value) (W : World) : Prop := ∃ a, X = .slice a L L ∧ ∃ ps, (L = 0 ∧ ps = [] ∨ ∃ b p, sa = some ⟨b, p, none⟩ ∧ ps = txP b p L) ∧ skRow (fun b => B ≤ b ∧ b < W.heap.size) W a 0 ps
theorem EaR.grow {L B : Nat} {sa : Option Addr} {X : Value} {W W' : World} (h : EaR L B sa X W) (hb : Below W.heap.size W W') : EaR L B sa X W' := by
  obtain ⟨a, h1, ps, h2, h3⟩ := h
  exact ⟨a, h1, ps, h2, skRow_of (fun b k => ⟨⟨k.1, Nat.lt_of_lt_of_le k.2 hb.size⟩, fun j => hb.cell (p := ⟨b, j, none⟩) k.2⟩) _ _ _ h3⟩
/-- None, or a new row of so many texts. -/
def ZsR (L B : Nat) (X : Value) (W : World) : Prop := (L = 0 ∧ X = .slice none 0 0) ∨ ∃ g c Z, X = .slice (some ⟨g, 0, none⟩) L c ∧ B ≤ g ∧ g < W.heap.size ∧ Ld g 9 Z W ∧ L ≤ Z
theorem ZsR.grow {L B : Nat} {X : Value} {W W' : World} (h : ZsR L B X W) (hb : Below W.heap.size W W') : ZsR L B X W' := by
  rcases h with h | ⟨g, c, Z, h1, h2, h3, h4, h5⟩
  · exact .inl h
  · exact .inr ⟨g, c, Z, h1, h2, Nat.lt_of_lt_of_le h3 hb.size, h4.below hb, h5⟩
/-- What holds while a statement runs. -/
structure TrK (V : World) (p q o L xc : Nat) (xa : Option Addr) (S : Nat → Bool) (x5 x6 x7 x8 x9 x10 x11 : Value) (W : World) : Prop where
  e : Below V.heap.size V W
  f0 : S 0 = true → x5 = Value.pointer (some ⟨p, 0, none⟩)
  f1 : S 1 = true → x6 = Value.pointer (some ⟨q, o, none⟩)
  f2 : S 2 = true → x7 = Value.pointer (some ⟨p + 1, 2, none⟩)
  f3 : S 3 = true → x8 = Value.slice xa L xc
  f4 : S 4 = true → x9 = Value.int .i64 (L : Int)
  f5 : S 5 = true → ZsR L V.heap.size x10 W
  f6 : S 6 = true → x11 = Value.pointer (some ⟨q, o, none⟩)
theorem TrK.grow {V : World} {p q o L xc : Nat} {xa : Option Addr} {S : Nat → Bool} {x5 x6 x7 x8 x9 x10 x11 : Value} {W W' : World} (h : TrK V p q o L xc xa S x5 x6 x7 x8 x9 x10 x11 W) (hb : Below W.heap.size W W') : TrK V p q o L xc xa S x5 x6 x7 x8 x9 x10 x11 W' :=
  ⟨belowStep h.e h.e.size hb, h.f0, h.f1, h.f2, h.f3, h.f4, fun s => ZsR.grow (h.f5 s) hb, h.f6⟩
/-- What holds while a statement runs. -/
structure TrL (V2 : World) (p q o L xc : Nat) (xa sa : Option Addr) (l : Bool) (t : ByteArray) (S : Nat → Bool) (x12 x13 x14 : Value) (W : World) : Prop where
  e : Below V2.heap.size V2 W
  f0 : S 0 = true → x12 = Value.agg #[.pointer (some ⟨q, o, none⟩)]
  f1 : S 1 = true → EaR L V2.heap.size sa x13 W
  f2 : S 2 = true → x14 = Value.agg #[.bool l, .string t, .slice xa L xc]
theorem TrL.grow {V2 : World} {p q o L xc : Nat} {xa sa : Option Addr} {l : Bool} {t : ByteArray} {S : Nat → Bool} {x12 x13 x14 : Value} {W W' : World} (h : TrL V2 p q o L xc xa sa l t S x12 x13 x14 W) (hb : Below W.heap.size W W') : TrL V2 p q o L xc xa sa l t S x12 x13 x14 W' :=
  ⟨belowStep h.e h.e.size hb, h.f0, fun s => EaR.grow (h.f1 s) hb, h.f2⟩
set_option maxRecDepth 100000 in
set_option maxHeartbeats 4000000 in
theorem txs_read (q o N : Nat) (ty : TypeId) (ho : o < N) (X : Im) (hlen : X.xs.length < 100000000) (hr : rgI (er X) = true) : RdC q ty N (.txs ⟨q, o, none⟩) X := by
  intro w hq _ hX
  obtain ⟨l, t, xa, xc, xs⟩ := X
  show Calls Tryd.prog 167 #[.agg #[.pointer (some ⟨q, o, none⟩)], .agg #[.bool l, .string t, .slice xa xs.length xc]] w _
  replace hlen : xs.length < 100000000 := hlen
  obtain ⟨L, hL⟩ : ∃ L, xs.length = L := ⟨_, rfl⟩
  have HL : Hid (xs.length = L) := hL
  rw [hL] at hlen ⊢
  obtain ⟨p, hp⟩ : ∃ p, w.heap.size = p := ⟨_, rfl⟩
  have HP : Hid (w.heap.size = p) := hp
  obtain ⟨A1, hb0, hb1⟩ := two_boxes w (.cells #[.pointer (some ⟨q, o, none⟩)] 143) (.cells #[.bool l, .string t, .slice xa L xc] 70)
  obtain ⟨w1, hw1⟩ : ∃ W, (w.alloc (.cells #[.pointer (some ⟨q, o, none⟩)] 143)).alloc (.cells #[.bool l, .string t, .slice xa L xc] 70) = W := ⟨_, rfl⟩
  have hsz1 : w1.heap.size = p + 2 := by rw [← hw1, ← hp]; simp
  rw [hw1] at A1 hb0 hb1
  rw [hp] at A1 hb0 hb1
  go_enter Tryd.func167, Tryd.ntmps167
  go_wp2_with fail
  have c0 : w1.cell? ⟨p, 0, none⟩ = some (.pointer (some ⟨q, o, none⟩)) := by rw [Lib.cell_of_heap hb0]; rfl
  have c1 : w1.cell? ⟨p + 1, 2, none⟩ = some (.slice xa L xc) := by rw [Lib.cell_of_heap hb1]; rfl
  have hp0 : p < w1.heap.size := by omega
  have hp1 : p + 1 < w1.heap.size := by omega
  clear hw1 hp
  refine region_inv_tail 7 (fun S aa W => ∃ x5 x6 x7 x8 x9 x10 x11 : Value, aa = { tmps := #[Value.agg #[Value.pointer (some { block := q, off := o })], Value.agg #[Value.bool l, Value.string t, Value.slice xa L xc], Value.pointer (some { block := p, off := 0 }), Value.pointer (some { block := p + 1, off := 0 }), Value.bool false, x5, x6, x7, x8, x9, x10, x11, undef, undef, undef, undef], defers := [] } ∧ TrK w1 p q o L xc xa S x5 x6 x7 x8 x9 x10 x11 W) (by kernel_rfl) (by kernel_rfl) ?_ ?_ ?_
  · exact ⟨undef, undef, undef, undef, undef, undef, undef, rfl, ⟨(Below.refl _ w1).drew, nofun, nofun, nofun, nofun, nofun, nofun, nofun⟩⟩
  · intro i o S aa W hin hi hun hJ hall K hK
    obtain ⟨x5, x6, x7, x8, x9, x10, x11, rfl, h⟩ := hJ
    have hlt : i < 7 := hin
    have hcase : i = 0 ∨ i = 1 ∨ i = 2 ∨ i = 3 ∨ i = 4 ∨ i = 5 ∨ i = 6 := by omega
    rcases hcase with rfl | rfl | rfl | rfl | rfl | rfl | rfl
    all_goals (have ho := (Option.some.inj hi).symm; subst ho; clear hi hlt hin)
    · go_simp
      exact hK _ _ ⟨_, x6, x7, x8, x9, x10, x11, rfl, ⟨h.e, fun _ => rfl, h.f1, h.f2, h.f3, h.f4, h.f5, h.f6⟩⟩
    · have s_0 : S 0 = true := hall ⟨0, .data⟩ (by simp) rfl
      obtain rfl := h.f0 s_0
      have cW := (h.e.cell (p := ⟨p, 0, none⟩) hp0).trans c0
      go_simp
      exact hK _ _ ⟨_, _, x7, x8, x9, x10, x11, rfl, ⟨h.e, h.f0, fun _ => rfl, h.f2, h.f3, h.f4, h.f5, h.f6⟩⟩
    · go_simp
      exact hK _ _ ⟨x5, x6, _, x8, x9, x10, x11, rfl, ⟨h.e, h.f0, h.f1, fun _ => rfl, h.f3, h.f4, h.f5, h.f6⟩⟩
    · have s_2 : S 2 = true := hall ⟨2, .data⟩ (by simp) rfl
      obtain rfl := h.f2 s_2
      have cW := (h.e.cell (p := ⟨p + 1, 2, none⟩) hp1).trans c1
      go_simp
      exact hK _ _ ⟨x5, x6, _, _, x9, x10, x11, rfl, ⟨h.e, h.f0, h.f1, h.f2, fun _ => rfl, h.f4, h.f5, h.f6⟩⟩
    · have s_3 : S 3 = true := hall ⟨3, .data⟩ (by simp) rfl
      obtain rfl := h.f3 s_3
      go_simp
      exact hK _ _ ⟨x5, x6, x7, _, _, x10, x11, rfl, ⟨h.e, h.f0, h.f1, h.f2, h.f3, fun _ => rfl, h.f5, h.f6⟩⟩
    · have s_4 : S 4 = true := hall ⟨4, .data⟩ (by simp) rfl
      obtain rfl := h.f4 s_4
      obtain ⟨v5, w5, hr5, hb5, hz5⟩ := run_zeros L (by omega) 27 W
      refine step_app6 rfl _ _ 27 3 rfl _ _ _ _ rfl rfl hr5 ?_
      have h1 := h.grow hb5
      exact hK _ _ ⟨x5, x6, x7, x8, _, _, x11, rfl, ⟨h1.e, h1.f0, h1.f1, h1.f2, h1.f3, h1.f4, fun _ => (by rcases hz5 with hz5 | ⟨g, c, Z, k1, k2, k3, k4, k5⟩; exact .inl hz5; exact .inr ⟨g, c, Z, k1, Nat.le_trans h.e.size k2, k3, k4, k5⟩), h1.f6⟩⟩
    · have s_1 : S 1 = true := hall ⟨1, .data⟩ (by simp) rfl
      obtain rfl := h.f1 s_1
      go_simp
      exact hK _ _ ⟨x5, _, x7, x8, x9, x10, _, rfl, ⟨h.e, h.f0, h.f1, h.f2, h.f3, h.f4, h.f5, fun _ => rfl⟩⟩
  · rintro S aa W hall ⟨x5, x6, x7, x8, x9, x10, x11, rfl, h⟩
    obtain rfl := h.f0 (hall 0 (by decide))
    obtain rfl := h.f1 (hall 1 (by decide))
    obtain rfl := h.f2 (hall 2 (by decide))
    obtain rfl := h.f3 (hall 3 (by decide))
    obtain rfl := h.f4 (hall 4 (by decide))
    obtain hzs := h.f5 (hall 5 (by decide))
    obtain rfl := h.f6 (hall 6 (by decide))
    have BWD := h.e
    clear h hall
    simp only [List.drop_succ_cons, List.drop_zero]
    obtain ⟨sa, sc, rfl⟩ : ∃ sa sc, x10 = .slice sa L sc := by
      rcases hzs with ⟨h1, h2⟩ | ⟨g, c, Z, h1, _⟩
      · exact ⟨none, 0, by rw [h2, h1]⟩
      · exact ⟨_, _, h1⟩
    have BW : Below p w W := A1.trans (BWD.mono (by omega))
    have hzW := BWD.size
    have hqp : q < p := by rw [← HP.out]; exact hq.lt
    have hqW := hq.kept (BW.block q hqp)
    obtain ⟨u0, hu0⟩ := hqW.has ho
    have fq := hqW.fr o
    have hbW0 := (BWD.block p (by omega)).trans hb0
    have hbW1 := (BWD.block (p + 1) (by omega)).trans hb1
    have HX : Hid (_ ∧ _ ∧ _ ∧ _ ∧ _) := ⟨BW, hqW, hbW0, hbW1, hzs⟩
    clear BW hqW hbW0 hbW1 hzs c0 c1 BWD A1 hb0 hb1
    go_wp2_with fail
    obtain ⟨BW, hqW, hbW0, hbW1, hzs⟩ := HX.out
    have e0 := hqW.set ⟨q, o, none⟩ (.slice sa L sc)
    have e1 : (W.setCell ⟨q, o, none⟩ (.slice sa L sc)).cell? ⟨q, o, none⟩ = some (.slice sa L sc) := World.cell?_setCell_same _ _ _ hu0
    have e2 : (W.setCell ⟨q, o, none⟩ (.slice sa L sc)).heap[p]? = _ := (Below.heap_setCell _ _ _ _ (by show p ≠ q; omega)).trans hbW0
    have e3 : (W.setCell ⟨q, o, none⟩ (.slice sa L sc)).heap[p + 1]? = _ := (Below.heap_setCell _ _ _ _ (by show p + 1 ≠ q; omega)).trans hbW1
    have e4 : Kq q w (W.setCell ⟨q, o, none⟩ (.slice sa L sc)) := (Kq.below (by rw [HP.out]; exact BW)).trans (Kq.put W q o _)
    have e5 : ∀ k, k ≠ o → (W.setCell ⟨q, o, none⟩ (.slice sa L sc)).cell? ⟨q, k, none⟩ = w.cell? ⟨q, k, none⟩ := fun k hk => (World.cell?_setCell_other _ _ _ _ (fun e => hk (by injection e with _ e; exact e.symm))).trans (BW.cell (p := ⟨q, k, none⟩) hqp)
    have e6 : ZsR L (p + 2) (.slice sa L sc) (W.setCell ⟨q, o, none⟩ (.slice sa L sc)) := by
      rcases hzs with h | ⟨g, c, Z, h1, h2, h3, h4, h5⟩
      · exact .inl h
      · exact .inr ⟨g, c, Z, h1, by omega, by simpa [World.setCell] using h3, h4.set _ _, h5⟩
    have e7 : (W.setCell ⟨q, o, none⟩ (.slice sa L sc)).heap.size = W.heap.size := by simp [World.setCell]
    obtain ⟨w2, hw2⟩ : ∃ V2, W.setCell ⟨q, o, none⟩ (.slice sa L sc) = V2 := ⟨_, rfl⟩
    rw [hw2] at e0 e1 e2 e3 e4 e5 e6 e7
    first | rw [hw2] | skip
    have hz2 : p + 2 ≤ w2.heap.size := by omega
    have HY : Hid (_ ∧ _ ∧ _ ∧ _) := ⟨e0, e4, e5, e6⟩
    clear hw2 BW hqW hbW0 hbW1 hzs e0 e4 e5 HX hu0 fq u0 e7
    have c0 : w2.cell? ⟨p, 0, none⟩ = some (.pointer (some ⟨q, o, none⟩)) := by rw [Lib.cell_of_heap e2]; rfl
    have c1 : w2.cell? ⟨p + 1, 0, none⟩ = some (.bool l) := by rw [Lib.cell_of_heap e3]; rfl
    have c2 : w2.cell? ⟨p + 1, 1, none⟩ = some (.string t) := by rw [Lib.cell_of_heap e3]; rfl
    have c3 : w2.cell? ⟨p + 1, 2, none⟩ = some (.slice xa L xc) := by rw [Lib.cell_of_heap e3]; rfl
    clear e2 e3
    have HS : Hid (L = 0 ∨ ∃ b p, sa = some ⟨b, p, none⟩) := by
      rcases e6 with ⟨h1, _⟩ | ⟨g, c, Z, h1, _⟩
      · exact .inl h1
      · injection h1 with h1
        exact .inr ⟨g, 0, h1⟩
    clear e6
    refine region_inv_tail 3 (fun S aa W => ∃ x12 x13 x14 : Value, aa = { tmps := #[Value.agg #[Value.pointer (some { block := q, off := o })], Value.agg #[Value.bool l, Value.string t, Value.slice xa L xc], Value.pointer (some { block := p, off := 0 }), Value.pointer (some { block := p + 1, off := 0 }), Value.bool false, Value.pointer (some { block := p, off := 0 }), Value.pointer (some { block := q, off := o }), Value.pointer (some { block := p + 1, off := 2 }), Value.slice xa L xc, Value.int IntKind.i64 ↑L, Value.slice sa L sc, Value.pointer (some { block := q, off := o }), x12, x13, x14, undef], defers := [] } ∧ TrL w2 p q o L xc xa sa l t S x12 x13 x14 W) (by kernel_rfl) (by kernel_rfl) ?_ ?_ ?_
    · exact ⟨undef, undef, undef, rfl, ⟨(Below.refl _ w2).drew, nofun, nofun, nofun⟩⟩
    · intro i o S aa W hin hi hun hJ hall K hK
      obtain ⟨x12, x13, x14, rfl, h⟩ := hJ
      have hlt : i < 3 := hin
      have hcase : i = 0 ∨ i = 1 ∨ i = 2 := by omega
      rcases hcase with rfl | rfl | rfl
      all_goals (have ho := (Option.some.inj hi).symm; subst ho; clear hi hlt hin)
      · have cW := (h.e.cell (p := ⟨p, 0, none⟩) (by show p < _; omega)).trans c0
        go_simp
        exact hK _ _ ⟨_, x13, x14, rfl, ⟨h.e, fun _ => rfl, h.f1, h.f2⟩⟩
      · have s_0 : S 0 = true := hall ⟨0, .data⟩ (by simp) rfl
        obtain rfl := h.f0 s_0
        go_simp
        refine (each_any q o sa L sc (by omega) HS.out W (by have := h.e.size; omega) ((h.e.cell (p := ⟨q, o, none⟩) (by show q < _; omega)).trans e1)).mono ?_
        rintro e w5 ⟨a5, rfl, ps5, k1, k2, hb5⟩
        have h1 := h.grow hb5
        exact hK _ _ ⟨_, _, x14, rfl, ⟨h1.e, h1.f0, fun _ => ⟨a5, rfl, ps5, k1, skRow_of (fun b hb => ⟨⟨Nat.le_trans h.e.size hb.1, hb.2⟩, fun _ => rfl⟩) _ _ _ k2⟩, h1.f2⟩⟩
      · have cW := (h.e.cell (p := ⟨p + 1, 0, none⟩) (by show p + 1 < _; omega)).trans c1
        have cW1 := (h.e.cell (p := ⟨p + 1, 1, none⟩) (by show p + 1 < _; omega)).trans c2
        have cW2 := (h.e.cell (p := ⟨p + 1, 2, none⟩) (by show p + 1 < _; omega)).trans c3
        go_simp
        exact hK _ _ ⟨x12, x13, _, rfl, ⟨h.e, h.f0, h.f1, fun _ => rfl⟩⟩
    · rintro S aa W hall ⟨x12, x13, x14, rfl, h⟩
      obtain rfl := h.f0 (hall 0 (by decide))
      obtain hea := h.f1 (hall 1 (by decide))
      obtain rfl := h.f2 (hall 2 (by decide))
      have BWD := h.e
      clear h hall
      simp only [List.drop_succ_cons, List.drop_zero]
      obtain ⟨a5, rfl, ps5, hps, hsk⟩ := hea
      obtain ⟨q0, k4, k5, k6⟩ := HY.out
      have hz5 := BWD.size
      have hpw : w.heap.size = p := HP.out
      have hP5 : ∀ b, b < w.heap.size ∧ b ≠ q → (b < W.heap.size ∧ b ≠ q) ∧ ∀ j, W.cell? ⟨b, j, none⟩ = w.cell? ⟨b, j, none⟩ := fun b hb => ⟨⟨by omega, hb.2⟩, fun j => (BWD.cell (p := ⟨b, j, none⟩) (by show b < _; omega)).trans (k4.cell hb.1 hb.2 j)⟩
      have hl5 : ps5.length = L := by
        rcases hps with ⟨h, rfl⟩ | ⟨b, p', _, rfl⟩
        · exact h.symm
        · exact txP_len _ _ _
      have hers : (ers xs).length = L := by rw [ers_map, List.length_map, HL.out]
      have hrs : l = true → rgIs (ers xs) = true := fun hl => (rgI_lst hr (by rw [← hl]; rfl)).2
      have hrn : l = false → L = 0 := fun hl => by
        have := rgI_txt hr (by rw [← hl]; rfl)
        have h2 := congrArg xsOf this
        have h3 : ers xs = [] := h2
        rw [← hers, h3]
        rfl
      have hgo : ∀ (q' : Nat) (ty' : TypeId) (Z : Nat), Ld q' ty' Z W → (∀ a, a ∈ lvPL ps5 → ∃ k, k < Z ∧ a = ⟨q', k, none⟩) → (lvPL ps5).Nodup → (L = 0 ∨ w.heap.size ≤ q') → (L = 0 → q' = q) → (∀ b, w2.heap.size ≤ b → b ≠ q') → _ := fun q' ty' Z hq' hlv hnd hqq hq0 hnew => lstRead_of q' ty' Z a5 L ps5 (.mk l t xa xc xs) (by show xs.length < _; rw [HL.out]; omega) hlv hnd hr
        (fun j pk y hpk hy => by
          have hj : j < L := by rw [← hl5]; exact (List.getElem?_eq_some_iff.1 hpk).1
          rcases hps with ⟨h, rfl⟩ | ⟨b, p', _, rfl⟩
          · cases hpk
          · obtain ⟨_, rfl⟩ := txP_at _ _ _ _ _ hpk
            obtain ⟨k, hk, e⟩ := hlv _ (lv_at _ _ _ hpk _ (List.mem_singleton.2 rfl))
            injection e with e e'
            subst e e'
            refine txt_read b (p' + j) Z ty' hk y (rgIs_im xs (hrs ?_) j y hy)
            cases hl : l with
            | true => rfl
            | false => have := hrn hl; omega)
        W hq' (skRow_of (fun b hb => ⟨⟨hb.2, hnew b hb.1⟩, fun _ => rfl⟩) _ _ _ hsk)
        (inP_of (fun b hb => ⟨⟨(hP5 b hb).1.1, by rcases hqq with h | h; (rw [hq0 h]; exact hb.2); omega⟩, (hP5 b hb).2⟩) _ hX)
      have e1W := (BWD.cell (p := ⟨q, o, none⟩) (by show q < _; omega)).trans e1
      have q0W := q0.below BWD
      have hce : ∀ k, k ≠ o → W.cell? ⟨q, k, none⟩ = w.cell? ⟨q, k, none⟩ := fun k hk => (BWD.cell (p := ⟨q, k, none⟩) (by show q < _; omega)).trans (k5 k hk)
      have hKW : Kq q w W := k4.trans (Kq.below BWD)
      have hrd : rdS (.txs ⟨q, o, none⟩) (er (.mk l t xa xc xs)) = (l && (ers xs).all (fun y => !lI y)) := rfl
      have hxl : l = true → er (.mk l t xa xc xs) = .mk true ⟨#[]⟩ (ers xs) := fun hl => (rgI_lst hr (by rw [← hl]; rfl)).1
      by_cases hL0 : L = 0
      · have hp0' : ps5 = [] := List.length_eq_zero_iff.1 (by omega)
        have hx0 : ers xs = [] := List.length_eq_zero_iff.1 (by omega)
        have KL := hgo q ty N q0W (by rw [hp0']; intro a ha; cases ha) (by rw [hp0']; exact List.nodup_nil) (.inl hL0) (fun _ => rfl) (fun b hb => by omega)
        subst hp0'
        rw [hx0] at hrd hxl
        simp only [Im.val, Im.l, Im.t, Im.sl, Im.a, Im.xs, Im.c, hx0] at KL
        rw [HL.out, List.length_nil] at KL
        have HZ : Hid (_ ∧ _ ∧ _ ∧ _ ∧ _) := ⟨hce, hKW, hrd, hxl, e1W⟩
        clear hgo hce hKW hrd hxl e1W hP5 hpw k4 k5 k6 q0 BWD HY c0 c1 c2 c3 e1
        obtain rfl := hL0
        go_wp2_with fail
        refine KL.mono ?_
        rintro e w9 ⟨rfl, hk9, hd9⟩
        go_wp2
        go_ret
        obtain ⟨hce, hKW, hrd, hxl, e1W⟩ := HZ.out
        have hno : ∀ k, (⟨q, k, none⟩ : Addr) ∉ lvPL [] := fun k h => by cases h
        refine ⟨by rw [hrd]; rfl, ⟨hKW.trans hk9.k, hk9.d, fun k hk => (hk9.c k (hno k)).trans (hce k (fun e => hk (by rw [e]; exact List.mem_singleton.2 rfl)))⟩, fun ht => ?_⟩
        rw [hrd, Bool.and_eq_true] at ht
        exact ⟨sa, sc, [], (hk9.c o (hno o)).trans e1W, .inl rfl, hxl ht.1⟩
      · rcases k6 with ⟨h, _⟩ | ⟨g, c9, Z, h1, h2, h3, h4, h5⟩
        · exact absurd h hL0
        injection h1 with h1 _ h1'
        subst h1 h1'
        have hps' : ps5 = txP g 0 L := by
          rcases hps with ⟨h, _⟩ | ⟨b, p', h, h'⟩
          · exact absurd h hL0
          · injection h with h
            injection h with h hh
            rw [h', h, hh]
        subst hps'
        have KL := hgo g 9 Z (h4.below BWD) (fun a ha => by obtain ⟨j, hj, rfl⟩ := txP_lv _ _ _ a ha; exact ⟨0 + j, by omega, rfl⟩) (txP_nodup _ _ _) (.inr (by omega)) (fun h => absurd h hL0) (fun b hb => by omega)
        have hqg : q ≠ g := by omega
        have hrL : rdL (txP g 0 L) (ers xs) = (ers xs).all (fun y => !lI y) := by
          have := rdL_txP g 0 L (ers xs) (by omega)
          rwa [List.take_of_length_le (by omega)] at this
        simp only [Im.val, Im.l, Im.t, Im.sl, Im.a, Im.xs, Im.c] at KL
        rw [HL.out, hrL, txP_len] at KL
        obtain ⟨rb, hrb⟩ : ∃ b, (l && (ers xs).all (fun y => !lI y)) = b := ⟨_, rfl⟩
        rw [hrb] at KL hrd
        have hl1 : rb = true → l = true := fun h => by rw [h, Bool.and_eq_true] at hrb; exact hrb.1
        have HZ : Hid (_ ∧ _ ∧ _ ∧ _ ∧ _ ∧ _ ∧ _ ∧ _) := ⟨hce, hKW, hrd, hxl, e1W, q0W, hl1, hers⟩
        have hgz : w.heap.size ≤ g ∧ g < W.heap.size ∧ q < W.heap.size := by omega
        have HG : Hid _ := hgz
        clear hgo hce hKW hrd hxl e1W hP5 hpw k4 k5 q0 BWD HY c0 c1 c2 c3 e1 q0W h4 hrb hl1 hers hgz
        go_wp2_with fail
        refine KL.mono ?_
        rintro e w9 ⟨rfl, hk9, hd9⟩
        go_wp2
        go_ret
        obtain ⟨hce, hKW, hrd, hxl, e1W, q0W, hl1, hers⟩ := HZ.out
        obtain ⟨g1, g2, g3⟩ := HG.out
        refine ⟨by rw [hrd]; rfl, ⟨hKW.up hk9.k g1, q0W.kept (hk9.k.at g3 hqg), fun k hk => (hk9.k.cell g3 hqg k).trans (hce k (fun e => hk (by rw [e]; exact List.mem_singleton.2 rfl)))⟩, fun ht => ?_⟩
        rw [hrd] at ht
        obtain ⟨m1, m2⟩ := txP_dt (hd9 ht)
        have hml : ((ers xs).map tOf).length = L := by rw [List.length_map, hers]
        refine ⟨_, sc, (ers xs).map tOf, ?_, .inr ⟨g, 0, rfl, ⟨g1, Nat.lt_of_lt_of_le g2 hk9.k.size⟩, m2⟩, ?_⟩
        · rw [hml]
          exact (hk9.k.cell g3 hqg o).trans e1W
        · rw [← m1]
          exact hxl (hl1 ht)
end Go.Proofs.YtmefanagpkbjeaaDoor
namespace Go.Proofs.YtmefanagpkbjeaaDoor
open Go.RowKit Go.Shelf Go.Sort

theorem er_xs (X : Im) : xsOf (er X) = ers X.xs := by cases X; rfl
theorem er_l (X : Im) : lI (er X) = X.l := by cases X; rfl
/-- Whatever the part: reading it. -/
theorem read_all (q : Nat) (ty : TypeId) (N : Nat) : ∀ (M : Nat) (p : Pt), SizeOf.sizeOf p ≤ M → (∀ a, a ∈ lvP p → ∃ k, k < N ∧ a = ⟨q, k, none⟩) → (lvP p).Nodup → ∀ X : Im, rgI (er X) = true → cnt X < 100000000 → RdC q ty N p X
  | _, .num a, _, hl, _, X, hr, _ => by
    obtain ⟨k, hk, rfl⟩ := hl a (List.mem_singleton.2 rfl)
    exact num_read q k N ty hk X hr
  | _, .txt a, _, hl, _, X, hr, _ => by
    obtain ⟨k, hk, rfl⟩ := hl a (List.mem_singleton.2 rfl)
    exact txt_read q k N ty hk X hr
  | _, .txs a, _, hl, _, X, hr, hc => by
    obtain ⟨k, hk, rfl⟩ := hl a (List.mem_singleton.2 rfl)
    have h1 := len_cnts X.xs
    rw [cnt_eq] at hc
    exact txs_read q k N ty hk X (by omega) hr
  | 0, .lst a c ps, h, _, _, _, _, _ => by simp at h
  | M + 1, .lst a c ps, h, hl, hn, X, hr, hc => by
    intro w hq hs hX
    have h1 := len_cnts X.xs
    rw [cnt_eq] at hc
    have hrs : rdS (.lst a c ps) (er X) = (X.l && rdL ps (ers X.xs)) := by rw [← er_xs, ← er_l]; rfl
    have K := lstRead_of q ty N a c ps X (by omega) hl hn hr (fun j p y hp hy => by
      have h2 := List.sizeOf_lt_of_mem (List.mem_of_getElem? hp)
      have h3 := cnts_at X.xs j y hy
      have hXl : X.l = true := by
        cases hl' : X.l with
        | true => rfl
        | false =>
          have := congrArg xsOf (rgI_txt hr (by rw [er_l]; exact hl'))
          rw [er_xs] at this
          have h5 : ers X.xs = [] := this
          rw [ers_map] at h5
          have h6 := congrArg List.length h5
          rw [List.length_map] at h6
          have h7 := (List.getElem?_eq_some_iff.1 hy).1
          have h8 : X.xs.length = 0 := h6
          omega
      have h4 : rgIs (ers X.xs) = true := by
        have := (rgI_lst hr (by rw [er_l]; exact hXl)).2
        rwa [er_xs] at this
      refine read_all q ty N M p ?_ (fun a' ha' => hl a' (lv_at ps j p hp a' ha')) (lv_apart ps hn j p hp).1 y (rgIs_im X.xs h4 j y hy) (by omega)
      simp at h
      omega) w hq hs hX
    refine K.mono ?_
    rintro e w' ⟨rfl, hk, hd⟩
    refine ⟨by rw [hrs], hk, fun ht => ?_⟩
    rw [hrs] at ht
    have hXl : X.l = true := by rw [Bool.and_eq_true] at ht; exact ht.1
    have := (rgI_lst hr (by rw [er_l]; exact hXl)).1
    rw [er_xs] at this
    exact ⟨ers X.xs, this, hd ht⟩
end Go.Proofs.YtmefanagpkbjeaaDoor
namespace Go.Proofs.YtmefanagpkbjeaaDoor
open Go.RowKit Go.Shelf Go.Sort

def hdL (q o : Nat) : List Pt := [.num ⟨q, o, none⟩, .num ⟨q, o + 1, none⟩, .txt ⟨q, o + 2, none⟩, .txt ⟨q, o + 3, none⟩, .txt ⟨q, o + 4, none⟩]
def exL (q o : Nat) : List Pt := [.txt ⟨q, o, none⟩, .txt ⟨q, o + 1, none⟩, .num ⟨q, o + 2, none⟩]
def cmL (q o : Nat) : List Pt := [.txs ⟨q, o, none⟩, .txt ⟨q, o + 1, none⟩]

set_option maxRecDepth 100000 in
set_option maxHeartbeats 4000000 in
theorem header_any (q o : Nat) (w : World) :
    Calls Tryd.prog 122 #[.pointer (some ⟨q, o, none⟩)] w fun e w' => ∃ a, e = .returned (.iface 145 (.slice a 5 5)) ∧ skRow (fun b => w.heap.size ≤ b ∧ b < w'.heap.size) w' a 0 (hdL q o) ∧ Below w.heap.size w w' := by
  go_enter Tryd.func122, Tryd.ntmps122
  go_wp2_with fail
  refine region_tail 25 (by kernel_rfl) (by kernel_rfl) ?_
  simp only [List.take_succ_cons, List.take_zero, List.drop_succ_cons, List.drop_zero]
  iterate 25 (quiet_step (fail))
  refine wpQuiet_nil ?_
  intro w8 hw8
  have hb8 : Below w.heap.size w w8 := by
    obtain ⟨p, rfl⟩ := hw8
    exact below_regrown _ _ _
  clear hw8
  go_wp2
  go_ret
  have hz := hb8.size
  refine ⟨some ⟨w8.heap.size, 0, none⟩, rfl, sk_of_row (by constructor; omega; simp) _ 0 (fun j p hp => ?_), hb8.alloc hz _⟩
  have hj := (List.getElem?_eq_some_iff.1 hp).1
  have hj : j < 5 := hj
  have hcase : j = 0 ∨ j = 1 ∨ j = 2 ∨ j = 3 ∨ j = 4 := by omega
  rcases hcase with rfl | rfl | rfl | rfl | rfl <;> (cases hp; exact ⟨by rw [Lib.cell_of_heap (World.alloc_heap_new w8 _)]; rfl, trivial⟩)

set_option maxRecDepth 100000 in
set_option maxHeartbeats 4000000 in
theorem exec_any (q o : Nat) (w : World) :
    Calls Tryd.prog 123 #[.pointer (some ⟨q, o, none⟩)] w fun e w' => ∃ a, e = .returned (.iface 145 (.slice a 3 3)) ∧ skRow (fun b => w.heap.size ≤ b ∧ b < w'.heap.size) w' a 0 (exL q o) ∧ Below w.heap.size w w' := by
  go_enter Tryd.func123, Tryd.ntmps123
  go_wp2_with fail
  refine region_tail 15 (by kernel_rfl) (by kernel_rfl) ?_
  simp only [List.take_succ_cons, List.take_zero, List.drop_succ_cons, List.drop_zero]
  iterate 15 (quiet_step (fail))
  refine wpQuiet_nil ?_
  intro w8 hw8
  have hb8 : Below w.heap.size w w8 := by
    obtain ⟨p, rfl⟩ := hw8
    exact below_regrown _ _ _
  clear hw8
  go_wp2
  go_ret
  have hz := hb8.size
  refine ⟨some ⟨w8.heap.size, 0, none⟩, rfl, sk_of_row (by constructor; omega; simp) _ 0 (fun j p hp => ?_), hb8.alloc hz _⟩
  have hj := (List.getElem?_eq_some_iff.1 hp).1
  have hj : j < 3 := hj
  have hcase : j = 0 ∨ j = 1 ∨ j = 2 := by omega
  rcases hcase with rfl | rfl | rfl <;> (cases hp; exact ⟨by rw [Lib.cell_of_heap (World.alloc_heap_new w8 _)]; rfl, trivial⟩)

set_option maxRecDepth 100000 in
set_option maxHeartbeats 4000000 in
theorem committee_any (q o : Nat) (w : World) :
    Calls Tryd.prog 88 #[.pointer (some ⟨q, o, none⟩)] w fun e w' => ∃ a, e = .returned (.iface 145 (.slice a 2 2)) ∧ skRow (fun b => w.heap.size ≤ b ∧ b < w'.heap.size) w' a 0 (cmL q o) ∧ Below w.heap.size w w' := by
  go_enter Tryd.func88, Tryd.ntmps88
  go_wp2_with fail
  refine region_tail 10 (by kernel_rfl) (by kernel_rfl) ?_
  simp only [List.take_succ_cons, List.take_zero, List.drop_succ_cons, List.drop_zero]
  iterate 10 (quiet_step (fail))
  refine wpQuiet_nil ?_
  intro w8 hw8
  have hb8 : Below w.heap.size w w8 := by
    obtain ⟨p, rfl⟩ := hw8
    exact below_regrown _ _ _
  clear hw8
  go_wp2
  go_ret
  have hz := hb8.size
  refine ⟨some ⟨w8.heap.size, 0, none⟩, rfl, sk_of_row (by constructor; omega; simp) _ 0 (fun j p hp => ?_), hb8.alloc hz _⟩
  have hj := (List.getElem?_eq_some_iff.1 hp).1
  have hj : j < 2 := hj
  have hcase : j = 0 ∨ j = 1 := by omega
  rcases hcase with rfl | rfl <;> (cases hp; exact ⟨by rw [Lib.cell_of_heap (World.alloc_heap_new w8 _)]; rfl, trivial⟩)
end Go.Proofs.YtmefanagpkbjeaaDoor
