/- Lemmas: A text copied: strings.Clone. An item appended to a slice of items, in a round. The items whose bytes stand one behind the other: itemsOf. -/
import Derived.Test.YtmefanagpkbjeaaDoorM1
import Derived.Test.YtmefanagpkbjeaaDoorM10
import Derived.Test.YtmefanagpkbjeaaDoorM11
import Derived.Test.YtmefanagpkbjeaaDoorM12
import Derived.Test.YtmefanagpkbjeaaDoorM13
import Derived.Test.YtmefanagpkbjeaaDoorM14
import Derived.Test.YtmefanagpkbjeaaDoorM15
import Derived.Test.YtmefanagpkbjeaaDoorM2
import Derived.Test.YtmefanagpkbjeaaDoorM3
import Derived.Test.YtmefanagpkbjeaaDoorM6
import Derived.Test.YtmefanagpkbjeaaDoorM7
import Derived.Test.YtmefanagpkbjeaaDoorM8
import Derived.Test.YtmefanagpkbjeaaDoorM9
import Derived.Test.YtmefanagpkbjeaaDoorRows
import Derived.Shelf.Pu.Clone
namespace Go.Proofs.YtmefanagpkbjeaaDoor
open Go.RowKit Go.Shelf Go.Sort

def rc : Ren := ⟨fun k => if k = 25 then 101 else k, fun k => if k = 37 then 58 else if k = 47 then 190 else k, fun k => k⟩
set_option maxRecDepth 100000 in
theorem lays_clone : LaysPu.n25 Tryd.prog rc where
  mixed := by kernel_rfl
  f25 := by kernel_rfl
  t0 := by kernel_rfl
  a0 := fun w => rfl
  z0 := fun w => rfl
  v0 := fun w => rfl
  i0 := by kernel_rfl
  t3 := by kernel_rfl
  a3 := fun w => rfl
  z3 := fun w => rfl
  v3 := fun w => rfl
  i3 := by kernel_rfl
  t4 := by kernel_rfl
  a4 := fun w => rfl
  z4 := fun w => rfl
  v4 := fun w => rfl
  i4 := by kernel_rfl
  t5 := by kernel_rfl
  a5 := fun w => rfl
  z5 := fun w => rfl
  v5 := fun w => rfl
  i5 := by kernel_rfl
  t9 := by kernel_rfl
  a9 := fun w => rfl
  z9 := fun w => rfl
  v9 := fun w => rfl
  i9 := by kernel_rfl
  t37 := by kernel_rfl
  a37 := fun w => rfl
  z37 := fun w => rfl
  v37 := fun w => rfl
  i37 := by kernel_rfl
  t47 := by kernel_rfl
  a47 := fun w => rfl
  z47 := fun w => rfl
  v47 := fun w => rfl
  i47 := by kernel_rfl
theorem clone1_any (s : ByteArray) (w : World) (h : s.size ≤ 281474976710656) : Calls Tryd.prog 101 #[.string s] w fun e w' => e = .returned (.string s) ∧ Below w.heap.size w w' := AnyPu.stringslite_Clone lays_clone s w h
set_option maxHeartbeats 1000000 in
theorem clone_any (s : ByteArray) (w : World) (h : s.size ≤ 281474976710656) : Calls Tryd.prog 66 #[.string s] w fun e w' => e = .returned (.string s) ∧ Below w.heap.size w w' := by
  have K := fun w => clone1_any s w h
  go_enter Tryd.func66, Tryd.ntmps66
  go_wp2_with fail
  refine (K _).mono ?_
  rintro e w1 ⟨rfl, B1⟩
  go_wp2
  go_ret
  exact ⟨rfl, B1⟩
end Go.Proofs.YtmefanagpkbjeaaDoor
namespace Go.Proofs.YtmefanagpkbjeaaDoor
open Go.RowKit Go.Shelf Go.Sort
attribute [local go_sem] Oper.semAt_some

/-- The second law of drawn statements, in a round. -/
theorem region_inv_in {P : Program} (l' n' : Nat) {id : Nat} {Q : Exit → Act → World → Prop} {a : Act} {w : World} {l : List Oper} (J : (Nat → Bool) → Act → World → Prop) (hm : P.follows .mixedOrders = true) (hnd : noDefer l.toArray = true) (hL : ¬ LetsOut Q)
    (hB : backB .any l.toArray = true) (h0 : J (fun _ => false) a w.drew)
    (step : ∀ i o S a W, l[i]? = some o → S i = false → J S a W → (∀ e ∈ o.after, Region.binds .any e = true → S e.on = true) → ∀ K : Act → World → Prop, (∀ a W, J (more S i) a W → K a W) →
      if Region.wanted o (yielded l.toArray a.tmps) then o.wp P a W K Q else K (a.put o.dst undef) W)
    (last : ∀ S a W, (∀ i, i < l.length → S i = true) → J S a W → Q .normal a W) : (Code.region id l.toArray true).wpIn (Fence.wide.inRound l') n' P Q a w := by
  refine region_round l' n' hm hnd hL ?_
  refine any_of_inv (P := P) (md := .any) (ops := l.toArray) (Q := Q) (J := fun listed a W => J (fun j => listed.getD j false) a W) hB
    (fun i listed a W hsz hr hJ => ?_) (fun listed a W hsz hall hJ => ?_) l.toArray.size (Array.replicate l.toArray.size false) a w.drew (by simp) (left_new _ _ (Nat.le_refl _)) ?_
  · obtain ⟨hun, o, ho, hall⟩ := mem_ready.1 hr
    have hlt : i < listed.size := by rw [hsz]; exact (Array.getElem?_eq_some_iff.1 ho).1
    have e : (fun j => (listed.setIfInBounds i true).getD j false) = more (fun j => listed.getD j false) i := by
      funext j
      unfold more
      by_cases hij : j = i
      · subst hij; simp [hlt]
      · rw [if_neg hij, getD_set_ne false (fun e => hij e.symm)]
    have hst := step i o (fun j => listed.getD j false) a W (by simpa using ho) (getD_both hun) hJ hall (J (more (fun j => listed.getD j false) i)) (fun _ _ h => h)
    unfold wpOp
    simp only [ho]
    rw [e]
    split
    · rename_i hw; simp only [hw, if_true] at hst; exact Or.inl hst
    · rename_i hw; simp only [hw] at hst; exact hst
  · refine last (fun j => listed.getD j false) a W (fun i hi => ?_) hJ
    have h1 := hall i (by simpa using hi)
    have h2 : i < listed.size := by rw [hsz]; simpa using hi
    cases hq : listed.getD i false with
    | true => rfl
    | false => rw [getD_in h2 hq] at h1; cases h1
  · have e : (fun j => (Array.replicate l.toArray.size false).getD j false) = fun _ => false := by funext j; exact getD_replicate_false _ _
    show J (fun j => (Array.replicate l.toArray.size false).getD j false) a _
    rw [e]; exact h0
theorem wp_append_where {P : Program} {w : World} {o : Oper} {a : Act} {K : Act → World → Prop} {Q : Exit → Act → World → Prop} (sl x : Operand) (t : TypeId)
    (ho : o.op = .call { callee := .builtin .append, args := #[sl, x], argTypes := #[t, t] })
    (base : Nat) (e : TypeId) (i : TypeInfo) (z : Value) (size bytes : Nat) (ht : P.underlying t = some (.slice e)) (hi : P.info? e = some i) (hz : i.zero = some z) (hsize : i.size = size) (hby : i.bytes = bytes) (hzs : z.cells.size = size) (hsz : 0 < size)
    (v : Value) (n : Nat) (xs : List Value) (hs : a.eval sl = v) (hown : w.ownsRow base e size v n xs) (ad : Addr) (m c : Nat) (news : List Value) (hx : a.eval x = .slice (some ad) m c) (hl : news.length = m * size)
    (hnews : ∀ j u, news[j]? = some u → w.cell? (ad.add j) = some u) (h1 : ∀ u ∈ news, u.oneCell' = true) (h63 : n + m ≤ maxLen) (hbytes : (n + m) * bytes ≤ 140737488355328) (hbase : base ≤ w.heap.size) (hm : 0 < m)
    (h : ∀ v' w', w'.ownsRow base e size v' (n + m) (xs ++ news) → w.grownBy w' v.ownBlock → v' ≠ .slice none 0 0 → (v'.ownBlock = v.ownBlock ∨ ∃ g, v'.ownBlock = some g ∧ w.heap.size ≤ g) → K (a.put o.dst v') w') : o.wp P a w K Q := by
  obtain ⟨v', w', hr, h2, h3, h4, h5⟩ := append_where (P := P) w base t o.type e i z size bytes ht hi hz hsize hby hzs hsz v n xs hown ad m c news hl hnews h1 h63 hbytes hbase hm
  unfold Oper.wp execOp
  simp only [ho, resolve, invoke, builtin, Sem.run_bind, Sem.run_pure, Result.andThen_ok, List.map_toArray, List.map_cons, List.map_nil, hs, hx, hr]
  exact h v' w' h2 h3 h4 h5

/-- What the statement leaves as it is. -/
structure Rl (W0 W : World) (v : Value) (bI : Nat) : Prop where
  os : W.os = W0.os
  tape : W.tape = W0.tape
  output : W.output = W0.output
  size : W0.heap.size ≤ W.heap.size
  block : ∀ k, k < W0.heap.size → some k ≠ v.ownBlock → k ≠ bI → W.heap[k]? = W0.heap[k]?
theorem Rl.set {W0 W : World} {v : Value} {bI : Nat} (h : Rl W0 W v bI) (p : Addr) (u : Value) (hp : some p.block = v.ownBlock ∨ W0.heap.size ≤ p.block ∨ p.block = bI) : Rl W0 (W.setCell p u) v bI :=
  ⟨h.os, h.tape, h.output, by have := h.size; simp [World.setCell]; omega, fun k h1 h2 h3 => (Below.heap_setCell _ _ _ _ (fun e => by
    subst e
    rcases hp with hp | hp | hp
    · exact h2 hp
    · omega
    · exact h3 hp)).trans (h.block k h1 h2 h3)⟩
def zero3 : List Value := [.bool false, .string ⟨#[]⟩, .slice none 0 0]
def cell3 (X : Im) : List Value := [.bool X.l, .string X.t, X.sl]
theorem set3 (cl : List Value) (n : Nat) (h : cl.length = n * 3) (X : Im) : (((cl ++ zero3).set (n * 3) (.bool X.l)).set (n * 3 + 1) (.string X.t)).set (n * 3 + 2) X.sl = cl ++ cell3 X := by
  rw [List.set_append_right _ _ (by omega), List.set_append_right _ _ (by omega), List.set_append_right _ _ (by omega), show n * 3 - cl.length = 0 by omega, show n * 3 + 1 - cl.length = 1 by omega, show n * 3 + 2 - cl.length = 2 by omega]
  rfl
/-- How far the statement has come. -/
structure JA (W0 : World) (bI bT zz n : Nat) (v : Value) (cl : List Value) (X : Im) (S : Nat → Bool) (x30 x31 x32 x33 x34 x35 : Value) (W : World) : Prop where
  f0 : S 0 = true → x30 = v
  f1 : S 1 = true → x31 = X.val
  f2 : S 2 = true → x32 = .int .i64 n
  e3 : S 3 = false → W = W0
  f3 : S 3 = true → S 4 = false → x33 = .slice (some ⟨W0.heap.size, 0, none⟩) 1 1 ∧ W = W0.alloc (.cells zero3.toArray 70)
  g4 : S 4 = true → S 0 = true ∧ S 1 = true ∧ S 2 = true ∧ S 3 = true
  e4 : S 4 = false → S 5 = false ∧ S 6 = false ∧ S 7 = false
  f4 : S 4 = true → ∃ g c, x34 = .slice (some ⟨g, 0, none⟩) (n + 1) c ∧ (S 5 = true → x35 = .pointer (some ⟨g, n * 3, none⟩)) ∧ W.ownsRow zz 70 3 (.slice (some ⟨g, 0, none⟩) (n + 1) c) (n + 1) (cl ++ if S 6 then cell3 X else zero3) ∧
    Bx bI 68 (if S 7 then .slice (some ⟨g, 0, none⟩) (n + 1) c else v) W ∧ (some g = v.ownBlock ∨ W0.heap.size ≤ g) ∧ Rl W0 W v bI
theorem JA.pre {W0 : World} {bI bT zz n : Nat} {v : Value} {cl : List Value} {X : Im} {S : Nat → Bool} {x30 x31 x32 x33 x34 x35 : Value} {W : World} (h : JA W0 bI bT zz n v cl X S x30 x31 x32 x33 x34 x35 W) (h4 : S 4 = false) : Below W0.heap.size W0 W := by
  cases h3 : S 3 with
  | false => rw [h.e3 h3]; exact Below.refl _ _
  | true => rw [(h.f3 h3 h4).2]; exact (Below.refl _ W0).alloc (Nat.le_refl _) _
theorem JA.four {W0 : World} {bI bT zz n : Nat} {v : Value} {cl : List Value} {X : Im} {S : Nat → Bool} {x30 x31 x32 x33 x34 x35 : Value} {W : World} (h : JA W0 bI bT zz n v cl X S x30 x31 x32 x33 x34 x35 W) (i : Nat) (hi : S i = false) (hl : i < 4) : S 4 = false := by
  cases h4 : S 4 with
  | false => rfl
  | true =>
    obtain ⟨h0, h1, h2, h3⟩ := h.g4 h4
    have : i = 0 ∨ i = 1 ∨ i = 2 ∨ i = 3 := by omega
    rcases this with rfl | rfl | rfl | rfl
    · rw [h0] at hi; cases hi
    · rw [h1] at hi; cases hi
    · rw [h2] at hi; cases hi
    · rw [h3] at hi; cases hi

theorem owns_kind3 {W : World} {zz n : Nat} {v : Value} {xs : List Value} (h : W.ownsRow zz 70 3 v n xs) (k : Nat) (hk : v.ownBlock = some k) : ∃ c, W.heap[k]? = some (.cells c 70 (0, 0)) := by
  rcases h.2 with ⟨rfl, _⟩ | ⟨g, cap, cur, rfl, hb, hg, _⟩
  · cases hk
  · injection hk with hk
    subst hk
    exact ⟨cur, hg⟩
theorem bx_ne {W : World} {bI zz g n c k : Nat} {u : Value} {xs : List Value} (hB : Bx bI 68 u W) (h : W.ownsRow zz 70 3 (.slice (some ⟨g, 0, none⟩) n c) k xs) : g ≠ bI := fun e => by
  obtain ⟨c', hk⟩ := owns_kind3 h g rfl
  rw [e, show W.heap[bI]? = _ from hB] at hk
  cases hk
theorem bx_no {W : World} {bI zz k : Nat} {u v : Value} {xs : List Value} (hB : Bx bI 68 u W) (h : W.ownsRow zz 70 3 v k xs) : some bI ≠ v.ownBlock := fun e => by
  obtain ⟨c', hk⟩ := owns_kind3 h bI e.symm
  rw [show W.heap[bI]? = _ from hB] at hk
  cases hk
def appOps : List Oper := [{ dst := some 30, op := Op.load 68 (Operand.tmp 4), type := 68, pos := "decode.go:55", after := #[], guard := none }, { dst := some 31, op := Op.load 70 (Operand.tmp 8), type := 70, pos := "decode.go:55", after := #[], guard := none }, { dst := some 32, op := Op.call { callee := Callee.builtin Builtin.len, args := #[Operand.tmp 30], argTypes := #[68] }, type := 3, pos := "decode.go:55", after := #[{ on := 0, ground := Ground.data }], guard := none }, { dst := some 33, op := Op.buildSlice 68 1 #[(0, Operand.const (Value.agg #[Value.bool false, Value.string { data := #[] }, Value.slice none 0 0]))], type := 68, pos := "decode.go:55", after := #[], guard := none }, { dst := some 34, op := Op.call { callee := Callee.builtin Builtin.append, args := #[Operand.tmp 30, Operand.tmp 33], argTypes := #[68, 68] }, type := 68, pos := "decode.go:55", after := #[{ on := 0, ground := Ground.data }, { on := 3, ground := Ground.data }, { on := 0, ground := Ground.phase }, { on := 1, ground := Ground.phase }, { on := 2, ground := Ground.phase }, { on := 3, ground := Ground.phase }], guard := none }, { dst := some 35, op := Op.indexAddr 68 (Operand.tmp 34) (Operand.tmp 32), type := 0, pos := "decode.go:55", after := #[{ on := 4, ground := Ground.data }, { on := 2, ground := Ground.data }, { on := 0, ground := Ground.phase }, { on := 1, ground := Ground.phase }, { on := 2, ground := Ground.phase }, { on := 3, ground := Ground.phase }, { on := 4, ground := Ground.phase }, { on := 7, ground := Ground.gcOnly Departure.appendInPlace }], guard := none }, { dst := none, op := Op.store 70 (Operand.tmp 35) (Operand.tmp 31), type := 0, pos := "decode.go:55", after := #[{ on := 5, ground := Ground.data }, { on := 1, ground := Ground.data }, { on := 4, ground := Ground.chain }, { on := 0, ground := Ground.phase }, { on := 1, ground := Ground.phase }, { on := 2, ground := Ground.phase }, { on := 3, ground := Ground.phase }, { on := 4, ground := Ground.phase }, { on := 7, ground := Ground.gcOnly Departure.appendInPlace }], guard := none }, { dst := none, op := Op.store 68 (Operand.tmp 4) (Operand.tmp 34), type := 0, pos := "decode.go:55", after := #[{ on := 4, ground := Ground.data }, { on := 4, ground := Ground.chain }, { on := 6, ground := Ground.textOnly Departure.appendInPlace }, { on := 0, ground := Ground.phase }, { on := 1, ground := Ground.phase }, { on := 2, ground := Ground.phase }, { on := 3, ground := Ground.phase }, { on := 4, ground := Ground.phase }, { on := 5, ground := Ground.textOnly Departure.appendInPlace }, { on := 6, ground := Ground.textOnly Departure.appendInPlace }], guard := none }]

set_option maxRecDepth 100000 in
set_option maxHeartbeats 4000000 in
theorem append_item_in (l' n' id : Nat) {Q : Exit → Act → World → Prop} (W : World) (bI bT zz n : Nat) (v : Value) (cl : List Value) (X : Im) (t0 t1 t2 t3 t5 t6 t7 t9 t10 t11 t12 t13 t14 t15 t16 t17 t18 t19 t20 t21 t22 t23 t24 t25 t26 t27 t28 t29 t36 t37 t38 u30 u31 u32 u33 u34 u35 : Value) (hL : ¬ LetsOut Q) (hn : n < 1000000)
    (hBI : Bx bI 68 v W) (hBT : ItIn bT X W) (hown : W.ownsRow zz 70 3 v n cl) (hzz : zz ≤ W.heap.size)
    (hQ : ∀ a' W' g c, Bx bI 68 (.slice (some ⟨g, 0, none⟩) (n + 1) c) W' → W'.ownsRow zz 70 3 (.slice (some ⟨g, 0, none⟩) (n + 1) c) (n + 1) (cl ++ cell3 X) → (some g = v.ownBlock ∨ W.heap.size ≤ g) → Rl W W' v bI → Q .normal a' W') :
    (Code.region id appOps.toArray true).wpIn (Fence.wide.inRound l') n' Tryd.prog Q { tmps := #[t0, t1, t2, t3, .pointer (some ⟨bI, 0, none⟩), t5, t6, t7, .pointer (some ⟨bT, 0, none⟩), t9, t10, t11, t12, t13, t14, t15, t16, t17, t18, t19, t20, t21, t22, t23, t24, t25, t26, t27, t28, t29, u30, u31, u32, u33, u34, u35, t36, t37, t38], defers := [] } W := by
  obtain ⟨i0, hi0, hz0, hz1, hz2⟩ := info_parts info_item
  obtain ⟨W0, hW0⟩ : ∃ W0, W.drew = W0 := ⟨_, rfl⟩
  have hBI0 : Bx bI 68 v W0 := by rw [← hW0]; exact hBI
  have hBT0 : ItIn bT X W0 := by rw [← hW0]; exact hBT
  have hown0 : W0.ownsRow zz 70 3 v n cl := by rw [← hW0]; exact hown.drew
  have hs0 : W.heap.size = W0.heap.size := by rw [← hW0]; rfl
  have hcl := hown0.1
  obtain ⟨ao, c0, hv⟩ : ∃ ao c0, v = .slice ao n c0 := by
    rcases hown0.2 with ⟨h, rfl⟩ | ⟨g, c, _, h, _⟩
    · exact ⟨none, 0, h⟩
    · exact ⟨_, c, h⟩
  obtain ⟨xl, xt, xa, xc, xx⟩ := X
  refine region_inv_in l' n' (fun S aa W' => ∃ x30 x31 x32 x33 x34 x35 : Value, aa = { tmps := #[t0, t1, t2, t3, .pointer (some ⟨bI, 0, none⟩), t5, t6, t7, .pointer (some ⟨bT, 0, none⟩), t9, t10, t11, t12, t13, t14, t15, t16, t17, t18, t19, t20, t21, t22, t23, t24, t25, t26, t27, t28, t29, x30, x31, x32, x33, x34, x35, t36, t37, t38], defers := [] } ∧ JA W0 bI bT zz n v cl (.mk xl xt xa xc xx) S x30 x31 x32 x33 x34 x35 W') (by kernel_rfl) (by kernel_rfl) hL (by kernel_rfl) ?_ ?_ ?_
  · rw [hW0]
    exact ⟨_, _, _, _, _, _, rfl, ⟨nofun, nofun, nofun, fun _ => rfl, nofun, nofun, fun _ => ⟨rfl, rfl, rfl⟩, nofun⟩⟩
  · intro i o S aa W' hi hun hJ hall K hK
    obtain ⟨x30, x31, x32, x33, x34, x35, rfl, jr⟩ := hJ
    have hlt : i < 8 := (List.getElem?_eq_some_iff.1 hi).1
    have hcase : i = 0 ∨ i = 1 ∨ i = 2 ∨ i = 3 ∨ i = 4 ∨ i = 5 ∨ i = 6 ∨ i = 7 := by omega
    rcases hcase with rfl | rfl | rfl | rfl | rfl | rfl | rfl | rfl
    all_goals (have ho := (Option.some.inj hi).symm; subst ho; clear hi hlt)
    · have h4 := jr.four 0 hun (by decide)
      have cB : W'.cell? ⟨bI, 0, none⟩ = some v := Bx.cell (((jr.pre h4).block bI hBI0.lt).trans hBI0)
      subst hv
      go_simp
      exact hK _ _ ⟨_, x31, x32, x33, x34, x35, rfl, ⟨fun _ => rfl, jr.f1, jr.f2, jr.e3, jr.f3, (fun h => Bool.noConfusion (h4.symm.trans h)), jr.e4, (fun h => Bool.noConfusion (h4.symm.trans h))⟩⟩
    · have h4 := jr.four 1 hun (by decide)
      have hB := ((jr.pre h4).block bT hBT0.lt).trans hBT0
      have d0 : W'.cell? ⟨bT, 0, none⟩ = some (.bool xl) := by rw [Lib.cell_of_heap hB]; rfl
      have d1 : W'.cell? ⟨bT, 1, none⟩ = some (.string xt) := by rw [Lib.cell_of_heap hB]; rfl
      have d2 : W'.cell? ⟨bT, 2, none⟩ = some (.slice xa xx.length xc) := by rw [Lib.cell_of_heap hB]; rfl
      go_simp
      exact hK _ _ ⟨x30, _, x32, x33, x34, x35, rfl, ⟨jr.f0, fun _ => rfl, jr.f2, jr.e3, jr.f3, (fun h => Bool.noConfusion (h4.symm.trans h)), jr.e4, (fun h => Bool.noConfusion (h4.symm.trans h))⟩⟩
    · have h4 := jr.four 2 hun (by decide)
      have s_0 : S 0 = true := hall ⟨0, .data⟩ (by simp) rfl
      obtain rfl := jr.f0 s_0
      subst hv
      go_simp
      exact hK _ _ ⟨_, x31, _, x33, x34, x35, rfl, ⟨fun _ => rfl, jr.f1, fun _ => rfl, jr.e3, jr.f3, (fun h => Bool.noConfusion (h4.symm.trans h)), jr.e4, (fun h => Bool.noConfusion (h4.symm.trans h))⟩⟩
    · have h4 := jr.four 3 hun (by decide)
      obtain rfl := jr.e3 hun
      go_simp
      exact hK _ _ ⟨x30, x31, x32, _, x34, x35, rfl, ⟨jr.f0, jr.f1, jr.f2, nofun, fun _ _ => ⟨rfl, rfl⟩, (fun h => Bool.noConfusion (h4.symm.trans h)), jr.e4, (fun h => Bool.noConfusion (h4.symm.trans h))⟩⟩
    · have s_0 : S 0 = true := hall ⟨0, .data⟩ (by simp) rfl
      have s_1 : S 1 = true := hall ⟨1, .phase⟩ (by simp) rfl
      have s_2 : S 2 = true := hall ⟨2, .phase⟩ (by simp) rfl
      have s_3 : S 3 = true := hall ⟨3, .data⟩ (by simp) rfl
      obtain rfl := jr.f0 s_0
      obtain ⟨rfl, rfl⟩ := jr.f3 s_3 hun
      obtain ⟨n5, n6, n7⟩ := jr.e4 hun
      have f1 := jr.f1 s_1
      have f2 := jr.f2 s_2
      refine (if_pos (show Region.wanted _ _ = true from rfl)).mpr ?_
      refine wp_append_where (.tmp 30) (.tmp 33) 68 rfl zz 70 i0 _ 3 48 Tryd.underlying68 hi0 hz0 hz1 hz2 rfl (by decide) x30 n cl rfl (hown0.alloc _) ⟨W0.heap.size, 0, none⟩ 1 1 zero3 rfl rfl ?_ ?_ (by unfold maxLen; omega) (by omega) (by rw [World.size_alloc]; omega) (by decide) ?_
      · intro j u hj
        rw [Addr.add_lit, Lib.cell_of_heap (World.alloc_heap_new W0 _), Nat.zero_add]
        simpa using hj
      · intro u hu
        simp only [zero3, List.mem_cons, List.not_mem_nil, or_false] at hu
        rcases hu with rfl | rfl | rfl <;> rfl
      · intro v' w' k2 k3 k4 k5
        obtain ⟨g, c, rfl⟩ : ∃ g c, v' = .slice (some ⟨g, 0, none⟩) (n + 1) c := by
          rcases k2.2 with ⟨h, _⟩ | ⟨g, c, _, h, _⟩
          · exact absurd h k4
          · exact ⟨g, c, h⟩
        refine hK _ _ ⟨_, _, _, _, _, x35, rfl, ⟨fun _ => rfl, fun _ => f1, fun _ => f2, (fun h => Bool.noConfusion (s_3.symm.trans h)), nofun, fun _ => ⟨s_0, s_1, s_2, s_3⟩, nofun, fun _ => ⟨g, c, rfl, (fun h => Bool.noConfusion (n5.symm.trans h)), ?_, ?_, ?_, ?_⟩⟩⟩
        · show World.ownsRow _ _ _ _ _ _ (cl ++ if S 6 then _ else _)
          rw [n6, if_neg (by decide)]
          exact k2
        · show Bx _ _ (if S 7 then _ else _) _
          rw [n7, if_neg (by decide)]
          exact (k3.block bI (by rw [World.size_alloc]; have := hBI0.lt; omega) (bx_no hBI0 hown0)).trans ((Below.heap_alloc _ _ _ (by have := hBI0.lt; omega)).trans hBI0)
        · rcases k5 with k5 | ⟨g', e, k5⟩
          · exact .inl k5
          · cases e
            rw [World.size_alloc] at k5
            exact .inr (Nat.le_trans (Nat.le_succ _) k5)
        · exact ⟨k3.os, k3.tape, k3.output, Nat.le_trans (by rw [World.size_alloc]; omega) k3.size, fun k h1 h2 _ => (k3.block k (by rw [World.size_alloc]; omega) h2).trans (Below.heap_alloc _ _ _ (by omega))⟩
    · have s_4 : S 4 = true := hall ⟨4, .data⟩ (by simp) rfl
      have s_2 : S 2 = true := hall ⟨2, .data⟩ (by simp) rfl
      obtain rfl := jr.f2 s_2
      obtain ⟨g, c, rfl, q5, q6, q7, q8, q9⟩ := jr.f4 s_4
      have hln : (n : Int) < ((n + 1 : Nat) : Int) := by omega
      have hln2 : (n : Int) < (n : Int) + 1 := by omega
      have HX : Hid (_ ∧ _ ∧ _) := ⟨q6, q7, q9⟩
      have HJ : Hid _ := jr
      clear q6 q7 q9 jr hall
      go_simp
      obtain ⟨q6, q7, q9⟩ := HX.out
      have jr := HJ.out
      refine hK _ _ ⟨x30, x31, _, x33, _, _, rfl, ⟨jr.f0, jr.f1, fun _ => rfl, jr.e3, jr.f3, jr.g4, (fun h => Bool.noConfusion (s_4.symm.trans h)), fun _ => ⟨g, c, rfl, fun _ => rfl, q6, q7, q8, q9⟩⟩⟩
    · have s_5 : S 5 = true := hall ⟨5, .data⟩ (by simp) rfl
      have s_4 : S 4 = true := hall ⟨4, .chain⟩ (by simp) rfl
      have s_1 : S 1 = true := hall ⟨1, .data⟩ (by simp) rfl
      obtain rfl := jr.f1 s_1
      obtain ⟨g, c, rfl, q5, q6, q7, q8, q9⟩ := jr.f4 s_4
      obtain rfl := q5 s_5
      rw [hun, if_neg (by decide)] at q6
      obtain ⟨v0, hv0⟩ : ∃ v, W'.cell? ⟨g, n * 3, none⟩ = some v := by
        rw [q6.cellAt (n * 3) (by omega)]
        exact ⟨_, List.getElem?_eq_getElem (by rw [q6.1]; omega)⟩
      obtain ⟨v1, hv1⟩ : ∃ v, W'.cell? ⟨g, n * 3 + 1, none⟩ = some v := by
        rw [q6.cellAt (n * 3 + 1) (by omega)]
        exact ⟨_, List.getElem?_eq_getElem (by rw [q6.1]; omega)⟩
      obtain ⟨v2, hv2⟩ : ∃ v, W'.cell? ⟨g, n * 3 + 2, none⟩ = some v := by
        rw [q6.cellAt (n * 3 + 2) (by omega)]
        exact ⟨_, List.getElem?_eq_getElem (by rw [q6.1]; omega)⟩
      have g0 := q6.frozenAt (n * 3)
      have g1 := q6.frozenAt (n * 3 + 1)
      have g2 := q6.frozenAt (n * 3 + 2)
      have hne := bx_ne q7 q6
      have r6 := (((q6.stored (n * 3) (.bool xl)).1.stored (n * 3 + 1) (.string xt)).1.stored (n * 3 + 2) (.slice xa xx.length xc)).1
      rw [show ((((cl ++ zero3).set (n * 3) (.bool xl)).set (n * 3 + 1) (.string xt)).set (n * 3 + 2) (.slice xa xx.length xc)) = cl ++ cell3 (.mk xl xt xa xc xx) from set3 cl n hcl (.mk xl xt xa xc xx)] at r6
      have r7 := ((q7.other (fun e => hne e.symm) (n * 3) (.bool xl)).other (fun e => hne e.symm) (n * 3 + 1) (.string xt)).other (fun e => hne e.symm) (n * 3 + 2) (.slice xa xx.length xc)
      have hp : ∀ o, some (⟨g, o, none⟩ : Addr).block = v.ownBlock ∨ W0.heap.size ≤ (⟨g, o, none⟩ : Addr).block ∨ (⟨g, o, none⟩ : Addr).block = bI := fun o => by
        rcases q8 with h | h
        · exact .inl h
        · exact .inr (.inl h)
      have r9 := ((q9.set ⟨g, n * 3, none⟩ (.bool xl) (hp _)).set ⟨g, n * 3 + 1, none⟩ (.string xt) (hp _)).set ⟨g, n * 3 + 2, none⟩ (.slice xa xx.length xc) (hp _)
      have HX : Hid (_ ∧ _ ∧ _ ∧ _ ∧ _ ∧ _) := ⟨r6, r7, r9, jr.g4 s_4, jr.f0, jr.f2⟩
      clear r6 r7 r9 q6 q7 q9 jr hall
      dsimp only [Im.val, Im.l, Im.t, Im.sl, Im.a, Im.xs, Im.c]
      go_simp
      obtain ⟨r6, r7, r9, jg, j0, j2⟩ := HX.out
      exact hK _ _ ⟨x30, _, x32, x33, _, _, rfl, ⟨j0, fun _ => rfl, j2, (fun h => Bool.noConfusion (jg.2.2.2.symm.trans h)), (fun _ h => Bool.noConfusion (s_4.symm.trans h)), fun _ => jg, (fun h => Bool.noConfusion (s_4.symm.trans h)), fun _ => ⟨g, c, rfl, fun _ => rfl, r6, r7, q8, r9⟩⟩⟩
    · have s_4 : S 4 = true := hall ⟨4, .data⟩ (by simp) rfl
      obtain ⟨g, c, rfl, q5, q6, q7, q8, q9⟩ := jr.f4 s_4
      rw [hun, if_neg (by decide)] at q7
      have hne := bx_ne q7 q6
      have cB := q7.cell
      have fB := q7.fr
      have r6 : (W'.setCell ⟨bI, 0, none⟩ (.slice (some ⟨g, 0, none⟩) (n + 1) c)).ownsRow zz 70 3 (.slice (some ⟨g, 0, none⟩) (n + 1) c) (n + 1) (cl ++ if S 6 then cell3 (.mk xl xt xa xc xx) else zero3) :=
        q6.kept (row := some bI) ⟨rfl, rfl, rfl, by simp [World.setCell], fun k _ hk => Below.heap_setCell _ _ _ _ (fun e => hk (by simp [e]))⟩ (Or.inr (fun e => hne (by injection e)))
      have r7 := q7.put (.slice (some ⟨g, 0, none⟩) (n + 1) c)
      have r9 := q9.set ⟨bI, 0, none⟩ (.slice (some ⟨g, 0, none⟩) (n + 1) c) (.inr (.inr rfl))
      have HX : Hid (_ ∧ _ ∧ _ ∧ _ ∧ _ ∧ _ ∧ _) := ⟨r6, r7, r9, jr.g4 s_4, jr.f0, jr.f1, jr.f2⟩
      clear r6 r7 r9 q6 q7 q9 jr hall
      go_simp
      obtain ⟨r6, r7, r9, jg, j0, j1, j2⟩ := HX.out
      exact hK _ _ ⟨x30, x31, x32, x33, _, x35, rfl, ⟨j0, j1, j2, (fun h => Bool.noConfusion (jg.2.2.2.symm.trans h)), (fun _ h => Bool.noConfusion (s_4.symm.trans h)), fun _ => jg, (fun h => Bool.noConfusion (s_4.symm.trans h)), fun _ => ⟨g, c, rfl, q5, r6, r7, q8, r9⟩⟩⟩
  · rintro S aa w4 hall ⟨x30, x31, x32, x33, x34, x35, rfl, jr⟩
    obtain ⟨g, c, -, -, h1, h2, h3, h4⟩ := jr.f4 (hall 4 (by decide))
    rw [hall 6 (by decide), if_pos rfl] at h1
    rw [hall 7 (by decide), if_pos rfl] at h2
    refine hQ _ _ g c h2 h1 (by rw [hs0]; exact h3) ⟨?_, ?_, ?_, by rw [hs0]; exact h4.size, fun k k1 k2 k3 => ?_⟩
    · rw [h4.os, ← hW0]; rfl
    · rw [h4.tape, ← hW0]; rfl
    · rw [h4.output, ← hW0]; rfl
    · rw [h4.block k (by rw [← hs0]; exact k1) k2 k3, ← hW0]; rfl
end Go.Proofs.YtmefanagpkbjeaaDoor
namespace Go.Proofs.YtmefanagpkbjeaaDoor
open Go.RowKit Go.Shelf Go.Sort
attribute [local go_sem] Oper.semAt_some

def comb (g : Nat × ByteArray → Option It) : List (Nat × ByteArray) → Option (List It)
  | [] => some []
  | e :: r => match g e, comb g r with
    | some x, some l => some (x :: l)
    | _, _ => none
theorem comb_some {g : Nat × ByteArray → Option It} : ∀ (l : List (Nat × ByteArray)) (its : List It), l.map g = its.map some → comb g l = some its
  | [], [], _ => rfl
  | [], _ :: _, h => by cases h
  | _ :: _, [], h => by cases h
  | e :: r, x :: l, h => by
    injection h with h1 h2
    show (match g e, comb g r with | some x, some l => some (x :: l) | _, _ => none) = _
    rw [h1, comb_some r l h2]
theorem comb_none {g : Nat × ByteArray → Option It} : ∀ (l : List (Nat × ByteArray)) (e : Nat × ByteArray), e ∈ l → g e = none → comb g l = none
  | a :: r, e, h, hn => by
    show (match g a, comb g r with | some x, some l => some (x :: l) | _, _ => none) = _
    rcases List.mem_cons.1 h with rfl | h
    · rw [hn]
    · rw [comb_none r e h hn]
      cases g a <;> rfl
/-- The items that bytes are, read no deeper than so often. -/
def decF : Nat → ByteArray → Option (List It)
  | 0, _ => some []
  | f + 1, s => comb (fun e => if e.1 = 1 then some (.mk false e.2 []) else if e.1 = 2 then (decF f e.2).map (It.mk true ⟨#[]⟩) else none) (ps s)
def one (f : Nat) (e : Nat × ByteArray) : Option It := if e.1 = 1 then some (.mk false e.2 []) else if e.1 = 2 then (decF f e.2).map (It.mk true ⟨#[]⟩) else none

/-- A block of cells. -/
def isC (W : World) (b : Nat) : Prop := ∃ c e fz, W.heap[b]? = some (.cells c e fz)
theorem isC_of {W : World} {b k : Nat} {v : Value} (h : W.cell? ⟨b, k, none⟩ = some v) : isC W b := by
  unfold World.cell? at h
  dsimp only at h
  split at h
  · rename_i c e fz hb
    exact ⟨c, e, fz, hb⟩
  · cases h
mutual
theorem inP_cells {p : Nat → Prop} {W : World} : ∀ x, inP p W x → inP (fun b => p b ∧ isC W b) W x
  | .mk _ _ a _ xs, h => rowP_cells a 0 xs h
theorem rowP_cells {p : Nat → Prop} {W : World} (a : Option Addr) : ∀ i xs, rowP p W a i xs → rowP (fun b => p b ∧ isC W b) W a i xs
  | _, [], _ => trivial
  | i, x :: r, ⟨⟨b, o, h0, h1, h2, h3, h4⟩, h5, h6⟩ => ⟨⟨b, o, ⟨h0, isC_of h2⟩, h1, h2, h3, h4⟩, inP_cells x h5, rowP_cells a (i + 1) r h6⟩
end
theorem Held.app {cl : List Value} {ys : List Im} (h : Held cl ys) (X : Im) (hl : cl.length = ys.length * 3) : Held (cl ++ cell3 X) (ys ++ [X]) := by
  intro j x hx
  by_cases hj : j < ys.length
  · rw [List.getElem?_append_left hj] at hx
    obtain ⟨h0, h1, h2⟩ := h j x hx
    rw [List.getElem?_append_left (by omega), List.getElem?_append_left (by omega), List.getElem?_append_left (by omega)]
    exact ⟨h0, h1, h2⟩
  · have hj2 : j = ys.length := by
      have := (List.getElem?_eq_some_iff.1 hx).1
      simp at this
      omega
    subst hj2
    simp at hx
    subst hx
    rw [List.getElem?_append_right (by omega), List.getElem?_append_right (by omega), List.getElem?_append_right (by omega), show 3 * ys.length - cl.length = 0 by omega, show 3 * ys.length + 1 - cl.length = 1 by omega, show 3 * ys.length + 2 - cl.length = 2 by omega]
    exact ⟨rfl, rfl, rfl⟩
theorem rowP_owned {W : World} {zz c : Nat} {ao : Option Addr} {cl : List Value} {ys : List Im} {p q : Nat → Prop} (hown : W.ownsRow zz 70 3 (.slice ao ys.length c) ys.length cl) (hheld : Held cl ys) (hin : ∀ y, y ∈ ys → inP p W y) (hpq : ∀ b, p b → q b) (hq : ∀ g, ao = some ⟨g, 0, none⟩ → q g) : rowP q W ao 0 ys := by
  rcases hown.2 with ⟨h, h0⟩ | ⟨g, cap, cur, h, _, hg, _⟩
  · have : ys = [] := List.length_eq_zero_iff.1 h0
    subst this
    exact trivial
  · injection h with h1 h2 h3
    subst h1 h3
    have key : ∀ (r : List Im) (i : Nat), ys.drop i = r → rowP q W (some ⟨g, 0, none⟩) i r := by
      intro r
      induction r with
      | nil => intro i _; trivial
      | cons y r ih =>
        intro i hi
        have hyi : ys[i]? = some y := by
          have := congrArg (·[0]?) hi
          simpa using this
        have hil := (List.getElem?_eq_some_iff.1 hyi).1
        obtain ⟨e0, e1, e2⟩ := hheld i y hyi
        refine ⟨⟨g, 0, hq g rfl, rfl, ?_, ?_, ?_⟩, ?_, ih (i + 1) ?_⟩
        · rw [show 0 + 3 * i = 3 * i by omega, hown.cellAt _ (by omega)]; exact e0
        · rw [show 0 + 3 * i + 1 = 3 * i + 1 by omega, hown.cellAt _ (by omega)]; exact e1
        · rw [show 0 + 3 * i + 2 = 3 * i + 2 by omega, hown.cellAt _ (by omega)]; exact e2
        · exact inP_of (fun b hb => ⟨hpq b hb, fun _ => rfl⟩) y (hin y (List.mem_of_getElem? hyi))
        · rw [← List.drop_drop, hi]
          rfl
    exact key ys 0 rfl
theorem Rl.keeps {W W' : World} {v u : Value} {bI zz n : Nat} {cl : List Value} (h : Rl W W' v bI) (hB : Bx bI 68 u W) (hown : W.ownsRow zz 70 3 v n cl) (B : Nat) : KeepsFrom B W W' :=
  ⟨h.size, fun k o _ hk ho => (h.block k (Array.getElem?_eq_some_iff.1 hk).1 (fun e => by
    obtain ⟨c, hc⟩ := owns_kind3 hown k e.symm
    rw [hk] at hc
    cases hc
    cases ho) (fun e => by
    rw [e, show W.heap[bI]? = _ from hB] at hk
    cases hk
    cases ho)).trans hk⟩
theorem Rl.below {W W' : World} {v : Value} {bI zz n B : Nat} {cl : List Value} (h : Rl W W' v bI) (hown : W.ownsRow zz 70 3 v n cl) (hz : B ≤ zz) (hb : B ≤ bI) (hB : B ≤ W.heap.size) : Below B W W' :=
  ⟨h.os, h.tape, h.output, h.size, fun k hk => h.block k (by omega) (fun e => by have := (hown.lt k e.symm).1; omega) (by omega)⟩
/-- The state of a round: the items so far, and that all is well. -/
def DSt {s : ByteArray} (f z bO : Nat) (w : World) (pre : List (Pe s)) (W : World) : Prop :=
  ∃ v cl ys, Bx z 68 v W ∧ Bx bO 4 (.bool true) W ∧ W.ownsRow z 70 3 v ys.length cl ∧ Held cl ys ∧ (pre.map (·.1)).map (one f) = (ers ys).map some ∧ (∀ y, y ∈ ys → inP (fun b => bO < b ∧ b < W.heap.size ∧ some b ≠ v.ownBlock) W y) ∧ Below z w W
theorem owns_own3 {A C : World} {b n : Nat} {v : Value} {xs : List Value} {row : Option Nat} (h : A.ownsRow b 70 3 v n xs) (hg : A.grownBy C row) (hr : ∀ r, row = some r → ∃ o : Obj, A.heap[r]? = some o ∧ o.isCells = false) : C.ownsRow b 70 3 v n xs := by
  refine h.kept hg ?_
  cases e' : v.ownBlock with
  | none => exact .inl rfl
  | some k =>
    obtain ⟨c, hk⟩ := owns_kind3 h k e'
    refine .inr fun e2 => ?_
    obtain ⟨o, ho, hc⟩ := hr k e2.symm
    rw [hk] at ho
    cases ho
    cases hc
theorem DSt.own {s : ByteArray} {f z bO : Nat} {w A C : World} {pre : List (Pe s)} {row : Option Nat} (h : DSt f z bO w pre A) (hg : A.grownBy C row) (hr : ∀ r, row = some r → z ≤ r ∧ ∃ o : Obj, A.heap[r]? = some o ∧ o.isCells = false) : DSt f z bO w pre C := by
  obtain ⟨v, cl, ys, h1, h2, h3, h4, h5, h6, h7⟩ := h
  have hl := h1.lt
  refine ⟨v, cl, ys, h1.own hg (fun r e => (hr r e).2), h2.own hg (fun r e => (hr r e).2), owns_own3 h3 hg (fun r e => (hr r e).2), h4, h5, fun y hy => ?_, h7.grown hg (by omega) (fun k e => (hr k e).1)⟩
  refine inP_of (fun b hb => ?_) y (inP_cells y (h6 y hy))
  obtain ⟨⟨b1, b2, b3⟩, c, e, fz, hb⟩ := hb
  have := hg.size
  refine ⟨⟨b1, by omega, b3⟩, fun k => World.cell?_of_block (w := A) (hg.block b b2 (fun e2 => ?_))⟩
  obtain ⟨_, o, ho, hc⟩ := hr b e2.symm
  rw [hb] at ho
  cases ho
  cases hc

theorem bx_same {W : World} {b : Nat} {T : TypeId} {u : Value} (h : Bx b T u W) (k : Nat) : (W.setCell ⟨b, 0, none⟩ u).heap[k]? = W.heap[k]? := by
  by_cases e : k = b
  · subst e
    exact (show (W.setCell ⟨k, 0, none⟩ u).heap[k]? = _ from h.put u).trans (show W.heap[k]? = _ from h).symm
  · exact Below.heap_setCell _ _ _ _ e
theorem below_same {B : Nat} {A W : World} {b : Nat} {T : TypeId} {u : Value} (hA : Below B A W) (h : Bx b T u W) : Below B A (W.setCell ⟨b, 0, none⟩ u) :=
  ⟨hA.os, hA.tape, hA.output, by have := hA.size; simp [World.setCell]; omega, fun k hk => (bx_same h k).trans (hA.block k hk)⟩
theorem dst_snoc {s : ByteArray} {f z bO : Nat} {w W W7 Wf : World} {pre : List (Pe s)} {x : Pe s} {v : Value} {cl : List Value} {ys : List Im} {X : Im} {g c : Nat} (hzO : z < bO)
    (hOd : Bx bO 4 (.bool true) W) (hownd : W.ownsRow z 70 3 v ys.length cl) (hheld : Held cl ys) (hone : (pre.map (·.1)).map (one f) = (ers ys).map some) (hin : ∀ y, y ∈ ys → inP (fun b => bO < b ∧ b < W.heap.size ∧ some b ≠ v.ownBlock) W y) (BWd : Below z w W)
    (hb : Below W.heap.size W W7) (hX : inP (fun b => W.heap.size ≤ b ∧ b < W7.heap.size) W7 X) (hx : one f x.1 = some (er X))
    (h1 : Bx z 68 (.slice (some ⟨g, 0, none⟩) (ys.length + 1) c) Wf) (h2 : Wf.ownsRow z 70 3 (.slice (some ⟨g, 0, none⟩) (ys.length + 1) c) (ys.length + 1) (cl ++ cell3 X)) (h3 : some g = v.ownBlock ∨ W7.heap.size ≤ g) (h4 : Rl W7 Wf v z) : DSt f z bO w (pre ++ [x]) Wf := by
  have hOw := hOd.lt
  have hs7 := hb.size
  have hs8 := h4.size
  have hvl : ∀ k, some k = v.ownBlock → k < W.heap.size := fun k e => (hownd.lt k e.symm).2
  have hOv : some bO ≠ v.ownBlock := fun e => by
    obtain ⟨c', hk⟩ := owns_kind3 hownd bO e.symm
    rw [show W.heap[bO]? = _ from hOd] at hk
    cases hk
  refine ⟨_, _, ys ++ [X], h1, ?_, ?_, hheld.app X (by rw [hownd.1]), ?_, ?_, ?_⟩
  · exact (h4.block bO (by omega) hOv (by omega)).trans ((hb.block bO hOw).trans hOd)
  · rw [List.length_append]
    exact h2
  · rw [List.map_append, List.map_append, hone, ers_map, ers_map, List.map_append, List.map_append]
    show _ ++ [one f x.1] = _ ++ [some (er X)]
    rw [hx]
  · intro y hy
    rcases List.mem_append.1 hy with h | h
    · refine inP_of ?_ y (hin y h)
      intro b hb'
      obtain ⟨c1, c2, c3⟩ := hb'
      refine ⟨⟨c1, by omega, ?_⟩, ?_⟩
      · intro e
        injection e with e
        have e' : b = g := e
        rcases h3 with h3 | h3
        · exact c3 (by rw [e']; exact h3)
        · omega
      · intro k
        exact (World.cell?_of_block (w := W7) (a := ⟨b, k, none⟩) (h4.block b (by omega) c3 (by omega))).trans (hb.cell (p := ⟨b, k, none⟩) c2)
    · simp at h
      subst h
      refine inP_of ?_ y hX
      intro b hb'
      obtain ⟨c1, c2⟩ := hb'
      refine ⟨⟨by omega, by omega, ?_⟩, ?_⟩
      · intro e
        injection e with e
        have e' : b = g := e
        rcases h3 with h3 | h3
        · have := hvl g h3
          omega
        · omega
      · intro k
        exact World.cell?_of_block (w := W7) (a := ⟨b, k, none⟩) (h4.block b c2 (fun e => by have := hvl b e; omega) (by omega))
  · exact BWd.trans ((hb.mono (by omega)).trans (h4.below (n := ys.length) (cl := cl) (owns_below hownd hb) (Nat.le_refl _) (Nat.le_refl _) (by omega)))
theorem ItIn.set1 {b : Nat} {l : Bool} {t t' : ByteArray} {a : Option Addr} {c : Nat} {xs : List Im} {W : World} (h : ItIn b (.mk l t a c xs) W) : ItIn b (.mk l t' a c xs) (W.setCell ⟨b, 1, none⟩ (.string t')) := heap_setCell_same W b 1 _ _ _ h
theorem ItIn.set0 {b : Nat} {l l' : Bool} {t : ByteArray} {a : Option Addr} {c : Nat} {xs : List Im} {W : World} (h : ItIn b (.mk l t a c xs) W) : ItIn b (.mk l' t a c xs) (W.setCell ⟨b, 0, none⟩ (.bool l')) := heap_setCell_same W b 0 _ _ _ h
theorem ItIn.set2 {b : Nat} {l : Bool} {t : ByteArray} {a a' : Option Addr} {c c' : Nat} {xs xs' : List Im} {W : World} (h : ItIn b (.mk l t a c xs) W) : ItIn b (.mk l t a' c' xs') (W.setCell ⟨b, 2, none⟩ (.slice a' xs'.length c')) := heap_setCell_same W b 2 _ _ _ h
def DStop {s : ByteArray} (f z bO : Nat) (w : World) (c : Code) (pre : List (Pe s)) (W : World) : Prop := c = Code.exit 0 ∧ Bx bO 4 (.bool false) W ∧ Below z w W ∧ ∃ e, e ∈ pre.map (·.1) ∧ one f e = none

set_option maxRecDepth 100000 in
set_option maxHeartbeats 4000000 in
theorem itemsOf_of (f : Nat) (s : ByteArray) (hs : s.size < 1000000)
    (IH : ∀ (e : Nat × ByteArray), e ∈ ps s → e.1 = 2 → ∀ w : World, Calls Tryd.prog 125 #[.string e.2] w fun r w' => Below w.heap.size w w' ∧
      ((decF f e.2 = none ∧ r = .returned (.tuple #[.slice none 0 0, .bool false])) ∨ ∃ a c ys, decF f e.2 = some (ers ys) ∧ r = .returned (.tuple #[.slice a ys.length c, .bool true]) ∧ rowP (fun b => w.heap.size ≤ b ∧ b < w'.heap.size) w' a 0 ys))
    (hsub : ∀ e, e ∈ ps s → e.2.size ≤ 1000000)
    (w : World) :
    Calls Tryd.prog 125 #[.string s] w fun r w' => Below w.heap.size w w' ∧
      ((decF (f + 1) s = none ∧ r = .returned (.tuple #[.slice none 0 0, .bool false])) ∨ ∃ a c ys, decF (f + 1) s = some (ers ys) ∧ r = .returned (.tuple #[.slice a ys.length c, .bool true]) ∧ rowP (fun b => w.heap.size ≤ b ∧ b < w'.heap.size) w' a 0 ys) := by
  have KP := parts_any s
  have KS := fun n bX w hb => parts_stops n bX s (by omega) w hb
  have hpl := ps_len s.size s (Nat.le_refl _)
  refine (callsIn_wide (n := 9)).1 ?_
  refine callsIn_of_wp_marks Tryd.func125 rfl trivial ?_ rfl
  refine wpIn_wide.2 ?_
  simp only [Tryd.ntmps125, List.size_toArray, List.length_cons, List.length_nil, Nat.reduceAdd, Nat.reduceSub, Array.replicate_succ, Array.replicate_zero, List.push_toArray, List.append_toArray, List.nil_append, List.cons_append]
  go_wp2_with fail
  refine wp_scope_straight ?_
  go_wp2_with fail
  refine wpOf (fun W => Bx w.heap.size 68 (.slice none 0 0) W ∧ Bx (w.heap.size + 1) 4 (.bool true) W ∧ Below w.heap.size w W) ?_ ?_
  · have a1 : Below w.heap.size w ((w.alloc (.cells #[.slice none 0 0] 68)).alloc (.cells #[.bool true] 4)) := ((Below.refl _ w).alloc (Nat.le_refl _) _).alloc (by simp) _
    refine ⟨(Lib.alloc_old _ _ _ (by simp)).trans (World.alloc_heap_new w _), ?_, a1⟩
    have := World.alloc_heap_new (w.alloc (.cells #[.slice none 0 0] 68)) (.cells #[.bool true] 4)
    rwa [World.size_alloc] at this
  rintro w2 ⟨hI, hO, BW2⟩
  obtain ⟨z, hz⟩ : ∃ c, w.heap.size = c := ⟨_, rfl⟩
  have HZ : Hid (w.heap.size = z) := hz
  rw [hz] at hI hO BW2 ⊢
  clear hz
  obtain ⟨bO, hbO⟩ : ∃ c, z + 1 = c := ⟨_, rfl⟩
  rw [hbO] at hO ⊢
  refine wp_label ?_
  go_wp2_with fail
  refine (KP w2).mono ?_
  rintro e w3 ⟨rfl, hw3⟩
  have a3 : Below w2.heap.size w2 w3 := by rw [hw3]; exact (Below.refl _ w2).alloc (Nat.le_refl _) _
  have hcx : Bx w2.heap.size 9 (.string s) w3 := by rw [hw3]; exact World.alloc_heap_new w2 _
  have hI3 : Bx z 68 (.slice none 0 0) w3 := (a3.block z hI.lt).trans hI
  have hO3 : Bx bO 4 (.bool true) w3 := (a3.block bO hO.lt).trans hO
  have hOw := hO.lt
  have BW3 := belowStep BW2 (by omega) a3
  clear hw3 a3 hI hO BW2 KP
  obtain ⟨bX, hbX⟩ : ∃ c, w2.heap.size = c := ⟨_, rfl⟩
  rw [hbX] at hcx hOw ⊢
  clear hbX
  go_wp2_with fail
  have hxz : bX < w3.heap.size := hcx.lt
  refine (wpIn_wide (n := 9)).1 ?_
  refine wpIn_rangeFunc_ownH rfl (by omega) (gf := 143) (lb := #[.pointer (some ⟨bX, 0, none⟩)]) rfl trivial (enters_of Tryd.func143 (by kernel_rfl) rfl)
    (KS _ bX w3 hcx) (fun _ _ => trivial) (fun _ _ _ _ _ _ _ _ => trivial) (Below.refl _ _) (fun _ => rfl)
    (fun pre W => DSt f z bO w pre W)
    (fun c pre W => DStop f z bO w c pre W)
    (fun s A C row hs hg hr => hs.own hg (fun r e => ⟨Nat.le_trans (by omega) (hr r e).1, (hr r e).2⟩))
    (fun c s A C row hs hg hr => ⟨hs.1, hs.2.1.own hg (fun r e => (hr r e).2), hs.2.2.1.grown hg (by have := hs.2.1.lt; omega) (fun k e => Nat.le_trans (by omega) (hr k e).1), hs.2.2.2⟩)
    ⟨_, _, [], hI3, hO3, World.ownsRow_nil _ _ _ _, (fun j y h => by cases h), rfl, (fun y h => by cases h), BW3⟩
    (fun x a' W => a' = { tmps := #[.string s, undef, .slice none 0 0, .bool false, .pointer (some ⟨z, 0, none⟩), .pointer (some ⟨bO, 0, none⟩), .int .i64 x.1.1, .string x.1.2, undef, .string s, .func (.func 143) #[] #[.pointer (some ⟨bX, 0, none⟩)], .int .i64 x.1.1, .string x.1.2, undef, undef, undef, undef, undef, undef, undef, undef, undef, undef, undef, undef, undef, undef, undef, undef, undef, undef, undef, undef, undef, undef, undef, undef, undef, undef], defers := [] })
    (fun _ _ _ _ _ _ h _ _ => h)
    ?assign ?body ?done ?stop
  case assign =>
    rintro l pre x W K hI hK
    dsimp only [pEnc]
    gi_wp2
    exact hK _ _ (KeepsFrom.refl _ _) trivial hI rfl
  case body =>
    rintro l pre x a' W hl ⟨r, hr⟩ ⟨v, cl, ys, hId, hOd, hownd, hheld, hone, hin, BWd⟩ rfl hlt
    obtain ⟨⟨k, bo⟩, hx⟩ := x
    have hsb := hsub _ hx
    have IHx := IH _ hx
    dsimp only at hsb IHx ⊢
    have hOw := hOd.lt
    have hIw := hId.lt
    have hyl : ys.length < 1000000 := by
      have := congrArg List.length hone
      rw [List.length_map, List.length_map, List.length_map, ers_map, List.length_map] at this
      omega
    have A1 : Below W.heap.size W (W.alloc (.cells #[.bool false, .string ⟨#[]⟩, .slice none 0 0] 70)) := (Below.refl _ W).alloc (Nat.le_refl _) _
    have hT1 : ItIn W.heap.size (.mk false ⟨#[]⟩ none 0 []) (W.alloc (.cells #[.bool false, .string ⟨#[]⟩, .slice none 0 0] 70)) := World.alloc_heap_new W _
    by_cases k1 : k = 1
    · subst k1
      have KC := fun w => clone_any bo w (by omega)
      gi_wp2_with fail
      refine ⟨trivial, (CallsIn.inRound l (callsIn_wide.2 (KC _))).mono ?_⟩
      rintro e w4 ⟨rfl, B4⟩
      have hT4 : ItIn W.heap.size (.mk false ⟨#[]⟩ none 0 []) w4 := (B4.block _ (by simp)).trans hT1
      have BA := belowStep A1 (by simp) B4
      have hT5 := ItIn.set1 (t' := bo) hT4
      have B5 := below_set BA W.heap.size 1 (Nat.le_refl _) (.string bo)
      have d1 : w4.cell? ⟨W.heap.size, 1, none⟩ = some (.string ⟨#[]⟩) := by rw [Lib.cell_of_heap hT4]; rfl
      have f1 := Lib.frozen_of_heap hT4 1
      have HX : Hid (_ ∧ _) := ⟨hT5, B5⟩
      clear KC A1 hT1 B4 hT4 BA hT5 B5
      gi_wp2_with fail
      obtain ⟨hT7, B7⟩ := HX.out
      refine append_item_in l _ 15 _ z W.heap.size z ys.length v cl (.mk false bo none 0 []) _ _ _ _ _ _ _ _ _ _ _ _ _ _ _ _ _ _ _ _ _ _ _ _ _ _ _ _ _ _ _ _ _ _ _ _ _ (by rintro ⟨_, _, h⟩; exact h) hyl ((B7.block z hIw).trans hId) hT7 (owns_below hownd B7) (by have := B7.size; omega) ?_
      intro a' Wf g c h1 h2 h3 h4
      refine (?_ : KeepsFrom _ W Wf ∧ True ∧ DSt f z bO w (pre ++ [_]) Wf)
      refine ⟨((ko_below B7).from _).trans (h4.keeps ((B7.block z hIw).trans hId) (owns_below hownd B7) _), trivial, dst_snoc (by omega) hOd hownd hheld hone hin BWd B7 (show inP _ _ (.mk false bo none 0 []) from trivial) rfl h1 h2 h3 h4⟩
    · have b1 : ((k : Int) == 1) = false := by rw [beq_eq_false_iff_ne]; omega
      by_cases k2 : k = 2
      · subst k2
        have A2 : Below W.heap.size W (W.alloc (.cells #[.bool true, .string ⟨#[]⟩, .slice none 0 0] 70)) := (Below.refl _ W).alloc (Nat.le_refl _) _
        have hT2 : ItIn W.heap.size (.mk true ⟨#[]⟩ none 0 []) (W.alloc (.cells #[.bool true, .string ⟨#[]⟩, .slice none 0 0] 70)) := World.alloc_heap_new W _
        have KI := IHx rfl
        clear A1 hT1 IHx
        gi_wp2_with fail
        refine ⟨trivial, (CallsIn.inRound l (callsIn_wide.2 (KI _))).mono ?_⟩
        rintro e w4 ⟨B4, hcase⟩
        have hT4 : ItIn W.heap.size (.mk true ⟨#[]⟩ none 0 []) w4 := (B4.block _ (by simp)).trans hT2
        have BA := belowStep A2 (by simp) B4
        have hO4 : Bx bO 4 (.bool true) w4 := (BA.block bO hOw).trans hOd
        have d2 : w4.cell? ⟨W.heap.size, 2, none⟩ = some (.slice none 0 0) := by rw [Lib.cell_of_heap hT4]; rfl
        have f2 := Lib.frozen_of_heap hT4 2
        have cO := hO4.cell
        have fO := hO4.fr
        have hbOT : bO ≠ W.heap.size := by omega
        rw [World.size_alloc] at hcase
        clear KI A2 hT2 B4
        rcases hcase with ⟨hnone, rfl⟩ | ⟨a4, c4, zs, hsome, rfl, hrow⟩
        · have hO5 := (hO4.other hbOT 2 (.slice none 0 0)).put (.bool false)
          have B5 := (below_set (BWd.trans (BA.mono (by omega))) W.heap.size 2 (by omega) (.slice none 0 0)).setCell (p := ⟨bO, 0, none⟩) (by show z ≤ bO; omega) (.bool false)
          have K5 := (((ko_below BA).from w3.heap.size).trans (ko_set _ ⟨W.heap.size, 2, none⟩ (.slice none 0 0) w3.heap.size)).trans (ko_set _ ⟨bO, 0, none⟩ (.bool false) w3.heap.size)
          have HX : Hid (_ ∧ _ ∧ _) := ⟨hO5, B5, K5⟩
          clear hO5 B5 K5 BA hT4 hO4
          gi_wp2
          obtain ⟨hO2, B2, K2⟩ := HX.out
          refine (?_ : KeepsFrom _ W _ ∧ DStop f z bO w (Code.exit 0) (pre ++ [_]) _)
          refine ⟨K2, rfl, hO2, B2, (2, bo), by simp, ?_⟩
          show (decF f bo).map _ = _
          rw [hnone]
          rfl
        · have hT5 : ItIn W.heap.size (.mk true ⟨#[]⟩ a4 c4 zs) (w4.setCell ⟨W.heap.size, 2, none⟩ (.slice a4 zs.length c4)) := ItIn.set2 hT4
          have B5 := below_set BA W.heap.size 2 (Nat.le_refl _) (.slice a4 zs.length c4)
          have hO5 := hO4.other hbOT 2 (.slice a4 zs.length c4)
          have B6 := below_same B5 hO5
          have hT6 : ItIn W.heap.size (.mk true ⟨#[]⟩ a4 c4 zs) ((w4.setCell ⟨W.heap.size, 2, none⟩ (.slice a4 zs.length c4)).setCell ⟨bO, 0, none⟩ (.bool true)) := (bx_same hO5 _).trans hT5
          have hX6 : inP (fun b => W.heap.size ≤ b ∧ b < ((w4.setCell ⟨W.heap.size, 2, none⟩ (.slice a4 zs.length c4)).setCell ⟨bO, 0, none⟩ (.bool true)).heap.size) ((w4.setCell ⟨W.heap.size, 2, none⟩ (.slice a4 zs.length c4)).setCell ⟨bO, 0, none⟩ (.bool true)) (.mk true ⟨#[]⟩ a4 c4 zs) := by
            refine rowP_of ?_ a4 0 zs hrow
            intro b hb
            obtain ⟨c1, c2⟩ := hb
            refine ⟨⟨by omega, by simp [World.setCell]; omega⟩, fun j => ?_⟩
            rw [cell_ne _ _ _ _ _ (by show b ≠ bO; omega), cell_ne _ _ _ _ _ (by show b ≠ W.heap.size; omega)]
          have HX : Hid (_ ∧ _ ∧ _) := ⟨hT6, B6, hX6⟩
          clear hT5 B5 hO5 B6 hT6 hX6 BA hT4 hO4 hrow
          gi_wp2_with fail
          obtain ⟨hT7, B7, hX7⟩ := HX.out
          refine append_item_in l _ 15 _ z W.heap.size z ys.length v cl (.mk true ⟨#[]⟩ a4 c4 zs) _ _ _ _ _ _ _ _ _ _ _ _ _ _ _ _ _ _ _ _ _ _ _ _ _ _ _ _ _ _ _ _ _ _ _ _ _ (by rintro ⟨_, _, h⟩; exact h) hyl ((B7.block z hIw).trans hId) hT7 (owns_below hownd B7) (by have := B7.size; omega) ?_
          intro a' Wf g c h1 h2 h3 h4
          refine (?_ : KeepsFrom _ W Wf ∧ True ∧ DSt f z bO w (pre ++ [_]) Wf)
          refine ⟨((ko_below B7).from _).trans (h4.keeps ((B7.block z hIw).trans hId) (owns_below hownd B7) _), trivial, dst_snoc (by omega) hOd hownd hheld hone hin BWd B7 hX7 (by show (decF f bo).map _ = _; rw [hsome]; rfl) h1 h2 h3 h4⟩
      · have b2 : ((k : Int) == 2) = false := by rw [beq_eq_false_iff_ne]; omega
        have cO := hOd.cell
        have fO := hOd.fr
        have hO2 : Bx bO 4 (.bool false) ((W.setCell ⟨bO, 0, none⟩ (.bool false)).alloc (.cells #[.bool false, .string ⟨#[]⟩, .slice none 0 0] 70)) := (Lib.alloc_old _ _ _ (by simp [World.setCell]; omega)).trans (hOd.put (.bool false))
        have A2 : Below (W.setCell ⟨bO, 0, none⟩ (.bool false)).heap.size (W.setCell ⟨bO, 0, none⟩ (.bool false)) ((W.setCell ⟨bO, 0, none⟩ (.bool false)).alloc (.cells #[.bool false, .string ⟨#[]⟩, .slice none 0 0] 70)) := (Below.refl _ _).alloc (Nat.le_refl _) _
        have B2 := (BWd.setCell (p := ⟨bO, 0, none⟩) (by show z ≤ bO; omega) (.bool false)).trans (A2.mono (by simp [World.setCell]; omega))
        have K2 := (ko_set W ⟨bO, 0, none⟩ (.bool false) w3.heap.size).trans ((ko_below A2).from w3.heap.size)
        have HX : Hid (_ ∧ _ ∧ _) := ⟨hO2, B2, K2⟩
        clear hO2 B2 K2 A1 A2 hT1
        gi_wp2
        obtain ⟨hO2, B2, K2⟩ := HX.out
        refine (?_ : KeepsFrom _ W _ ∧ DStop f z bO w (Code.exit 0) (pre ++ [_]) _)
        refine ⟨K2, rfl, hO2, B2, (k, bo), by simp, ?_⟩
        show (if k = 1 then _ else if k = 2 then _ else _) = _
        rw [if_neg k1, if_neg k2]
  case done =>
    rintro D ys W hD hys ⟨v, cl, xs, hId, hOd, hownd, hheld, hone, hin, BWd⟩ hK
    rw [hys] at hone
    have HO : Hid (decF (f + 1) s = some (ers xs)) := comb_some _ _ hone
    have hch := (Array.getElem?_eq_some_iff.1 hK).1
    obtain ⟨ao, c, rfl⟩ : ∃ ao c, v = .slice ao xs.length c := by
      rcases hownd.2 with ⟨h, h0⟩ | ⟨g, c, _, h, _⟩
      · exact ⟨none, 0, by rw [h, h0]⟩
      · exact ⟨_, c, h⟩
    have hrow : rowP (fun b => z ≤ b ∧ b < W.heap.size) W ao 0 xs := rowP_owned hownd hheld hin (fun b hb => ⟨by omega, hb.2.1⟩) (fun g hg => hownd.lt g (by rw [hg]; rfl))
    have cI := hId.cell
    have cO := hOd.cell
    have HX : Hid (_ ∧ _ ∧ _) := ⟨BWd, hK, hrow⟩
    clear BWd hK hrow hownd hheld hone hin hys
    go_wp2
    obtain ⟨BWd, hK, hrow⟩ := HX.out
    rw [Exit.noGoto_ret]
    have hbP := belowK_b (n₀ := z) (w := w3) (by omega) W D _ (.deferred none) hD hK rfl rfl
    refine ⟨by simp, .inl ⟨_, _, rfl, run_takeDeferred hK, ?_⟩⟩
    refine ⟨.tuple #[.slice ao xs.length c, .bool true], by simp [results, Tryd.results125, go_sem], ?_, .inr ⟨ao, c, xs, HO.out, rfl, ?_⟩⟩
    · rw [HZ.out]; exact BWd.trans hbP
    · rw [HZ.out]
      refine rowP_of (fun b hb => ⟨⟨hb.1.1, by have := hb.1.2; simpa using this⟩, fun k => World.cell?_of_block (w := W) (World.putObj_heap_other (fun e => ?_))⟩) ao 0 xs (rowP_cells ao 0 xs hrow)
      obtain ⟨_, c', e', fz, hc⟩ := hb
      rw [show b = D from e, hK] at hc
      cases hc
  case stop =>
    rintro D c pre W hD ⟨q, hq, hpre⟩ ⟨rfl, hOd, BWd, e, he, hbad⟩ hK
    have HO : Hid (decF (f + 1) s = none) := comb_none _ e (List.mem_of_mem_take (by rw [← hpre]; exact he)) hbad
    have cO := hOd.cell
    gi_wp2
    go_wp2
    rw [Exit.noGoto_ret]
    have hbP := belowK_b (n₀ := z) (w := w3) (by omega) W D _ (.deferred none) hD hK rfl rfl
    refine ⟨by simp, .inl ⟨_, _, rfl, run_takeDeferred hK, ?_⟩⟩
    refine ⟨.tuple #[.slice none 0 0, .bool false], by simp [results, Tryd.results125, go_sem], ?_, .inl ⟨HO.out, rfl⟩⟩
    rw [HZ.out]
    exact BWd.trans hbP
end Go.Proofs.YtmefanagpkbjeaaDoor
