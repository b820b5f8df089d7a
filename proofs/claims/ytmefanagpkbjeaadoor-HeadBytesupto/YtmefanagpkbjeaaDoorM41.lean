/- Lemmas: A text copied: strings.Clone. An item appended to a slice of items, in a round. The items whose bytes stand one behind the other: itemsOf. Bytes read: Decode. Numbers as bytes, and back. What bytes from a place on begin with, told by places. Where an item begins and ends: the reference's measure. How deep an item is: the reference's Deep. What the reference's take answers, by places, and that it is what the parts of bytes are. Items and their bytes, apart from all memory: what stands for an item is read as it was, and what is read is written so again. -/
import Derived.Test.YtmefanagpkbjeaaDoorM1
import Derived.Test.YtmefanagpkbjeaaDoorM10
import Derived.Test.YtmefanagpkbjeaaDoorM2
import Derived.Test.YtmefanagpkbjeaaDoorM3
import Derived.Test.YtmefanagpkbjeaaDoorM33
import Derived.Test.YtmefanagpkbjeaaDoorM34
import Derived.Test.YtmefanagpkbjeaaDoorM35
import Derived.Test.YtmefanagpkbjeaaDoorM36
import Derived.Test.YtmefanagpkbjeaaDoorM37
import Derived.Test.YtmefanagpkbjeaaDoorM38
import Derived.Test.YtmefanagpkbjeaaDoorM39
import Derived.Test.YtmefanagpkbjeaaDoorM40
import Derived.Test.YtmefanagpkbjeaaDoorRows
import Derived.Shelf.Pu.Clone
namespace Go.Proofs.YtmefanagpkbjeaaDoor
open Go.RowKit Go.Shelf Go.Sort

def rc : Ren := ⟨fun k => if k = 25 then 101 else k, fun k => if k = 37 then 58 else if k = 47 then 190 else k, fun k => k⟩
set_option maxRecDepth 100000 in
theorem lays_clone : LaysPu.n25 Tryd.prog rc where
  mixed := by kernel_rfl
  f25 := by kernel_rfl
  t0 := by kernel_rfl
  a0 := fun w => rfl
  z0 := fun w => rfl
  v0 := fun w => rfl
  i0 := by kernel_rfl
  t3 := by kernel_rfl
  a3 := fun w => rfl
  z3 := fun w => rfl
  v3 := fun w => rfl
  i3 := by kernel_rfl
  t4 := by kernel_rfl
  a4 := fun w => rfl
  z4 := fun w => rfl
  v4 := fun w => rfl
  i4 := by kernel_rfl
  t5 := by kernel_rfl
  a5 := fun w => rfl
  z5 := fun w => rfl
  v5 := fun w => rfl
  i5 := by kernel_rfl
  t9 := by kernel_rfl
  a9 := fun w => rfl
  z9 := fun w => rfl
  v9 := fun w => rfl
  i9 := by kernel_rfl
  t37 := by kernel_rfl
  a37 := fun w => rfl
  z37 := fun w => rfl
  v37 := fun w => rfl
  i37 := by kernel_rfl
  t47 := by kernel_rfl
  a47 := fun w => rfl
  z47 := fun w => rfl
  v47 := fun w => rfl
  i47 := by kernel_rfl
theorem clone1_any (s : ByteArray) (w : World) (h : s.size ≤ 281474976710656) : Calls Tryd.prog 101 #[.string s] w fun e w' => e = .returned (.string s) ∧ Below w.heap.size w w' := AnyPu.stringslite_Clone lays_clone s w h
set_option maxHeartbeats 1000000 in
theorem clone_any (s : ByteArray) (w : World) (h : s.size ≤ 281474976710656) : Calls Tryd.prog 66 #[.string s] w fun e w' => e = .returned (.string s) ∧ Below w.heap.size w w' := by
  have K := fun w => clone1_any s w h
  go_enter Tryd.func66, Tryd.ntmps66
  go_wp2_with fail
  refine (K _).mono ?_
  rintro e w1 ⟨rfl, B1⟩
  go_wp2
  go_ret
  exact ⟨rfl, B1⟩
end Go.Proofs.YtmefanagpkbjeaaDoor
namespace Go.Proofs.YtmefanagpkbjeaaDoor
open Go.RowKit Go.Shelf Go.Sort
attribute [local go_sem] Oper.semAt_some

/-- The second law of drawn statements, in a round. -/
theorem region_inv_in {P : Program} (l' n' : Nat) {id : Nat} {Q : Exit → Act → World → Prop} {a : Act} {w : World} {l : List Oper} (J : (Nat → Bool) → Act → World → Prop) (hm : P.follows .mixedOrders = true) (hnd : noDefer l.toArray = true) (hL : ¬ LetsOut Q)
    (hB : backB .any l.toArray = true) (h0 : J (fun _ => false) a w.drew)
    (step : ∀ i o S a W, l[i]? = some o → S i = false → J S a W → (∀ e ∈ o.after, Region.binds .any e = true → S e.on = true) → ∀ K : Act → World → Prop, (∀ a W, J (more S i) a W → K a W) →
      if Region.wanted o (yielded l.toArray a.tmps) then o.wp P a W K Q else K (a.put o.dst undef) W)
    (last : ∀ S a W, (∀ i, i < l.length → S i = true) → J S a W → Q .normal a W) : (Code.region id l.toArray true).wpIn (Fence.wide.inRound l') n' P Q a w := by
  refine region_round l' n' hm hnd hL ?_
  refine any_of_inv (P := P) (md := .any) (ops := l.toArray) (Q := Q) (J := fun listed a W => J (fun j => listed.getD j false) a W) hB
    (fun i listed a W hsz hr hJ => ?_) (fun listed a W hsz hall hJ => ?_) l.toArray.size (Array.replicate l.toArray.size false) a w.drew (by simp) (left_new _ _ (Nat.le_refl _)) ?_
  · obtain ⟨hun, o, ho, hall⟩ := mem_ready.1 hr
    have hlt : i < listed.size := by rw [hsz]; exact (Array.getElem?_eq_some_iff.1 ho).1
    have e : (fun j => (listed.setIfInBounds i true).getD j false) = more (fun j => listed.getD j false) i := by
      funext j
      unfold more
      by_cases hij : j = i
      · subst hij; simp [hlt]
      · rw [if_neg hij, getD_set_ne false (fun e => hij e.symm)]
    have hst := step i o (fun j => listed.getD j false) a W (by simpa using ho) (getD_both hun) hJ hall (J (more (fun j => listed.getD j false) i)) (fun _ _ h => h)
    unfold wpOp
    simp only [ho]
    rw [e]
    split
    · rename_i hw; simp only [hw, if_true] at hst; exact Or.inl hst
    · rename_i hw; simp only [hw] at hst; exact hst
  · refine last (fun j => listed.getD j false) a W (fun i hi => ?_) hJ
    have h1 := hall i (by simpa using hi)
    have h2 : i < listed.size := by rw [hsz]; simpa using hi
    cases hq : listed.getD i false with
    | true => rfl
    | false => rw [getD_in h2 hq] at h1; cases h1
  · have e : (fun j => (Array.replicate l.toArray.size false).getD j false) = fun _ => false := by funext j; exact getD_replicate_false _ _
    show J (fun j => (Array.replicate l.toArray.size false).getD j false) a _
    rw [e]; exact h0
theorem wp_append_where {P : Program} {w : World} {o : Oper} {a : Act} {K : Act → World → Prop} {Q : Exit → Act → World → Prop} (sl x : Operand) (t : TypeId)
    (ho : o.op = .call { callee := .builtin .append, args := #[sl, x], argTypes := #[t, t] })
    (base : Nat) (e : TypeId) (i : TypeInfo) (z : Value) (size bytes : Nat) (ht : P.underlying t = some (.slice e)) (hi : P.info? e = some i) (hz : i.zero = some z) (hsize : i.size = size) (hby : i.bytes = bytes) (hzs : z.cells.size = size) (hsz : 0 < size)
    (v : Value) (n : Nat) (xs : List Value) (hs : a.eval sl = v) (hown : w.ownsRow base e size v n xs) (ad : Addr) (m c : Nat) (news : List Value) (hx : a.eval x = .slice (some ad) m c) (hl : news.length = m * size)
    (hnews : ∀ j u, news[j]? = some u → w.cell? (ad.add j) = some u) (h1 : ∀ u ∈ news, u.oneCell' = true) (h63 : n + m ≤ maxLen) (hbytes : (n + m) * bytes ≤ 140737488355328) (hbase : base ≤ w.heap.size) (hm : 0 < m)
    (h : ∀ v' w', w'.ownsRow base e size v' (n + m) (xs ++ news) → w.grownBy w' v.ownBlock → v' ≠ .slice none 0 0 → (v'.ownBlock = v.ownBlock ∨ ∃ g, v'.ownBlock = some g ∧ w.heap.size ≤ g) → K (a.put o.dst v') w') : o.wp P a w K Q := by
  obtain ⟨v', w', hr, h2, h3, h4, h5⟩ := append_where (P := P) w base t o.type e i z size bytes ht hi hz hsize hby hzs hsz v n xs hown ad m c news hl hnews h1 h63 hbytes hbase hm
  unfold Oper.wp execOp
  simp only [ho, resolve, invoke, builtin, Sem.run_bind, Sem.run_pure, Result.andThen_ok, List.map_toArray, List.map_cons, List.map_nil, hs, hx, hr]
  exact h v' w' h2 h3 h4 h5

/-- What the statement leaves as it is. -/
structure Rl (W0 W : World) (v : Value) (bI : Nat) : Prop where
  os : W.os = W0.os
  tape : W.tape = W0.tape
  output : W.output = W0.output
  size : W0.heap.size ≤ W.heap.size
  block : ∀ k, k < W0.heap.size → some k ≠ v.ownBlock → k ≠ bI → W.heap[k]? = W0.heap[k]?
theorem Rl.set {W0 W : World} {v : Value} {bI : Nat} (h : Rl W0 W v bI) (p : Addr) (u : Value) (hp : some p.block = v.ownBlock ∨ W0.heap.size ≤ p.block ∨ p.block = bI) : Rl W0 (W.setCell p u) v bI :=
  ⟨h.os, h.tape, h.output, by have := h.size; simp [World.setCell]; omega, fun k h1 h2 h3 => (Below.heap_setCell _ _ _ _ (fun e => by
    subst e
    rcases hp with hp | hp | hp
    · exact h2 hp
    · omega
    · exact h3 hp)).trans (h.block k h1 h2 h3)⟩
def zero3 : List Value := [.bool false, .string ⟨#[]⟩, .slice none 0 0]
def cell3 (X : Im) : List Value := [.bool X.l, .string X.t, X.sl]
theorem set3 (cl : List Value) (n : Nat) (h : cl.length = n * 3) (X : Im) : (((cl ++ zero3).set (n * 3) (.bool X.l)).set (n * 3 + 1) (.string X.t)).set (n * 3 + 2) X.sl = cl ++ cell3 X := by
  rw [List.set_append_right _ _ (by omega), List.set_append_right _ _ (by omega), List.set_append_right _ _ (by omega), show n * 3 - cl.length = 0 by omega, show n * 3 + 1 - cl.length = 1 by omega, show n * 3 + 2 - cl.length = 2 by omega]
  rfl
/-- How far the statement has come. -/
structure JA (W0 : World) (bI bT zz n : Nat) (v : Value) (cl : List Value) (X : Im) (S : Nat → Bool) (x30 x31 x32 x33 x34 x35 : Value) (W : World) : Prop where
  f0 : S 0 = true → x30 = v
  f1 : S 1 = true → x31 = X.val
  f2 : S 2 = true → x32 = .int .i64 n
  e3 : S 3 = false → W = W0
  f3 : S 3 = true → S 4 = false → x33 = .slice (some ⟨W0.heap.size, 0, none⟩) 1 1 ∧ W = W0.alloc (.cells zero3.toArray 70)
  g4 : S 4 = true → S 0 = true ∧ S 1 = true ∧ S 2 = true ∧ S 3 = true
  e4 : S 4 = false → S 5 = false ∧ S 6 = false ∧ S 7 = false
  f4 : S 4 = true → ∃ g c, x34 = .slice (some ⟨g, 0, none⟩) (n + 1) c ∧ (S 5 = true → x35 = .pointer (some ⟨g, n * 3, none⟩)) ∧ W.ownsRow zz 70 3 (.slice (some ⟨g, 0, none⟩) (n + 1) c) (n + 1) (cl ++ if S 6 then cell3 X else zero3) ∧
    Bx bI 68 (if S 7 then .slice (some ⟨g, 0, none⟩) (n + 1) c else v) W ∧ (some g = v.ownBlock ∨ W0.heap.size ≤ g) ∧ Rl W0 W v bI
theorem JA.pre {W0 : World} {bI bT zz n : Nat} {v : Value} {cl : List Value} {X : Im} {S : Nat → Bool} {x30 x31 x32 x33 x34 x35 : Value} {W : World} (h : JA W0 bI bT zz n v cl X S x30 x31 x32 x33 x34 x35 W) (h4 : S 4 = false) : Below W0.heap.size W0 W := by
  cases h3 : S 3 with
  | false => rw [h.e3 h3]; exact Below.refl _ _
  | true => rw [(h.f3 h3 h4).2]; exact (Below.refl _ W0).alloc (Nat.le_refl _) _
theorem JA.four {W0 : World} {bI bT zz n : Nat} {v : Value} {cl : List Value} {X : Im} {S : Nat → Bool} {x30 x31 x32 x33 x34 x35 : Value} {W : World} (h : JA W0 bI bT zz n v cl X S x30 x31 x32 x33 x34 x35 W) (i : Nat) (hi : S i = false) (hl : i < 4) : S 4 = false := by
  cases h4 : S 4 with
  | false => rfl
  | true =>
    obtain ⟨h0, h1, h2, h3⟩ := h.g4 h4
    have : i = 0 ∨ i = 1 ∨ i = 2 ∨ i = 3 := by omega
    rcases this with rfl | rfl | rfl | rfl
    · rw [h0] at hi; cases hi
    · rw [h1] at hi; cases hi
    · rw [h2] at hi; cases hi
    · rw [h3] at hi; cases hi

theorem owns_kind3 {W : World} {zz n : Nat} {v : Value} {xs : List Value} (h : W.ownsRow zz 70 3 v n xs) (k : Nat) (hk : v.ownBlock = some k) : ∃ c, W.heap[k]? = some (.cells c 70 (0, 0)) := by
  rcases h.2 with ⟨rfl, _⟩ | ⟨g, cap, cur, rfl, hb, hg, _⟩
  · cases hk
  · injection hk with hk
    subst hk
    exact ⟨cur, hg⟩
theorem bx_ne {W : World} {bI zz g n c k : Nat} {u : Value} {xs : List Value} (hB : Bx bI 68 u W) (h : W.ownsRow zz 70 3 (.slice (some ⟨g, 0, none⟩) n c) k xs) : g ≠ bI := fun e => by
  obtain ⟨c', hk⟩ := owns_kind3 h g rfl
  rw [e, show W.heap[bI]? = _ from hB] at hk
  cases hk
theorem bx_no {W : World} {bI zz k : Nat} {u v : Value} {xs : List Value} (hB : Bx bI 68 u W) (h : W.ownsRow zz 70 3 v k xs) : some bI ≠ v.ownBlock := fun e => by
  obtain ⟨c', hk⟩ := owns_kind3 h bI e.symm
  rw [show W.heap[bI]? = _ from hB] at hk
  cases hk
def appOps : List Oper := [{ dst := some 30, op := Op.load 68 (Operand.tmp 4), type := 68, pos := "decode.go:55", after := #[], guard := none }, { dst := some 31, op := Op.load 70 (Operand.tmp 8), type := 70, pos := "decode.go:55", after := #[], guard := none }, { dst := some 32, op := Op.call { callee := Callee.builtin Builtin.len, args := #[Operand.tmp 30], argTypes := #[68] }, type := 3, pos := "decode.go:55", after := #[{ on := 0, ground := Ground.data }], guard := none }, { dst := some 33, op := Op.buildSlice 68 1 #[(0, Operand.const (Value.agg #[Value.bool false, Value.string { data := #[] }, Value.slice none 0 0]))], type := 68, pos := "decode.go:55", after := #[], guard := none }, { dst := some 34, op := Op.call { callee := Callee.builtin Builtin.append, args := #[Operand.tmp 30, Operand.tmp 33], argTypes := #[68, 68] }, type := 68, pos := "decode.go:55", after := #[{ on := 0, ground := Ground.data }, { on := 3, ground := Ground.data }, { on := 0, ground := Ground.phase }, { on := 1, ground := Ground.phase }, { on := 2, ground := Ground.phase }, { on := 3, ground := Ground.phase }], guard := none }, { dst := some 35, op := Op.indexAddr 68 (Operand.tmp 34) (Operand.tmp 32), type := 0, pos := "decode.go:55", after := #[{ on := 4, ground := Ground.data }, { on := 2, ground := Ground.data }, { on := 0, ground := Ground.phase }, { on := 1, ground := Ground.phase }, { on := 2, ground := Ground.phase }, { on := 3, ground := Ground.phase }, { on := 4, ground := Ground.phase }, { on := 7, ground := Ground.gcOnly Departure.appendInPlace }], guard := none }, { dst := none, op := Op.store 70 (Operand.tmp 35) (Operand.tmp 31), type := 0, pos := "decode.go:55", after := #[{ on := 5, ground := Ground.data }, { on := 1, ground := Ground.data }, { on := 4, ground := Ground.chain }, { on := 0, ground := Ground.phase }, { on := 1, ground := Ground.phase }, { on := 2, ground := Ground.phase }, { on := 3, ground := Ground.phase }, { on := 4, ground := Ground.phase }, { on := 7, ground := Ground.gcOnly Departure.appendInPlace }], guard := none }, { dst := none, op := Op.store 68 (Operand.tmp 4) (Operand.tmp 34), type := 0, pos := "decode.go:55", after := #[{ on := 4, ground := Ground.data }, { on := 4, ground := Ground.chain }, { on := 6, ground := Ground.textOnly Departure.appendInPlace }, { on := 0, ground := Ground.phase }, { on := 1, ground := Ground.phase }, { on := 2, ground := Ground.phase }, { on := 3, ground := Ground.phase }, { on := 4, ground := Ground.phase }, { on := 5, ground := Ground.textOnly Departure.appendInPlace }, { on := 6, ground := Ground.textOnly Departure.appendInPlace }], guard := none }]

set_option maxRecDepth 100000 in
set_option maxHeartbeats 4000000 in
theorem append_item_in (l' n' id : Nat) {Q : Exit → Act → World → Prop} (W : World) (bI bT zz n : Nat) (v : Value) (cl : List Value) (X : Im) (t0 t1 t2 t3 t5 t6 t7 t9 t10 t11 t12 t13 t14 t15 t16 t17 t18 t19 t20 t21 t22 t23 t24 t25 t26 t27 t28 t29 t36 t37 t38 u30 u31 u32 u33 u34 u35 : Value) (hL : ¬ LetsOut Q) (hn : n < 1000000)
    (hBI : Bx bI 68 v W) (hBT : ItIn bT X W) (hown : W.ownsRow zz 70 3 v n cl) (hzz : zz ≤ W.heap.size)
    (hQ : ∀ a' W' g c, Bx bI 68 (.slice (some ⟨g, 0, none⟩) (n + 1) c) W' → W'.ownsRow zz 70 3 (.slice (some ⟨g, 0, none⟩) (n + 1) c) (n + 1) (cl ++ cell3 X) → (some g = v.ownBlock ∨ W.heap.size ≤ g) → Rl W W' v bI → Q .normal a' W') :
    (Code.region id appOps.toArray true).wpIn (Fence.wide.inRound l') n' Tryd.prog Q { tmps := #[t0, t1, t2, t3, .pointer (some ⟨bI, 0, none⟩), t5, t6, t7, .pointer (some ⟨bT, 0, none⟩), t9, t10, t11, t12, t13, t14, t15, t16, t17, t18, t19, t20, t21, t22, t23, t24, t25, t26, t27, t28, t29, u30, u31, u32, u33, u34, u35, t36, t37, t38], defers := [] } W := by
  obtain ⟨i0, hi0, hz0, hz1, hz2⟩ := info_parts info_item
  obtain ⟨W0, hW0⟩ : ∃ W0, W.drew = W0 := ⟨_, rfl⟩
  have hBI0 : Bx bI 68 v W0 := by rw [← hW0]; exact hBI
  have hBT0 : ItIn bT X W0 := by rw [← hW0]; exact hBT
  have hown0 : W0.ownsRow zz 70 3 v n cl := by rw [← hW0]; exact hown.drew
  have hs0 : W.heap.size = W0.heap.size := by rw [← hW0]; rfl
  have hcl := hown0.1
  obtain ⟨ao, c0, hv⟩ : ∃ ao c0, v = .slice ao n c0 := by
    rcases hown0.2 with ⟨h, rfl⟩ | ⟨g, c, _, h, _⟩
    · exact ⟨none, 0, h⟩
    · exact ⟨_, c, h⟩
  obtain ⟨xl, xt, xa, xc, xx⟩ := X
  refine region_inv_in l' n' (fun S aa W' => ∃ x30 x31 x32 x33 x34 x35 : Value, aa = { tmps := #[t0, t1, t2, t3, .pointer (some ⟨bI, 0, none⟩), t5, t6, t7, .pointer (some ⟨bT, 0, none⟩), t9, t10, t11, t12, t13, t14, t15, t16, t17, t18, t19, t20, t21, t22, t23, t24, t25, t26, t27, t28, t29, x30, x31, x32, x33, x34, x35, t36, t37, t38], defers := [] } ∧ JA W0 bI bT zz n v cl (.mk xl xt xa xc xx) S x30 x31 x32 x33 x34 x35 W') (by kernel_rfl) (by kernel_rfl) hL (by kernel_rfl) ?_ ?_ ?_
  · rw [hW0]
    exact ⟨_, _, _, _, _, _, rfl, ⟨nofun, nofun, nofun, fun _ => rfl, nofun, nofun, fun _ => ⟨rfl, rfl, rfl⟩, nofun⟩⟩
  · intro i o S aa W' hi hun hJ hall K hK
    obtain ⟨x30, x31, x32, x33, x34, x35, rfl, jr⟩ := hJ
    have hlt : i < 8 := (List.getElem?_eq_some_iff.1 hi).1
    have hcase : i = 0 ∨ i = 1 ∨ i = 2 ∨ i = 3 ∨ i = 4 ∨ i = 5 ∨ i = 6 ∨ i = 7 := by omega
    rcases hcase with rfl | rfl | rfl | rfl | rfl | rfl | rfl | rfl
    all_goals (have ho := (Option.some.inj hi).symm; subst ho; clear hi hlt)
    · have h4 := jr.four 0 hun (by decide)
      have cB : W'.cell? ⟨bI, 0, none⟩ = some v := Bx.cell (((jr.pre h4).block bI hBI0.lt).trans hBI0)
      subst hv
      go_simp
      exact hK _ _ ⟨_, x31, x32, x33, x34, x35, rfl, ⟨fun _ => rfl, jr.f1, jr.f2, jr.e3, jr.f3, (fun h => Bool.noConfusion (h4.symm.trans h)), jr.e4, (fun h => Bool.noConfusion (h4.symm.trans h))⟩⟩
    · have h4 := jr.four 1 hun (by decide)
      have hB := ((jr.pre h4).block bT hBT0.lt).trans hBT0
      have d0 : W'.cell? ⟨bT, 0, none⟩ = some (.bool xl) := by rw [Lib.cell_of_heap hB]; rfl
      have d1 : W'.cell? ⟨bT, 1, none⟩ = some (.string xt) := by rw [Lib.cell_of_heap hB]; rfl
      have d2 : W'.cell? ⟨bT, 2, none⟩ = some (.slice xa xx.length xc) := by rw [Lib.cell_of_heap hB]; rfl
      go_simp
      exact hK _ _ ⟨x30, _, x32, x33, x34, x35, rfl, ⟨jr.f0, fun _ => rfl, jr.f2, jr.e3, jr.f3, (fun h => Bool.noConfusion (h4.symm.trans h)), jr.e4, (fun h => Bool.noConfusion (h4.symm.trans h))⟩⟩
    · have h4 := jr.four 2 hun (by decide)
      have s_0 : S 0 = true := hall ⟨0, .data⟩ (by simp) rfl
      obtain rfl := jr.f0 s_0
      subst hv
      go_simp
      exact hK _ _ ⟨_, x31, _, x33, x34, x35, rfl, ⟨fun _ => rfl, jr.f1, fun _ => rfl, jr.e3, jr.f3, (fun h => Bool.noConfusion (h4.symm.trans h)), jr.e4, (fun h => Bool.noConfusion (h4.symm.trans h))⟩⟩
    · have h4 := jr.four 3 hun (by decide)
      obtain rfl := jr.e3 hun
      go_simp
      exact hK _ _ ⟨x30, x31, x32, _, x34, x35, rfl, ⟨jr.f0, jr.f1, jr.f2, nofun, fun _ _ => ⟨rfl, rfl⟩, (fun h => Bool.noConfusion (h4.symm.trans h)), jr.e4, (fun h => Bool.noConfusion (h4.symm.trans h))⟩⟩
    · have s_0 : S 0 = true := hall ⟨0, .data⟩ (by simp) rfl
      have s_1 : S 1 = true := hall ⟨1, .phase⟩ (by simp) rfl
      have s_2 : S 2 = true := hall ⟨2, .phase⟩ (by simp) rfl
      have s_3 : S 3 = true := hall ⟨3, .data⟩ (by simp) rfl
      obtain rfl := jr.f0 s_0
      obtain ⟨rfl, rfl⟩ := jr.f3 s_3 hun
      obtain ⟨n5, n6, n7⟩ := jr.e4 hun
      have f1 := jr.f1 s_1
      have f2 := jr.f2 s_2
      refine (if_pos (show Region.wanted _ _ = true from rfl)).mpr ?_
      refine wp_append_where (.tmp 30) (.tmp 33) 68 rfl zz 70 i0 _ 3 48 Tryd.underlying68 hi0 hz0 hz1 hz2 rfl (by decide) x30 n cl rfl (hown0.alloc _) ⟨W0.heap.size, 0, none⟩ 1 1 zero3 rfl rfl ?_ ?_ (by unfold maxLen; omega) (by omega) (by rw [World.size_alloc]; omega) (by decide) ?_
      · intro j u hj
        rw [Addr.add_lit, Lib.cell_of_heap (World.alloc_heap_new W0 _), Nat.zero_add]
        simpa using hj
      · intro u hu
        simp only [zero3, List.mem_cons, List.not_mem_nil, or_false] at hu
        rcases hu with rfl | rfl | rfl <;> rfl
      · intro v' w' k2 k3 k4 k5
        obtain ⟨g, c, rfl⟩ : ∃ g c, v' = .slice (some ⟨g, 0, none⟩) (n + 1) c := by
          rcases k2.2 with ⟨h, _⟩ | ⟨g, c, _, h, _⟩
          · exact absurd h k4
          · exact ⟨g, c, h⟩
        refine hK _ _ ⟨_, _, _, _, _, x35, rfl, ⟨fun _ => rfl, fun _ => f1, fun _ => f2, (fun h => Bool.noConfusion (s_3.symm.trans h)), nofun, fun _ => ⟨s_0, s_1, s_2, s_3⟩, nofun, fun _ => ⟨g, c, rfl, (fun h => Bool.noConfusion (n5.symm.trans h)), ?_, ?_, ?_, ?_⟩⟩⟩
        · show World.ownsRow _ _ _ _ _ _ (cl ++ if S 6 then _ else _)
          rw [n6, if_neg (by decide)]
          exact k2
        · show Bx _ _ (if S 7 then _ else _) _
          rw [n7, if_neg (by decide)]
          exact (k3.block bI (by rw [World.size_alloc]; have := hBI0.lt; omega) (bx_no hBI0 hown0)).trans ((Below.heap_alloc _ _ _ (by have := hBI0.lt; omega)).trans hBI0)
        · rcases k5 with k5 | ⟨g', e, k5⟩
          · exact .inl k5
          · cases e
            rw [World.size_alloc] at k5
            exact .inr (Nat.le_trans (Nat.le_succ _) k5)
        · exact ⟨k3.os, k3.tape, k3.output, Nat.le_trans (by rw [World.size_alloc]; omega) k3.size, fun k h1 h2 _ => (k3.block k (by rw [World.size_alloc]; omega) h2).trans (Below.heap_alloc _ _ _ (by omega))⟩
    · have s_4 : S 4 = true := hall ⟨4, .data⟩ (by simp) rfl
      have s_2 : S 2 = true := hall ⟨2, .data⟩ (by simp) rfl
      obtain rfl := jr.f2 s_2
      obtain ⟨g, c, rfl, q5, q6, q7, q8, q9⟩ := jr.f4 s_4
      have hln : (n : Int) < ((n + 1 : Nat) : Int) := by omega
      have hln2 : (n : Int) < (n : Int) + 1 := by omega
      have HX : Hid (_ ∧ _ ∧ _) := ⟨q6, q7, q9⟩
      have HJ : Hid _ := jr
      clear q6 q7 q9 jr hall
      go_simp
      obtain ⟨q6, q7, q9⟩ := HX.out
      have jr := HJ.out
      refine hK _ _ ⟨x30, x31, _, x33, _, _, rfl, ⟨jr.f0, jr.f1, fun _ => rfl, jr.e3, jr.f3, jr.g4, (fun h => Bool.noConfusion (s_4.symm.trans h)), fun _ => ⟨g, c, rfl, fun _ => rfl, q6, q7, q8, q9⟩⟩⟩
    · have s_5 : S 5 = true := hall ⟨5, .data⟩ (by simp) rfl
      have s_4 : S 4 = true := hall ⟨4, .chain⟩ (by simp) rfl
      have s_1 : S 1 = true := hall ⟨1, .data⟩ (by simp) rfl
      obtain rfl := jr.f1 s_1
      obtain ⟨g, c, rfl, q5, q6, q7, q8, q9⟩ := jr.f4 s_4
      obtain rfl := q5 s_5
      rw [hun, if_neg (by decide)] at q6
      obtain ⟨v0, hv0⟩ : ∃ v, W'.cell? ⟨g, n * 3, none⟩ = some v := by
        rw [q6.cellAt (n * 3) (by omega)]
        exact ⟨_, List.getElem?_eq_getElem (by rw [q6.1]; omega)⟩
      obtain ⟨v1, hv1⟩ : ∃ v, W'.cell? ⟨g, n * 3 + 1, none⟩ = some v := by
        rw [q6.cellAt (n * 3 + 1) (by omega)]
        exact ⟨_, List.getElem?_eq_getElem (by rw [q6.1]; omega)⟩
      obtain ⟨v2, hv2⟩ : ∃ v, W'.cell? ⟨g, n * 3 + 2, none⟩ = some v := by
        rw [q6.cellAt (n * 3 + 2) (by omega)]
        exact ⟨_, List.getElem?_eq_getElem (by rw [q6.1]; omega)⟩
      have g0 := q6.frozenAt (n * 3)
      have g1 := q6.frozenAt (n * 3 + 1)
      have g2 := q6.frozenAt (n * 3 + 2)
      have hne := bx_ne q7 q6
      have r6 := (((q6.stored (n * 3) (.bool xl)).1.stored (n * 3 + 1) (.string xt)).1.stored (n * 3 + 2) (.slice xa xx.length xc)).1
      rw [show ((((cl ++ zero3).set (n * 3) (.bool xl)).set (n * 3 + 1) (.string xt)).set (n * 3 + 2) (.slice xa xx.length xc)) = cl ++ cell3 (.mk xl xt xa xc xx) from set3 cl n hcl (.mk xl xt xa xc xx)] at r6
      have r7 := ((q7.other (fun e => hne e.symm) (n * 3) (.bool xl)).other (fun e => hne e.symm) (n * 3 + 1) (.string xt)).other (fun e => hne e.symm) (n * 3 + 2) (.slice xa xx.length xc)
      have hp : ∀ o, some (⟨g, o, none⟩ : Addr).block = v.ownBlock ∨ W0.heap.size ≤ (⟨g, o, none⟩ : Addr).block ∨ (⟨g, o, none⟩ : Addr).block = bI := fun o => by
        rcases q8 with h | h
        · exact .inl h
        · exact .inr (.inl h)
      have r9 := ((q9.set ⟨g, n * 3, none⟩ (.bool xl) (hp _)).set ⟨g, n * 3 + 1, none⟩ (.string xt) (hp _)).set ⟨g, n * 3 + 2, none⟩ (.slice xa xx.length xc) (hp _)
      have HX : Hid (_ ∧ _ ∧ _ ∧ _ ∧ _ ∧ _) := ⟨r6, r7, r9, jr.g4 s_4, jr.f0, jr.f2⟩
      clear r6 r7 r9 q6 q7 q9 jr hall
      dsimp only [Im.val, Im.l, Im.t, Im.sl, Im.a, Im.xs, Im.c]
      go_simp
      obtain ⟨r6, r7, r9, jg, j0, j2⟩ := HX.out
      exact hK _ _ ⟨x30, _, x32, x33, _, _, rfl, ⟨j0, fun _ => rfl, j2, (fun h => Bool.noConfusion (jg.2.2.2.symm.trans h)), (fun _ h => Bool.noConfusion (s_4.symm.trans h)), fun _ => jg, (fun h => Bool.noConfusion (s_4.symm.trans h)), fun _ => ⟨g, c, rfl, fun _ => rfl, r6, r7, q8, r9⟩⟩⟩
    · have s_4 : S 4 = true := hall ⟨4, .data⟩ (by simp) rfl
      obtain ⟨g, c, rfl, q5, q6, q7, q8, q9⟩ := jr.f4 s_4
      rw [hun, if_neg (by decide)] at q7
      have hne := bx_ne q7 q6
      have cB := q7.cell
      have fB := q7.fr
      have r6 : (W'.setCell ⟨bI, 0, none⟩ (.slice (some ⟨g, 0, none⟩) (n + 1) c)).ownsRow zz 70 3 (.slice (some ⟨g, 0, none⟩) (n + 1) c) (n + 1) (cl ++ if S 6 then cell3 (.mk xl xt xa xc xx) else zero3) :=
        q6.kept (row := some bI) ⟨rfl, rfl, rfl, by simp [World.setCell], fun k _ hk => Below.heap_setCell _ _ _ _ (fun e => hk (by simp [e]))⟩ (Or.inr (fun e => hne (by injection e)))
      have r7 := q7.put (.slice (some ⟨g, 0, none⟩) (n + 1) c)
      have r9 := q9.set ⟨bI, 0, none⟩ (.slice (some ⟨g, 0, none⟩) (n + 1) c) (.inr (.inr rfl))
      have HX : Hid (_ ∧ _ ∧ _ ∧ _ ∧ _ ∧ _ ∧ _) := ⟨r6, r7, r9, jr.g4 s_4, jr.f0, jr.f1, jr.f2⟩
      clear r6 r7 r9 q6 q7 q9 jr hall
      go_simp
      obtain ⟨r6, r7, r9, jg, j0, j1, j2⟩ := HX.out
      exact hK _ _ ⟨x30, x31, x32, x33, _, x35, rfl, ⟨j0, j1, j2, (fun h => Bool.noConfusion (jg.2.2.2.symm.trans h)), (fun _ h => Bool.noConfusion (s_4.symm.trans h)), fun _ => jg, (fun h => Bool.noConfusion (s_4.symm.trans h)), fun _ => ⟨g, c, rfl, q5, r6, r7, q8, r9⟩⟩⟩
  · rintro S aa w4 hall ⟨x30, x31, x32, x33, x34, x35, rfl, jr⟩
    obtain ⟨g, c, -, -, h1, h2, h3, h4⟩ := jr.f4 (hall 4 (by decide))
    rw [hall 6 (by decide), if_pos rfl] at h1
    rw [hall 7 (by decide), if_pos rfl] at h2
    refine hQ _ _ g c h2 h1 (by rw [hs0]; exact h3) ⟨?_, ?_, ?_, by rw [hs0]; exact h4.size, fun k k1 k2 k3 => ?_⟩
    · rw [h4.os, ← hW0]; rfl
    · rw [h4.tape, ← hW0]; rfl
    · rw [h4.output, ← hW0]; rfl
    · rw [h4.block k (by rw [← hs0]; exact k1) k2 k3, ← hW0]; rfl
end Go.Proofs.YtmefanagpkbjeaaDoor
namespace Go.Proofs.YtmefanagpkbjeaaDoor
open Go.RowKit Go.Shelf Go.Sort
attribute [local go_sem] Oper.semAt_some

def comb (g : Nat × ByteArray → Option It) : List (Nat × ByteArray) → Option (List It)
  | [] => some []
  | e :: r => match g e, comb g r with
    | some x, some l => some (x :: l)
    | _, _ => none
theorem comb_some {g : Nat × ByteArray → Option It} : ∀ (l : List (Nat × ByteArray)) (its : List It), l.map g = its.map some → comb g l = some its
  | [], [], _ => rfl
  | [], _ :: _, h => by cases h
  | _ :: _, [], h => by cases h
  | e :: r, x :: l, h => by
    injection h with h1 h2
    show (match g e, comb g r with | some x, some l => some (x :: l) | _, _ => none) = _
    rw [h1, comb_some r l h2]
theorem comb_none {g : Nat × ByteArray → Option It} : ∀ (l : List (Nat × ByteArray)) (e : Nat × ByteArray), e ∈ l → g e = none → comb g l = none
  | a :: r, e, h, hn => by
    show (match g a, comb g r with | some x, some l => some (x :: l) | _, _ => none) = _
    rcases List.mem_cons.1 h with rfl | h
    · rw [hn]
    · rw [comb_none r e h hn]
      cases g a <;> rfl
/-- The items that bytes are, read no deeper than so often. -/
def decF : Nat → ByteArray → Option (List It)
  | 0, _ => some []
  | f + 1, s => comb (fun e => if e.1 = 1 then some (.mk false e.2 []) else if e.1 = 2 then (decF f e.2).map (It.mk true ⟨#[]⟩) else none) (ps s)
def one (f : Nat) (e : Nat × ByteArray) : Option It := if e.1 = 1 then some (.mk false e.2 []) else if e.1 = 2 then (decF f e.2).map (It.mk true ⟨#[]⟩) else none

/-- A block of cells. -/
def isC (W : World) (b : Nat) : Prop := ∃ c e fz, W.heap[b]? = some (.cells c e fz)
theorem isC_of {W : World} {b k : Nat} {v : Value} (h : W.cell? ⟨b, k, none⟩ = some v) : isC W b := by
  unfold World.cell? at h
  dsimp only at h
  split at h
  · rename_i c e fz hb
    exact ⟨c, e, fz, hb⟩
  · cases h
mutual
theorem inP_cells {p : Nat → Prop} {W : World} : ∀ x, inP p W x → inP (fun b => p b ∧ isC W b) W x
  | .mk _ _ a _ xs, h => rowP_cells a 0 xs h
theorem rowP_cells {p : Nat → Prop} {W : World} (a : Option Addr) : ∀ i xs, rowP p W a i xs → rowP (fun b => p b ∧ isC W b) W a i xs
  | _, [], _ => trivial
  | i, x :: r, ⟨⟨b, o, h0, h1, h2, h3, h4⟩, h5, h6⟩ => ⟨⟨b, o, ⟨h0, isC_of h2⟩, h1, h2, h3, h4⟩, inP_cells x h5, rowP_cells a (i + 1) r h6⟩
end
theorem Held.app {cl : List Value} {ys : List Im} (h : Held cl ys) (X : Im) (hl : cl.length = ys.length * 3) : Held (cl ++ cell3 X) (ys ++ [X]) := by
  intro j x hx
  by_cases hj : j < ys.length
  · rw [List.getElem?_append_left hj] at hx
    obtain ⟨h0, h1, h2⟩ := h j x hx
    rw [List.getElem?_append_left (by omega), List.getElem?_append_left (by omega), List.getElem?_append_left (by omega)]
    exact ⟨h0, h1, h2⟩
  · have hj2 : j = ys.length := by
      have := (List.getElem?_eq_some_iff.1 hx).1
      simp at this
      omega
    subst hj2
    simp at hx
    subst hx
    rw [List.getElem?_append_right (by omega), List.getElem?_append_right (by omega), List.getElem?_append_right (by omega), show 3 * ys.length - cl.length = 0 by omega, show 3 * ys.length + 1 - cl.length = 1 by omega, show 3 * ys.length + 2 - cl.length = 2 by omega]
    exact ⟨rfl, rfl, rfl⟩
theorem rowP_owned {W : World} {zz c : Nat} {ao : Option Addr} {cl : List Value} {ys : List Im} {p q : Nat → Prop} (hown : W.ownsRow zz 70 3 (.slice ao ys.length c) ys.length cl) (hheld : Held cl ys) (hin : ∀ y, y ∈ ys → inP p W y) (hpq : ∀ b, p b → q b) (hq : ∀ g, ao = some ⟨g, 0, none⟩ → q g) : rowP q W ao 0 ys := by
  rcases hown.2 with ⟨h, h0⟩ | ⟨g, cap, cur, h, _, hg, _⟩
  · have : ys = [] := List.length_eq_zero_iff.1 h0
    subst this
    exact trivial
  · injection h with h1 h2 h3
    subst h1 h3
    have key : ∀ (r : List Im) (i : Nat), ys.drop i = r → rowP q W (some ⟨g, 0, none⟩) i r := by
      intro r
      induction r with
      | nil => intro i _; trivial
      | cons y r ih =>
        intro i hi
        have hyi : ys[i]? = some y := by
          have := congrArg (·[0]?) hi
          simpa using this
        have hil := (List.getElem?_eq_some_iff.1 hyi).1
        obtain ⟨e0, e1, e2⟩ := hheld i y hyi
        refine ⟨⟨g, 0, hq g rfl, rfl, ?_, ?_, ?_⟩, ?_, ih (i + 1) ?_⟩
        · rw [show 0 + 3 * i = 3 * i by omega, hown.cellAt _ (by omega)]; exact e0
        · rw [show 0 + 3 * i + 1 = 3 * i + 1 by omega, hown.cellAt _ (by omega)]; exact e1
        · rw [show 0 + 3 * i + 2 = 3 * i + 2 by omega, hown.cellAt _ (by omega)]; exact e2
        · exact inP_of (fun b hb => ⟨hpq b hb, fun _ => rfl⟩) y (hin y (List.mem_of_getElem? hyi))
        · rw [← List.drop_drop, hi]
          rfl
    exact key ys 0 rfl
theorem Rl.keeps {W W' : World} {v u : Value} {bI zz n : Nat} {cl : List Value} (h : Rl W W' v bI) (hB : Bx bI 68 u W) (hown : W.ownsRow zz 70 3 v n cl) (B : Nat) : KeepsFrom B W W' :=
  ⟨h.size, fun k o _ hk ho => (h.block k (Array.getElem?_eq_some_iff.1 hk).1 (fun e => by
    obtain ⟨c, hc⟩ := owns_kind3 hown k e.symm
    rw [hk] at hc
    cases hc
    cases ho) (fun e => by
    rw [e, show W.heap[bI]? = _ from hB] at hk
    cases hk
    cases ho)).trans hk⟩
theorem Rl.below {W W' : World} {v : Value} {bI zz n B : Nat} {cl : List Value} (h : Rl W W' v bI) (hown : W.ownsRow zz 70 3 v n cl) (hz : B ≤ zz) (hb : B ≤ bI) (hB : B ≤ W.heap.size) : Below B W W' :=
  ⟨h.os, h.tape, h.output, h.size, fun k hk => h.block k (by omega) (fun e => by have := (hown.lt k e.symm).1; omega) (by omega)⟩
/-- The state of a round: the items so far, and that all is well. -/
def DSt {s : ByteArray} (f z bO : Nat) (w : World) (pre : List (Pe s)) (W : World) : Prop :=
  ∃ v cl ys, Bx z 68 v W ∧ Bx bO 4 (.bool true) W ∧ W.ownsRow z 70 3 v ys.length cl ∧ Held cl ys ∧ (pre.map (·.1)).map (one f) = (ers ys).map some ∧ (∀ y, y ∈ ys → inP (fun b => bO < b ∧ b < W.heap.size ∧ some b ≠ v.ownBlock) W y) ∧ Below z w W
theorem owns_own3 {A C : World} {b n : Nat} {v : Value} {xs : List Value} {row : Option Nat} (h : A.ownsRow b 70 3 v n xs) (hg : A.grownBy C row) (hr : ∀ r, row = some r → ∃ o : Obj, A.heap[r]? = some o ∧ o.isCells = false) : C.ownsRow b 70 3 v n xs := by
  refine h.kept hg ?_
  cases e' : v.ownBlock with
  | none => exact .inl rfl
  | some k =>
    obtain ⟨c, hk⟩ := owns_kind3 h k e'
    refine .inr fun e2 => ?_
    obtain ⟨o, ho, hc⟩ := hr k e2.symm
    rw [hk] at ho
    cases ho
    cases hc
theorem DSt.own {s : ByteArray} {f z bO : Nat} {w A C : World} {pre : List (Pe s)} {row : Option Nat} (h : DSt f z bO w pre A) (hg : A.grownBy C row) (hr : ∀ r, row = some r → z ≤ r ∧ ∃ o : Obj, A.heap[r]? = some o ∧ o.isCells = false) : DSt f z bO w pre C := by
  obtain ⟨v, cl, ys, h1, h2, h3, h4, h5, h6, h7⟩ := h
  have hl := h1.lt
  refine ⟨v, cl, ys, h1.own hg (fun r e => (hr r e).2), h2.own hg (fun r e => (hr r e).2), owns_own3 h3 hg (fun r e => (hr r e).2), h4, h5, fun y hy => ?_, h7.grown hg (by omega) (fun k e => (hr k e).1)⟩
  refine inP_of (fun b hb => ?_) y (inP_cells y (h6 y hy))
  obtain ⟨⟨b1, b2, b3⟩, c, e, fz, hb⟩ := hb
  have := hg.size
  refine ⟨⟨b1, by omega, b3⟩, fun k => World.cell?_of_block (w := A) (hg.block b b2 (fun e2 => ?_))⟩
  obtain ⟨_, o, ho, hc⟩ := hr b e2.symm
  rw [hb] at ho
  cases ho
  cases hc

theorem bx_same {W : World} {b : Nat} {T : TypeId} {u : Value} (h : Bx b T u W) (k : Nat) : (W.setCell ⟨b, 0, none⟩ u).heap[k]? = W.heap[k]? := by
  by_cases e : k = b
  · subst e
    exact (show (W.setCell ⟨k, 0, none⟩ u).heap[k]? = _ from h.put u).trans (show W.heap[k]? = _ from h).symm
  · exact Below.heap_setCell _ _ _ _ e
theorem below_same {B : Nat} {A W : World} {b : Nat} {T : TypeId} {u : Value} (hA : Below B A W) (h : Bx b T u W) : Below B A (W.setCell ⟨b, 0, none⟩ u) :=
  ⟨hA.os, hA.tape, hA.output, by have := hA.size; simp [World.setCell]; omega, fun k hk => (bx_same h k).trans (hA.block k hk)⟩
theorem dst_snoc {s : ByteArray} {f z bO : Nat} {w W W7 Wf : World} {pre : List (Pe s)} {x : Pe s} {v : Value} {cl : List Value} {ys : List Im} {X : Im} {g c : Nat} (hzO : z < bO)
    (hOd : Bx bO 4 (.bool true) W) (hownd : W.ownsRow z 70 3 v ys.length cl) (hheld : Held cl ys) (hone : (pre.map (·.1)).map (one f) = (ers ys).map some) (hin : ∀ y, y ∈ ys → inP (fun b => bO < b ∧ b < W.heap.size ∧ some b ≠ v.ownBlock) W y) (BWd : Below z w W)
    (hb : Below W.heap.size W W7) (hX : inP (fun b => W.heap.size ≤ b ∧ b < W7.heap.size) W7 X) (hx : one f x.1 = some (er X))
    (h1 : Bx z 68 (.slice (some ⟨g, 0, none⟩) (ys.length + 1) c) Wf) (h2 : Wf.ownsRow z 70 3 (.slice (some ⟨g, 0, none⟩) (ys.length + 1) c) (ys.length + 1) (cl ++ cell3 X)) (h3 : some g = v.ownBlock ∨ W7.heap.size ≤ g) (h4 : Rl W7 Wf v z) : DSt f z bO w (pre ++ [x]) Wf := by
  have hOw := hOd.lt
  have hs7 := hb.size
  have hs8 := h4.size
  have hvl : ∀ k, some k = v.ownBlock → k < W.heap.size := fun k e => (hownd.lt k e.symm).2
  have hOv : some bO ≠ v.ownBlock := fun e => by
    obtain ⟨c', hk⟩ := owns_kind3 hownd bO e.symm
    rw [show W.heap[bO]? = _ from hOd] at hk
    cases hk
  refine ⟨_, _, ys ++ [X], h1, ?_, ?_, hheld.app X (by rw [hownd.1]), ?_, ?_, ?_⟩
  · exact (h4.block bO (by omega) hOv (by omega)).trans ((hb.block bO hOw).trans hOd)
  · rw [List.length_append]
    exact h2
  · rw [List.map_append, List.map_append, hone, ers_map, ers_map, List.map_append, List.map_append]
    show _ ++ [one f x.1] = _ ++ [some (er X)]
    rw [hx]
  · intro y hy
    rcases List.mem_append.1 hy with h | h
    · refine inP_of ?_ y (hin y h)
      intro b hb'
      obtain ⟨c1, c2, c3⟩ := hb'
      refine ⟨⟨c1, by omega, ?_⟩, ?_⟩
      · intro e
        injection e with e
        have e' : b = g := e
        rcases h3 with h3 | h3
        · exact c3 (by rw [e']; exact h3)
        · omega
      · intro k
        exact (World.cell?_of_block (w := W7) (a := ⟨b, k, none⟩) (h4.block b (by omega) c3 (by omega))).trans (hb.cell (p := ⟨b, k, none⟩) c2)
    · simp at h
      subst h
      refine inP_of ?_ y hX
      intro b hb'
      obtain ⟨c1, c2⟩ := hb'
      refine ⟨⟨by omega, by omega, ?_⟩, ?_⟩
      · intro e
        injection e with e
        have e' : b = g := e
        rcases h3 with h3 | h3
        · have := hvl g h3
          omega
        · omega
      · intro k
        exact World.cell?_of_block (w := W7) (a := ⟨b, k, none⟩) (h4.block b c2 (fun e => by have := hvl b e; omega) (by omega))
  · exact BWd.trans ((hb.mono (by omega)).trans (h4.below (n := ys.length) (cl := cl) (owns_below hownd hb) (Nat.le_refl _) (Nat.le_refl _) (by omega)))
theorem ItIn.set1 {b : Nat} {l : Bool} {t t' : ByteArray} {a : Option Addr} {c : Nat} {xs : List Im} {W : World} (h : ItIn b (.mk l t a c xs) W) : ItIn b (.mk l t' a c xs) (W.setCell ⟨b, 1, none⟩ (.string t')) := heap_setCell_same W b 1 _ _ _ h
theorem ItIn.set0 {b : Nat} {l l' : Bool} {t : ByteArray} {a : Option Addr} {c : Nat} {xs : List Im} {W : World} (h : ItIn b (.mk l t a c xs) W) : ItIn b (.mk l' t a c xs) (W.setCell ⟨b, 0, none⟩ (.bool l')) := heap_setCell_same W b 0 _ _ _ h
theorem ItIn.set2 {b : Nat} {l : Bool} {t : ByteArray} {a a' : Option Addr} {c c' : Nat} {xs xs' : List Im} {W : World} (h : ItIn b (.mk l t a c xs) W) : ItIn b (.mk l t a' c' xs') (W.setCell ⟨b, 2, none⟩ (.slice a' xs'.length c')) := heap_setCell_same W b 2 _ _ _ h
def DStop {s : ByteArray} (f z bO : Nat) (w : World) (c : Code) (pre : List (Pe s)) (W : World) : Prop := c = Code.exit 0 ∧ Bx bO 4 (.bool false) W ∧ Below z w W ∧ ∃ e, e ∈ pre.map (·.1) ∧ one f e = none

set_option maxRecDepth 100000 in
set_option maxHeartbeats 4000000 in
theorem itemsOf_of (f : Nat) (s : ByteArray) (hs : s.size < 1000000)
    (IH : ∀ (e : Nat × ByteArray), e ∈ ps s → e.1 = 2 → ∀ w : World, Calls Tryd.prog 125 #[.string e.2] w fun r w' => Below w.heap.size w w' ∧
      ((decF f e.2 = none ∧ r = .returned (.tuple #[.slice none 0 0, .bool false])) ∨ ∃ a c ys, decF f e.2 = some (ers ys) ∧ r = .returned (.tuple #[.slice a ys.length c, .bool true]) ∧ rowP (fun b => w.heap.size ≤ b ∧ b < w'.heap.size) w' a 0 ys))
    (hsub : ∀ e, e ∈ ps s → e.2.size ≤ 1000000)
    (w : World) :
    Calls Tryd.prog 125 #[.string s] w fun r w' => Below w.heap.size w w' ∧
      ((decF (f + 1) s = none ∧ r = .returned (.tuple #[.slice none 0 0, .bool false])) ∨ ∃ a c ys, decF (f + 1) s = some (ers ys) ∧ r = .returned (.tuple #[.slice a ys.length c, .bool true]) ∧ rowP (fun b => w.heap.size ≤ b ∧ b < w'.heap.size) w' a 0 ys) := by
  have KP := parts_any s
  have KS := fun n bX w hb => parts_stops n bX s (by omega) w hb
  have hpl := ps_len s.size s (Nat.le_refl _)
  refine (callsIn_wide (n := 9)).1 ?_
  refine callsIn_of_wp_marks Tryd.func125 rfl trivial ?_ rfl
  refine wpIn_wide.2 ?_
  simp only [Tryd.ntmps125, List.size_toArray, List.length_cons, List.length_nil, Nat.reduceAdd, Nat.reduceSub, Array.replicate_succ, Array.replicate_zero, List.push_toArray, List.append_toArray, List.nil_append, List.cons_append]
  go_wp2_with fail
  refine wp_scope_straight ?_
  go_wp2_with fail
  refine wpOf (fun W => Bx w.heap.size 68 (.slice none 0 0) W ∧ Bx (w.heap.size + 1) 4 (.bool true) W ∧ Below w.heap.size w W) ?_ ?_
  · have a1 : Below w.heap.size w ((w.alloc (.cells #[.slice none 0 0] 68)).alloc (.cells #[.bool true] 4)) := ((Below.refl _ w).alloc (Nat.le_refl _) _).alloc (by simp) _
    refine ⟨(Lib.alloc_old _ _ _ (by simp)).trans (World.alloc_heap_new w _), ?_, a1⟩
    have := World.alloc_heap_new (w.alloc (.cells #[.slice none 0 0] 68)) (.cells #[.bool true] 4)
    rwa [World.size_alloc] at this
  rintro w2 ⟨hI, hO, BW2⟩
  obtain ⟨z, hz⟩ : ∃ c, w.heap.size = c := ⟨_, rfl⟩
  have HZ : Hid (w.heap.size = z) := hz
  rw [hz] at hI hO BW2 ⊢
  clear hz
  obtain ⟨bO, hbO⟩ : ∃ c, z + 1 = c := ⟨_, rfl⟩
  rw [hbO] at hO ⊢
  refine wp_label ?_
  go_wp2_with fail
  refine (KP w2).mono ?_
  rintro e w3 ⟨rfl, hw3⟩
  have a3 : Below w2.heap.size w2 w3 := by rw [hw3]; exact (Below.refl _ w2).alloc (Nat.le_refl _) _
  have hcx : Bx w2.heap.size 9 (.string s) w3 := by rw [hw3]; exact World.alloc_heap_new w2 _
  have hI3 : Bx z 68 (.slice none 0 0) w3 := (a3.block z hI.lt).trans hI
  have hO3 : Bx bO 4 (.bool true) w3 := (a3.block bO hO.lt).trans hO
  have hOw := hO.lt
  have BW3 := belowStep BW2 (by omega) a3
  clear hw3 a3 hI hO BW2 KP
  obtain ⟨bX, hbX⟩ : ∃ c, w2.heap.size = c := ⟨_, rfl⟩
  rw [hbX] at hcx hOw ⊢
  clear hbX
  go_wp2_with fail
  have hxz : bX < w3.heap.size := hcx.lt
  refine (wpIn_wide (n := 9)).1 ?_
  refine wpIn_rangeFunc_ownH rfl (by omega) (gf := 143) (lb := #[.pointer (some ⟨bX, 0, none⟩)]) rfl trivial (enters_of Tryd.func143 (by kernel_rfl) rfl)
    (KS _ bX w3 hcx) (fun _ _ => trivial) (fun _ _ _ _ _ _ _ _ => trivial) (Below.refl _ _) (fun _ => rfl)
    (fun pre W => DSt f z bO w pre W)
    (fun c pre W => DStop f z bO w c pre W)
    (fun s A C row hs hg hr => hs.own hg (fun r e => ⟨Nat.le_trans (by omega) (hr r e).1, (hr r e).2⟩))
    (fun c s A C row hs hg hr => ⟨hs.1, hs.2.1.own hg (fun r e => (hr r e).2), hs.2.2.1.grown hg (by have := hs.2.1.lt; omega) (fun k e => Nat.le_trans (by omega) (hr k e).1), hs.2.2.2⟩)
    ⟨_, _, [], hI3, hO3, World.ownsRow_nil _ _ _ _, (fun j y h => by cases h), rfl, (fun y h => by cases h), BW3⟩
    (fun x a' W => a' = { tmps := #[.string s, undef, .slice none 0 0, .bool false, .pointer (some ⟨z, 0, none⟩), .pointer (some ⟨bO, 0, none⟩), .int .i64 x.1.1, .string x.1.2, undef, .string s, .func (.func 143) #[] #[.pointer (some ⟨bX, 0, none⟩)], .int .i64 x.1.1, .string x.1.2, undef, undef, undef, undef, undef, undef, undef, undef, undef, undef, undef, undef, undef, undef, undef, undef, undef, undef, undef, undef, undef, undef, undef, undef, undef, undef], defers := [] })
    (fun _ _ _ _ _ _ h _ _ => h)
    ?assign ?body ?done ?stop
  case assign =>
    rintro l pre x W K hI hK
    dsimp only [pEnc]
    gi_wp2
    exact hK _ _ (KeepsFrom.refl _ _) trivial hI rfl
  case body =>
    rintro l pre x a' W hl ⟨r, hr⟩ ⟨v, cl, ys, hId, hOd, hownd, hheld, hone, hin, BWd⟩ rfl hlt
    obtain ⟨⟨k, bo⟩, hx⟩ := x
    have hsb := hsub _ hx
    have IHx := IH _ hx
    dsimp only at hsb IHx ⊢
    have hOw := hOd.lt
    have hIw := hId.lt
    have hyl : ys.length < 1000000 := by
      have := congrArg List.length hone
      rw [List.length_map, List.length_map, List.length_map, ers_map, List.length_map] at this
      omega
    have A1 : Below W.heap.size W (W.alloc (.cells #[.bool false, .string ⟨#[]⟩, .slice none 0 0] 70)) := (Below.refl _ W).alloc (Nat.le_refl _) _
    have hT1 : ItIn W.heap.size (.mk false ⟨#[]⟩ none 0 []) (W.alloc (.cells #[.bool false, .string ⟨#[]⟩, .slice none 0 0] 70)) := World.alloc_heap_new W _
    by_cases k1 : k = 1
    · subst k1
      have KC := fun w => clone_any bo w (by omega)
      gi_wp2_with fail
      refine ⟨trivial, (CallsIn.inRound l (callsIn_wide.2 (KC _))).mono ?_⟩
      rintro e w4 ⟨rfl, B4⟩
      have hT4 : ItIn W.heap.size (.mk false ⟨#[]⟩ none 0 []) w4 := (B4.block _ (by simp)).trans hT1
      have BA := belowStep A1 (by simp) B4
      have hT5 := ItIn.set1 (t' := bo) hT4
      have B5 := below_set BA W.heap.size 1 (Nat.le_refl _) (.string bo)
      have d1 : w4.cell? ⟨W.heap.size, 1, none⟩ = some (.string ⟨#[]⟩) := by rw [Lib.cell_of_heap hT4]; rfl
      have f1 := Lib.frozen_of_heap hT4 1
      have HX : Hid (_ ∧ _) := ⟨hT5, B5⟩
      clear KC A1 hT1 B4 hT4 BA hT5 B5
      gi_wp2_with fail
      obtain ⟨hT7, B7⟩ := HX.out
      refine append_item_in l _ 15 _ z W.heap.size z ys.length v cl (.mk false bo none 0 []) _ _ _ _ _ _ _ _ _ _ _ _ _ _ _ _ _ _ _ _ _ _ _ _ _ _ _ _ _ _ _ _ _ _ _ _ _ (by rintro ⟨_, _, h⟩; exact h) hyl ((B7.block z hIw).trans hId) hT7 (owns_below hownd B7) (by have := B7.size; omega) ?_
      intro a' Wf g c h1 h2 h3 h4
      refine (?_ : KeepsFrom _ W Wf ∧ True ∧ DSt f z bO w (pre ++ [_]) Wf)
      refine ⟨((ko_below B7).from _).trans (h4.keeps ((B7.block z hIw).trans hId) (owns_below hownd B7) _), trivial, dst_snoc (by omega) hOd hownd hheld hone hin BWd B7 (show inP _ _ (.mk false bo none 0 []) from trivial) rfl h1 h2 h3 h4⟩
    · have b1 : ((k : Int) == 1) = false := by rw [beq_eq_false_iff_ne]; omega
      by_cases k2 : k = 2
      · subst k2
        have A2 : Below W.heap.size W (W.alloc (.cells #[.bool true, .string ⟨#[]⟩, .slice none 0 0] 70)) := (Below.refl _ W).alloc (Nat.le_refl _) _
        have hT2 : ItIn W.heap.size (.mk true ⟨#[]⟩ none 0 []) (W.alloc (.cells #[.bool true, .string ⟨#[]⟩, .slice none 0 0] 70)) := World.alloc_heap_new W _
        have KI := IHx rfl
        clear A1 hT1 IHx
        gi_wp2_with fail
        refine ⟨trivial, (CallsIn.inRound l (callsIn_wide.2 (KI _))).mono ?_⟩
        rintro e w4 ⟨B4, hcase⟩
        have hT4 : ItIn W.heap.size (.mk true ⟨#[]⟩ none 0 []) w4 := (B4.block _ (by simp)).trans hT2
        have BA := belowStep A2 (by simp) B4
        have hO4 : Bx bO 4 (.bool true) w4 := (BA.block bO hOw).trans hOd
        have d2 : w4.cell? ⟨W.heap.size, 2, none⟩ = some (.slice none 0 0) := by rw [Lib.cell_of_heap hT4]; rfl
        have f2 := Lib.frozen_of_heap hT4 2
        have cO := hO4.cell
        have fO := hO4.fr
        have hbOT : bO ≠ W.heap.size := by omega
        rw [World.size_alloc] at hcase
        clear KI A2 hT2 B4
        rcases hcase with ⟨hnone, rfl⟩ | ⟨a4, c4, zs, hsome, rfl, hrow⟩
        · have hO5 := (hO4.other hbOT 2 (.slice none 0 0)).put (.bool false)
          have B5 := (below_set (BWd.trans (BA.mono (by omega))) W.heap.size 2 (by omega) (.slice none 0 0)).setCell (p := ⟨bO, 0, none⟩) (by show z ≤ bO; omega) (.bool false)
          have K5 := (((ko_below BA).from w3.heap.size).trans (ko_set _ ⟨W.heap.size, 2, none⟩ (.slice none 0 0) w3.heap.size)).trans (ko_set _ ⟨bO, 0, none⟩ (.bool false) w3.heap.size)
          have HX : Hid (_ ∧ _ ∧ _) := ⟨hO5, B5, K5⟩
          clear hO5 B5 K5 BA hT4 hO4
          gi_wp2
          obtain ⟨hO2, B2, K2⟩ := HX.out
          refine (?_ : KeepsFrom _ W _ ∧ DStop f z bO w (Code.exit 0) (pre ++ [_]) _)
          refine ⟨K2, rfl, hO2, B2, (2, bo), by simp, ?_⟩
          show (decF f bo).map _ = _
          rw [hnone]
          rfl
        · have hT5 : ItIn W.heap.size (.mk true ⟨#[]⟩ a4 c4 zs) (w4.setCell ⟨W.heap.size, 2, none⟩ (.slice a4 zs.length c4)) := ItIn.set2 hT4
          have B5 := below_set BA W.heap.size 2 (Nat.le_refl _) (.slice a4 zs.length c4)
          have hO5 := hO4.other hbOT 2 (.slice a4 zs.length c4)
          have B6 := below_same B5 hO5
          have hT6 : ItIn W.heap.size (.mk true ⟨#[]⟩ a4 c4 zs) ((w4.setCell ⟨W.heap.size, 2, none⟩ (.slice a4 zs.length c4)).setCell ⟨bO, 0, none⟩ (.bool true)) := (bx_same hO5 _).trans hT5
          have hX6 : inP (fun b => W.heap.size ≤ b ∧ b < ((w4.setCell ⟨W.heap.size, 2, none⟩ (.slice a4 zs.length c4)).setCell ⟨bO, 0, none⟩ (.bool true)).heap.size) ((w4.setCell ⟨W.heap.size, 2, none⟩ (.slice a4 zs.length c4)).setCell ⟨bO, 0, none⟩ (.bool true)) (.mk true ⟨#[]⟩ a4 c4 zs) := by
            refine rowP_of ?_ a4 0 zs hrow
            intro b hb
            obtain ⟨c1, c2⟩ := hb
            refine ⟨⟨by omega, by simp [World.setCell]; omega⟩, fun j => ?_⟩
            rw [cell_ne _ _ _ _ _ (by show b ≠ bO; omega), cell_ne _ _ _ _ _ (by show b ≠ W.heap.size; omega)]
          have HX : Hid (_ ∧ _ ∧ _) := ⟨hT6, B6, hX6⟩
          clear hT5 B5 hO5 B6 hT6 hX6 BA hT4 hO4 hrow
          gi_wp2_with fail
          obtain ⟨hT7, B7, hX7⟩ := HX.out
          refine append_item_in l _ 15 _ z W.heap.size z ys.length v cl (.mk true ⟨#[]⟩ a4 c4 zs) _ _ _ _ _ _ _ _ _ _ _ _ _ _ _ _ _ _ _ _ _ _ _ _ _ _ _ _ _ _ _ _ _ _ _ _ _ (by rintro ⟨_, _, h⟩; exact h) hyl ((B7.block z hIw).trans hId) hT7 (owns_below hownd B7) (by have := B7.size; omega) ?_
          intro a' Wf g c h1 h2 h3 h4
          refine (?_ : KeepsFrom _ W Wf ∧ True ∧ DSt f z bO w (pre ++ [_]) Wf)
          refine ⟨((ko_below B7).from _).trans (h4.keeps ((B7.block z hIw).trans hId) (owns_below hownd B7) _), trivial, dst_snoc (by omega) hOd hownd hheld hone hin BWd B7 hX7 (by show (decF f bo).map _ = _; rw [hsome]; rfl) h1 h2 h3 h4⟩
      · have b2 : ((k : Int) == 2) = false := by rw [beq_eq_false_iff_ne]; omega
        have cO := hOd.cell
        have fO := hOd.fr
        have hO2 : Bx bO 4 (.bool false) ((W.setCell ⟨bO, 0, none⟩ (.bool false)).alloc (.cells #[.bool false, .string ⟨#[]⟩, .slice none 0 0] 70)) := (Lib.alloc_old _ _ _ (by simp [World.setCell]; omega)).trans (hOd.put (.bool false))
        have A2 : Below (W.setCell ⟨bO, 0, none⟩ (.bool false)).heap.size (W.setCell ⟨bO, 0, none⟩ (.bool false)) ((W.setCell ⟨bO, 0, none⟩ (.bool false)).alloc (.cells #[.bool false, .string ⟨#[]⟩, .slice none 0 0] 70)) := (Below.refl _ _).alloc (Nat.le_refl _) _
        have B2 := (BWd.setCell (p := ⟨bO, 0, none⟩) (by show z ≤ bO; omega) (.bool false)).trans (A2.mono (by simp [World.setCell]; omega))
        have K2 := (ko_set W ⟨bO, 0, none⟩ (.bool false) w3.heap.size).trans ((ko_below A2).from w3.heap.size)
        have HX : Hid (_ ∧ _ ∧ _) := ⟨hO2, B2, K2⟩
        clear hO2 B2 K2 A1 A2 hT1
        gi_wp2
        obtain ⟨hO2, B2, K2⟩ := HX.out
        refine (?_ : KeepsFrom _ W _ ∧ DStop f z bO w (Code.exit 0) (pre ++ [_]) _)
        refine ⟨K2, rfl, hO2, B2, (k, bo), by simp, ?_⟩
        show (if k = 1 then _ else if k = 2 then _ else _) = _
        rw [if_neg k1, if_neg k2]
  case done =>
    rintro D ys W hD hys ⟨v, cl, xs, hId, hOd, hownd, hheld, hone, hin, BWd⟩ hK
    rw [hys] at hone
    have HO : Hid (decF (f + 1) s = some (ers xs)) := comb_some _ _ hone
    have hch := (Array.getElem?_eq_some_iff.1 hK).1
    obtain ⟨ao, c, rfl⟩ : ∃ ao c, v = .slice ao xs.length c := by
      rcases hownd.2 with ⟨h, h0⟩ | ⟨g, c, _, h, _⟩
      · exact ⟨none, 0, by rw [h, h0]⟩
      · exact ⟨_, c, h⟩
    have hrow : rowP (fun b => z ≤ b ∧ b < W.heap.size) W ao 0 xs := rowP_owned hownd hheld hin (fun b hb => ⟨by omega, hb.2.1⟩) (fun g hg => hownd.lt g (by rw [hg]; rfl))
    have cI := hId.cell
    have cO := hOd.cell
    have HX : Hid (_ ∧ _ ∧ _) := ⟨BWd, hK, hrow⟩
    clear BWd hK hrow hownd hheld hone hin hys
    go_wp2
    obtain ⟨BWd, hK, hrow⟩ := HX.out
    rw [Exit.noGoto_ret]
    have hbP := belowK_b (n₀ := z) (w := w3) (by omega) W D _ (.deferred none) hD hK rfl rfl
    refine ⟨by simp, .inl ⟨_, _, rfl, run_takeDeferred hK, ?_⟩⟩
    refine ⟨.tuple #[.slice ao xs.length c, .bool true], by simp [results, Tryd.results125, go_sem], ?_, .inr ⟨ao, c, xs, HO.out, rfl, ?_⟩⟩
    · rw [HZ.out]; exact BWd.trans hbP
    · rw [HZ.out]
      refine rowP_of (fun b hb => ⟨⟨hb.1.1, by have := hb.1.2; simpa using this⟩, fun k => World.cell?_of_block (w := W) (World.putObj_heap_other (fun e => ?_))⟩) ao 0 xs (rowP_cells ao 0 xs hrow)
      obtain ⟨_, c', e', fz, hc⟩ := hb
      rw [show b = D from e, hK] at hc
      cases hc
  case stop =>
    rintro D c pre W hD ⟨q, hq, hpre⟩ ⟨rfl, hOd, BWd, e, he, hbad⟩ hK
    have HO : Hid (decF (f + 1) s = none) := comb_none _ e (List.mem_of_mem_take (by rw [← hpre]; exact he)) hbad
    have cO := hOd.cell
    gi_wp2
    go_wp2
    rw [Exit.noGoto_ret]
    have hbP := belowK_b (n₀ := z) (w := w3) (by omega) W D _ (.deferred none) hD hK rfl rfl
    refine ⟨by simp, .inl ⟨_, _, rfl, run_takeDeferred hK, ?_⟩⟩
    refine ⟨.tuple #[.slice none 0 0, .bool false], by simp [results, Tryd.results125, go_sem], ?_, .inl ⟨HO.out, rfl⟩⟩
    rw [HZ.out]
    exact BWd.trans hbP
end Go.Proofs.YtmefanagpkbjeaaDoor
namespace Go.Proofs.YtmefanagpkbjeaaDoor
open Go.RowKit Go.Shelf Go.Sort

theorem ps_mem : ∀ (N : Nat) (s : ByteArray), s.size ≤ N → ∀ e, e ∈ ps s → e.2.size ≤ s.size ∧ (e.1 = 2 → e.2.size < s.size)
  | N, s, h, e, he => by
    rw [ps_eq] at he
    split at he
    · cases he
    · split at he
      · simp at he
        subst he
        exact ⟨Nat.zero_le _, fun h => by cases h⟩
      · rename_i h0 h1
        have h2 := cutK_lt s (by omega) h1
        rcases List.mem_cons.1 he with he | he
        · obtain ⟨q1, q2, q3⟩ := h2
          generalize (cutK s).1 = a1 at *
          generalize (cutK s).2.1 = a2 at *
          subst he
          exact ⟨q1, q2⟩
        · match N, h with
          | 0, h => omega
          | N + 1, h =>
            have := ps_mem N (cutK s).2.2 (by omega) e he
            exact ⟨by omega, fun h => by have := this.2 h; omega⟩

theorem itemsOf_all : ∀ (N : Nat) (s : ByteArray), s.size ≤ N → s.size < 1000000 → ∀ w : World, Calls Tryd.prog 125 #[.string s] w fun r w' => Below w.heap.size w w' ∧
      ((decF (N + 1) s = none ∧ r = .returned (.tuple #[.slice none 0 0, .bool false])) ∨ ∃ a c ys, decF (N + 1) s = some (ers ys) ∧ r = .returned (.tuple #[.slice a ys.length c, .bool true]) ∧ rowP (fun b => w.heap.size ≤ b ∧ b < w'.heap.size) w' a 0 ys)
  | 0, s, h, h2, w => itemsOf_of 0 s h2 (fun e he hk w' => by
      have := (ps_mem s.size s (Nat.le_refl _) e he).2 hk
      omega) (fun e he => by have := (ps_mem s.size s (Nat.le_refl _) e he).1; omega) w
  | N + 1, s, h, h2, w => itemsOf_of (N + 1) s h2 (fun e he hk w' => by
      have := (ps_mem s.size s (Nat.le_refl _) e he).2 hk
      exact itemsOf_all N e.2 (by omega) (by omega) w') (fun e he => by have := (ps_mem s.size s (Nat.le_refl _) e he).1; omega) w

def zeroI : Im := .mk false ⟨#[]⟩ none 0 []
/-- What Decode answers. -/
def DecR (s : ByteArray) (x : Im) (e : Int) : Prop :=
  (65536 < s.size ∧ e = 42 ∧ x = zeroI) ∨ (s.size ≤ 65536 ∧ (∀ y, decF 65537 s ≠ some [y]) ∧ e = 40 ∧ x = zeroI) ∨
    (s.size ≤ 65536 ∧ ∃ y : Im, decF 65537 s = some [er y] ∧ ((deep y = true ∧ e = 41 ∧ x = zeroI) ∨ (deep y = false ∧ e = 0 ∧ x = y)))

set_option maxRecDepth 20000 in
set_option maxHeartbeats 2000000 in
theorem decode_any (s : ByteArray) (hc : ∀ y : Im, decF 65537 s = some [er y] → cnt y < 100000000000000000) (w : World) :
    Calls Tryd.prog 93 #[.string s] w fun r w' => Below w.heap.size w w' ∧ ∃ x e, r = .returned (.tuple #[x.val, .int .i64 e]) ∧ DecR s x e ∧ inMem w'.heap.size w' x := by
  have A1 : Below w.heap.size w (w.alloc (.cells #[.bool false, .string ⟨#[]⟩, .slice none 0 0] 70)) := (Below.refl _ w).alloc (Nat.le_refl _) _
  have hR0 : ItIn w.heap.size zeroI (w.alloc (.cells #[.bool false, .string ⟨#[]⟩, .slice none 0 0] 70)) := World.alloc_heap_new w _
  by_cases h0 : 65536 < s.size
  · have l0 : (65536 : Int) < s.size := by omega
    go_enter Tryd.func93, Tryd.ntmps93
    go_wp2
    refine bodyPost_ret (v := .tuple #[.agg #[.bool false, .string ⟨#[]⟩, .slice none 0 0], .int .i64 42]) (by simp [results, Tryd.results93, go_sem]) rfl ⟨A1, zeroI, 42, rfl, .inl ⟨h0, rfl, rfl⟩, trivial⟩
  · have l0 : ¬ (65536 : Int) < s.size := by omega
    have hs6 : s.size ≤ 65536 := by omega
    have KI := itemsOf_all 65536 s (by omega) (by omega)
    go_enter Tryd.func93, Tryd.ntmps93
    go_wp2_with fail
    refine (KI _).mono ?_
    rintro e w1 ⟨B1, hcase⟩
    have hR : ItIn w.heap.size zeroI w1 := (B1.block _ (by simp)).trans hR0
    have BA := belowStep A1 (by simp) B1
    rw [World.size_alloc] at hcase
    clear A1 hR0 B1 KI
    obtain ⟨bR, hbR⟩ : ∃ c, w.heap.size = c := ⟨_, rfl⟩
    have HZ : Hid (w.heap.size = bR) := hbR
    rw [hbR] at hR hcase BA ⊢
    clear hbR
    have d0 : w1.cell? ⟨bR, 0, none⟩ = some (.bool false) := by rw [Lib.cell_of_heap hR]; rfl
    have d1 : w1.cell? ⟨bR, 1, none⟩ = some (.string ⟨#[]⟩) := by rw [Lib.cell_of_heap hR]; rfl
    have d2 : w1.cell? ⟨bR, 2, none⟩ = some (.slice none 0 0) := by rw [Lib.cell_of_heap hR]; rfl
    have f0 := Lib.frozen_of_heap hR 0
    have f1 := Lib.frozen_of_heap hR 1
    have f2 := Lib.frozen_of_heap hR 2
    rcases hcase with ⟨hn, rfl⟩ | ⟨a, c, ys, hd, rfl, hrow⟩
    · go_wp2
      refine bodyPost_ret (v := .tuple #[.agg #[.bool false, .string ⟨#[]⟩, .slice none 0 0], .int .i64 40]) (by simp [results, Tryd.results93, go_sem, d0, d1, d2]) rfl ⟨?_, zeroI, 40, rfl, .inr (.inl ⟨hs6, fun y h => ?_, rfl, rfl⟩), trivial⟩
      · rw [HZ.out]
        exact below_set (below_set (below_set BA bR 0 (Nat.le_refl _) _) bR 1 (Nat.le_refl _) _) bR 2 (Nat.le_refl _) _
      · have h2 := hn.symm.trans h
        cases h2
    · by_cases h1 : ys.length = 1
      · obtain ⟨y, rfl⟩ : ∃ y, ys = [y] := List.length_eq_one_iff.1 h1
        have hcy := hc y hd
        obtain ⟨⟨b, o, hb, rfl, c0, c1, c2⟩, hy, -⟩ := hrow
        rw [show o + 3 * 0 = o by omega] at c0 c1 c2
        have hym : inMem w1.heap.size w1 y := inMem_of (fun b hb => hb.2) y hy
        have KD := isDeep_any y hcy w1.heap.size
        obtain ⟨yl, yt, ya, yc, yx⟩ := y
        simp only [Im.l, Im.t, Im.sl, Im.a, Im.xs, Im.c] at c0 c1 c2
        have HX : Hid (_ ∧ _ ∧ _) := ⟨hy, BA, hd⟩
        clear hc hy BA hd h1
        dsimp only [List.length_cons, List.length_nil]
        go_wp2_with fail
        refine (KD _ (Nat.le_refl _) hym).mono ?_
        rintro e w2 ⟨rfl, B2⟩
        have e0 := (B2.cell (p := ⟨bR, 0, none⟩) hR.lt).trans d0
        have e1 := (B2.cell (p := ⟨bR, 1, none⟩) hR.lt).trans d1
        have e2 := (B2.cell (p := ⟨bR, 2, none⟩) hR.lt).trans d2
        have hR2 : ItIn bR zeroI w2 := (B2.block _ hR.lt).trans hR
        have g0 := Lib.frozen_of_heap hR2 0
        have g1 := Lib.frozen_of_heap hR2 1
        have g2 := Lib.frozen_of_heap hR2 2
        have m0 := (B2.cell (p := ⟨b, o, none⟩) hb.2).trans c0
        have m1 := (B2.cell (p := ⟨b, o + 1, none⟩) hb.2).trans c1
        have m2 := (B2.cell (p := ⟨b, o + 2, none⟩) hb.2).trans c2
        obtain ⟨dp, hdp⟩ : ∃ q, deep (.mk yl yt ya yc yx) = q := ⟨_, rfl⟩
        rw [hdp]
        have hbne : b ≠ bR := by omega
        have HY : Hid (_ ∧ _) := ⟨hdp, B2⟩
        clear hdp B2 hym KD c0 c1 c2 d0 d1 d2 f0 f1 f2 hR
        cases dp with
        | true =>
          go_wp2
          obtain ⟨hy, BA, hd⟩ := HX.out
          obtain ⟨hdp, B2⟩ := HY.out
          refine bodyPost_ret (v := .tuple #[.agg #[.bool false, .string ⟨#[]⟩, .slice none 0 0], .int .i64 41]) (by simp [results, Tryd.results93, go_sem, e0, e1, e2]) rfl ⟨?_, zeroI, 41, rfl, .inr (.inr ⟨hs6, _, hd, .inl ⟨hdp, rfl, rfl⟩⟩), trivial⟩
          rw [HZ.out]
          exact below_set (below_set (below_set (belowStep BA (by rw [← HZ.out]; exact BA.size) B2) bR 0 (Nat.le_refl _) _) bR 1 (Nat.le_refl _) _) bR 2 (Nat.le_refl _) _
        | false =>
          go_wp2
          obtain ⟨hy, BA, hd⟩ := HX.out
          obtain ⟨hdp, B2⟩ := HY.out
          refine bodyPost_ret (v := .tuple #[.agg #[.bool yl, .string yt, .slice ya yx.length yc], .int .i64 0]) (by simp [results, Tryd.results93, go_sem, e0, e1, e2]) rfl ⟨?_, .mk yl yt ya yc yx, 0, rfl, .inr (.inr ⟨hs6, _, hd, .inr ⟨hdp, rfl, rfl⟩⟩), ?_⟩
          · rw [HZ.out]
            exact below_set (below_set (below_set (belowStep BA (by rw [← HZ.out]; exact BA.size) B2) bR 0 (Nat.le_refl _) _) bR 1 (Nat.le_refl _) _) bR 2 (Nat.le_refl _) _
          · refine inMem_of (p := fun b => bR + 1 ≤ b ∧ b < w1.heap.size) (fun b hb => by have := hb.2; have := B2.size; simp [World.setCell]; omega) _ (inP_of ?_ _ hy)
            intro b hb
            refine ⟨hb, fun j => ?_⟩
            rw [cell_ne _ _ _ _ _ (by show b ≠ bR; omega), cell_ne _ _ _ _ _ (by show b ≠ bR; omega), cell_ne _ _ _ _ _ (by show b ≠ bR; omega)]
            exact B2.cell (p := ⟨b, j, none⟩) hb.2
      · have l1 : ¬ (ys.length : Int) = 1 := by omega
        have l2 : ((ys.length : Int) == 1) = false := by rw [beq_eq_false_iff_ne]; exact l1
        clear hrow
        go_wp2
        refine bodyPost_ret (v := .tuple #[.agg #[.bool false, .string ⟨#[]⟩, .slice none 0 0], .int .i64 40]) (by simp [results, Tryd.results93, go_sem, d0, d1, d2]) rfl ⟨?_, zeroI, 40, rfl, .inr (.inl ⟨hs6, fun y h => ?_, rfl, rfl⟩), trivial⟩
        · rw [HZ.out]
          exact below_set (below_set (below_set BA bR 0 (Nat.le_refl _) _) bR 1 (Nat.le_refl _) _) bR 2 (Nat.le_refl _) _
        · have := Option.some.inj (hd.symm.trans h)
          have := congrArg List.length this
          rw [ers_map, List.length_map] at this
          exact h1 this
end Go.Proofs.YtmefanagpkbjeaaDoor
namespace Go.Proofs.YtmefanagpkbjeaaDoor
open Go.RowKit Go.Shelf Go.Sort

theorem num_size (n : Nat) : (numOf n).size = blen n := by8_size _ _
theorem num_at (n j : Nat) (h : j < blen n) : bt (numOf n) j = nAt n (blen n) j := bt_by8 _ _ (nAt_bd n _) j h
theorem num_8 (n : Nat) (hn : n < 18446744073709551616) : blen n ≤ 8 := blen_le n 8 hn
theorem blen_zero (n : Nat) : blen n = 0 ↔ n = 0 := by
  constructor
  · intro h
    by_cases h0 : n = 0
    · exact h0
    · rw [blen_pos n h0] at h
      cases h
  · intro h
    rw [h, blen_0]
theorem num_first (n : Nat) (h : 0 < blen n) : bt (numOf n) 0 ≠ 0 := by
  rw [num_at n 0 h]
  unfold nAt
  rw [Nat.sub_zero]
  have h1 := (div_pos n (blen n - 1)).2 (by omega)
  have h2 : ¬ 0 < n / 256 ^ blen n := fun h2 => by have := (div_pos n (blen n)).1 h2; omega
  have h3 : n / 256 ^ (blen n - 1) / 256 = n / 256 ^ blen n := by
    rw [Nat.div_div_eq_div_mul, ← Nat.pow_succ, show (blen n - 1).succ = blen n by omega]
  obtain ⟨q, hq⟩ : ∃ q, n / 256 ^ (blen n - 1) = q := ⟨_, rfl⟩
  rw [hq] at h1 h3 ⊢
  omega
theorem num_good (n : Nat) (hn : n < 18446744073709551616) : vGood (numOf n) = true := by
  unfold vGood
  rw [num_size, decide_eq_true (num_8 n hn), Bool.true_and]
  by_cases h : blen n = 0
  · rw [decide_eq_true h]; rfl
  · rw [decide_eq_true (num_first n (by omega)), Bool.or_true]
theorem num_val (n : Nat) : ∀ k, k ≤ blen n → val (numOf n) k = n / 256 ^ (blen n - k)
  | 0, _ => by
    show 0 = _
    have h2 : ¬ 0 < n / 256 ^ blen n := fun h2 => by have := (div_pos n (blen n)).1 h2; omega
    rw [Nat.sub_zero]
    obtain ⟨q, hq⟩ : ∃ q, n / 256 ^ blen n = q := ⟨_, rfl⟩
    rw [hq] at h2 ⊢
    omega
  | k + 1, h => by
    show val (numOf n) k * 256 + (bt (numOf n) k).toNat = _
    rw [num_val n k (by omega), num_at n k (by omega)]
    unfold nAt
    rw [show blen n - 1 - k = blen n - (k + 1) by omega, Int.toNat_natCast]
    have h3 : n / 256 ^ (blen n - (k + 1)) / 256 = n / 256 ^ (blen n - k) := by
      rw [Nat.div_div_eq_div_mul, ← Nat.pow_succ, show (blen n - (k + 1)).succ = blen n - k by omega]
    rw [← h3]
    omega
theorem num_back (n : Nat) (hn : n < 18446744073709551616) : vN (numOf n) = n ∧ vE (numOf n) = 0 := by
  unfold vN vE
  rw [num_good n hn, if_pos rfl, if_pos rfl, num_size, num_val n _ (Nat.le_refl _), Nat.sub_self, Nat.pow_zero, Nat.div_one]
  exact ⟨rfl, rfl⟩
theorem num_inj (n m : Nat) (hn : n < 18446744073709551616) (hm : m < 18446744073709551616) (h : numOf n = numOf m) : n = m := by
  rw [← (num_back n hn).1, h, (num_back m hm).1]
theorem blen_mono (n m : Nat) (h : n ≤ m) : blen n ≤ blen m := by
  by_cases h0 : blen n = 0
  · omega
  · have h1 := (div_pos n (blen n - 1)).2 (by omega)
    have h2 : 0 < m / 256 ^ (blen n - 1) := Nat.lt_of_lt_of_le h1 (Nat.div_le_div_right h)
    have := (div_pos m (blen n - 1)).1 h2
    omega
theorem val_div (s : ByteArray) (j : Nat) : ∀ k, val s (j + k) / 256 ^ k = val s j
  | 0 => by rw [Nat.pow_zero, Nat.div_one]; rfl
  | k + 1 => by
    have h := val_div s j k
    have hb := bt_bd s (j + k)
    show (val s (j + k) * 256 + (bt s (j + k)).toNat) / 256 ^ (k + 1) = _
    rw [Nat.pow_succ, Nat.mul_comm (256 ^ k) 256, ← Nat.div_div_eq_div_mul, show (val s (j + k) * 256 + (bt s (j + k)).toNat) / 256 = val s (j + k) by omega]
    exact h
theorem val_blen (s : ByteArray) (h : s.size = 0 ∨ bt s 0 ≠ 0) : blen (val s s.size) = s.size := by
  have hlt := val_lt s s.size
  have h1 : ¬ s.size < blen (val s s.size) := fun hc => by
    have := (div_pos _ _).2 hc
    rw [Nat.div_eq_of_lt hlt] at this
    omega
  by_cases h0 : s.size = 0
  · omega
  · have h2 := val_div s 1 (s.size - 1)
    rw [show 1 + (s.size - 1) = s.size by omega] at h2
    have hb := bt_bd s 0
    have h3 : val s 1 = (bt s 0).toNat := by show 0 * 256 + (bt s 0).toNat = _; omega
    have := (div_pos (val s s.size) (s.size - 1)).1 (by rw [h2, h3]; have := h.resolve_left h0; omega)
    omega
theorem val_num (s : ByteArray) (h : vE s = 0) : numOf (vN s) = s := by
  have hg : vGood s = true := by
    unfold vE at h
    split at h
    · assumption
    · cases h
  unfold vN
  rw [hg, if_pos rfl]
  have h2 : s.size = 0 ∨ bt s 0 ≠ 0 := by
    unfold vGood at hg
    simp only [Bool.and_eq_true, Bool.or_eq_true, decide_eq_true_eq] at hg
    exact hg.2
  have hb := val_blen s h2
  refine ext_bt _ _ (by rw [num_size, hb]) fun j hj => ?_
  rw [num_size, hb] at hj
  rw [num_at _ j (by rw [hb]; exact hj), hb]
  unfold nAt
  have h3 := val_div s (j + 1) (s.size - 1 - j)
  rw [show j + 1 + (s.size - 1 - j) = s.size by omega] at h3
  rw [h3]
  have hbd := bt_bd s j
  show (((val s j * 256 + (bt s j).toNat) % 256 : Nat) : Int) = _
  omega
theorem vN_lt (s : ByteArray) : vN s < 18446744073709551616 := by
  unfold vN
  split
  · rename_i hg
    unfold vGood at hg
    simp only [Bool.and_eq_true, decide_eq_true_eq] at hg
    refine Nat.lt_of_lt_of_le (val_lt s s.size) ?_
    have : 256 ^ s.size ≤ 256 ^ 8 := Nat.pow_le_pow_right (by decide) hg.1
    exact Nat.le_trans this (by decide)
  · decide
end Go.Proofs.YtmefanagpkbjeaaDoor
namespace Go.Proofs.YtmefanagpkbjeaaDoor
open Go.RowKit Go.Shelf Go.Sort

theorem bt_ext (s : ByteArray) (p j : Nat) (h : p + j < s.size) : bt (s.extract p s.size) j = bt s (p + j) := by
  have h1 : j < (s.extract p s.size).size := by rw [ByteArray.size_extract]; omega
  rw [← bt_get _ j h1, ← bt_get _ (p + j) h]
  congr 2
  exact ByteArray.getElem_extract h1
theorem ext_ext (s : ByteArray) (p a b : Nat) (h : p + b ≤ s.size) : (s.extract p s.size).extract a b = s.extract (p + a) (p + b) := by
  rw [ByteArray.extract_extract]
  congr 1
  omega
theorem ext_end (s : ByteArray) (p a : Nat) : (s.extract p s.size).extract a (s.extract p s.size).size = s.extract (p + a) s.size := by
  rw [ByteArray.extract_extract]
  congr 1
  rw [ByteArray.size_extract]
  omega
/-- The body behind a head's first byte, by places: where it begins and ends. -/
def atP (s : ByteArray) (q k : Nat) : Option (Nat × Nat) :=
  if k < 56 then (if s.size < q + k then none else some (q, q + k))
  else if s.size < q + (k - 55) then none
  else if vE (s.extract q (q + (k - 55))) = 0 ∧ 56 ≤ vN (s.extract q (q + (k - 55))) ∧ vN (s.extract q (q + (k - 55))) ≤ s.size - (q + (k - 55)) then some (q + (k - 55), q + (k - 55) + vN (s.extract q (q + (k - 55)))) else none
theorem cutAt_at (s : ByteArray) (q k : Nat) (hq : q ≤ s.size) : cutAt k (s.extract q s.size) = (atP s q k).map fun e => (e.1 - q, e.2 - e.1) := by
  have hz : (s.extract q s.size).size = s.size - q := by rw [ByteArray.size_extract]; omega
  unfold cutAt atP
  rw [hz]
  by_cases h1 : k < 56
  · rw [if_pos h1, if_pos h1]
    by_cases h2 : s.size - q < k
    · rw [if_pos h2, if_pos (by omega)]
      rfl
    · rw [if_neg h2, if_neg (by omega)]
      show _ = some (q - q, q + k - q)
      rw [Nat.sub_self, Nat.add_sub_cancel_left]
  · rw [if_neg h1, if_neg h1]
    by_cases h2 : s.size - q < k - 55
    · rw [if_pos h2, if_pos (show s.size < q + (k - 55) by omega)]
      rfl
    · rw [if_neg h2, if_neg (show ¬ s.size < q + (k - 55) by omega), ext_ext s q 0 (k - 55) (by omega), Nat.add_zero]
      obtain ⟨v, hv⟩ : ∃ v, vN (s.extract q (q + (k - 55))) = v := ⟨_, rfl⟩
      rw [hv]
      by_cases h3 : vE (s.extract q (q + (k - 55))) = 0 ∧ 56 ≤ v ∧ v ≤ s.size - q - (k - 55)
      · rw [if_pos h3, if_pos ⟨h3.1, h3.2.1, by omega⟩]
        show _ = some (q + (k - 55) - q, q + (k - 55) + v - (q + (k - 55)))
        rw [Nat.add_sub_cancel_left, Nat.add_sub_cancel_left]
      · rw [if_neg h3, if_neg (fun h => h3 ⟨h.1, h.2.1, by omega⟩)]
        rfl
theorem atP_le {s : ByteArray} {q k f t : Nat} (h : atP s q k = some (f, t)) : q ≤ f ∧ f ≤ t ∧ t ≤ s.size := by
  unfold atP at h
  split at h
  · split at h
    · cases h
    · cases h
      omega
  · split at h
    · cases h
    · split at h
      · cases h
        omega
      · cases h
/-- The item that begins at a place, by places: where its inside begins and ends, and whether it is a list. -/
def itP (s : ByteArray) (p : Nat) : Option (Nat × Nat × Bool) :=
  if bt s p < 128 then some (p, p + 1, false)
  else if bt s p < 192 then (match atP s (p + 1) ((bt s p).toNat - 128) with | none => none | some (f, t) => if bare (s.extract f t) then none else some (f, t, false))
  else (match atP s (p + 1) ((bt s p).toNat - 192) with | none => none | some (f, t) => some (f, t, true))
def itK (s : ByteArray) : Option (Nat × Nat × Bool) → Nat × ByteArray × ByteArray
  | none => (0, ⟨#[]⟩, ⟨#[]⟩)
  | some (f, t, l) => (if l then 2 else 1, s.extract f t, s.extract t s.size)
theorem cutK_at (s : ByteArray) (p : Nat) (hp : p < s.size) : cutK (s.extract p s.size) = itK s (itP s p) := by
  have h0 := bt_ext s p 0 (by omega)
  have h1 := ext_end s p 1
  rw [Nat.add_zero] at h0
  unfold cutK itP
  rw [h0, h1]
  by_cases c1 : bt s p < 128
  · rw [if_pos c1, if_pos c1, ext_ext s p 0 1 (by omega)]
    rfl
  · rw [if_neg c1, if_neg c1]
    by_cases c2 : bt s p < 192
    · rw [if_pos c2, if_pos c2, cutAt_at s (p + 1) _ (by omega)]
      cases ha : atP s (p + 1) ((bt s p).toNat - 128) with
      | none => rfl
      | some e =>
        obtain ⟨f, t⟩ := e
        obtain ⟨k1, k2, k3⟩ := atP_le ha
        simp only [Option.map_some]
        rw [show f - (p + 1) + (t - f) = t - (p + 1) by omega, ext_ext s (p + 1) _ _ (by omega), ext_end s (p + 1) _, show p + 1 + (f - (p + 1)) = f by omega, show p + 1 + (t - (p + 1)) = t by omega]
        by_cases hb : bare (s.extract f t) = true
        · rw [if_pos hb, if_pos hb]; rfl
        · rw [if_neg hb, if_neg hb]; rfl
    · rw [if_neg c2, if_neg c2, cutAt_at s (p + 1) _ (by omega)]
      cases ha : atP s (p + 1) ((bt s p).toNat - 192) with
      | none => rfl
      | some e =>
        obtain ⟨f, t⟩ := e
        obtain ⟨k1, k2, k3⟩ := atP_le ha
        simp only [Option.map_some]
        rw [show f - (p + 1) + (t - f) = t - (p + 1) by omega, ext_ext s (p + 1) _ _ (by omega), ext_end s (p + 1) _, show p + 1 + (f - (p + 1)) = f by omega, show p + 1 + (t - (p + 1)) = t by omega]
        rfl
end Go.Proofs.YtmefanagpkbjeaaDoor
namespace Go.Proofs.YtmefanagpkbjeaaDoor
open Go.RowKit Go.Shelf Go.Sort

theorem bt_ext2 (s : ByteArray) (f t : Nat) (h : f < t) (ht : t ≤ s.size) : bt (s.extract f t) 0 = bt s f := by
  have h1 : 0 < (s.extract f t).size := by rw [ByteArray.size_extract]; omega
  rw [← bt_get _ 0 h1, ← bt_get _ f (by omega)]
  congr 2
  exact ByteArray.getElem_extract h1
theorem bare_ext (s : ByteArray) (f t : Nat) (ht : t ≤ s.size) : bare (s.extract f t) = (decide (t - f = 1) && decide (bt s f < 128)) := by
  unfold bare
  rw [ByteArray.size_extract, Nat.min_eq_left ht]
  by_cases h : t - f = 1
  · rw [bt_ext2 s f t (by omega) ht]
  · rw [decide_eq_false h, Bool.false_and, Bool.false_and]
/-- What measure answers. -/
def MsR (s : ByteArray) (p : Nat) (f t : Int) (l ok : Bool) : Prop := (ok = false ∧ (s.size ≤ p ∨ itP s p = none)) ∨ (ok = true ∧ p < s.size ∧ ∃ f' t' : Nat, f = f' ∧ t = t' ∧ itP s p = some (f', t', l))
def MsP (s : ByteArray) (p : Nat) (e : Ending) : Prop := ∃ f t l ok, e = .returned (.tuple #[.int .i64 f, .int .i64 t, .bool l, .bool ok]) ∧ MsR s p f t l ok
theorem itP_list (s : ByteArray) (p : Nat) (h : ¬ bt s p < 192) : itP s p = (match atP s (p + 1) ((bt s p).toNat - 192) with | none => none | some (f, t) => some (f, t, true)) := by
  unfold itP
  rw [if_neg (by omega), if_neg h]
  try (cases atP s (p + 1) ((bt s p).toNat - 192) <;> rfl)
theorem itP_text (s : ByteArray) (p : Nat) (h : ¬ bt s p < 128) (h2 : bt s p < 192) : itP s p = (match atP s (p + 1) ((bt s p).toNat - 128) with | none => none | some (f, t) => if bare (s.extract f t) then none else some (f, t, false)) := by
  unfold itP
  rw [if_neg h, if_pos h2]
  try (cases atP s (p + 1) ((bt s p).toNat - 128) <;> rfl)
theorem atP_short (s : ByteArray) (q k : Nat) (h : k < 56) : atP s q k = if s.size < q + k then none else some (q, q + k) := by
  unfold atP
  rw [if_pos h]
theorem atP_long (s : ByteArray) (q k : Nat) (h : ¬ k < 56) : atP s q k = if s.size < q + (k - 55) then none
  else if vE (s.extract q (q + (k - 55))) = 0 ∧ 56 ≤ vN (s.extract q (q + (k - 55))) ∧ vN (s.extract q (q + (k - 55))) ≤ s.size - (q + (k - 55)) then some (q + (k - 55), q + (k - 55) + vN (s.extract q (q + (k - 55)))) else none := by
  unfold atP
  rw [if_neg h]

set_option maxRecDepth 20000 in
set_option maxHeartbeats 2000000 in
theorem rmeasure_any (s : ByteArray) (p : Nat) (hs : s.size < 1000000) (hp : p ≤ s.size) (w : World) :
    Calls Tryd.prog 126 #[.string s, .int .i64 p] w fun e w' => MsP s p e ∧ Below w.heap.size w w' := by
  have BW : Below w.heap.size w w := Below.refl _ _
  by_cases h0 : s.size ≤ p
  · have l0 : (s.size : Int) ≤ p := by omega
    go_enter Tryd.func126, Tryd.ntmps126
    go_wp2
    refine bodyPost_ret (v := .tuple #[.int .i64 0, .int .i64 0, .bool false, .bool false]) (by simp [results, Tryd.results126, go_sem]) rfl ⟨⟨_, _, _, _, rfl, .inl ⟨rfl, .inl h0⟩⟩, BW⟩
  · have hlt : p < s.size := by omega
    have l0 : ¬ (s.size : Int) ≤ p := by omega
    have l1 : (p : Int) < s.size := by omega
    have g0 := bt_get s p hlt
    have hu := bt_bd s p
    have HL := itP_list s p
    have HT := itP_text s p
    have HB : Hid (bt s p < 128 → itP s p = some (p, p + 1, false)) := fun h => by unfold itP; rw [if_pos h]
    obtain ⟨i, hi⟩ : ∃ i, bt s p = i := ⟨_, rfl⟩
    rw [hi] at g0 hu HL HT HB
    clear hi
    obtain ⟨u, rfl⟩ : ∃ u : Nat, i = u := ⟨i.toNat, by omega⟩
    rw [Int.toNat_natCast] at HL HT
    have wu : IntKind.i64.wrap (u : Int) = u := by rw [IntKind.wrap_i64]; omega
    have HLT : Hid _ := And.intro HL HT
    clear HL HT
    go_enter Tryd.func126, Tryd.ntmps126
    by_cases h1 : (u : Int) < 128
    · have c1 : ¬ (192 : Int) ≤ u := by omega
      go_wp2
      refine bodyPost_ret (v := .tuple #[.int .i64 p, .int .i64 (p + 1), .bool false, .bool true]) (by simp [results, Tryd.results126, go_sem]) rfl ⟨⟨_, _, _, _, rfl, .inr ⟨rfl, hlt, p, p + 1, rfl, by omega, HB.out h1⟩⟩, BW⟩
    · clear HB
      by_cases h2 : (192 : Int) ≤ u
      · obtain ⟨k, hk⟩ : ∃ k, u - 192 = k := ⟨_, rfl⟩
        have wk : (u : Int) - 192 = k := by omega
        have wk1 : IntKind.i64.wrap (k : Int) = k := by rw [IntKind.wrap_i64]; omega
        have HI := HLT.out.1 (by omega)
        rw [hk] at HI
        clear HLT
        by_cases h3 : (k : Int) < 56
        · rw [atP_short s (p + 1) k (by omega)] at HI
          by_cases h4 : s.size < p + 1 + k
          · have c4 : ¬ ((p : Int) + 1 + k ≤ s.size) := by omega
            rw [if_pos h4] at HI
            have HX : Hid _ := HI
            clear HI
            go_wp2
            refine bodyPost_ret (v := .tuple #[.int .i64 (p + 1), .int .i64 (p + 1 + k), .bool true, .bool false]) (by simp [results, Tryd.results126, go_sem]) rfl ⟨⟨_, _, _, _, rfl, .inl ⟨rfl, .inr HX.out⟩⟩, BW⟩
          · have c4 : (p : Int) + 1 + k ≤ s.size := by omega
            rw [if_neg h4] at HI
            have HX : Hid _ := HI
            clear HI
            go_wp2
            refine bodyPost_ret (v := .tuple #[.int .i64 (p + 1), .int .i64 (p + 1 + k), .bool true, .bool true]) (by simp [results, Tryd.results126, go_sem]) rfl ⟨⟨_, _, _, _, rfl, .inr ⟨rfl, hlt, _, _, by omega, by omega, HX.out⟩⟩, BW⟩
        · have h3' : ¬ k < 56 := by omega
          rw [atP_long s (p + 1) k (by omega)] at HI
          obtain ⟨d, hd⟩ : ∃ d, k - 55 = d := ⟨_, rfl⟩
          rw [hd] at HI
          obtain ⟨q, hq⟩ : ∃ q, p + 1 + d = q := ⟨_, rfl⟩
          rw [hq] at HI
          have wq : (p : Int) + 1 + k - 55 = q := by omega
          have wp1 : ((p : Int) + 1).toNat = p + 1 := by omega
          by_cases h4 : s.size < q
          · have c4 : (s.size : Int) < q := by omega
            rw [if_pos h4] at HI
            have HX : Hid _ := HI
            clear HI
            go_wp2
            refine bodyPost_ret (v := .tuple #[.int .i64 0, .int .i64 0, .bool false, .bool false]) (by simp [results, Tryd.results126, go_sem]) rfl ⟨⟨_, _, _, _, rfl, .inl ⟨rfl, .inr HX.out⟩⟩, BW⟩
          · have c4 : ¬ (s.size : Int) < q := by omega
            rw [if_neg h4] at HI
            have KV := rvalue_any (s.extract (p + 1) q)
            have hE := vE_or (s.extract (p + 1) q)
            obtain ⟨v, hv⟩ : ∃ v, vN (s.extract (p + 1) q) = v := ⟨_, rfl⟩
            obtain ⟨e, he⟩ : ∃ e, vE (s.extract (p + 1) q) = e := ⟨_, rfl⟩
            rw [hv, he] at HI KV
            rw [he] at hE
            clear hv he
            have c5 : (p : Int) + 1 ≤ q := by omega
            have c6 : p + 1 ≤ q := by omega
            have HX : Hid _ := HI
            clear HI
            go_wp2_with fail
            refine (KV _).mono ?_
            rintro e0 w1 ⟨rfl, B1⟩
            replace BW := B1
            clear B1 KV
            obtain ⟨r, hr⟩ : ∃ r, s.size - q = r := ⟨_, rfl⟩
            have wr : (s.size : Int) - q = r := by omega
            rw [hr] at HX
            rcases hE with rfl | rfl
            · by_cases h5 : v < 56
              · have c7 : (v : Int) < 56 := by omega
                go_wp2
                refine bodyPost_ret (v := .tuple #[.int .i64 0, .int .i64 0, .bool false, .bool false]) (by simp [results, Tryd.results126, go_sem]) rfl ⟨⟨_, _, _, _, rfl, .inl ⟨rfl, .inr (HX.out.trans (by rw [if_neg (fun h => by omega)]))⟩⟩, BW⟩
              · have c7 : ¬ (v : Int) < 56 := by omega
                by_cases h6 : r < v
                · have c8 : (r : Int) < v := by omega
                  go_wp2
                  refine bodyPost_ret (v := .tuple #[.int .i64 0, .int .i64 0, .bool false, .bool false]) (by simp [results, Tryd.results126, go_sem]) rfl ⟨⟨_, _, _, _, rfl, .inl ⟨rfl, .inr (HX.out.trans (by rw [if_neg (fun h => by omega)]))⟩⟩, BW⟩
                · have c8 : ¬ (r : Int) < v := by omega
                  go_wp2
                  refine bodyPost_ret (v := .tuple #[.int .i64 q, .int .i64 (q + v), .bool true, .bool true]) (by simp [results, Tryd.results126, go_sem]) rfl ⟨⟨_, _, _, _, rfl, .inr ⟨rfl, hlt, q, q + v, rfl, by omega, HX.out.trans (by rw [if_pos ⟨by trivial, by omega, by omega⟩])⟩⟩, BW⟩
            · go_wp2
              refine bodyPost_ret (v := .tuple #[.int .i64 0, .int .i64 0, .bool false, .bool false]) (by simp [results, Tryd.results126, go_sem]) rfl ⟨⟨_, _, _, _, rfl, .inl ⟨rfl, .inr (HX.out.trans (by rw [if_neg (fun h => by omega)]))⟩⟩, BW⟩
      · obtain ⟨k, hk⟩ : ∃ k, u - 128 = k := ⟨_, rfl⟩
        have wk : (u : Int) - 128 = k := by omega
        have wk1 : IntKind.i64.wrap (k : Int) = k := by rw [IntKind.wrap_i64]; omega
        have HI := HLT.out.2 (by omega) (by omega)
        rw [hk] at HI
        clear HLT
        by_cases h3 : (k : Int) < 56
        · rw [atP_short s (p + 1) k (by omega)] at HI
          by_cases h4 : s.size < p + 1 + k
          · have c4 : ¬ ((p : Int) + 1 + k ≤ s.size) := by omega
            rw [if_pos h4] at HI
            have HX : Hid _ := HI
            clear HI
            by_cases h5 : k = 1
            · have c5 : (k : Int) = 1 := by omega
              go_wp2
              refine bodyPost_ret (v := .tuple #[.int .i64 (p + 1), .int .i64 (p + 1 + 1), .bool false, .bool false]) (by simp [results, Tryd.results126, go_sem]) rfl ⟨⟨_, _, _, _, rfl, .inl ⟨rfl, .inr HX.out⟩⟩, BW⟩
            · have c5 : ((k : Int) == 1) = false := by rw [beq_eq_false_iff_ne]; omega
              go_wp2
              refine bodyPost_ret (v := .tuple #[.int .i64 (p + 1), .int .i64 (p + 1 + k), .bool false, .bool false]) (by simp [results, Tryd.results126, go_sem]) rfl ⟨⟨_, _, _, _, rfl, .inl ⟨rfl, .inr HX.out⟩⟩, BW⟩
          · have c4 : (p : Int) + 1 + k ≤ s.size := by omega
            rw [if_neg h4] at HI
            dsimp only at HI
            rw [bare_ext s (p + 1) (p + 1 + k) (by omega), Nat.add_sub_cancel_left] at HI
            have HX : Hid _ := HI
            clear HI
            by_cases h5 : k = 1
            · subst h5
              have hl1 : p + 1 < s.size := by omega
              have c6 : (p : Int) + 1 < s.size := by omega
              have c7 : (p : Int) + 1 + 1 ≤ s.size := by omega
              have g1 := bt_get s (p + 1) hl1
              obtain ⟨y, hy⟩ : ∃ y, bt s (p + 1) = y := ⟨_, rfl⟩
              rw [hy] at g1 HX
              clear hy
              by_cases h6 : y < 128
              · go_wp2
                refine bodyPost_ret (v := .tuple #[.int .i64 (p + 1), .int .i64 (p + 1 + 1), .bool false, .bool false]) (by simp [results, Tryd.results126, go_sem]) rfl ⟨⟨_, _, _, _, rfl, .inl ⟨rfl, .inr (HX.out.trans (by rw [decide_eq_true h6]; simp))⟩⟩, BW⟩
              · go_wp2
                refine bodyPost_ret (v := .tuple #[.int .i64 (p + 1), .int .i64 (p + 1 + 1), .bool false, .bool true]) (by simp [results, Tryd.results126, go_sem]) rfl ⟨⟨_, _, _, _, rfl, .inr ⟨rfl, hlt, p + 1, p + 1 + 1, by omega, by omega, HX.out.trans (by rw [decide_eq_false (show ¬ y < 128 by omega)]; simp)⟩⟩, BW⟩
            · have c5 : ((k : Int) == 1) = false := by rw [beq_eq_false_iff_ne]; omega
              go_wp2
              refine bodyPost_ret (v := .tuple #[.int .i64 (p + 1), .int .i64 (p + 1 + k), .bool false, .bool true]) (by simp [results, Tryd.results126, go_sem]) rfl ⟨⟨_, _, _, _, rfl, .inr ⟨rfl, hlt, p + 1, p + 1 + k, by omega, by omega, HX.out.trans (by rw [decide_eq_false h5]; rfl)⟩⟩, BW⟩
        · have h3' : ¬ k < 56 := by omega
          rw [atP_long s (p + 1) k (by omega)] at HI
          obtain ⟨d, hd⟩ : ∃ d, k - 55 = d := ⟨_, rfl⟩
          rw [hd] at HI
          obtain ⟨q, hq⟩ : ∃ q, p + 1 + d = q := ⟨_, rfl⟩
          rw [hq] at HI
          have wq : (p : Int) + 1 + k - 55 = q := by omega
          have wp1 : ((p : Int) + 1).toNat = p + 1 := by omega
          by_cases h4 : s.size < q
          · have c4 : (s.size : Int) < q := by omega
            rw [if_pos h4] at HI
            have HX : Hid _ := HI
            clear HI
            go_wp2
            refine bodyPost_ret (v := .tuple #[.int .i64 0, .int .i64 0, .bool false, .bool false]) (by simp [results, Tryd.results126, go_sem]) rfl ⟨⟨_, _, _, _, rfl, .inl ⟨rfl, .inr HX.out⟩⟩, BW⟩
          · have c4 : ¬ (s.size : Int) < q := by omega
            rw [if_neg h4] at HI
            have KV := rvalue_any (s.extract (p + 1) q)
            have hE := vE_or (s.extract (p + 1) q)
            obtain ⟨v, hv⟩ : ∃ v, vN (s.extract (p + 1) q) = v := ⟨_, rfl⟩
            obtain ⟨e, he⟩ : ∃ e, vE (s.extract (p + 1) q) = e := ⟨_, rfl⟩
            rw [hv, he] at HI KV
            rw [he] at hE
            clear hv he
            have c5 : (p : Int) + 1 ≤ q := by omega
            have c6 : p + 1 ≤ q := by omega
            have HX : Hid _ := HI
            clear HI
            go_wp2_with fail
            refine (KV _).mono ?_
            rintro e0 w1 ⟨rfl, B1⟩
            replace BW := B1
            clear B1 KV
            obtain ⟨r, hr⟩ : ∃ r, s.size - q = r := ⟨_, rfl⟩
            have wr : (s.size : Int) - q = r := by omega
            rw [hr] at HX
            rcases hE with rfl | rfl
            · by_cases h5 : v < 56
              · have c7 : (v : Int) < 56 := by omega
                go_wp2
                refine bodyPost_ret (v := .tuple #[.int .i64 0, .int .i64 0, .bool false, .bool false]) (by simp [results, Tryd.results126, go_sem]) rfl ⟨⟨_, _, _, _, rfl, .inl ⟨rfl, .inr (HX.out.trans (by rw [if_neg (fun h => by omega)]))⟩⟩, BW⟩
              · have c7 : ¬ (v : Int) < 56 := by omega
                by_cases h6 : r < v
                · have c8 : (r : Int) < v := by omega
                  go_wp2
                  refine bodyPost_ret (v := .tuple #[.int .i64 0, .int .i64 0, .bool false, .bool false]) (by simp [results, Tryd.results126, go_sem]) rfl ⟨⟨_, _, _, _, rfl, .inl ⟨rfl, .inr (HX.out.trans (by rw [if_neg (fun h => by omega)]))⟩⟩, BW⟩
                · have c8 : ¬ (r : Int) < v := by omega
                  go_wp2
                  refine bodyPost_ret (v := .tuple #[.int .i64 q, .int .i64 (q + v), .bool false, .bool true]) (by simp [results, Tryd.results126, go_sem]) rfl ⟨⟨_, _, _, _, rfl, .inr ⟨rfl, hlt, q, q + v, rfl, by omega, HX.out.trans (by rw [if_pos ⟨by trivial, by omega, by omega⟩]; show (if bare (s.extract q (q + v)) then _ else _) = _; rw [bare_ext s q (q + v) (by omega), decide_eq_false (by omega), Bool.false_and]; rfl)⟩⟩, BW⟩
            · go_wp2
              refine bodyPost_ret (v := .tuple #[.int .i64 0, .int .i64 0, .bool false, .bool false]) (by simp [results, Tryd.results126, go_sem]) rfl ⟨⟨_, _, _, _, rfl, .inl ⟨rfl, .inr (HX.out.trans (by rw [if_neg (fun h => by omega)]))⟩⟩, BW⟩
end Go.Proofs.YtmefanagpkbjeaaDoor
namespace Go.Proofs.YtmefanagpkbjeaaDoor
open Go.RowKit Go.Shelf Go.Sort

/-- Deeper than so much? -/
def dpr : Nat → Im → Bool
  | 0, _ => true
  | m + 1, x => x.xs.any (dpr m)
theorem any_take (xs : List Im) (g : Im → Bool) (k : Nat) (y : Im) (h : xs[k]? = some y) : (xs.take (k + 1)).any g = ((xs.take k).any g || g y) := by
  rw [List.take_add_one, h, List.any_append]
  simp

set_option maxRecDepth 20000 in
set_option maxHeartbeats 2000000 in
theorem rdeep_any : ∀ (m : Nat) (x : Im), m < 100 → cnt x < 100000000000000000 → ∀ (n : Nat) (w : World), n ≤ w.heap.size → inMem n w x →
    Calls Tryd.prog 89 #[x.val, .int .i64 m] w fun e w' => e = .returned (.bool (dpr m x)) ∧ Below w.heap.size w w'
  | 0, x, _, _, n, w, hn, hm => by
    obtain ⟨l, t, a, c, xs⟩ := x
    show Calls Tryd.prog 89 #[.agg #[.bool l, .string t, .slice a xs.length c], .int .i64 0] w _
    go_enter Tryd.func89, Tryd.ntmps89
    go_wp2
    go_ret
    exact ⟨rfl, (Below.refl _ w).alloc (Nat.le_refl _) _⟩
  | m + 1, x, hm100, hcnt, n, w, hn, hm => by
    have IH := fun (j : Nat) (y : Im) (hy : x.xs[j]? = some y) (w : World) hn hm => rdeep_any m y (by omega) (by have := cnts_at x.xs j y hy; rw [cnt_eq] at hcnt; omega) n w hn hm
    rw [inMem_eq] at hm
    have hl := len_cnts x.xs
    rw [cnt_eq] at hcnt
    obtain ⟨l, t, a, c, xs⟩ := x
    replace hm : rowMem n w a 0 xs := hm
    replace hl : xs.length ≤ cnts xs := hl
    replace hcnt : cnts xs + 1 < 100000000000000000 := hcnt
    show Calls Tryd.prog 89 #[.agg #[.bool l, .string t, .slice a xs.length c], .int .i64 ((m + 1 : Nat) : Int)] w fun e w' => e = .returned (.bool (xs.any (dpr m))) ∧ _
    have IH' : ∀ (j : Nat) (y : Im), xs[j]? = some y → ∀ w : World, n ≤ w.heap.size → inMem n w y → Calls Tryd.prog 89 #[y.val, .int .i64 m] w fun e w' => e = .returned (.bool (dpr m y)) ∧ Below w.heap.size w w' := IH
    clear IH
    have l0 : ¬ ((m + 1 : Nat) : Int) < 1 := by omega
    have wm : ((m + 1 : Nat) : Int) - 1 = m := by omega
    obtain ⟨M, hM⟩ : ∃ M, m + 1 = M := ⟨_, rfl⟩
    rw [hM] at l0 wm ⊢
    clear hM
    go_enter Tryd.func89, Tryd.ntmps89
    go_wp2_with fail
    have hbx : ItIn w.heap.size (.mk l t a c xs) (w.alloc (.cells #[.bool l, .string t, .slice a xs.length c] 70)) := World.alloc_heap_new w _
    refine wpOf (fun W => Below w.heap.size w W ∧ ItIn w.heap.size (.mk l t a c xs) W) ⟨(Below.refl _ w).alloc (Nat.le_refl _) _, hbx⟩ ?_
    rintro w1 ⟨B1, hb1⟩
    clear hbx
    obtain ⟨z, hz⟩ : ∃ z, w.heap.size = z := ⟨_, rfl⟩
    have HZ : Hid (w.heap.size = z) := hz
    rw [hz] at B1 hb1 hn ⊢
    obtain ⟨N, hN⟩ : ∃ N, xs.length = N := ⟨_, rfl⟩
    rw [hN] at hl ⊢
    go_loopg [5] N (fun gk i wr => ∃ k : Nat, k + gk = N ∧ i = .int .i64 k ∧ (xs.take k).any (dpr m) = false ∧ Below z w wr ∧ ItIn z (.mk l t a c xs) wr)
    case atStart => exact ⟨0, by omega, rfl, rfl, B1, hb1⟩
    case round =>
      obtain ⟨k, hk, rfl, hany, BW, hbx⟩ := hrel
      have hzr := hbx.lt
      have d2 : wr.cell? ⟨z, 2, none⟩ = some (.slice a N c) := by rw [Lib.cell_of_heap hbx, ← hN]; rfl
      by_cases hlt : k < N
      · have l1 : (k : Int) < N := by omega
        obtain ⟨y, hy⟩ : ∃ y, xs[k]? = some y := ⟨xs[k]'(by omega), List.getElem?_eq_getElem (by omega)⟩
        obtain ⟨⟨b, o, hb, rfl, c0, c1, c2⟩, hy2⟩ := row_at xs 0 hm k y hy
        have hy3 := inMem_below (by rw [hz]; exact hn) (BW.mono hn) y hy2
        have hbz : b < z := by omega
        replace c0 := (BW.cell (p := ⟨b, _, none⟩) hbz).trans c0
        replace c1 := (BW.cell (p := ⟨b, _, none⟩) hbz).trans c1
        replace c2 := (BW.cell (p := ⟨b, _, none⟩) hbz).trans c2
        obtain ⟨p, hp⟩ : ∃ p, o + 3 * k = p := ⟨_, rfl⟩
        rw [show o + 3 * (0 + k) = p by omega] at c0 c1 c2
        have hp2 : o + k * 3 = p := by omega
        have KS := IH' k y hy
        have hst := any_take xs (dpr m) k y hy
        rw [hany, Bool.false_or] at hst
        obtain ⟨dy, hdy⟩ : ∃ q, dpr m y = q := ⟨_, rfl⟩
        rw [hdy] at KS hst
        have wk : IntKind.i64.wrap ((k : Int) + 1) = ((k + 1 : Nat) : Int) := by rw [IntKind.wrap_i64]; omega
        have HD : Hid _ := hdy
        clear hdy
        have hmem : Hid (y ∈ xs) := List.mem_of_getElem? hy
        obtain ⟨yl, yt, ya, yc, yx⟩ := y
        simp only [Im.l, Im.t, Im.sl, Im.a, Im.xs, Im.c] at c0 c1 c2
        have HX : Hid (_ ∧ _ ∧ _ ∧ _) := ⟨hst, BW, hbx, hany⟩
        clear hst hany
        go_wp2_with fail
        refine (KS _ (by omega) hy3).mono ?_
        rintro e w3 ⟨rfl, B3⟩
        clear KS hy3 hy2 c0 c1 c2
        cases dy with
        | true =>
          go_wp2
          go_ret
          refine ⟨?_, by rw [hz]; exact belowStep HX.out.2.1 (by omega) B3⟩
          rw [show xs.any (dpr m) = true from List.any_eq_true.2 ⟨_, hmem.out, HD.out⟩]
          rfl
        | false =>
          go_wp2
          go_roundg (gk - 1)
          case measure => omega
          case rel =>
            obtain ⟨hst, BW, hbx, _⟩ := HX.out
            exact ⟨k + 1, by omega, by first | rfl | (congr 1; omega), hst, belowStep BW (by omega) B3, (B3.block z hzr).trans hbx⟩
      · have hk2 : k = N := by omega
        have l1 : ¬ (k : Int) < N := by omega
        rw [hk2, ← hN, List.take_length] at hany
        have HX : Hid _ := hany
        clear hany
        go_wp2
        go_ret
        exact ⟨by rw [HX.out]; rfl, BW⟩
end Go.Proofs.YtmefanagpkbjeaaDoor
namespace Go.Proofs.YtmefanagpkbjeaaDoor
open Go.RowKit Go.Shelf Go.Sort

theorem itP_le {s : ByteArray} {p f t : Nat} {l : Bool} (hp : p < s.size) (h : itP s p = some (f, t, l)) : p ≤ f ∧ f ≤ t ∧ t ≤ s.size ∧ p < t ∧ (l = true → p < f) := by
  unfold itP at h
  split at h
  · cases h
    exact ⟨Nat.le_refl _, by omega, by omega, by omega, nofun⟩
  · split at h
    · cases ha : atP s (p + 1) ((bt s p).toNat - 128) with
      | none => rw [ha] at h; cases h
      | some e =>
        obtain ⟨a, b⟩ := e
        have := atP_le ha
        rw [ha] at h
        dsimp only at h
        split at h
        · cases h
        · cases h
          exact ⟨by omega, by omega, by omega, by omega, nofun⟩
    · cases ha : atP s (p + 1) ((bt s p).toNat - 192) with
      | none => rw [ha] at h; cases h
      | some e =>
        obtain ⟨a, b⟩ := e
        have := atP_le ha
        rw [ha] at h
        cases h
        exact ⟨by omega, by omega, by omega, by omega, fun _ => by omega⟩
theorem ext0_size (s : ByteArray) (e : Nat) (h : e ≤ s.size) : (s.extract 0 e).size = e := by rw [ByteArray.size_extract]; omega
theorem ext0_ext (s : ByteArray) (e a b : Nat) (h : b ≤ e) : (s.extract 0 e).extract a b = s.extract a b := by
  rw [ByteArray.extract_extract]
  congr 1 <;> omega
/-- What the reference's take answers: the item that begins at a place, and the place behind it. -/
def tkR (F : Nat) (s : ByteArray) (p e : Nat) : Option (It × Nat) :=
  if e ≤ p then none else match itP (s.extract 0 e) p with
  | none => none
  | some (f, t, l) => (one F (if l then 2 else 1, s.extract f t)).map fun x => (x, t)
theorem comb_cons (g : Nat × ByteArray → Option It) (e : Nat × ByteArray) (r : List (Nat × ByteArray)) : comb g (e :: r) = match g e, comb g r with
    | some x, some l => some (x :: l)
    | _, _ => none := rfl
theorem ps_itP (s : ByteArray) (p e : Nat) (he : e ≤ s.size) (hp : p < e) : ps (s.extract p e) = match itP (s.extract 0 e) p with
    | none => [(0, ⟨#[]⟩)]
    | some (f, t, l) => (if l then 2 else 1, s.extract f t) :: ps (s.extract t e) := by
  have hz : (s.extract p e).size ≠ 0 := by rw [ByteArray.size_extract]; omega
  have h0 := ext0_size s e he
  have hk := cutK_at (s.extract 0 e) p (by rw [h0]; exact hp)
  rw [h0, ext0_ext s e p e (Nat.le_refl _)] at hk
  rw [ps_eq, if_neg hz, hk]
  cases hi : itP (s.extract 0 e) p with
  | none => rfl
  | some q =>
    obtain ⟨f, t, l⟩ := q
    have hb := itP_le (by rw [h0]; exact hp) hi
    rw [h0] at hb
    cases l
    · show (if (1 : Nat) = 0 then _ else (1, (s.extract 0 e).extract f t) :: ps ((s.extract 0 e).extract t (s.extract 0 e).size)) = _
      rw [if_neg (by decide), h0, ext0_ext s e f t hb.2.2.1, ext0_ext s e t e (Nat.le_refl _)]
      rfl
    · show (if (2 : Nat) = 0 then _ else (2, (s.extract 0 e).extract f t) :: ps ((s.extract 0 e).extract t (s.extract 0 e).size)) = _
      rw [if_neg (by decide), h0, ext0_ext s e f t hb.2.2.1, ext0_ext s e t e (Nat.le_refl _)]
      rfl
theorem tk_none {F : Nat} {s : ByteArray} {p e : Nat} (he : e ≤ s.size) (hp : p < e) (h : tkR F s p e = none) : comb (one F) (ps (s.extract p e)) = none := by
  rw [ps_itP s p e he hp]
  unfold tkR at h
  rw [if_neg (by omega)] at h
  cases hi : itP (s.extract 0 e) p with
  | none => rfl
  | some q =>
    obtain ⟨f, t, l⟩ := q
    rw [hi] at h
    dsimp only at h ⊢
    rw [comb_cons]
    cases ho : one F (if l = true then 2 else 1, s.extract f t) with
    | none => rfl
    | some x => rw [ho] at h; cases h
theorem tk_some {F : Nat} {s : ByteArray} {p e t : Nat} {x : It} (he : e ≤ s.size) (h : tkR F s p e = some (x, t)) : p < t ∧ t ≤ e ∧ comb (one F) (ps (s.extract p e)) = (comb (one F) (ps (s.extract t e))).map (x :: ·) := by
  unfold tkR at h
  by_cases hp : e ≤ p
  · rw [if_pos hp] at h; cases h
  · rw [if_neg hp] at h
    rw [ps_itP s p e he (by omega)]
    have h0 := ext0_size s e he
    cases hi : itP (s.extract 0 e) p with
    | none => rw [hi] at h; cases h
    | some q =>
      obtain ⟨f, t', l⟩ := q
      have hb := itP_le (by rw [h0]; omega) hi
      rw [h0] at hb
      rw [hi] at h
      dsimp only at h ⊢
      cases ho : one F (if l = true then 2 else 1, s.extract f t') with
      | none => rw [ho] at h; cases h
      | some y =>
        rw [ho] at h
        cases h
        refine ⟨hb.2.2.2.1, hb.2.2.1, ?_⟩
        rw [comb_cons, ho]
        cases comb (one F) (ps (s.extract t e)) <;> rfl
theorem ps_none (s : ByteArray) (p e : Nat) (h : e ≤ p) : ps (s.extract p e) = [] := by
  rw [ps_eq, if_pos (by rw [ByteArray.size_extract]; omega)]
theorem decF_succ (F : Nat) (s : ByteArray) : decF (F + 1) s = comb (one F) (ps s) := rfl
theorem ext_all (s : ByteArray) : s.extract 0 s.size = s := by
  exact ByteArray.extract_zero_size
/-- What the whole of take says of all bytes. -/
theorem tk_all (F : Nat) (s : ByteArray) (y : It) : decF (F + 1) s = some [y] ↔ tkR F s 0 s.size = some (y, s.size) := by
  rw [decF_succ]
  by_cases hz : s.size = 0
  · have e1 : ps s = [] := by rw [ps_eq, if_pos hz]
    rw [e1]
    unfold tkR
    rw [if_pos (by omega)]
    constructor <;> intro h <;> cases h
  · cases ht : tkR F s 0 s.size with
    | none =>
      have := tk_none (Nat.le_refl _) (by omega) ht
      rw [ext_all] at this
      rw [this]
      constructor <;> intro h <;> cases h
    | some q =>
      obtain ⟨x, t⟩ := q
      obtain ⟨h1, h2, h3⟩ := tk_some (Nat.le_refl _) ht
      rw [ext_all] at h3
      rw [h3]
      by_cases h4 : t = s.size
      · subst h4
        rw [ps_none s s.size s.size (Nat.le_refl _)]
        show some [x] = some [y] ↔ some (x, s.size) = some (y, s.size)
        constructor
        · intro h; cases h; rfl
        · intro h; cases h; rfl
      · constructor
        · intro h
          exfalso
          have h5 := ps_itP s t s.size (Nat.le_refl _) (by omega)
          cases hc : comb (one F) (ps (s.extract t s.size)) with
          | none => rw [hc] at h; cases h
          | some l =>
            rw [hc] at h
            cases h
            have h6 : ps (s.extract t s.size) ≠ [] := by
              rw [h5]
              cases itP (s.extract 0 s.size) t with
              | none => exact List.cons_ne_nil _ _
              | some q => exact List.cons_ne_nil _ _
            cases hq : ps (s.extract t s.size) with
            | nil => exact h6 hq
            | cons a r =>
              rw [hq, comb_cons] at hc
              cases h7 : one F a <;> cases h8 : comb (one F) r <;> rw [h7, h8] at hc <;> cases hc
        · intro h
          cases h
          exact absurd rfl h4
end Go.Proofs.YtmefanagpkbjeaaDoor
namespace Go.Proofs.YtmefanagpkbjeaaDoor
open Go.RowKit Go.Shelf Go.Sort

mutual
/-- An item's bytes. -/
def encI : It → ByteArray
  | .mk l t xs => if l then hdB 192 (encIs xs).size ++ encIs xs else if bare t then t else hdB 128 t.size ++ t
def encIs : List It → ByteArray
  | [] => ⟨#[]⟩
  | x :: r => encI x ++ encIs r
end
mutual
/-- Is it right? -/
def rgI : It → Bool
  | .mk l t xs => (if l then decide (t.size = 0) else decide (xs.length = 0)) && rgIs xs
def rgIs : List It → Bool
  | [] => true
  | x :: r => rgI x && rgIs r
end
mutual
def cntI : It → Nat
  | .mk _ _ xs => cntIs xs + 1
def cntIs : List It → Nat
  | [] => 0
  | x :: r => cntI x + cntIs r
end
/-- Deeper than so much? -/
def dprI : Nat → It → Bool
  | 0, _ => true
  | m + 1, .mk _ _ xs => xs.any (dprI m)
mutual
theorem cnt_er : ∀ x, cnt x = cntI (er x)
  | .mk l t a c xs => by show cnts xs + 1 = cntIs (ers xs) + 1; rw [cnts_er xs]
theorem cnts_er : ∀ xs, cnts xs = cntIs (ers xs)
  | [] => rfl
  | x :: r => by show cnt x + cnts r = cntI (er x) + cntIs (ers r); rw [cnt_er x, cnts_er r]
end
theorem dpr_er : ∀ (m : Nat) (x : Im), dpr m x = dprI m (er x)
  | 0, _ => rfl
  | m + 1, .mk l t a c xs => by
    show xs.any (dpr m) = (ers xs).any (dprI m)
    rw [ers_map, List.any_map]
    congr 1
    funext y
    exact dpr_er m y
theorem any_deep (m d : Nat) (h : d + m = 13) : ∀ x, (pro d x).any (fun e => decide (12 < e.1)) = dpr m x := by
  induction m generalizing d with
  | zero =>
    intro x
    rw [pro_eq, List.any_cons]
    have : decide (12 < d) = true := decide_eq_true (by omega)
    rw [this, Bool.true_or]
    rfl
  | succ m ih =>
    intro x
    have ihl : ∀ xs, (pros (d + 1) xs).any (fun e => decide (12 < e.1)) = xs.any (dpr m) := by
      intro xs
      induction xs with
      | nil => rfl
      | cons y r ihr =>
        show (pro (d + 1) y ++ pros (d + 1) r).any _ = (dpr m y || r.any (dpr m))
        rw [List.any_append, ih (d + 1) (by omega) y, ihr]
    have : decide (12 < d) = false := decide_eq_false (by omega)
    rw [pro_eq, List.any_cons, this, Bool.false_or, ihl]
    rfl
theorem deep_er (x : Im) : deep x = dprI 12 (er x) := by
  rw [← dpr_er]
  exact any_deep 12 1 rfl x
mutual
theorem rg_er (d : Nat) : ∀ x, (pro d x).all (fun e => rgt e.2) = rgI (er x)
  | .mk l t a c xs => by
    show (rgt (.mk l t a c xs) && (pros (d + 1) xs).all (fun e => rgt e.2)) = ((if l then decide (t.size = 0) else decide ((ers xs).length = 0)) && rgIs (ers xs))
    rw [rgs_er (d + 1) xs, ers_map, List.length_map]
    rfl
theorem rgs_er (d : Nat) : ∀ xs, (pros d xs).all (fun e => rgt e.2) = rgIs (ers xs)
  | [] => rfl
  | x :: r => by
    show (pro d x ++ pros d r).all _ = (rgI (er x) && rgIs (ers r))
    rw [List.all_append, rg_er d x, rgs_er d r]
end
theorem right_er (x : Im) : right x = rgI (er x) := rg_er 1 x

theorem hdB_hsz (b n : Nat) : (hdB b n).size = hsz n := by
  unfold hdB hsz
  split
  · rfl
  · rw [ByteArray.size_append, num_size]
    rfl
mutual
theorem sz_er : ∀ x, rgI (er x) = true → szOf x = (encI (er x)).size
  | .mk l t a c xs, h => by
    have h' : ((if l then decide (t.size = 0) else decide ((ers xs).length = 0)) && rgIs (ers xs)) = true := h
    rw [Bool.and_eq_true] at h'
    have hx := szs_er xs h'.2
    rw [szOf_eq]
    show (if (!l && bare t) = true then t.size else hsz (t.size + szs xs) + (t.size + szs xs)) = (if l then hdB 192 (encIs (ers xs)).size ++ encIs (ers xs) else if bare t then t else hdB 128 t.size ++ t).size
    rw [hx]
    cases l with
    | true =>
      have h0 : t.size = 0 := of_decide_eq_true h'.1
      rw [if_neg (by simp), if_pos rfl, h0, Nat.zero_add, ByteArray.size_append, hdB_hsz]
    | false =>
      have h0 : (ers xs).length = 0 := of_decide_eq_true h'.1
      have h1 : ers xs = [] := List.length_eq_zero_iff.1 h0
      rw [h1]
      have h2 : (encIs []).size = 0 := rfl
      rw [h2, Nat.add_zero]
      cases hb : bare t with
      | true => rw [if_pos (by simp), if_neg (by simp), if_pos rfl]
      | false => rw [if_neg (by simp), if_neg (by simp), if_neg (by simp), ByteArray.size_append, hdB_hsz]
theorem szs_er : ∀ xs, rgIs (ers xs) = true → szs xs = (encIs (ers xs)).size
  | [], _ => rfl
  | x :: r, h => by
    have h' : (rgI (er x) && rgIs (ers r)) = true := h
    rw [Bool.and_eq_true] at h'
    show szOf x + szs r = (encI (er x) ++ encIs (ers r)).size
    rw [ByteArray.size_append, sz_er x h'.1, szs_er r h'.2]
end
theorem cat_go (l : List (Nat × Im)) : ∀ b : ByteArray, l.foldl (fun b e => b ++ hOf e.2 ++ e.2.t) b = b ++ cat l := by
  induction l with
  | nil => intro b; show b = b ++ ⟨#[]⟩; exact (ByteArray.append_empty).symm
  | cons e r ih =>
    intro b
    show r.foldl _ (b ++ hOf e.2 ++ e.2.t) = b ++ r.foldl _ (⟨#[]⟩ ++ hOf e.2 ++ e.2.t)
    rw [ih, ih (⟨#[]⟩ ++ hOf e.2 ++ e.2.t), show ((⟨#[]⟩ : ByteArray) ++ hOf e.2) = hOf e.2 from ByteArray.empty_append]
    simp only [ByteArray.append_assoc]
theorem cat_app (a b : List (Nat × Im)) : cat (a ++ b) = cat a ++ cat b := by
  show (a ++ b).foldl _ _ = _
  rw [List.foldl_append]
  exact cat_go b _
theorem cat_cons (e : Nat × Im) (r : List (Nat × Im)) : cat (e :: r) = hOf e.2 ++ e.2.t ++ cat r := by
  show r.foldl _ (⟨#[]⟩ ++ hOf e.2 ++ e.2.t) = _
  rw [cat_go, show ((⟨#[]⟩ : ByteArray) ++ hOf e.2) = hOf e.2 from ByteArray.empty_append]
theorem size_0 (t : ByteArray) (h : t.size = 0) : t = ⟨#[]⟩ := by
  refine ext_bt _ _ (by rw [h]; rfl) fun j hj => ?_
  omega
mutual
theorem cat_er (d : Nat) : ∀ x, rgI (er x) = true → cat (pro d x) = encI (er x)
  | .mk l t a c xs, h => by
    have h' : ((if l then decide (t.size = 0) else decide ((ers xs).length = 0)) && rgIs (ers xs)) = true := h
    rw [Bool.and_eq_true] at h'
    have hx := szs_er xs h'.2
    have hc := cats_er (d + 1) xs h'.2
    show cat ((d, Im.mk l t a c xs) :: pros (d + 1) xs) = if l then hdB 192 (encIs (ers xs)).size ++ encIs (ers xs) else if bare t then t else hdB 128 t.size ++ t
    rw [cat_cons, hc]
    show (if l then hdB 192 (t.size + szs xs) else if bare t then ⟨#[]⟩ else hdB 128 t.size) ++ t ++ encIs (ers xs) = _
    rw [hx]
    cases l with
    | true =>
      have h0 : t.size = 0 := of_decide_eq_true h'.1
      rw [if_pos rfl, if_pos rfl, h0, Nat.zero_add, size_0 t h0]
      rw [show ∀ q : ByteArray, q ++ ⟨#[]⟩ = q from fun q => ByteArray.append_empty]
    | false =>
      have h0 : (ers xs).length = 0 := of_decide_eq_true h'.1
      have h1 : ers xs = [] := List.length_eq_zero_iff.1 h0
      rw [h1]
      show (if false = true then _ else if bare t then (⟨#[]⟩ : ByteArray) else hdB 128 t.size) ++ t ++ ⟨#[]⟩ = if false = true then _ else if bare t then t else hdB 128 t.size ++ t
      rw [show ∀ q : ByteArray, q ++ ⟨#[]⟩ = q from fun q => ByteArray.append_empty]
      cases bare t with
      | true => exact ByteArray.empty_append
      | false => rfl
theorem cats_er (d : Nat) : ∀ xs, rgIs (ers xs) = true → cat (pros d xs) = encIs (ers xs)
  | [], _ => rfl
  | x :: r, h => by
    have h' : (rgI (er x) && rgIs (ers r)) = true := h
    rw [Bool.and_eq_true] at h'
    show cat (pro d x ++ pros d r) = encI (er x) ++ encIs (ers r)
    rw [cat_app, cat_er d x h'.1, cats_er d r h'.2]
end

/-- What an item comes to, or why not. -/
def eE (x : It) : Int := if dprI 12 x then 41 else if rgI x then (if 65536 < (encI x).size then 42 else 0) else 2
def eS (x : It) : ByteArray := if eE x = 0 then encI x else ⟨#[]⟩
theorem encE_er (x : Im) : encE x = eE (er x) := by
  unfold encE eE
  rw [deep_er, right_er]
  cases hr : rgI (er x) with
  | true => rw [sz_er x hr]
  | false => rfl
theorem eE_0 {x : It} (h : eE x = 0) : dprI 12 x = false ∧ rgI x = true ∧ (encI x).size ≤ 65536 := by
  unfold eE at h
  cases h1 : dprI 12 x with
  | true => rw [h1] at h; simp at h
  | false =>
    cases h2 : rgI x with
    | false => rw [h1, h2] at h; simp at h
    | true =>
      rw [h1, h2] at h
      simp only [Bool.false_eq_true, if_false, if_true] at h
      refine ⟨rfl, rfl, ?_⟩
      split at h
      · cases h
      · omega
theorem encS_er (x : Im) : encS x = eS (er x) := by
  unfold encS eS
  rw [encE_er]
  by_cases h : eE (er x) = 0
  · rw [if_pos h, if_pos h]
    exact cat_er 1 x (eE_0 h).2.1
  · rw [if_neg h, if_neg h]
theorem one_none (F : Nat) (b : ByteArray) : one F (0, b) = none := rfl
theorem one_text (F : Nat) (b : ByteArray) : one F (1, b) = some (.mk false b []) := rfl
theorem one_list (F : Nat) (b : ByteArray) : one F (2, b) = (decF F b).map (It.mk true ⟨#[]⟩) := rfl
theorem ext_size (s : ByteArray) (f t : Nat) (h : t ≤ s.size) : (s.extract f t).size = t - f := by rw [ByteArray.size_extract]; omega
/-- No more items are read than there are bytes. -/
theorem cnt_step (F : Nat) (hF : ∀ s its, decF F s = some its → cntIs its ≤ s.size) (s : ByteArray) (e : Nat) (he : e ≤ s.size) : ∀ (n p : Nat), e - p ≤ n → ∀ its, comb (one F) (ps (s.extract p e)) = some its → cntIs its ≤ e - p
  | n, p, hn, its, h => by
    by_cases hp : e ≤ p
    · rw [ps_none s p e hp] at h
      cases h
      exact Nat.zero_le _
    · rw [ps_itP s p e he (by omega)] at h
      have h0 := ext0_size s e he
      cases hi : itP (s.extract 0 e) p with
      | none => rw [hi] at h; cases h
      | some q =>
        obtain ⟨f, t, l⟩ := q
        have hb := itP_le (by rw [h0]; omega) hi
        rw [h0] at hb
        rw [hi] at h
        dsimp only at h
        rw [comb_cons] at h
        cases ho : one F (if l = true then 2 else 1, s.extract f t) with
        | none => rw [ho] at h; cases h
        | some x =>
          cases hr : comb (one F) (ps (s.extract t e)) with
          | none => rw [ho, hr] at h; cases h
          | some r =>
            rw [ho, hr] at h
            cases h
            match n, hn with
            | 0, hn => omega
            | n + 1, hn =>
              have ih := cnt_step F hF s e he n t (by omega) r hr
              show cntI x + cntIs r ≤ e - p
              cases l with
              | false =>
                cases ho
                show 1 + cntIs r ≤ _
                omega
              | true =>
                have ho' : (decF F (s.extract f t)).map (It.mk true ⟨#[]⟩) = some x := ho
                cases hd : decF F (s.extract f t) with
                | none => rw [hd] at ho'; cases ho'
                | some l =>
                  rw [hd] at ho'
                  cases ho'
                  have h1 := hF _ _ hd
                  rw [ext_size s f t (by omega)] at h1
                  have h2 := hb.2.2.2.2 rfl
                  show cntIs l + 1 + cntIs r ≤ _
                  omega
theorem cnt_dec : ∀ (F : Nat) (s : ByteArray) (its : List It), decF F s = some its → cntIs its ≤ s.size
  | 0, s, its, h => by
    cases h
    exact Nat.zero_le _
  | F + 1, s, its, h => by
    rw [decF_succ] at h
    have := cnt_step F (cnt_dec F) s s.size (Nat.le_refl _) s.size 0 (by omega) its (by rw [ext_all]; exact h)
    exact this
theorem cnt_one {F : Nat} {s : ByteArray} {y : Im} (h : decF F s = some [er y]) : cnt y ≤ s.size := by
  have := cnt_dec F s _ h
  rw [cnt_er]
  exact this
end Go.Proofs.YtmefanagpkbjeaaDoor
