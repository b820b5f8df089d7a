/- An item appended to a slice of items, in a round. -/
import Derived.Test.YteaongogomhooaaQ16
namespace Go.Proofs.Yteaongogomhooaa
open Go.RowKit Go.Shelf Go.Sort
attribute [local go_sem] Oper.semAt_some

/-- The second law of drawn statements, in a round. -/
theorem region_inv_in {P : Program} (l' n' : Nat) {id : Nat} {Q : Exit → Act → World → Prop} {a : Act} {w : World} {l : List Oper} (J : (Nat → Bool) → Act → World → Prop) (hm : P.follows .mixedOrders = true) (hnd : noDefer l.toArray = true) (hL : ¬ LetsOut Q)
    (hB : backB .any l.toArray = true) (h0 : J (fun _ => false) a w.drew)
    (step : ∀ i o S a W, l[i]? = some o → S i = false → J S a W → (∀ e ∈ o.after, Region.binds .any e = true → S e.on = true) → ∀ K : Act → World → Prop, (∀ a W, J (more S i) a W → K a W) →
      if Region.wanted o (yielded l.toArray a.tmps) then o.wp P a W K Q else K (a.put o.dst undef) W)
    (last : ∀ S a W, (∀ i, i < l.length → S i = true) → J S a W → Q .normal a W) : (Code.region id l.toArray true).wpIn (Fence.wide.inRound l') n' P Q a w := by
  refine region_round l' n' hm hnd hL ?_
  refine any_of_inv (P := P) (md := .any) (ops := l.toArray) (Q := Q) (J := fun listed a W => J (fun j => listed.getD j false) a W) hB
    (fun i listed a W hsz hr hJ => ?_) (fun listed a W hsz hall hJ => ?_) l.toArray.size (Array.replicate l.toArray.size false) a w.drew (by simp) (left_new _ _ (Nat.le_refl _)) ?_
  · obtain ⟨hun, o, ho, hall⟩ := mem_ready.1 hr
    have hlt : i < listed.size := by rw [hsz]; exact (Array.getElem?_eq_some_iff.1 ho).1
    have e : (fun j => (listed.setIfInBounds i true).getD j false) = more (fun j => listed.getD j false) i := by
      funext j
      unfold more
      by_cases hij : j = i
      · subst hij; simp [hlt]
      · rw [if_neg hij, getD_set_ne false (fun e => hij e.symm)]
    have hst := step i o (fun j => listed.getD j false) a W (by simpa using ho) (getD_both hun) hJ hall (J (more (fun j => listed.getD j false) i)) (fun _ _ h => h)
    unfold wpOp
    simp only [ho]
    rw [e]
    split
    · rename_i hw; simp only [hw, if_true] at hst; exact Or.inl hst
    · rename_i hw; simp only [hw] at hst; exact hst
  · refine last (fun j => listed.getD j false) a W (fun i hi => ?_) hJ
    have h1 := hall i (by simpa using hi)
    have h2 : i < listed.size := by rw [hsz]; simpa using hi
    cases hq : listed.getD i false with
    | true => rfl
    | false => rw [getD_in h2 hq] at h1; cases h1
  · have e : (fun j => (Array.replicate l.toArray.size false).getD j false) = fun _ => false := by funext j; exact getD_replicate_false _ _
    show J (fun j => (Array.replicate l.toArray.size false).getD j false) a _
    rw [e]; exact h0
theorem wp_append_where {P : Program} {w : World} {o : Oper} {a : Act} {K : Act → World → Prop} {Q : Exit → Act → World → Prop} (sl x : Operand) (t : TypeId)
    (ho : o.op = .call { callee := .builtin .append, args := #[sl, x], argTypes := #[t, t] })
    (base : Nat) (e : TypeId) (i : TypeInfo) (z : Value) (size bytes : Nat) (ht : P.underlying t = some (.slice e)) (hi : P.info? e = some i) (hz : i.zero = some z) (hsize : i.size = size) (hby : i.bytes = bytes) (hzs : z.cells.size = size) (hsz : 0 < size)
    (v : Value) (n : Nat) (xs : List Value) (hs : a.eval sl = v) (hown : w.ownsRow base e size v n xs) (ad : Addr) (m c : Nat) (news : List Value) (hx : a.eval x = .slice (some ad) m c) (hl : news.length = m * size)
    (hnews : ∀ j u, news[j]? = some u → w.cell? (ad.add j) = some u) (h1 : ∀ u ∈ news, u.oneCell' = true) (h63 : n + m ≤ maxLen) (hbytes : (n + m) * bytes ≤ 140737488355328) (hbase : base ≤ w.heap.size) (hm : 0 < m)
    (h : ∀ v' w', w'.ownsRow base e size v' (n + m) (xs ++ news) → w.grownBy w' v.ownBlock → v' ≠ .slice none 0 0 → (v'.ownBlock = v.ownBlock ∨ ∃ g, v'.ownBlock = some g ∧ w.heap.size ≤ g) → K (a.put o.dst v') w') : o.wp P a w K Q := by
  obtain ⟨v', w', hr, h2, h3, h4, h5⟩ := append_where (P := P) w base t o.type e i z size bytes ht hi hz hsize hby hzs hsz v n xs hown ad m c news hl hnews h1 h63 hbytes hbase hm
  unfold Oper.wp execOp
  simp only [ho, resolve, invoke, builtin, Sem.run_bind, Sem.run_pure, Result.andThen_ok, List.map_toArray, List.map_cons, List.map_nil, hs, hx, hr]
  exact h v' w' h2 h3 h4 h5

/-- What the statement leaves as it is. -/
structure Rl (W0 W : World) (v : Value) (bI : Nat) : Prop where
  os : W.os = W0.os
  tape : W.tape = W0.tape
  output : W.output = W0.output
  size : W0.heap.size ≤ W.heap.size
  block : ∀ k, k < W0.heap.size → some k ≠ v.ownBlock → k ≠ bI → W.heap[k]? = W0.heap[k]?
theorem Rl.set {W0 W : World} {v : Value} {bI : Nat} (h : Rl W0 W v bI) (p : Addr) (u : Value) (hp : some p.block = v.ownBlock ∨ W0.heap.size ≤ p.block ∨ p.block = bI) : Rl W0 (W.setCell p u) v bI :=
  ⟨h.os, h.tape, h.output, by have := h.size; simp [World.setCell]; omega, fun k h1 h2 h3 => (Below.heap_setCell _ _ _ _ (fun e => by
    subst e
    rcases hp with hp | hp | hp
    · exact h2 hp
    · omega
    · exact h3 hp)).trans (h.block k h1 h2 h3)⟩
def zero3 : List Value := [.bool false, .string ⟨#[]⟩, .slice none 0 0]
def cell3 (X : Im) : List Value := [.bool X.l, .string X.t, X.sl]
theorem set3 (cl : List Value) (n : Nat) (h : cl.length = n * 3) (X : Im) : (((cl ++ zero3).set (n * 3) (.bool X.l)).set (n * 3 + 1) (.string X.t)).set (n * 3 + 2) X.sl = cl ++ cell3 X := by
  rw [List.set_append_right _ _ (by omega), List.set_append_right _ _ (by omega), List.set_append_right _ _ (by omega), show n * 3 - cl.length = 0 by omega, show n * 3 + 1 - cl.length = 1 by omega, show n * 3 + 2 - cl.length = 2 by omega]
  rfl
/-- How far the statement has come. -/
structure JA (W0 : World) (bI bT zz n : Nat) (v : Value) (cl : List Value) (X : Im) (S : Nat → Bool) (x30 x31 x32 x33 x34 x35 : Value) (W : World) : Prop where
  f0 : S 0 = true → x30 = v
  f1 : S 1 = true → x31 = X.val
  f2 : S 2 = true → x32 = .int .i64 n
  e3 : S 3 = false → W = W0
  f3 : S 3 = true → S 4 = false → x33 = .slice (some ⟨W0.heap.size, 0, none⟩) 1 1 ∧ W = W0.alloc (.cells zero3.toArray 24)
  g4 : S 4 = true → S 0 = true ∧ S 1 = true ∧ S 2 = true ∧ S 3 = true
  e4 : S 4 = false → S 5 = false ∧ S 6 = false ∧ S 7 = false
  f4 : S 4 = true → ∃ g c, x34 = .slice (some ⟨g, 0, none⟩) (n + 1) c ∧ (S 5 = true → x35 = .pointer (some ⟨g, n * 3, none⟩)) ∧ W.ownsRow zz 24 3 (.slice (some ⟨g, 0, none⟩) (n + 1) c) (n + 1) (cl ++ if S 6 then cell3 X else zero3) ∧
    Bx bI 22 (if S 7 then .slice (some ⟨g, 0, none⟩) (n + 1) c else v) W ∧ (some g = v.ownBlock ∨ W0.heap.size ≤ g) ∧ Rl W0 W v bI
theorem JA.pre {W0 : World} {bI bT zz n : Nat} {v : Value} {cl : List Value} {X : Im} {S : Nat → Bool} {x30 x31 x32 x33 x34 x35 : Value} {W : World} (h : JA W0 bI bT zz n v cl X S x30 x31 x32 x33 x34 x35 W) (h4 : S 4 = false) : Below W0.heap.size W0 W := by
  cases h3 : S 3 with
  | false => rw [h.e3 h3]; exact Below.refl _ _
  | true => rw [(h.f3 h3 h4).2]; exact (Below.refl _ W0).alloc (Nat.le_refl _) _
theorem JA.four {W0 : World} {bI bT zz n : Nat} {v : Value} {cl : List Value} {X : Im} {S : Nat → Bool} {x30 x31 x32 x33 x34 x35 : Value} {W : World} (h : JA W0 bI bT zz n v cl X S x30 x31 x32 x33 x34 x35 W) (i : Nat) (hi : S i = false) (hl : i < 4) : S 4 = false := by
  cases h4 : S 4 with
  | false => rfl
  | true =>
    obtain ⟨h0, h1, h2, h3⟩ := h.g4 h4
    have : i = 0 ∨ i = 1 ∨ i = 2 ∨ i = 3 := by omega
    rcases this with rfl | rfl | rfl | rfl
    · rw [h0] at hi; cases hi
    · rw [h1] at hi; cases hi
    · rw [h2] at hi; cases hi
    · rw [h3] at hi; cases hi

theorem owns_kind3 {W : World} {zz n : Nat} {v : Value} {xs : List Value} (h : W.ownsRow zz 24 3 v n xs) (k : Nat) (hk : v.ownBlock = some k) : ∃ c, W.heap[k]? = some (.cells c 24 (0, 0)) := by
  rcases h.2 with ⟨rfl, _⟩ | ⟨g, cap, cur, rfl, hb, hg, _⟩
  · cases hk
  · injection hk with hk
    subst hk
    exact ⟨cur, hg⟩
theorem bx_ne {W : World} {bI zz g n c k : Nat} {u : Value} {xs : List Value} (hB : Bx bI 22 u W) (h : W.ownsRow zz 24 3 (.slice (some ⟨g, 0, none⟩) n c) k xs) : g ≠ bI := fun e => by
  obtain ⟨c', hk⟩ := owns_kind3 h g rfl
  rw [e, show W.heap[bI]? = _ from hB] at hk
  cases hk
theorem bx_no {W : World} {bI zz k : Nat} {u v : Value} {xs : List Value} (hB : Bx bI 22 u W) (h : W.ownsRow zz 24 3 v k xs) : some bI ≠ v.ownBlock := fun e => by
  obtain ⟨c', hk⟩ := owns_kind3 h bI e.symm
  rw [show W.heap[bI]? = _ from hB] at hk
  cases hk
def appOps : List Oper := [{ dst := some 30, op := Op.load 22 (Operand.tmp 4), type := 22, pos := "decode.go:55", after := #[], guard := none }, { dst := some 31, op := Op.load 24 (Operand.tmp 8), type := 24, pos := "decode.go:55", after := #[], guard := none }, { dst := some 32, op := Op.call { callee := Callee.builtin Builtin.len, args := #[Operand.tmp 30], argTypes := #[22] }, type := 3, pos := "decode.go:55", after := #[{ on := 0, ground := Ground.data }], guard := none }, { dst := some 33, op := Op.buildSlice 22 1 #[(0, Operand.const (Value.agg #[Value.bool false, Value.string { data := #[] }, Value.slice none 0 0]))], type := 22, pos := "decode.go:55", after := #[], guard := none }, { dst := some 34, op := Op.call { callee := Callee.builtin Builtin.append, args := #[Operand.tmp 30, Operand.tmp 33], argTypes := #[22, 22] }, type := 22, pos := "decode.go:55", after := #[{ on := 0, ground := Ground.data }, { on := 3, ground := Ground.data }, { on := 0, ground := Ground.phase }, { on := 1, ground := Ground.phase }, { on := 2, ground := Ground.phase }, { on := 3, ground := Ground.phase }], guard := none }, { dst := some 35, op := Op.indexAddr 22 (Operand.tmp 34) (Operand.tmp 32), type := 0, pos := "decode.go:55", after := #[{ on := 4, ground := Ground.data }, { on := 2, ground := Ground.data }, { on := 0, ground := Ground.phase }, { on := 1, ground := Ground.phase }, { on := 2, ground := Ground.phase }, { on := 3, ground := Ground.phase }, { on := 4, ground := Ground.phase }, { on := 7, ground := Ground.gcOnly Departure.appendInPlace }], guard := none }, { dst := none, op := Op.store 24 (Operand.tmp 35) (Operand.tmp 31), type := 0, pos := "decode.go:55", after := #[{ on := 5, ground := Ground.data }, { on := 1, ground := Ground.data }, { on := 4, ground := Ground.chain }, { on := 0, ground := Ground.phase }, { on := 1, ground := Ground.phase }, { on := 2, ground := Ground.phase }, { on := 3, ground := Ground.phase }, { on := 4, ground := Ground.phase }, { on := 7, ground := Ground.gcOnly Departure.appendInPlace }], guard := none }, { dst := none, op := Op.store 22 (Operand.tmp 4) (Operand.tmp 34), type := 0, pos := "decode.go:55", after := #[{ on := 4, ground := Ground.data }, { on := 4, ground := Ground.chain }, { on := 6, ground := Ground.textOnly Departure.appendInPlace }, { on := 0, ground := Ground.phase }, { on := 1, ground := Ground.phase }, { on := 2, ground := Ground.phase }, { on := 3, ground := Ground.phase }, { on := 4, ground := Ground.phase }, { on := 5, ground := Ground.textOnly Departure.appendInPlace }, { on := 6, ground := Ground.textOnly Departure.appendInPlace }], guard := none }]

set_option maxRecDepth 100000 in
set_option maxHeartbeats 4000000 in
theorem append_item_in (l' n' id : Nat) {Q : Exit → Act → World → Prop} (W : World) (bI bT zz n : Nat) (v : Value) (cl : List Value) (X : Im) (t0 t1 t2 t3 t5 t6 t7 t9 t10 t11 t12 t13 t14 t15 t16 t17 t18 t19 t20 t21 t22 t23 t24 t25 t26 t27 t28 t29 t36 t37 t38 u30 u31 u32 u33 u34 u35 : Value) (hL : ¬ LetsOut Q) (hn : n < 1000000)
    (hBI : Bx bI 22 v W) (hBT : ItIn bT X W) (hown : W.ownsRow zz 24 3 v n cl) (hzz : zz ≤ W.heap.size)
    (hQ : ∀ a' W' g c, Bx bI 22 (.slice (some ⟨g, 0, none⟩) (n + 1) c) W' → W'.ownsRow zz 24 3 (.slice (some ⟨g, 0, none⟩) (n + 1) c) (n + 1) (cl ++ cell3 X) → (some g = v.ownBlock ∨ W.heap.size ≤ g) → Rl W W' v bI → Q .normal a' W') :
    (Code.region id appOps.toArray true).wpIn (Fence.wide.inRound l') n' Try.prog Q { tmps := #[t0, t1, t2, t3, .pointer (some ⟨bI, 0, none⟩), t5, t6, t7, .pointer (some ⟨bT, 0, none⟩), t9, t10, t11, t12, t13, t14, t15, t16, t17, t18, t19, t20, t21, t22, t23, t24, t25, t26, t27, t28, t29, u30, u31, u32, u33, u34, u35, t36, t37, t38], defers := [] } W := by
  obtain ⟨i0, hi0, hz0, hz1, hz2⟩ := info_parts info_item
  obtain ⟨W0, hW0⟩ : ∃ W0, W.drew = W0 := ⟨_, rfl⟩
  have hBI0 : Bx bI 22 v W0 := by rw [← hW0]; exact hBI
  have hBT0 : ItIn bT X W0 := by rw [← hW0]; exact hBT
  have hown0 : W0.ownsRow zz 24 3 v n cl := by rw [← hW0]; exact hown.drew
  have hs0 : W.heap.size = W0.heap.size := by rw [← hW0]; rfl
  have hcl := hown0.1
  obtain ⟨ao, c0, hv⟩ : ∃ ao c0, v = .slice ao n c0 := by
    rcases hown0.2 with ⟨h, rfl⟩ | ⟨g, c, _, h, _⟩
    · exact ⟨none, 0, h⟩
    · exact ⟨_, c, h⟩
  obtain ⟨xl, xt, xa, xc, xx⟩ := X
  refine region_inv_in l' n' (fun S aa W' => ∃ x30 x31 x32 x33 x34 x35 : Value, aa = { tmps := #[t0, t1, t2, t3, .pointer (some ⟨bI, 0, none⟩), t5, t6, t7, .pointer (some ⟨bT, 0, none⟩), t9, t10, t11, t12, t13, t14, t15, t16, t17, t18, t19, t20, t21, t22, t23, t24, t25, t26, t27, t28, t29, x30, x31, x32, x33, x34, x35, t36, t37, t38], defers := [] } ∧ JA W0 bI bT zz n v cl (.mk xl xt xa xc xx) S x30 x31 x32 x33 x34 x35 W') (by kernel_rfl) (by kernel_rfl) hL (by kernel_rfl) ?_ ?_ ?_
  · rw [hW0]
    exact ⟨_, _, _, _, _, _, rfl, ⟨nofun, nofun, nofun, fun _ => rfl, nofun, nofun, fun _ => ⟨rfl, rfl, rfl⟩, nofun⟩⟩
  · intro i o S aa W' hi hun hJ hall K hK
    obtain ⟨x30, x31, x32, x33, x34, x35, rfl, jr⟩ := hJ
    have hlt : i < 8 := (List.getElem?_eq_some_iff.1 hi).1
    have hcase : i = 0 ∨ i = 1 ∨ i = 2 ∨ i = 3 ∨ i = 4 ∨ i = 5 ∨ i = 6 ∨ i = 7 := by omega
    rcases hcase with rfl | rfl | rfl | rfl | rfl | rfl | rfl | rfl
    all_goals (have ho := (Option.some.inj hi).symm; subst ho; clear hi hlt)
    · have h4 := jr.four 0 hun (by decide)
      have cB : W'.cell? ⟨bI, 0, none⟩ = some v := Bx.cell (((jr.pre h4).block bI hBI0.lt).trans hBI0)
      subst hv
      go_simp
      exact hK _ _ ⟨_, x31, x32, x33, x34, x35, rfl, ⟨fun _ => rfl, jr.f1, jr.f2, jr.e3, jr.f3, (fun h => Bool.noConfusion (h4.symm.trans h)), jr.e4, (fun h => Bool.noConfusion (h4.symm.trans h))⟩⟩
    · have h4 := jr.four 1 hun (by decide)
      have hB := ((jr.pre h4).block bT hBT0.lt).trans hBT0
      have d0 : W'.cell? ⟨bT, 0, none⟩ = some (.bool xl) := by rw [Lib.cell_of_heap hB]; rfl
      have d1 : W'.cell? ⟨bT, 1, none⟩ = some (.string xt) := by rw [Lib.cell_of_heap hB]; rfl
      have d2 : W'.cell? ⟨bT, 2, none⟩ = some (.slice xa xx.length xc) := by rw [Lib.cell_of_heap hB]; rfl
      go_simp
      exact hK _ _ ⟨x30, _, x32, x33, x34, x35, rfl, ⟨jr.f0, fun _ => rfl, jr.f2, jr.e3, jr.f3, (fun h => Bool.noConfusion (h4.symm.trans h)), jr.e4, (fun h => Bool.noConfusion (h4.symm.trans h))⟩⟩
    · have h4 := jr.four 2 hun (by decide)
      have s_0 : S 0 = true := hall ⟨0, .data⟩ (by simp) rfl
      obtain rfl := jr.f0 s_0
      subst hv
      go_simp
      exact hK _ _ ⟨_, x31, _, x33, x34, x35, rfl, ⟨fun _ => rfl, jr.f1, fun _ => rfl, jr.e3, jr.f3, (fun h => Bool.noConfusion (h4.symm.trans h)), jr.e4, (fun h => Bool.noConfusion (h4.symm.trans h))⟩⟩
    · have h4 := jr.four 3 hun (by decide)
      obtain rfl := jr.e3 hun
      go_simp
      exact hK _ _ ⟨x30, x31, x32, _, x34, x35, rfl, ⟨jr.f0, jr.f1, jr.f2, nofun, fun _ _ => ⟨rfl, rfl⟩, (fun h => Bool.noConfusion (h4.symm.trans h)), jr.e4, (fun h => Bool.noConfusion (h4.symm.trans h))⟩⟩
    · have s_0 : S 0 = true := hall ⟨0, .data⟩ (by simp) rfl
      have s_1 : S 1 = true := hall ⟨1, .phase⟩ (by simp) rfl
      have s_2 : S 2 = true := hall ⟨2, .phase⟩ (by simp) rfl
      have s_3 : S 3 = true := hall ⟨3, .data⟩ (by simp) rfl
      obtain rfl := jr.f0 s_0
      obtain ⟨rfl, rfl⟩ := jr.f3 s_3 hun
      obtain ⟨n5, n6, n7⟩ := jr.e4 hun
      have f1 := jr.f1 s_1
      have f2 := jr.f2 s_2
      refine (if_pos (show Region.wanted _ _ = true from rfl)).mpr ?_
      refine wp_append_where (.tmp 30) (.tmp 33) 22 rfl zz 24 i0 _ 3 48 Try.underlying22 hi0 hz0 hz1 hz2 rfl (by decide) x30 n cl rfl (hown0.alloc _) ⟨W0.heap.size, 0, none⟩ 1 1 zero3 rfl rfl ?_ ?_ (by unfold maxLen; omega) (by omega) (by rw [World.size_alloc]; omega) (by decide) ?_
      · intro j u hj
        rw [Addr.add_lit, Lib.cell_of_heap (World.alloc_heap_new W0 _), Nat.zero_add]
        simpa using hj
      · intro u hu
        simp only [zero3, List.mem_cons, List.not_mem_nil, or_false] at hu
        rcases hu with rfl | rfl | rfl <;> rfl
      · intro v' w' k2 k3 k4 k5
        obtain ⟨g, c, rfl⟩ : ∃ g c, v' = .slice (some ⟨g, 0, none⟩) (n + 1) c := by
          rcases k2.2 with ⟨h, _⟩ | ⟨g, c, _, h, _⟩
          · exact absurd h k4
          · exact ⟨g, c, h⟩
        refine hK _ _ ⟨_, _, _, _, _, x35, rfl, ⟨fun _ => rfl, fun _ => f1, fun _ => f2, (fun h => Bool.noConfusion (s_3.symm.trans h)), nofun, fun _ => ⟨s_0, s_1, s_2, s_3⟩, nofun, fun _ => ⟨g, c, rfl, (fun h => Bool.noConfusion (n5.symm.trans h)), ?_, ?_, ?_, ?_⟩⟩⟩
        · show World.ownsRow _ _ _ _ _ _ (cl ++ if S 6 then _ else _)
          rw [n6, if_neg (by decide)]
          exact k2
        · show Bx _ _ (if S 7 then _ else _) _
          rw [n7, if_neg (by decide)]
          exact (k3.block bI (by rw [World.size_alloc]; have := hBI0.lt; omega) (bx_no hBI0 hown0)).trans ((Below.heap_alloc _ _ _ (by have := hBI0.lt; omega)).trans hBI0)
        · rcases k5 with k5 | ⟨g', e, k5⟩
          · exact .inl k5
          · cases e
            rw [World.size_alloc] at k5
            exact .inr (Nat.le_trans (Nat.le_succ _) k5)
        · exact ⟨k3.os, k3.tape, k3.output, Nat.le_trans (by rw [World.size_alloc]; omega) k3.size, fun k h1 h2 _ => (k3.block k (by rw [World.size_alloc]; omega) h2).trans (Below.heap_alloc _ _ _ (by omega))⟩
    · have s_4 : S 4 = true := hall ⟨4, .data⟩ (by simp) rfl
      have s_2 : S 2 = true := hall ⟨2, .data⟩ (by simp) rfl
      obtain rfl := jr.f2 s_2
      obtain ⟨g, c, rfl, q5, q6, q7, q8, q9⟩ := jr.f4 s_4
      have hln : (n : Int) < ((n + 1 : Nat) : Int) := by omega
      have hln2 : (n : Int) < (n : Int) + 1 := by omega
      have HX : Hid (_ ∧ _ ∧ _) := ⟨q6, q7, q9⟩
      have HJ : Hid _ := jr
      clear q6 q7 q9 jr hall
      go_simp
      obtain ⟨q6, q7, q9⟩ := HX.out
      have jr := HJ.out
      refine hK _ _ ⟨x30, x31, _, x33, _, _, rfl, ⟨jr.f0, jr.f1, fun _ => rfl, jr.e3, jr.f3, jr.g4, (fun h => Bool.noConfusion (s_4.symm.trans h)), fun _ => ⟨g, c, rfl, fun _ => rfl, q6, q7, q8, q9⟩⟩⟩
    · have s_5 : S 5 = true := hall ⟨5, .data⟩ (by simp) rfl
      have s_4 : S 4 = true := hall ⟨4, .chain⟩ (by simp) rfl
      have s_1 : S 1 = true := hall ⟨1, .data⟩ (by simp) rfl
      obtain rfl := jr.f1 s_1
      obtain ⟨g, c, rfl, q5, q6, q7, q8, q9⟩ := jr.f4 s_4
      obtain rfl := q5 s_5
      rw [hun, if_neg (by decide)] at q6
      obtain ⟨v0, hv0⟩ : ∃ v, W'.cell? ⟨g, n * 3, none⟩ = some v := by
        rw [q6.cellAt (n * 3) (by omega)]
        exact ⟨_, List.getElem?_eq_getElem (by rw [q6.1]; omega)⟩
      obtain ⟨v1, hv1⟩ : ∃ v, W'.cell? ⟨g, n * 3 + 1, none⟩ = some v := by
        rw [q6.cellAt (n * 3 + 1) (by omega)]
        exact ⟨_, List.getElem?_eq_getElem (by rw [q6.1]; omega)⟩
      obtain ⟨v2, hv2⟩ : ∃ v, W'.cell? ⟨g, n * 3 + 2, none⟩ = some v := by
        rw [q6.cellAt (n * 3 + 2) (by omega)]
        exact ⟨_, List.getElem?_eq_getElem (by rw [q6.1]; omega)⟩
      have g0 := q6.frozenAt (n * 3)
      have g1 := q6.frozenAt (n * 3 + 1)
      have g2 := q6.frozenAt (n * 3 + 2)
      have hne := bx_ne q7 q6
      have r6 := (((q6.stored (n * 3) (.bool xl)).1.stored (n * 3 + 1) (.string xt)).1.stored (n * 3 + 2) (.slice xa xx.length xc)).1
      rw [show ((((cl ++ zero3).set (n * 3) (.bool xl)).set (n * 3 + 1) (.string xt)).set (n * 3 + 2) (.slice xa xx.length xc)) = cl ++ cell3 (.mk xl xt xa xc xx) from set3 cl n hcl (.mk xl xt xa xc xx)] at r6
      have r7 := ((q7.other (fun e => hne e.symm) (n * 3) (.bool xl)).other (fun e => hne e.symm) (n * 3 + 1) (.string xt)).other (fun e => hne e.symm) (n * 3 + 2) (.slice xa xx.length xc)
      have hp : ∀ o, some (⟨g, o, none⟩ : Addr).block = v.ownBlock ∨ W0.heap.size ≤ (⟨g, o, none⟩ : Addr).block ∨ (⟨g, o, none⟩ : Addr).block = bI := fun o => by
        rcases q8 with h | h
        · exact .inl h
        · exact .inr (.inl h)
      have r9 := ((q9.set ⟨g, n * 3, none⟩ (.bool xl) (hp _)).set ⟨g, n * 3 + 1, none⟩ (.string xt) (hp _)).set ⟨g, n * 3 + 2, none⟩ (.slice xa xx.length xc) (hp _)
      have HX : Hid (_ ∧ _ ∧ _ ∧ _ ∧ _ ∧ _) := ⟨r6, r7, r9, jr.g4 s_4, jr.f0, jr.f2⟩
      clear r6 r7 r9 q6 q7 q9 jr hall
      dsimp only [Im.val, Im.l, Im.t, Im.sl, Im.a, Im.xs, Im.c]
      go_simp
      obtain ⟨r6, r7, r9, jg, j0, j2⟩ := HX.out
      exact hK _ _ ⟨x30, _, x32, x33, _, _, rfl, ⟨j0, fun _ => rfl, j2, (fun h => Bool.noConfusion (jg.2.2.2.symm.trans h)), (fun _ h => Bool.noConfusion (s_4.symm.trans h)), fun _ => jg, (fun h => Bool.noConfusion (s_4.symm.trans h)), fun _ => ⟨g, c, rfl, fun _ => rfl, r6, r7, q8, r9⟩⟩⟩
    · have s_4 : S 4 = true := hall ⟨4, .data⟩ (by simp) rfl
      obtain ⟨g, c, rfl, q5, q6, q7, q8, q9⟩ := jr.f4 s_4
      rw [hun, if_neg (by decide)] at q7
      have hne := bx_ne q7 q6
      have cB := q7.cell
      have fB := q7.fr
      have r6 : (W'.setCell ⟨bI, 0, none⟩ (.slice (some ⟨g, 0, none⟩) (n + 1) c)).ownsRow zz 24 3 (.slice (some ⟨g, 0, none⟩) (n + 1) c) (n + 1) (cl ++ if S 6 then cell3 (.mk xl xt xa xc xx) else zero3) :=
        q6.kept (row := some bI) ⟨rfl, rfl, rfl, by simp [World.setCell], fun k _ hk => Below.heap_setCell _ _ _ _ (fun e => hk (by simp [e]))⟩ (Or.inr (fun e => hne (by injection e)))
      have r7 := q7.put (.slice (some ⟨g, 0, none⟩) (n + 1) c)
      have r9 := q9.set ⟨bI, 0, none⟩ (.slice (some ⟨g, 0, none⟩) (n + 1) c) (.inr (.inr rfl))
      have HX : Hid (_ ∧ _ ∧ _ ∧ _ ∧ _ ∧ _ ∧ _) := ⟨r6, r7, r9, jr.g4 s_4, jr.f0, jr.f1, jr.f2⟩
      clear r6 r7 r9 q6 q7 q9 jr hall
      go_simp
      obtain ⟨r6, r7, r9, jg, j0, j1, j2⟩ := HX.out
      exact hK _ _ ⟨x30, x31, x32, x33, _, x35, rfl, ⟨j0, j1, j2, (fun h => Bool.noConfusion (jg.2.2.2.symm.trans h)), (fun _ h => Bool.noConfusion (s_4.symm.trans h)), fun _ => jg, (fun h => Bool.noConfusion (s_4.symm.trans h)), fun _ => ⟨g, c, rfl, q5, r6, r7, q8, r9⟩⟩⟩
  · rintro S aa w4 hall ⟨x30, x31, x32, x33, x34, x35, rfl, jr⟩
    obtain ⟨g, c, -, -, h1, h2, h3, h4⟩ := jr.f4 (hall 4 (by decide))
    rw [hall 6 (by decide), if_pos rfl] at h1
    rw [hall 7 (by decide), if_pos rfl] at h2
    refine hQ _ _ g c h2 h1 (by rw [hs0]; exact h3) ⟨?_, ?_, ?_, by rw [hs0]; exact h4.size, fun k k1 k2 k3 => ?_⟩
    · rw [h4.os, ← hW0]; rfl
    · rw [h4.tape, ← hW0]; rfl
    · rw [h4.output, ← hW0]; rfl
    · rw [h4.block k (by rw [← hs0]; exact k1) k2 k3, ← hW0]; rfl
end Go.Proofs.Yteaongogomhooaa
