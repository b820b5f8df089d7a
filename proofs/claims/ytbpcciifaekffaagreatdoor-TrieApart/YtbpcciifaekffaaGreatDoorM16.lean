/- Lemmas: An item appended to a slice of items, in a round. Pairs gathered anew: slices.Values, AppendSeq, Collect. -/
import Derived.Test.YtbpcciifaekffaaGreatDoorM1
import Derived.Test.YtbpcciifaekffaaGreatDoorM10
import Derived.Test.YtbpcciifaekffaaGreatDoorM11
import Derived.Test.YtbpcciifaekffaaGreatDoorM12
import Derived.Test.YtbpcciifaekffaaGreatDoorM13
import Derived.Test.YtbpcciifaekffaaGreatDoorM14
import Derived.Test.YtbpcciifaekffaaGreatDoorM15
import Derived.Test.YtbpcciifaekffaaGreatDoorM2
import Derived.Test.YtbpcciifaekffaaGreatDoorM3
import Derived.Test.YtbpcciifaekffaaGreatDoorM6
import Derived.Test.YtbpcciifaekffaaGreatDoorM8
import Derived.Test.YtbpcciifaekffaaGreatDoorM9
import Derived.Test.YtbpcciifaekffaaGreatDoorRows
import Derived.Test.YtbpcciifaekffaaGreatDoorM7
import Derived.Shelf.Pu.Clone
namespace Go.Proofs.YtbpcciifaekffaaGreatDoor
open Go.RowKit Go.Shelf Go.Sort
attribute [local go_sem] Oper.semAt_some

/-- The second law of drawn statements, in a round. -/
theorem region_inv_in {P : Program} (l' n' : Nat) {id : Nat} {Q : Exit → Act → World → Prop} {a : Act} {w : World} {l : List Oper} (J : (Nat → Bool) → Act → World → Prop) (hm : P.follows .mixedOrders = true) (hnd : noDefer l.toArray = true) (hL : ¬ LetsOut Q)
    (hB : backB .any l.toArray = true) (h0 : J (fun _ => false) a w.drew)
    (step : ∀ i o S a W, l[i]? = some o → S i = false → J S a W → (∀ e ∈ o.after, Region.binds .any e = true → S e.on = true) → ∀ K : Act → World → Prop, (∀ a W, J (more S i) a W → K a W) →
      if Region.wanted o (yielded l.toArray a.tmps) then o.wp P a W K Q else K (a.put o.dst undef) W)
    (last : ∀ S a W, (∀ i, i < l.length → S i = true) → J S a W → Q .normal a W) : (Code.region id l.toArray true).wpIn (Fence.wide.inRound l') n' P Q a w := by
  refine region_round l' n' hm hnd hL ?_
  refine any_of_inv (P := P) (md := .any) (ops := l.toArray) (Q := Q) (J := fun listed a W => J (fun j => listed.getD j false) a W) hB
    (fun i listed a W hsz hr hJ => ?_) (fun listed a W hsz hall hJ => ?_) l.toArray.size (Array.replicate l.toArray.size false) a w.drew (by simp) (left_new _ _ (Nat.le_refl _)) ?_
  · obtain ⟨hun, o, ho, hall⟩ := mem_ready.1 hr
    have hlt : i < listed.size := by rw [hsz]; exact (Array.getElem?_eq_some_iff.1 ho).1
    have e : (fun j => (listed.setIfInBounds i true).getD j false) = more (fun j => listed.getD j false) i := by
      funext j
      unfold more
      by_cases hij : j = i
      · subst hij; simp [hlt]
      · rw [if_neg hij, getD_set_ne false (fun e => hij e.symm)]
    have hst := step i o (fun j => listed.getD j false) a W (by simpa using ho) (getD_both hun) hJ hall (J (more (fun j => listed.getD j false) i)) (fun _ _ h => h)
    unfold wpOp
    simp only [ho]
    rw [e]
    split
    · rename_i hw; simp only [hw, if_true] at hst; exact Or.inl hst
    · rename_i hw; simp only [hw] at hst; exact hst
  · refine last (fun j => listed.getD j false) a W (fun i hi => ?_) hJ
    have h1 := hall i (by simpa using hi)
    have h2 : i < listed.size := by rw [hsz]; simpa using hi
    cases hq : listed.getD i false with
    | true => rfl
    | false => rw [getD_in h2 hq] at h1; cases h1
  · have e : (fun j => (Array.replicate l.toArray.size false).getD j false) = fun _ => false := by funext j; exact getD_replicate_false _ _
    show J (fun j => (Array.replicate l.toArray.size false).getD j false) a _
    rw [e]; exact h0
theorem wp_append_where {P : Program} {w : World} {o : Oper} {a : Act} {K : Act → World → Prop} {Q : Exit → Act → World → Prop} (sl x : Operand) (t : TypeId)
    (ho : o.op = .call { callee := .builtin .append, args := #[sl, x], argTypes := #[t, t] })
    (base : Nat) (e : TypeId) (i : TypeInfo) (z : Value) (size bytes : Nat) (ht : P.underlying t = some (.slice e)) (hi : P.info? e = some i) (hz : i.zero = some z) (hsize : i.size = size) (hby : i.bytes = bytes) (hzs : z.cells.size = size) (hsz : 0 < size)
    (v : Value) (n : Nat) (xs : List Value) (hs : a.eval sl = v) (hown : w.ownsRow base e size v n xs) (ad : Addr) (m c : Nat) (news : List Value) (hx : a.eval x = .slice (some ad) m c) (hl : news.length = m * size)
    (hnews : ∀ j u, news[j]? = some u → w.cell? (ad.add j) = some u) (h1 : ∀ u ∈ news, u.oneCell' = true) (h63 : n + m ≤ maxLen) (hbytes : (n + m) * bytes ≤ 140737488355328) (hbase : base ≤ w.heap.size) (hm : 0 < m)
    (h : ∀ v' w', w'.ownsRow base e size v' (n + m) (xs ++ news) → w.grownBy w' v.ownBlock → v' ≠ .slice none 0 0 → (v'.ownBlock = v.ownBlock ∨ ∃ g, v'.ownBlock = some g ∧ w.heap.size ≤ g) → K (a.put o.dst v') w') : o.wp P a w K Q := by
  obtain ⟨v', w', hr, h2, h3, h4, h5⟩ := append_where (P := P) w base t o.type e i z size bytes ht hi hz hsize hby hzs hsz v n xs hown ad m c news hl hnews h1 h63 hbytes hbase hm
  unfold Oper.wp execOp
  simp only [ho, resolve, invoke, builtin, Sem.run_bind, Sem.run_pure, Result.andThen_ok, List.map_toArray, List.map_cons, List.map_nil, hs, hx, hr]
  exact h v' w' h2 h3 h4 h5

/-- What the statement leaves as it is. -/
structure Rl (W0 W : World) (v : Value) (bI : Nat) : Prop where
  os : W.os = W0.os
  tape : W.tape = W0.tape
  output : W.output = W0.output
  size : W0.heap.size ≤ W.heap.size
  block : ∀ k, k < W0.heap.size → some k ≠ v.ownBlock → k ≠ bI → W.heap[k]? = W0.heap[k]?
theorem Rl.set {W0 W : World} {v : Value} {bI : Nat} (h : Rl W0 W v bI) (p : Addr) (u : Value) (hp : some p.block = v.ownBlock ∨ W0.heap.size ≤ p.block ∨ p.block = bI) : Rl W0 (W.setCell p u) v bI :=
  ⟨h.os, h.tape, h.output, by have := h.size; simp [World.setCell]; omega, fun k h1 h2 h3 => (Below.heap_setCell _ _ _ _ (fun e => by
    subst e
    rcases hp with hp | hp | hp
    · exact h2 hp
    · omega
    · exact h3 hp)).trans (h.block k h1 h2 h3)⟩
def zero3 : List Value := [.bool false, .string ⟨#[]⟩, .slice none 0 0]
def cell3 (X : Im) : List Value := [.bool X.l, .string X.t, X.sl]
theorem set3 (cl : List Value) (n : Nat) (h : cl.length = n * 3) (X : Im) : (((cl ++ zero3).set (n * 3) (.bool X.l)).set (n * 3 + 1) (.string X.t)).set (n * 3 + 2) X.sl = cl ++ cell3 X := by
  rw [List.set_append_right _ _ (by omega), List.set_append_right _ _ (by omega), List.set_append_right _ _ (by omega), show n * 3 - cl.length = 0 by omega, show n * 3 + 1 - cl.length = 1 by omega, show n * 3 + 2 - cl.length = 2 by omega]
  rfl
/-- How far the statement has come. -/
structure JA (W0 : World) (bI bT zz n : Nat) (v : Value) (cl : List Value) (X : Im) (S : Nat → Bool) (x30 x31 x32 x33 x34 x35 : Value) (W : World) : Prop where
  f0 : S 0 = true → x30 = v
  f1 : S 1 = true → x31 = X.val
  f2 : S 2 = true → x32 = .int .i64 n
  e3 : S 3 = false → W = W0
  f3 : S 3 = true → S 4 = false → x33 = .slice (some ⟨W0.heap.size, 0, none⟩) 1 1 ∧ W = W0.alloc (.cells zero3.toArray 47)
  g4 : S 4 = true → S 0 = true ∧ S 1 = true ∧ S 2 = true ∧ S 3 = true
  e4 : S 4 = false → S 5 = false ∧ S 6 = false ∧ S 7 = false
  f4 : S 4 = true → ∃ g c, x34 = .slice (some ⟨g, 0, none⟩) (n + 1) c ∧ (S 5 = true → x35 = .pointer (some ⟨g, n * 3, none⟩)) ∧ W.ownsRow zz 47 3 (.slice (some ⟨g, 0, none⟩) (n + 1) c) (n + 1) (cl ++ if S 6 then cell3 X else zero3) ∧
    Bx bI 45 (if S 7 then .slice (some ⟨g, 0, none⟩) (n + 1) c else v) W ∧ (some g = v.ownBlock ∨ W0.heap.size ≤ g) ∧ Rl W0 W v bI
theorem JA.pre {W0 : World} {bI bT zz n : Nat} {v : Value} {cl : List Value} {X : Im} {S : Nat → Bool} {x30 x31 x32 x33 x34 x35 : Value} {W : World} (h : JA W0 bI bT zz n v cl X S x30 x31 x32 x33 x34 x35 W) (h4 : S 4 = false) : Below W0.heap.size W0 W := by
  cases h3 : S 3 with
  | false => rw [h.e3 h3]; exact Below.refl _ _
  | true => rw [(h.f3 h3 h4).2]; exact (Below.refl _ W0).alloc (Nat.le_refl _) _
theorem JA.four {W0 : World} {bI bT zz n : Nat} {v : Value} {cl : List Value} {X : Im} {S : Nat → Bool} {x30 x31 x32 x33 x34 x35 : Value} {W : World} (h : JA W0 bI bT zz n v cl X S x30 x31 x32 x33 x34 x35 W) (i : Nat) (hi : S i = false) (hl : i < 4) : S 4 = false := by
  cases h4 : S 4 with
  | false => rfl
  | true =>
    obtain ⟨h0, h1, h2, h3⟩ := h.g4 h4
    have : i = 0 ∨ i = 1 ∨ i = 2 ∨ i = 3 := by omega
    rcases this with rfl | rfl | rfl | rfl
    · rw [h0] at hi; cases hi
    · rw [h1] at hi; cases hi
    · rw [h2] at hi; cases hi
    · rw [h3] at hi; cases hi

theorem owns_kind3 {W : World} {zz n : Nat} {v : Value} {xs : List Value} (h : W.ownsRow zz 47 3 v n xs) (k : Nat) (hk : v.ownBlock = some k) : ∃ c, W.heap[k]? = some (.cells c 47 (0, 0)) := by
  rcases h.2 with ⟨rfl, _⟩ | ⟨g, cap, cur, rfl, hb, hg, _⟩
  · cases hk
  · injection hk with hk
    subst hk
    exact ⟨cur, hg⟩
theorem bx_ne {W : World} {bI zz g n c k : Nat} {u : Value} {xs : List Value} (hB : Bx bI 45 u W) (h : W.ownsRow zz 47 3 (.slice (some ⟨g, 0, none⟩) n c) k xs) : g ≠ bI := fun e => by
  obtain ⟨c', hk⟩ := owns_kind3 h g rfl
  rw [e, show W.heap[bI]? = _ from hB] at hk
  cases hk
theorem bx_no {W : World} {bI zz k : Nat} {u v : Value} {xs : List Value} (hB : Bx bI 45 u W) (h : W.ownsRow zz 47 3 v k xs) : some bI ≠ v.ownBlock := fun e => by
  obtain ⟨c', hk⟩ := owns_kind3 h bI e.symm
  rw [show W.heap[bI]? = _ from hB] at hk
  cases hk
def appOps : List Oper := [{ dst := some 30, op := Op.load 45 (Operand.tmp 4), type := 45, pos := "decode.go:55", after := #[], guard := none }, { dst := some 31, op := Op.load 47 (Operand.tmp 8), type := 47, pos := "decode.go:55", after := #[], guard := none }, { dst := some 32, op := Op.call { callee := Callee.builtin Builtin.len, args := #[Operand.tmp 30], argTypes := #[45] }, type := 3, pos := "decode.go:55", after := #[{ on := 0, ground := Ground.data }], guard := none }, { dst := some 33, op := Op.buildSlice 45 1 #[(0, Operand.const (Value.agg #[Value.bool false, Value.string { data := #[] }, Value.slice none 0 0]))], type := 45, pos := "decode.go:55", after := #[], guard := none }, { dst := some 34, op := Op.call { callee := Callee.builtin Builtin.append, args := #[Operand.tmp 30, Operand.tmp 33], argTypes := #[45, 45] }, type := 45, pos := "decode.go:55", after := #[{ on := 0, ground := Ground.data }, { on := 3, ground := Ground.data }, { on := 0, ground := Ground.phase }, { on := 1, ground := Ground.phase }, { on := 2, ground := Ground.phase }, { on := 3, ground := Ground.phase }], guard := none }, { dst := some 35, op := Op.indexAddr 45 (Operand.tmp 34) (Operand.tmp 32), type := 0, pos := "decode.go:55", after := #[{ on := 4, ground := Ground.data }, { on := 2, ground := Ground.data }, { on := 0, ground := Ground.phase }, { on := 1, ground := Ground.phase }, { on := 2, ground := Ground.phase }, { on := 3, ground := Ground.phase }, { on := 4, ground := Ground.phase }, { on := 7, ground := Ground.gcOnly Departure.appendInPlace }], guard := none }, { dst := none, op := Op.store 47 (Operand.tmp 35) (Operand.tmp 31), type := 0, pos := "decode.go:55", after := #[{ on := 5, ground := Ground.data }, { on := 1, ground := Ground.data }, { on := 4, ground := Ground.chain }, { on := 0, ground := Ground.phase }, { on := 1, ground := Ground.phase }, { on := 2, ground := Ground.phase }, { on := 3, ground := Ground.phase }, { on := 4, ground := Ground.phase }, { on := 7, ground := Ground.gcOnly Departure.appendInPlace }], guard := none }, { dst := none, op := Op.store 45 (Operand.tmp 4) (Operand.tmp 34), type := 0, pos := "decode.go:55", after := #[{ on := 4, ground := Ground.data }, { on := 4, ground := Ground.chain }, { on := 6, ground := Ground.textOnly Departure.appendInPlace }, { on := 0, ground := Ground.phase }, { on := 1, ground := Ground.phase }, { on := 2, ground := Ground.phase }, { on := 3, ground := Ground.phase }, { on := 4, ground := Ground.phase }, { on := 5, ground := Ground.textOnly Departure.appendInPlace }, { on := 6, ground := Ground.textOnly Departure.appendInPlace }], guard := none }]

set_option maxRecDepth 100000 in
set_option maxHeartbeats 4000000 in
theorem append_item_in (l' n' id : Nat) {Q : Exit → Act → World → Prop} (W : World) (bI bT zz n : Nat) (v : Value) (cl : List Value) (X : Im) (t0 t1 t2 t3 t5 t6 t7 t9 t10 t11 t12 t13 t14 t15 t16 t17 t18 t19 t20 t21 t22 t23 t24 t25 t26 t27 t28 t29 t36 t37 t38 u30 u31 u32 u33 u34 u35 : Value) (hL : ¬ LetsOut Q) (hn : n < 1000000)
    (hBI : Bx bI 45 v W) (hBT : ItIn bT X W) (hown : W.ownsRow zz 47 3 v n cl) (hzz : zz ≤ W.heap.size)
    (hQ : ∀ a' W' g c, Bx bI 45 (.slice (some ⟨g, 0, none⟩) (n + 1) c) W' → W'.ownsRow zz 47 3 (.slice (some ⟨g, 0, none⟩) (n + 1) c) (n + 1) (cl ++ cell3 X) → (some g = v.ownBlock ∨ W.heap.size ≤ g) → Rl W W' v bI → Q .normal a' W') :
    (Code.region id appOps.toArray true).wpIn (Fence.wide.inRound l') n' Tryz.prog Q { tmps := #[t0, t1, t2, t3, .pointer (some ⟨bI, 0, none⟩), t5, t6, t7, .pointer (some ⟨bT, 0, none⟩), t9, t10, t11, t12, t13, t14, t15, t16, t17, t18, t19, t20, t21, t22, t23, t24, t25, t26, t27, t28, t29, u30, u31, u32, u33, u34, u35, t36, t37, t38], defers := [] } W := by
  obtain ⟨i0, hi0, hz0, hz1, hz2⟩ := info_parts info_item
  obtain ⟨W0, hW0⟩ : ∃ W0, W.drew = W0 := ⟨_, rfl⟩
  have hBI0 : Bx bI 45 v W0 := by rw [← hW0]; exact hBI
  have hBT0 : ItIn bT X W0 := by rw [← hW0]; exact hBT
  have hown0 : W0.ownsRow zz 47 3 v n cl := by rw [← hW0]; exact hown.drew
  have hs0 : W.heap.size = W0.heap.size := by rw [← hW0]; rfl
  have hcl := hown0.1
  obtain ⟨ao, c0, hv⟩ : ∃ ao c0, v = .slice ao n c0 := by
    rcases hown0.2 with ⟨h, rfl⟩ | ⟨g, c, _, h, _⟩
    · exact ⟨none, 0, h⟩
    · exact ⟨_, c, h⟩
  obtain ⟨xl, xt, xa, xc, xx⟩ := X
  refine region_inv_in l' n' (fun S aa W' => ∃ x30 x31 x32 x33 x34 x35 : Value, aa = { tmps := #[t0, t1, t2, t3, .pointer (some ⟨bI, 0, none⟩), t5, t6, t7, .pointer (some ⟨bT, 0, none⟩), t9, t10, t11, t12, t13, t14, t15, t16, t17, t18, t19, t20, t21, t22, t23, t24, t25, t26, t27, t28, t29, x30, x31, x32, x33, x34, x35, t36, t37, t38], defers := [] } ∧ JA W0 bI bT zz n v cl (.mk xl xt xa xc xx) S x30 x31 x32 x33 x34 x35 W') (by kernel_rfl) (by kernel_rfl) hL (by kernel_rfl) ?_ ?_ ?_
  · rw [hW0]
    exact ⟨_, _, _, _, _, _, rfl, ⟨nofun, nofun, nofun, fun _ => rfl, nofun, nofun, fun _ => ⟨rfl, rfl, rfl⟩, nofun⟩⟩
  · intro i o S aa W' hi hun hJ hall K hK
    obtain ⟨x30, x31, x32, x33, x34, x35, rfl, jr⟩ := hJ
    have hlt : i < 8 := (List.getElem?_eq_some_iff.1 hi).1
    have hcase : i = 0 ∨ i = 1 ∨ i = 2 ∨ i = 3 ∨ i = 4 ∨ i = 5 ∨ i = 6 ∨ i = 7 := by omega
    rcases hcase with rfl | rfl | rfl | rfl | rfl | rfl | rfl | rfl
    all_goals (have ho := (Option.some.inj hi).symm; subst ho; clear hi hlt)
    · have h4 := jr.four 0 hun (by decide)
      have cB : W'.cell? ⟨bI, 0, none⟩ = some v := Bx.cell (((jr.pre h4).block bI hBI0.lt).trans hBI0)
      subst hv
      go_simp
      exact hK _ _ ⟨_, x31, x32, x33, x34, x35, rfl, ⟨fun _ => rfl, jr.f1, jr.f2, jr.e3, jr.f3, (fun h => Bool.noConfusion (h4.symm.trans h)), jr.e4, (fun h => Bool.noConfusion (h4.symm.trans h))⟩⟩
    · have h4 := jr.four 1 hun (by decide)
      have hB := ((jr.pre h4).block bT hBT0.lt).trans hBT0
      have d0 : W'.cell? ⟨bT, 0, none⟩ = some (.bool xl) := by rw [Lib.cell_of_heap hB]; rfl
      have d1 : W'.cell? ⟨bT, 1, none⟩ = some (.string xt) := by rw [Lib.cell_of_heap hB]; rfl
      have d2 : W'.cell? ⟨bT, 2, none⟩ = some (.slice xa xx.length xc) := by rw [Lib.cell_of_heap hB]; rfl
      go_simp
      exact hK _ _ ⟨x30, _, x32, x33, x34, x35, rfl, ⟨jr.f0, fun _ => rfl, jr.f2, jr.e3, jr.f3, (fun h => Bool.noConfusion (h4.symm.trans h)), jr.e4, (fun h => Bool.noConfusion (h4.symm.trans h))⟩⟩
    · have h4 := jr.four 2 hun (by decide)
      have s_0 : S 0 = true := hall ⟨0, .data⟩ (by simp) rfl
      obtain rfl := jr.f0 s_0
      subst hv
      go_simp
      exact hK _ _ ⟨_, x31, _, x33, x34, x35, rfl, ⟨fun _ => rfl, jr.f1, fun _ => rfl, jr.e3, jr.f3, (fun h => Bool.noConfusion (h4.symm.trans h)), jr.e4, (fun h => Bool.noConfusion (h4.symm.trans h))⟩⟩
    · have h4 := jr.four 3 hun (by decide)
      obtain rfl := jr.e3 hun
      go_simp
      exact hK _ _ ⟨x30, x31, x32, _, x34, x35, rfl, ⟨jr.f0, jr.f1, jr.f2, nofun, fun _ _ => ⟨rfl, rfl⟩, (fun h => Bool.noConfusion (h4.symm.trans h)), jr.e4, (fun h => Bool.noConfusion (h4.symm.trans h))⟩⟩
    · have s_0 : S 0 = true := hall ⟨0, .data⟩ (by simp) rfl
      have s_1 : S 1 = true := hall ⟨1, .phase⟩ (by simp) rfl
      have s_2 : S 2 = true := hall ⟨2, .phase⟩ (by simp) rfl
      have s_3 : S 3 = true := hall ⟨3, .data⟩ (by simp) rfl
      obtain rfl := jr.f0 s_0
      obtain ⟨rfl, rfl⟩ := jr.f3 s_3 hun
      obtain ⟨n5, n6, n7⟩ := jr.e4 hun
      have f1 := jr.f1 s_1
      have f2 := jr.f2 s_2
      refine (if_pos (show Region.wanted _ _ = true from rfl)).mpr ?_
      refine wp_append_where (.tmp 30) (.tmp 33) 45 rfl zz 47 i0 _ 3 48 Tryz.underlying45 hi0 hz0 hz1 hz2 rfl (by decide) x30 n cl rfl (hown0.alloc _) ⟨W0.heap.size, 0, none⟩ 1 1 zero3 rfl rfl ?_ ?_ (by unfold maxLen; omega) (by omega) (by rw [World.size_alloc]; omega) (by decide) ?_
      · intro j u hj
        rw [Addr.add_lit, Lib.cell_of_heap (World.alloc_heap_new W0 _), Nat.zero_add]
        simpa using hj
      · intro u hu
        simp only [zero3, List.mem_cons, List.not_mem_nil, or_false] at hu
        rcases hu with rfl | rfl | rfl <;> rfl
      · intro v' w' k2 k3 k4 k5
        obtain ⟨g, c, rfl⟩ : ∃ g c, v' = .slice (some ⟨g, 0, none⟩) (n + 1) c := by
          rcases k2.2 with ⟨h, _⟩ | ⟨g, c, _, h, _⟩
          · exact absurd h k4
          · exact ⟨g, c, h⟩
        refine hK _ _ ⟨_, _, _, _, _, x35, rfl, ⟨fun _ => rfl, fun _ => f1, fun _ => f2, (fun h => Bool.noConfusion (s_3.symm.trans h)), nofun, fun _ => ⟨s_0, s_1, s_2, s_3⟩, nofun, fun _ => ⟨g, c, rfl, (fun h => Bool.noConfusion (n5.symm.trans h)), ?_, ?_, ?_, ?_⟩⟩⟩
        · show World.ownsRow _ _ _ _ _ _ (cl ++ if S 6 then _ else _)
          rw [n6, if_neg (by decide)]
          exact k2
        · show Bx _ _ (if S 7 then _ else _) _
          rw [n7, if_neg (by decide)]
          exact (k3.block bI (by rw [World.size_alloc]; have := hBI0.lt; omega) (bx_no hBI0 hown0)).trans ((Below.heap_alloc _ _ _ (by have := hBI0.lt; omega)).trans hBI0)
        · rcases k5 with k5 | ⟨g', e, k5⟩
          · exact .inl k5
          · cases e
            rw [World.size_alloc] at k5
            exact .inr (Nat.le_trans (Nat.le_succ _) k5)
        · exact ⟨k3.os, k3.tape, k3.output, Nat.le_trans (by rw [World.size_alloc]; omega) k3.size, fun k h1 h2 _ => (k3.block k (by rw [World.size_alloc]; omega) h2).trans (Below.heap_alloc _ _ _ (by omega))⟩
    · have s_4 : S 4 = true := hall ⟨4, .data⟩ (by simp) rfl
      have s_2 : S 2 = true := hall ⟨2, .data⟩ (by simp) rfl
      obtain rfl := jr.f2 s_2
      obtain ⟨g, c, rfl, q5, q6, q7, q8, q9⟩ := jr.f4 s_4
      have hln : (n : Int) < ((n + 1 : Nat) : Int) := by omega
      have hln2 : (n : Int) < (n : Int) + 1 := by omega
      have HX : Hid (_ ∧ _ ∧ _) := ⟨q6, q7, q9⟩
      have HJ : Hid _ := jr
      clear q6 q7 q9 jr hall
      go_simp
      obtain ⟨q6, q7, q9⟩ := HX.out
      have jr := HJ.out
      refine hK _ _ ⟨x30, x31, _, x33, _, _, rfl, ⟨jr.f0, jr.f1, fun _ => rfl, jr.e3, jr.f3, jr.g4, (fun h => Bool.noConfusion (s_4.symm.trans h)), fun _ => ⟨g, c, rfl, fun _ => rfl, q6, q7, q8, q9⟩⟩⟩
    · have s_5 : S 5 = true := hall ⟨5, .data⟩ (by simp) rfl
      have s_4 : S 4 = true := hall ⟨4, .chain⟩ (by simp) rfl
      have s_1 : S 1 = true := hall ⟨1, .data⟩ (by simp) rfl
      obtain rfl := jr.f1 s_1
      obtain ⟨g, c, rfl, q5, q6, q7, q8, q9⟩ := jr.f4 s_4
      obtain rfl := q5 s_5
      rw [hun, if_neg (by decide)] at q6
      obtain ⟨v0, hv0⟩ : ∃ v, W'.cell? ⟨g, n * 3, none⟩ = some v := by
        rw [q6.cellAt (n * 3) (by omega)]
        exact ⟨_, List.getElem?_eq_getElem (by rw [q6.1]; omega)⟩
      obtain ⟨v1, hv1⟩ : ∃ v, W'.cell? ⟨g, n * 3 + 1, none⟩ = some v := by
        rw [q6.cellAt (n * 3 + 1) (by omega)]
        exact ⟨_, List.getElem?_eq_getElem (by rw [q6.1]; omega)⟩
      obtain ⟨v2, hv2⟩ : ∃ v, W'.cell? ⟨g, n * 3 + 2, none⟩ = some v := by
        rw [q6.cellAt (n * 3 + 2) (by omega)]
        exact ⟨_, List.getElem?_eq_getElem (by rw [q6.1]; omega)⟩
      have g0 := q6.frozenAt (n * 3)
      have g1 := q6.frozenAt (n * 3 + 1)
      have g2 := q6.frozenAt (n * 3 + 2)
      have hne := bx_ne q7 q6
      have r6 := (((q6.stored (n * 3) (.bool xl)).1.stored (n * 3 + 1) (.string xt)).1.stored (n * 3 + 2) (.slice xa xx.length xc)).1
      rw [show ((((cl ++ zero3).set (n * 3) (.bool xl)).set (n * 3 + 1) (.string xt)).set (n * 3 + 2) (.slice xa xx.length xc)) = cl ++ cell3 (.mk xl xt xa xc xx) from set3 cl n hcl (.mk xl xt xa xc xx)] at r6
      have r7 := ((q7.other (fun e => hne e.symm) (n * 3) (.bool xl)).other (fun e => hne e.symm) (n * 3 + 1) (.string xt)).other (fun e => hne e.symm) (n * 3 + 2) (.slice xa xx.length xc)
      have hp : ∀ o, some (⟨g, o, none⟩ : Addr).block = v.ownBlock ∨ W0.heap.size ≤ (⟨g, o, none⟩ : Addr).block ∨ (⟨g, o, none⟩ : Addr).block = bI := fun o => by
        rcases q8 with h | h
        · exact .inl h
        · exact .inr (.inl h)
      have r9 := ((q9.set ⟨g, n * 3, none⟩ (.bool xl) (hp _)).set ⟨g, n * 3 + 1, none⟩ (.string xt) (hp _)).set ⟨g, n * 3 + 2, none⟩ (.slice xa xx.length xc) (hp _)
      have HX : Hid (_ ∧ _ ∧ _ ∧ _ ∧ _ ∧ _) := ⟨r6, r7, r9, jr.g4 s_4, jr.f0, jr.f2⟩
      clear r6 r7 r9 q6 q7 q9 jr hall
      dsimp only [Im.val, Im.l, Im.t, Im.sl, Im.a, Im.xs, Im.c]
      go_simp
      obtain ⟨r6, r7, r9, jg, j0, j2⟩ := HX.out
      exact hK _ _ ⟨x30, _, x32, x33, _, _, rfl, ⟨j0, fun _ => rfl, j2, (fun h => Bool.noConfusion (jg.2.2.2.symm.trans h)), (fun _ h => Bool.noConfusion (s_4.symm.trans h)), fun _ => jg, (fun h => Bool.noConfusion (s_4.symm.trans h)), fun _ => ⟨g, c, rfl, fun _ => rfl, r6, r7, q8, r9⟩⟩⟩
    · have s_4 : S 4 = true := hall ⟨4, .data⟩ (by simp) rfl
      obtain ⟨g, c, rfl, q5, q6, q7, q8, q9⟩ := jr.f4 s_4
      rw [hun, if_neg (by decide)] at q7
      have hne := bx_ne q7 q6
      have cB := q7.cell
      have fB := q7.fr
      have r6 : (W'.setCell ⟨bI, 0, none⟩ (.slice (some ⟨g, 0, none⟩) (n + 1) c)).ownsRow zz 47 3 (.slice (some ⟨g, 0, none⟩) (n + 1) c) (n + 1) (cl ++ if S 6 then cell3 (.mk xl xt xa xc xx) else zero3) :=
        q6.kept (row := some bI) ⟨rfl, rfl, rfl, by simp [World.setCell], fun k _ hk => Below.heap_setCell _ _ _ _ (fun e => hk (by simp [e]))⟩ (Or.inr (fun e => hne (by injection e)))
      have r7 := q7.put (.slice (some ⟨g, 0, none⟩) (n + 1) c)
      have r9 := q9.set ⟨bI, 0, none⟩ (.slice (some ⟨g, 0, none⟩) (n + 1) c) (.inr (.inr rfl))
      have HX : Hid (_ ∧ _ ∧ _ ∧ _ ∧ _ ∧ _ ∧ _) := ⟨r6, r7, r9, jr.g4 s_4, jr.f0, jr.f1, jr.f2⟩
      clear r6 r7 r9 q6 q7 q9 jr hall
      go_simp
      obtain ⟨r6, r7, r9, jg, j0, j1, j2⟩ := HX.out
      exact hK _ _ ⟨x30, x31, x32, x33, _, x35, rfl, ⟨j0, j1, j2, (fun h => Bool.noConfusion (jg.2.2.2.symm.trans h)), (fun _ h => Bool.noConfusion (s_4.symm.trans h)), fun _ => jg, (fun h => Bool.noConfusion (s_4.symm.trans h)), fun _ => ⟨g, c, rfl, q5, r6, r7, q8, r9⟩⟩⟩
  · rintro S aa w4 hall ⟨x30, x31, x32, x33, x34, x35, rfl, jr⟩
    obtain ⟨g, c, -, -, h1, h2, h3, h4⟩ := jr.f4 (hall 4 (by decide))
    rw [hall 6 (by decide), if_pos rfl] at h1
    rw [hall 7 (by decide), if_pos rfl] at h2
    refine hQ _ _ g c h2 h1 (by rw [hs0]; exact h3) ⟨?_, ?_, ?_, by rw [hs0]; exact h4.size, fun k k1 k2 k3 => ?_⟩
    · rw [h4.os, ← hW0]; rfl
    · rw [h4.tape, ← hW0]; rfl
    · rw [h4.output, ← hW0]; rfl
    · rw [h4.block k (by rw [← hs0]; exact k1) k2 k3, ← hW0]; rfl
end Go.Proofs.YtbpcciifaekffaaGreatDoor
namespace Go.Proofs.YtbpcciifaekffaaGreatDoor
open Go.RowKit Go.Shelf Go.Sort
attribute [local go_sem] Oper.semAt_some

def kz : Value → Nat
  | .int _ k => k.toNat
  | _ => 0
def pArr (e : ByteArray × ByteArray) : Array Value := #[pV e]

set_option maxHeartbeats 1000000 in
theorem values_any (a : Option Addr) (m c : Nat) (w : World) :
    Calls Tryz.prog 49 #[.slice a m c] w fun e w' => e = .returned (.func (.func 81) #[] #[.pointer (some ⟨w.heap.size, 0, none⟩)]) ∧ w' = w.alloc (.cells #[.slice a m c] 22) := by
  go_enter Tryz.func49, Tryz.ntmps49
  go_wp2
  go_ret
  exact ⟨rfl, rfl⟩

set_option maxRecDepth 100000 in
set_option maxHeartbeats 2000000 in
theorem values1_in (n l bX n0 : Nat) (es : List (ByteArray × ByteArray)) (hl : es.length < 1000000) (a : Option Addr) (c : Nat) (J Jx : List (ByteArray × ByteArray) → World → Prop) (B : Nat) (hJ : AbidesFrom B J)
    (W : World) (hn0 : n0 ≤ W.heap.size) (hp : slP n0 W a es) (hc0 : W.cell? ⟨bX, 0, none⟩ = some (.slice a es.length c))
    (hY : ∀ m pre e W, J pre W → pre.length < es.length → YieldAt Fence.wide m Tryz.prog l (pArr e) W fun e' W' =>
      (e' = .returned (.bool true) ∧ J (pre ++ [e]) W' ∧ Below n0 W W') ∨ (e' = .returned (.bool false) ∧ Jx (pre ++ [e]) W'))
    (h0 : J [] W) :
    CallsIn Fence.wide n Tryz.prog 81 #[.func (.yield l) #[] #[], .pointer (some ⟨bX, 0, none⟩)] W fun e W' => (∃ v, e = .returned v) ∧
      (J es W' ∨ (∃ q, q ≤ es.length ∧ Jx (es.take q) W')) := by
  obtain ⟨N, hN⟩ : ∃ N, es.length = N := ⟨_, rfl⟩
  rw [hN] at hl hc0
  refine callsIn_of_wp Tryz.func81 rfl trivial ?_ rfl
  simp only [Tryz.ntmps81, List.size_toArray, List.length_cons, List.length_nil, Nat.reduceAdd, Nat.reduceSub, Array.replicate_succ, Array.replicate_zero, List.push_toArray, List.append_toArray, List.nil_append, List.cons_append]
  gi_wp2
  gi_loopw [7] (fun v wr => ∃ k : Nat, v = .int .i64 k ∧ k ≤ N ∧ J (es.take k) wr ∧ Below n0 W wr) (fun v _ => N - kz v)
  case atStart => exact ⟨0, rfl, Nat.zero_le _, h0, Below.refl _ _⟩
  case round =>
    obtain ⟨k, rfl, hk, hJs, BW⟩ := hrel
    by_cases hlt : k < N
    · have l1 : (k : Int) < N := by omega
      obtain ⟨f, hf⟩ : ∃ f, es[k]? = some f := ⟨es[k]'(by omega), List.getElem?_eq_getElem (by omega)⟩
      have htl : (es.take k).length = k := by rw [List.length_take]; omega
      obtain ⟨b, o, rfl, hb, c0, c1⟩ := slP_at (slP_below BW hp) k f hf
      obtain ⟨r, hr⟩ : ∃ p, o + 2 * k = p := ⟨_, rfl⟩
      rw [hr] at c0 c1
      have hr2 : o + k * 2 = r := by omega
      have wk : IntKind.i64.wrap ((k : Int) + 1) = ((k + 1 : Nat) : Int) := by rw [IntKind.wrap_i64]; omega
      have hA : Below wr.heap.size wr (wr.alloc (.cells #[.string f.1, .string f.2] 40)) := (Below.refl _ wr).alloc (Nat.le_refl _) _
      have hJ3 := hJ _ wr _ none hJs (grown_of hA) (fun _ h => by cases h)
      obtain ⟨fn, tmps, assign, body, hy, hR⟩ := hY (n - 1) (es.take k) f _ hJ3 (by omega)
      have htk : es.take k ++ [f] = es.take (k + 1) := by rw [List.take_add_one, hf]; rfl
      rw [htk] at hR
      have BW3 := BW.trans (hA.mono (Nat.le_trans hn0 BW.size))
      clear htl htk hf hJ3 hA BW
      obtain ⟨fk, fv⟩ := f
      unfold pArr pV at hy
      dsimp only at hy c0 c1 hR BW3
      gi_wp2
      refine ⟨fun h => (by cases h), hR.mono ?_⟩
      rintro e W4 (⟨rfl, hJ4, B4⟩ | ⟨rfl, hJx4⟩)
      · clear hy hR c0 c1
        have BW4 := BW3.trans B4
        clear BW3 B4
        gi_wp2
        go_roundw
        case rel => exact ⟨k + 1, by first | rfl | (congr 1; omega), by omega, hJ4, BW4⟩
        case measure => show N - (((k + 1 : Nat) : Int)).toNat < N - ((k : Int)).toNat; omega
      · clear hy hR c0 c1
        gi_wp2
        refine bodyPost_ret (v := .tuple #[]) (by simp [results, Tryz.results81, go_sem]) rfl ⟨⟨_, rfl⟩, .inr ⟨k + 1, by omega, hJx4⟩⟩
    · have l1 : ¬ (k : Int) < N := by omega
      have hk2 : k = N := by omega
      rw [hk2, ← hN, List.take_length] at hJs
      have HJ : Hid _ := hJs
      clear hJs
      gi_wp2
      go_end0
      exact ⟨⟨_, rfl⟩, .inl HJ.out⟩
theorem values_stops (n bX n0 : Nat) (es : List (ByteArray × ByteArray)) (hl : es.length < 1000000) (a : Option Addr) (c : Nat) (w : World) (hn0 : n0 ≤ w.heap.size) (hp : slP n0 w a es) (hbx : Bx bX 22 (.slice a es.length c) w) :
    SeqStopsK Fence.wide n Tryz.prog 81 #[.pointer (some ⟨bX, 0, none⟩)] pArr (fun A B => Below n0 A B) (fun ys => ys = es) (fun pre => ∃ q, q ≤ es.length ∧ pre = es.take q) es.length w := fun l J Jx W hW hJ hJx hY h0 => by
  refine (values1_in n l bX n0 es hl a c J Jx W.heap.size hJ W (Nat.le_trans hn0 hW.size) (slP_below (hW.mono hn0) hp) (Bx.cell ((hW.block bX hbx.lt).trans hbx)) (fun m pre e W1 hj hl => (yieldAny m (hY pre e W1 hj hl)).mono fun e' W' h => h) h0).mono ?_
  rintro e W' ⟨he, h | ⟨q, hq, h⟩⟩
  · exact ⟨he, .inl ⟨es, rfl, h⟩⟩
  · exact ⟨he, .inr ⟨_, ⟨q, hq, rfl⟩, h⟩⟩

/-- The cells of pairs. -/
def pC (es : List (ByteArray × ByteArray)) : List Value := es.flatMap fun e => [.string e.1, .string e.2]
theorem pC_snoc (es : List (ByteArray × ByteArray)) (e : ByteArray × ByteArray) : pC (es ++ [e]) = pC es ++ [.string e.1, .string e.2] := by simp [pC]
theorem pC_at : ∀ (es : List (ByteArray × ByteArray)) (j : Nat) (e : ByteArray × ByteArray), es[j]? = some e → (pC es)[2 * j]? = some (.string e.1) ∧ (pC es)[2 * j + 1]? = some (.string e.2)
  | [], _, _, h => by cases h
  | a :: r, 0, e, h => by
    cases h
    exact ⟨rfl, rfl⟩
  | a :: r, j + 1, e, h => by
    have := pC_at r j e h
    have e1 : pC (a :: r) = .string a.1 :: .string a.2 :: pC r := rfl
    rw [e1, show 2 * (j + 1) = 2 * j + 1 + 1 by omega, List.getElem?_cons_succ, List.getElem?_cons_succ, List.getElem?_cons_succ, List.getElem?_cons_succ]
    exact this
theorem owns_kind {W : World} {zz n k : Nat} {e : TypeId} {size : Nat} {v : Value} {xs : List Value} (h : W.ownsRow zz e size v n xs) (hk : v.ownBlock = some k) : ∃ c, W.heap[k]? = some (.cells c e (0, 0)) := by
  rcases h.2 with ⟨rfl, _⟩ | ⟨g, c, cur, rfl, _, hg, _⟩
  · cases hk
  · injection hk with hk
    subst hk
    exact ⟨cur, hg⟩
theorem owns_owned {A C : World} {b n : Nat} {e : TypeId} {size : Nat} {v : Value} {xs : List Value} {row : Option Nat} (h : A.ownsRow b e size v n xs) (hg : A.grownBy C row) (hr : ∀ r, row = some r → ∃ o : Obj, A.heap[r]? = some o ∧ o.isCells = false) : C.ownsRow b e size v n xs := by
  refine h.kept hg ?_
  cases e' : v.ownBlock with
  | none => exact .inl rfl
  | some k =>
    obtain ⟨c, hk⟩ := owns_kind h e'
    refine .inr fun e2 => ?_
    obtain ⟨o, ho, hc⟩ := hr k e2.symm
    rw [hk] at ho
    cases ho
    cases hc
theorem frozen_block {W W' : World} {b : Nat} (h : W'.heap[b]? = W.heap[b]?) (k : Nat) : W'.frozen? ⟨b, k, none⟩ = W.frozen? ⟨b, k, none⟩ := by
  unfold World.frozen?
  dsimp only
  rw [h]
/-- What has been gathered so far. -/
def GSt (z : Nat) (w : World) (pre : List (ByteArray × ByteArray)) (W : World) : Prop := ∃ v, Bx z 22 v W ∧ W.ownsRow (z + 1) 40 2 v pre.length (pC pre) ∧ Below z w W
theorem GSt.own {z : Nat} {w A C : World} {pre : List (ByteArray × ByteArray)} {row : Option Nat} (h : GSt z w pre A) (hg : A.grownBy C row) (hr : ∀ r, row = some r → z ≤ r ∧ ∃ o : Obj, A.heap[r]? = some o ∧ o.isCells = false) : GSt z w pre C := by
  obtain ⟨v, h1, h2, h3⟩ := h
  have := h1.lt
  exact ⟨v, h1.own hg (fun r e => (hr r e).2), owns_owned h2 hg (fun r e => (hr r e).2), h3.grown hg (by omega) (fun k e => (hr k e).1)⟩
def PrIn (b : Nat) (e : ByteArray × ByteArray) (W : World) : Prop := W.heap[b]? = some (.cells #[.string e.1, .string e.2] 40 (0, 0))
theorem info_pair : (Tryz.prog.info? 40).map (fun i => (i.zero, i.size, i.bytes)) = some (some (.agg #[.string ⟨#[]⟩, .string ⟨#[]⟩]), 2, 32) := by kernel_rfl

set_option maxRecDepth 100000 in
set_option maxHeartbeats 4000000 in
theorem appendSeq_of (es : List (ByteArray × ByteArray)) (hl : es.length < 1000000) (a : Option Addr) (c bX n0 : Nat) (w : World) (hn : n0 ≤ w.heap.size) (hp : slP n0 w a es) (hbx : Bx bX 22 (.slice a es.length c) w) :
    Calls Tryz.prog 98 #[.slice none 0 0, .func (.func 81) #[] #[.pointer (some ⟨bX, 0, none⟩)]] w fun r w' => Below w.heap.size w w' ∧
      ∃ a' c', r = .returned (.slice a' es.length c') ∧ (es = [] ∧ a' = none ∧ c' = 0 ∨ ∃ g, a' = some ⟨g, 0, none⟩ ∧ w.heap.size ≤ g ∧ g < w'.heap.size ∧ prs w' g 0 es ∧ ∀ k, w'.frozen? ⟨g, k, none⟩ = false) := by
  refine (callsIn_wide (n := 9)).1 ?_
  refine callsIn_of_wp_marks Tryz.func98 rfl trivial ?_ rfl
  refine wpIn_wide.2 ?_
  simp only [Tryz.ntmps98, List.size_toArray, List.length_cons, List.length_nil, Nat.reduceAdd, Nat.reduceSub, Array.replicate_succ, Array.replicate_zero, List.push_toArray, List.append_toArray, List.nil_append, List.cons_append]
  obtain ⟨i0, hi0, hz0, hz1, hz2⟩ := info_parts info_pair
  have A1 : Below w.heap.size w (w.alloc (.cells #[.slice none 0 0] 22)) := (Below.refl _ w).alloc (Nat.le_refl _) _
  have hB1 : Bx w.heap.size 22 (.slice none 0 0) (w.alloc (.cells #[.slice none 0 0] 22)) := World.alloc_heap_new w _
  go_wp2_with fail
  refine wpOf (fun W => Below w.heap.size w W ∧ Bx w.heap.size 22 (.slice none 0 0) W) ⟨A1, hB1⟩ ?_
  rintro w2 ⟨BW2, hB2⟩
  clear A1 hB1
  have KS := fun n => values_stops n bX n0 es hl a c w2 (Nat.le_trans hn BW2.size) (slP_below (BW2.mono hn) hp) ((BW2.block bX hbx.lt).trans hbx)
  obtain ⟨z, hz⟩ : ∃ c, w.heap.size = c := ⟨_, rfl⟩
  have HZ : Hid (w.heap.size = z) := hz
  rw [hz] at hn BW2 hB2 ⊢
  clear hz
  have hzw := hB2.lt
  refine (wpIn_wide (n := 9)).1 ?_
  refine wpIn_rangeFunc_ownH rfl (by omega) (gf := 81) (lb := #[.pointer (some ⟨bX, 0, none⟩)]) rfl trivial (enters_of Tryz.func81 (by kernel_rfl) rfl)
    (KS _) (fun h1 h2 => h1.trans h2) (fun W l o o' h1 h2 h3 h4 => belowK_b (Nat.le_trans hn (Nat.le_of_lt hzw)) W l o o' h1 h2 h3 h4) (Below.refl _ _) (fun _ => rfl)
    (fun pre W => GSt z w pre W)
    (fun _ _ _ => False)
    (fun s A C row hs hg hr => hs.own hg (fun r e => ⟨Nat.le_trans (by omega) (hr r e).1, (hr r e).2⟩))
    (fun c s A C row hs hg hr => hs)
    ⟨_, hB2, World.ownsRow_nil _ _ _ _, BW2⟩
    (fun x a' W => ∃ bV, z < bV ∧ PrIn bV x W ∧ a' = { tmps := #[.slice none 0 0, .func (.func 81) #[] #[.pointer (some ⟨bX, 0, none⟩)], .pointer (some ⟨z, 0, none⟩), undef, .slice none 0 0, .pointer (some ⟨bV, 0, none⟩), .func (.func 81) #[] #[.pointer (some ⟨bX, 0, none⟩)], pV x, undef, undef, undef, undef, undef], defers := [] })
    (fun x a' _ A C row hs hg hr => by
      obtain ⟨bV, h1, h2, h3⟩ := hs
      refine ⟨bV, h1, (hg.block bV (Array.getElem?_eq_some_iff.1 h2).1 (fun e => ?_)).trans h2, h3⟩
      obtain ⟨_, o, ho, hc⟩ := hr bV e.symm
      rw [show A.heap[bV]? = _ from h2] at ho
      cases ho
      cases hc)
    ?assign ?body ?done ?stop
  case assign =>
    rintro l pre x W K hI hK
    dsimp only [pArr, pV]
    have hzW : z < W.heap.size := by
      obtain ⟨v, h1, h2, h3⟩ := hI
      exact h1.lt
    have hA : Below W.heap.size W (W.alloc (.cells #[.string x.1, .string x.2] 40)) := (Below.refl _ W).alloc (Nat.le_refl _) _
    have hN : PrIn W.heap.size x (W.alloc (.cells #[.string x.1, .string x.2] 40)) := World.alloc_heap_new W _
    have hI2 := hI.own (grown_of hA) (fun _ h => by cases h)
    obtain ⟨x1, x2⟩ := x
    have HX : Hid (_ ∧ _ ∧ _) := ⟨hA, hN, hI2⟩
    clear hA hN hI2 hI
    dsimp only at HX ⊢
    gi_wp2
    obtain ⟨hA, hN, hI2⟩ := HX.out
    exact hK _ _ ((ko_below hA).from _) (hA.mono (by omega)) hI2 ⟨W.heap.size, hzW, hN, rfl⟩
  case body =>
    rintro l pre x a' W hl ⟨r, hr⟩ ⟨v, hId, hownd, BWd⟩ ⟨bV, hbV, hPr, rfl⟩ hlt
    have hbVl : bV < W.heap.size := (Array.getElem?_eq_some_iff.1 hPr).1
    have hzl := hId.lt
    have hplen : pre.length < 1000000 := by omega
    obtain ⟨x1, x2⟩ := x
    have c0 : W.cell? ⟨bV, 0, none⟩ = some (.string x1) := by rw [Lib.cell_of_heap hPr]; rfl
    have c1 : W.cell? ⟨bV, 1, none⟩ = some (.string x2) := by rw [Lib.cell_of_heap hPr]; rfl
    have cB := hId.cell
    have fB := hId.fr
    have A1 : Below W.heap.size W (W.alloc (.cells #[.string x1, .string x2] 40)) := (Below.refl _ W).alloc (Nat.le_refl _) _
    have hN1 : (W.alloc (.cells #[.string x1, .string x2] 40)).heap[W.heap.size]? = some (.cells #[.string x1, .string x2] 40 (0, 0)) := World.alloc_heap_new W _
    have hown1 := owns_below hownd A1
    have hB1 : Bx z 22 v (W.alloc (.cells #[.string x1, .string x2] 40)) := (A1.block z hzl).trans hId
    obtain ⟨ao, c0', hv⟩ : ∃ ao c0, v = .slice ao pre.length c0 := by
      rcases hownd.2 with ⟨h, h0⟩ | ⟨g, c, _, h, _⟩
      · exact ⟨none, 0, by rw [h, h0]⟩
      · exact ⟨_, c, h⟩
    have HX : Hid (_ ∧ _ ∧ _ ∧ _ ∧ _) := ⟨A1, hN1, hown1, hB1, BWd⟩
    clear A1 hN1 hown1 hB1 BWd hownd hPr hId
    subst hv
    dsimp only [pV]
    refine wpIn_block ?_
    refine region_ord_in l _ (by kernel_rfl) (by rintro ⟨_, _, h⟩; exact h) ?_
    go_wp2_with (at_builtin; refine wpList_append_where _ rfl _ _ 22 rfl (z + 1) 40 i0 _ 2 32 Tryz.underlying22 hi0 hz0 hz1 hz2 rfl (by decide) _ pre.length (pC pre) rfl HX.out.2.2.1 ⟨W.heap.size, 0, none⟩ 1 1 [.string x1, .string x2] rfl rfl ?c1 ?c2 (by unfold maxLen; omega) (by omega) ?c3 (by decide) ?_)
    case c1 =>
      intro j u hj
      rw [Addr.add_lit, Lib.cell_of_heap HX.out.2.1, Nat.zero_add]
      simpa using hj
    case c2 =>
      intro u hu
      simp only [List.mem_cons, List.not_mem_nil, or_false] at hu
      rcases hu with rfl | rfl <;> rfl
    case c3 => simp; omega
    intro v' w6 k2 k3 k4 k5
    obtain ⟨A1, hN1, hown1, hB1, BWd⟩ := HX.out
    have hne : some z ≠ (Value.slice ao pre.length c0').ownBlock := fun e => by
      have := (hown1.lt z e.symm).1
      omega
    have hB6 : Bx z 22 (.slice ao pre.length c0') w6 := (k3.block z (by simp; omega) hne).trans hB1
    have cB6 := hB6.cell
    have fB6 := hB6.fr
    obtain ⟨g, c6, rfl⟩ : ∃ g c, v' = .slice (some ⟨g, 0, none⟩) (pre.length + 1) c := by
      rcases k2.2 with ⟨h, _⟩ | ⟨g, c, _, h, _⟩
      · exact absurd h k4
      · exact ⟨g, c, h⟩
    have hgz := (k2.lt g rfl).1
    have hB7 := hB6.put (.slice (some ⟨g, 0, none⟩) (pre.length + 1) c6)
    have hown7 : (w6.setCell ⟨z, 0, none⟩ (.slice (some ⟨g, 0, none⟩) (pre.length + 1) c6)).ownsRow (z + 1) 40 2 (.slice (some ⟨g, 0, none⟩) (pre.length + 1) c6) (pre.length + 1) (pC pre ++ [.string x1, .string x2]) :=
      k2.kept (row := some z) ⟨rfl, rfl, rfl, by simp [World.setCell], fun k _ hk => Below.heap_setCell _ _ _ _ (fun e => hk (by simp [e]))⟩ (Or.inr (fun e => by injection e with e; have e' : g = z := e; omega))
    have G16 : ∀ k, k < W.heap.size → some k ≠ (Value.slice ao pre.length c0').ownBlock → w6.heap[k]? = W.heap[k]? := fun k h1 h2 => (k3.block k (by simp; omega) h2).trans (A1.block k h1)
    have hs6 := k3.size
    have hvl : ∀ k, some k = (Value.slice ao pre.length c0').ownBlock → z + 1 ≤ k := fun k e => (hown1.lt k e.symm).1
    have B67 : ∀ m, m ≤ z → Below m W (w6.setCell ⟨z, 0, none⟩ (.slice (some ⟨g, 0, none⟩) (pre.length + 1) c6)) := fun m hm => Below.setCell (p := ⟨z, 0, none⟩) ⟨k3.os.trans A1.os, k3.tape.trans A1.tape, k3.output.trans A1.output, Nat.le_trans A1.size hs6, fun k hk => G16 k (by omega) (fun e => by have := hvl k e; omega)⟩ hm _
    have KF : KeepsFrom w2.heap.size W (w6.setCell ⟨z, 0, none⟩ (.slice (some ⟨g, 0, none⟩) (pre.length + 1) c6)) := by
      refine (show KeepsFrom w2.heap.size W w6 from ⟨Nat.le_trans A1.size hs6, fun k o hk ho hc => ?_⟩).trans (ko_set _ ⟨z, 0, none⟩ _ _)
      have hkW := (Array.getElem?_eq_some_iff.1 ho).1
      refine (G16 k hkW (fun e => ?_)).trans ho
      obtain ⟨c, hc'⟩ := owns_kind hown1 e.symm
      rw [A1.block k hkW, ho] at hc'
      cases hc'
      cases hc
    have HY : Hid (_ ∧ _ ∧ _ ∧ _) := ⟨hB7, hown7, B67, KF⟩
    clear hB7 hown7 B67 KF hB6 k2 k3 k4 k5 A1 hN1 hown1 hB1 G16
    go_wp2
    obtain ⟨hB7, hown7, B67, KF⟩ := HY.out
    refine (?_ : KeepsFrom _ W _ ∧ Below n0 W _ ∧ GSt z w (pre ++ [_]) _)
    refine ⟨KF, B67 n0 (by omega), _, hB7, ?_, BWd.trans (B67 z (Nat.le_refl _))⟩
    rw [pC_snoc, List.length_append]
    exact hown7
  case done =>
    rintro D ys W hD rfl ⟨v, hId, hownd, BWd⟩ hK
    have hch := (Array.getElem?_eq_some_iff.1 hK).1
    obtain ⟨ao, c, rfl⟩ : ∃ ao c, v = .slice ao ys.length c := by
      rcases hownd.2 with ⟨h, h0⟩ | ⟨g, c, _, h, _⟩
      · exact ⟨none, 0, by rw [h, h0]⟩
      · exact ⟨_, c, h⟩
    have cI := hId.cell
    have HX : Hid (_ ∧ _ ∧ _) := ⟨BWd, hK, hownd⟩
    clear BWd hK hownd
    go_wp2
    obtain ⟨BWd, hK, hownd⟩ := HX.out
    have hbP := belowK_b (n₀ := z) (w := w2) (by omega) W D _ (.deferred none) hD hK rfl rfl
    refine ⟨by simp, .inl ⟨_, _, rfl, run_takeDeferred hK, ?_⟩⟩
    refine ⟨.slice ao ys.length c, by simp [results, Tryz.results98, go_sem], ?_, ao, c, rfl, ?_⟩
    · rw [HZ.out]; exact BWd.trans hbP
    · rcases hownd.2 with ⟨h, h0⟩ | ⟨g, cp, _, h, _⟩
      · injection h with h1 h2 h3
        exact .inl ⟨List.length_eq_zero_iff.1 h0, h1, h3⟩
      · injection h with h1 h2 h3
        subst h1 h3
        have hlt := hownd.lt g rfl
        refine .inr ⟨g, rfl, by rw [HZ.out]; omega, by simpa using hlt.2, fun j e he => ?_, fun k => ?_⟩
        rotate_left
        · have hgD : g ≠ D := fun e => by
            obtain ⟨cc, hcc⟩ := owns_kind hownd (k := g) rfl
            rw [e, hK] at hcc
            cases hcc
          have hfr := hownd.frozenAt k
          rw [← hfr]
          exact frozen_block (World.putObj_heap_other hgD) k
        have hj := (List.getElem?_eq_some_iff.1 he).1
        obtain ⟨p1, p2⟩ := pC_at ys j e he
        have hgD : g ≠ D := fun e => by
          obtain ⟨cc, hcc⟩ := owns_kind hownd (k := g) rfl
          rw [e, hK] at hcc
          cases hcc
        refine ⟨(World.cell?_of_block (w := W) (World.putObj_heap_other hgD)).trans ?_, (World.cell?_of_block (w := W) (World.putObj_heap_other hgD)).trans ?_⟩
        · rw [Nat.zero_add, hownd.cellAt _ (by omega)]; exact p1
        · rw [Nat.zero_add, hownd.cellAt _ (by omega)]; exact p2
  case stop =>
    rintro D c pre W hD _ h
    exact h.elim
end Go.Proofs.YtbpcciifaekffaaGreatDoor
