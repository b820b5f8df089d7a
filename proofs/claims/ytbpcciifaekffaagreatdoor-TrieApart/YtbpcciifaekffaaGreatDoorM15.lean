/- Lemmas: What bytes begin with: cutBody, cut. What bytes begin with: cut. The items that stand one behind the other in bytes, gone through. An item appended to a slice of items, in a round. The entries of pairs: entriesOf. The items whose bytes stand one behind the other: itemsOf. Bytes read: Decode. Numbers as bytes, and back. -/
import Derived.Test.YtbpcciifaekffaaGreatDoorM1
import Derived.Test.YtbpcciifaekffaaGreatDoorM2
import Derived.Test.YtbpcciifaekffaaGreatDoorM3
import Derived.Test.YtbpcciifaekffaaGreatDoorM4
import Derived.Test.YtbpcciifaekffaaGreatDoorM5
import Derived.Test.YtbpcciifaekffaaGreatDoorRows
import Derived.Test.YtbpcciifaekffaaGreatDoorM10
import Derived.Test.YtbpcciifaekffaaGreatDoorM11
import Derived.Test.YtbpcciifaekffaaGreatDoorM12
import Derived.Test.YtbpcciifaekffaaGreatDoorM13
import Derived.Test.YtbpcciifaekffaaGreatDoorM14
import Derived.Test.YtbpcciifaekffaaGreatDoorM6
import Derived.Test.YtbpcciifaekffaaGreatDoorM7
import Derived.Test.YtbpcciifaekffaaGreatDoorM8
import Derived.Test.YtbpcciifaekffaaGreatDoorM9
import Derived.Shelf.Pu.Clone
namespace Go.Proofs.YtbpcciifaekffaaGreatDoor
open Go.RowKit Go.Shelf Go.Sort

/-- Where the body begins behind a head's first byte, and its size. -/
def cutAt (told : Nat) (s : ByteArray) : Option (Nat × Nat) :=
  if told < 56 then (if s.size < told then none else some (0, told))
  else if s.size < told - 55 then none
  else if vE (s.extract 0 (told - 55)) = 0 ∧ 56 ≤ vN (s.extract 0 (told - 55)) ∧ vN (s.extract 0 (told - 55)) ≤ s.size - (told - 55) then some (told - 55, vN (s.extract 0 (told - 55))) else none
def cbR (s : ByteArray) : Option (Nat × Nat) → Value
  | none => .tuple #[.string ⟨#[]⟩, .string ⟨#[]⟩, .bool false]
  | some (d, n) => .tuple #[.string (s.extract d (d + n)), .string (s.extract (d + n) s.size), .bool true]
theorem vE_or (s : ByteArray) : vE s = 0 ∨ vE s = 40 := by
  unfold vE
  split
  · exact .inl rfl
  · exact .inr rfl

end Go.Proofs.YtbpcciifaekffaaGreatDoor
namespace Go.Proofs.YtbpcciifaekffaaGreatDoor
open Go.RowKit Go.Shelf Go.Sort

/-- The kind of the item that bytes begin with (0: none, 1: a text, 2: a list), its body, what stands behind it. -/
def cutK (s : ByteArray) : Nat × ByteArray × ByteArray :=
  if bt s 0 < 128 then (1, s.extract 0 1, s.extract 1 s.size)
  else if bt s 0 < 192 then
    match cutAt ((bt s 0).toNat - 128) (s.extract 1 s.size) with
    | none => (0, ⟨#[]⟩, ⟨#[]⟩)
    | some (d, n) => if bare ((s.extract 1 s.size).extract d (d + n)) then (0, ⟨#[]⟩, ⟨#[]⟩) else (1, (s.extract 1 s.size).extract d (d + n), (s.extract 1 s.size).extract (d + n) (s.extract 1 s.size).size)
  else
    match cutAt ((bt s 0).toNat - 192) (s.extract 1 s.size) with
    | none => (0, ⟨#[]⟩, ⟨#[]⟩)
    | some (d, n) => (2, (s.extract 1 s.size).extract d (d + n), (s.extract 1 s.size).extract (d + n) (s.extract 1 s.size).size)
def ktV (k : Nat × ByteArray × ByteArray) : Value := .tuple #[.int .i64 k.1, .string k.2.1, .string k.2.2]

end Go.Proofs.YtbpcciifaekffaaGreatDoor
namespace Go.Proofs.YtbpcciifaekffaaGreatDoor
open Go.RowKit Go.Shelf Go.Sort
attribute [local go_sem] Oper.semAt_some

theorem cutAt_le {told : Nat} {s : ByteArray} {d n : Nat} (h : cutAt told s = some (d, n)) : d + n ≤ s.size := by
  unfold cutAt at h
  split at h
  · split at h
    · cases h
    · cases h
      omega
  · split at h
    · cases h
    · split at h
      · cases h
        omega
      · cases h
theorem cutK_lt (s : ByteArray) (hp : 0 < s.size) : (cutK s).1 ≠ 0 → (cutK s).2.1.size ≤ s.size ∧ ((cutK s).1 = 2 → (cutK s).2.1.size < s.size) ∧ (cutK s).2.2.size < s.size := by
  unfold cutK
  split
  · intro _
    simp
    omega
  · split
    · split
      · intro h
        exact absurd rfl h
      · rename_i d n h
        have := cutAt_le h
        simp at this
        split
        · intro h
          exact absurd rfl h
        · intro _
          simp
          omega
    · split
      · intro h
        exact absurd rfl h
      · rename_i d n h
        have := cutAt_le h
        simp at this
        intro _
        simp
        omega
/-- The parts of bytes. -/
def psF : Nat → ByteArray → List (Nat × ByteArray)
  | 0, _ => []
  | f + 1, s => if s.size = 0 then [] else if (cutK s).1 = 0 then [(0, ⟨#[]⟩)] else ((cutK s).1, (cutK s).2.1) :: psF f (cutK s).2.2
def ps (s : ByteArray) : List (Nat × ByteArray) := psF s.size s
theorem psF_ps : ∀ (f g : Nat) (s : ByteArray), s.size ≤ f → s.size ≤ g → psF f s = psF g s
  | 0, 0, _, _, _ => rfl
  | 0, g + 1, s, h, _ => by
    show [] = if s.size = 0 then _ else _
    rw [if_pos (by omega)]
  | f + 1, 0, s, _, h => by
    show (if s.size = 0 then _ else _) = []
    rw [if_pos (by omega)]
  | f + 1, g + 1, s, h, h' => by
    show (if s.size = 0 then _ else _) = (if s.size = 0 then _ else _)
    split
    · rfl
    · split
      · rfl
      · rename_i h0 h1
        have := cutK_lt s (by omega) h1
        rw [psF_ps f g _ (by omega) (by omega)]
theorem ps_eq (s : ByteArray) : ps s = if s.size = 0 then [] else if (cutK s).1 = 0 then [(0, ⟨#[]⟩)] else ((cutK s).1, (cutK s).2.1) :: ps (cutK s).2.2 := by
  by_cases h : s.size = 0
  · rw [if_pos h]
    unfold ps
    rw [h]
    rfl
  · rw [if_neg h]
    obtain ⟨f, hf⟩ : ∃ f, s.size = f + 1 := ⟨s.size - 1, by omega⟩
    have e : ps s = psF (f + 1) s := by unfold ps; rw [hf]
    rw [e]
    show (if s.size = 0 then _ else _) = _
    rw [if_neg h]
    split
    · rfl
    · rename_i h1
      have := cutK_lt s (by omega) h1
      show _ :: psF f _ = _ :: psF _ _
      rw [psF_ps f _ _ (by omega) (Nat.le_refl _)]
theorem cutK_zero (s : ByteArray) (h : (cutK s).1 = 0) : cutK s = (0, ⟨#[]⟩, ⟨#[]⟩) := by
  revert h
  unfold cutK
  split
  · intro h; cases h
  · split
    · split
      · intro _; rfl
      · split
        · intro _; rfl
        · intro h; cases h
    · split
      · intro _; rfl
      · intro h; cases h
theorem ps_len : ∀ (N : Nat) (s : ByteArray), s.size ≤ N → (ps s).length ≤ s.size
  | 0, s, h => by
    rw [ps_eq, if_pos (by omega)]
    exact Nat.zero_le _
  | N + 1, s, h => by
    rw [ps_eq]
    split
    · exact Nat.zero_le _
    · split
      · show 1 ≤ _
        omega
      · rename_i h0 h1
        have h2 := cutK_lt s (by omega) h1
        have h3 := ps_len N (cutK s).2.2 (by omega)
        show (ps _).length + 1 ≤ _
        omega
def strSz : Value → Nat
  | .string s => s.size
  | _ => 0
def pEnc (e : Nat × ByteArray) : Array Value := #[.int .i64 e.1, .string e.2]

abbrev Pe (s : ByteArray) := { e : Nat × ByteArray // e ∈ ps s }
end Go.Proofs.YtbpcciifaekffaaGreatDoor
namespace Go.Proofs.YtbpcciifaekffaaGreatDoor
open Go.RowKit Go.Shelf Go.Sort
attribute [local go_sem] Oper.semAt_some

/-- The second law of drawn statements, in a round. -/
theorem region_inv_in {P : Program} (l' n' : Nat) {id : Nat} {Q : Exit → Act → World → Prop} {a : Act} {w : World} {l : List Oper} (J : (Nat → Bool) → Act → World → Prop) (hm : P.follows .mixedOrders = true) (hnd : noDefer l.toArray = true) (hL : ¬ LetsOut Q)
    (hB : backB .any l.toArray = true) (h0 : J (fun _ => false) a w.drew)
    (step : ∀ i o S a W, l[i]? = some o → S i = false → J S a W → (∀ e ∈ o.after, Region.binds .any e = true → S e.on = true) → ∀ K : Act → World → Prop, (∀ a W, J (more S i) a W → K a W) →
      if Region.wanted o (yielded l.toArray a.tmps) then o.wp P a W K Q else K (a.put o.dst undef) W)
    (last : ∀ S a W, (∀ i, i < l.length → S i = true) → J S a W → Q .normal a W) : (Code.region id l.toArray true).wpIn (Fence.wide.inRound l') n' P Q a w := by
  refine region_round l' n' hm hnd hL ?_
  refine any_of_inv (P := P) (md := .any) (ops := l.toArray) (Q := Q) (J := fun listed a W => J (fun j => listed.getD j false) a W) hB
    (fun i listed a W hsz hr hJ => ?_) (fun listed a W hsz hall hJ => ?_) l.toArray.size (Array.replicate l.toArray.size false) a w.drew (by simp) (left_new _ _ (Nat.le_refl _)) ?_
  · obtain ⟨hun, o, ho, hall⟩ := mem_ready.1 hr
    have hlt : i < listed.size := by rw [hsz]; exact (Array.getElem?_eq_some_iff.1 ho).1
    have e : (fun j => (listed.setIfInBounds i true).getD j false) = more (fun j => listed.getD j false) i := by
      funext j
      unfold more
      by_cases hij : j = i
      · subst hij; simp [hlt]
      · rw [if_neg hij, getD_set_ne false (fun e => hij e.symm)]
    have hst := step i o (fun j => listed.getD j false) a W (by simpa using ho) (getD_both hun) hJ hall (J (more (fun j => listed.getD j false) i)) (fun _ _ h => h)
    unfold wpOp
    simp only [ho]
    rw [e]
    split
    · rename_i hw; simp only [hw, if_true] at hst; exact Or.inl hst
    · rename_i hw; simp only [hw] at hst; exact hst
  · refine last (fun j => listed.getD j false) a W (fun i hi => ?_) hJ
    have h1 := hall i (by simpa using hi)
    have h2 : i < listed.size := by rw [hsz]; simpa using hi
    cases hq : listed.getD i false with
    | true => rfl
    | false => rw [getD_in h2 hq] at h1; cases h1
  · have e : (fun j => (Array.replicate l.toArray.size false).getD j false) = fun _ => false := by funext j; exact getD_replicate_false _ _
    show J (fun j => (Array.replicate l.toArray.size false).getD j false) a _
    rw [e]; exact h0
theorem wp_append_where {P : Program} {w : World} {o : Oper} {a : Act} {K : Act → World → Prop} {Q : Exit → Act → World → Prop} (sl x : Operand) (t : TypeId)
    (ho : o.op = .call { callee := .builtin .append, args := #[sl, x], argTypes := #[t, t] })
    (base : Nat) (e : TypeId) (i : TypeInfo) (z : Value) (size bytes : Nat) (ht : P.underlying t = some (.slice e)) (hi : P.info? e = some i) (hz : i.zero = some z) (hsize : i.size = size) (hby : i.bytes = bytes) (hzs : z.cells.size = size) (hsz : 0 < size)
    (v : Value) (n : Nat) (xs : List Value) (hs : a.eval sl = v) (hown : w.ownsRow base e size v n xs) (ad : Addr) (m c : Nat) (news : List Value) (hx : a.eval x = .slice (some ad) m c) (hl : news.length = m * size)
    (hnews : ∀ j u, news[j]? = some u → w.cell? (ad.add j) = some u) (h1 : ∀ u ∈ news, u.oneCell' = true) (h63 : n + m ≤ maxLen) (hbytes : (n + m) * bytes ≤ 140737488355328) (hbase : base ≤ w.heap.size) (hm : 0 < m)
    (h : ∀ v' w', w'.ownsRow base e size v' (n + m) (xs ++ news) → w.grownBy w' v.ownBlock → v' ≠ .slice none 0 0 → (v'.ownBlock = v.ownBlock ∨ ∃ g, v'.ownBlock = some g ∧ w.heap.size ≤ g) → K (a.put o.dst v') w') : o.wp P a w K Q := by
  obtain ⟨v', w', hr, h2, h3, h4, h5⟩ := append_where (P := P) w base t o.type e i z size bytes ht hi hz hsize hby hzs hsz v n xs hown ad m c news hl hnews h1 h63 hbytes hbase hm
  unfold Oper.wp execOp
  simp only [ho, resolve, invoke, builtin, Sem.run_bind, Sem.run_pure, Result.andThen_ok, List.map_toArray, List.map_cons, List.map_nil, hs, hx, hr]
  exact h v' w' h2 h3 h4 h5

/-- What the statement leaves as it is. -/
structure Rl (W0 W : World) (v : Value) (bI : Nat) : Prop where
  os : W.os = W0.os
  tape : W.tape = W0.tape
  output : W.output = W0.output
  size : W0.heap.size ≤ W.heap.size
  block : ∀ k, k < W0.heap.size → some k ≠ v.ownBlock → k ≠ bI → W.heap[k]? = W0.heap[k]?
theorem Rl.set {W0 W : World} {v : Value} {bI : Nat} (h : Rl W0 W v bI) (p : Addr) (u : Value) (hp : some p.block = v.ownBlock ∨ W0.heap.size ≤ p.block ∨ p.block = bI) : Rl W0 (W.setCell p u) v bI :=
  ⟨h.os, h.tape, h.output, by have := h.size; simp [World.setCell]; omega, fun k h1 h2 h3 => (Below.heap_setCell _ _ _ _ (fun e => by
    subst e
    rcases hp with hp | hp | hp
    · exact h2 hp
    · omega
    · exact h3 hp)).trans (h.block k h1 h2 h3)⟩
def zero3 : List Value := [.bool false, .string ⟨#[]⟩, .slice none 0 0]
def cell3 (X : Im) : List Value := [.bool X.l, .string X.t, X.sl]
theorem set3 (cl : List Value) (n : Nat) (h : cl.length = n * 3) (X : Im) : (((cl ++ zero3).set (n * 3) (.bool X.l)).set (n * 3 + 1) (.string X.t)).set (n * 3 + 2) X.sl = cl ++ cell3 X := by
  rw [List.set_append_right _ _ (by omega), List.set_append_right _ _ (by omega), List.set_append_right _ _ (by omega), show n * 3 - cl.length = 0 by omega, show n * 3 + 1 - cl.length = 1 by omega, show n * 3 + 2 - cl.length = 2 by omega]
  rfl
/-- How far the statement has come. -/
structure JA (W0 : World) (bI bT zz n : Nat) (v : Value) (cl : List Value) (X : Im) (S : Nat → Bool) (x30 x31 x32 x33 x34 x35 : Value) (W : World) : Prop where
  f0 : S 0 = true → x30 = v
  f1 : S 1 = true → x31 = X.val
  f2 : S 2 = true → x32 = .int .i64 n
  e3 : S 3 = false → W = W0
  f3 : S 3 = true → S 4 = false → x33 = .slice (some ⟨W0.heap.size, 0, none⟩) 1 1 ∧ W = W0.alloc (.cells zero3.toArray 47)
  g4 : S 4 = true → S 0 = true ∧ S 1 = true ∧ S 2 = true ∧ S 3 = true
  e4 : S 4 = false → S 5 = false ∧ S 6 = false ∧ S 7 = false
  f4 : S 4 = true → ∃ g c, x34 = .slice (some ⟨g, 0, none⟩) (n + 1) c ∧ (S 5 = true → x35 = .pointer (some ⟨g, n * 3, none⟩)) ∧ W.ownsRow zz 47 3 (.slice (some ⟨g, 0, none⟩) (n + 1) c) (n + 1) (cl ++ if S 6 then cell3 X else zero3) ∧
    Bx bI 45 (if S 7 then .slice (some ⟨g, 0, none⟩) (n + 1) c else v) W ∧ (some g = v.ownBlock ∨ W0.heap.size ≤ g) ∧ Rl W0 W v bI
theorem JA.pre {W0 : World} {bI bT zz n : Nat} {v : Value} {cl : List Value} {X : Im} {S : Nat → Bool} {x30 x31 x32 x33 x34 x35 : Value} {W : World} (h : JA W0 bI bT zz n v cl X S x30 x31 x32 x33 x34 x35 W) (h4 : S 4 = false) : Below W0.heap.size W0 W := by
  cases h3 : S 3 with
  | false => rw [h.e3 h3]; exact Below.refl _ _
  | true => rw [(h.f3 h3 h4).2]; exact (Below.refl _ W0).alloc (Nat.le_refl _) _
theorem JA.four {W0 : World} {bI bT zz n : Nat} {v : Value} {cl : List Value} {X : Im} {S : Nat → Bool} {x30 x31 x32 x33 x34 x35 : Value} {W : World} (h : JA W0 bI bT zz n v cl X S x30 x31 x32 x33 x34 x35 W) (i : Nat) (hi : S i = false) (hl : i < 4) : S 4 = false := by
  cases h4 : S 4 with
  | false => rfl
  | true =>
    obtain ⟨h0, h1, h2, h3⟩ := h.g4 h4
    have : i = 0 ∨ i = 1 ∨ i = 2 ∨ i = 3 := by omega
    rcases this with rfl | rfl | rfl | rfl
    · rw [h0] at hi; cases hi
    · rw [h1] at hi; cases hi
    · rw [h2] at hi; cases hi
    · rw [h3] at hi; cases hi

theorem owns_kind3 {W : World} {zz n : Nat} {v : Value} {xs : List Value} (h : W.ownsRow zz 47 3 v n xs) (k : Nat) (hk : v.ownBlock = some k) : ∃ c, W.heap[k]? = some (.cells c 47 (0, 0)) := by
  rcases h.2 with ⟨rfl, _⟩ | ⟨g, cap, cur, rfl, hb, hg, _⟩
  · cases hk
  · injection hk with hk
    subst hk
    exact ⟨cur, hg⟩
theorem bx_ne {W : World} {bI zz g n c k : Nat} {u : Value} {xs : List Value} (hB : Bx bI 45 u W) (h : W.ownsRow zz 47 3 (.slice (some ⟨g, 0, none⟩) n c) k xs) : g ≠ bI := fun e => by
  obtain ⟨c', hk⟩ := owns_kind3 h g rfl
  rw [e, show W.heap[bI]? = _ from hB] at hk
  cases hk
theorem bx_no {W : World} {bI zz k : Nat} {u v : Value} {xs : List Value} (hB : Bx bI 45 u W) (h : W.ownsRow zz 47 3 v k xs) : some bI ≠ v.ownBlock := fun e => by
  obtain ⟨c', hk⟩ := owns_kind3 h bI e.symm
  rw [show W.heap[bI]? = _ from hB] at hk
  cases hk
def appOps : List Oper := [{ dst := some 30, op := Op.load 45 (Operand.tmp 4), type := 45, pos := "decode.go:55", after := #[], guard := none }, { dst := some 31, op := Op.load 47 (Operand.tmp 8), type := 47, pos := "decode.go:55", after := #[], guard := none }, { dst := some 32, op := Op.call { callee := Callee.builtin Builtin.len, args := #[Operand.tmp 30], argTypes := #[45] }, type := 3, pos := "decode.go:55", after := #[{ on := 0, ground := Ground.data }], guard := none }, { dst := some 33, op := Op.buildSlice 45 1 #[(0, Operand.const (Value.agg #[Value.bool false, Value.string { data := #[] }, Value.slice none 0 0]))], type := 45, pos := "decode.go:55", after := #[], guard := none }, { dst := some 34, op := Op.call { callee := Callee.builtin Builtin.append, args := #[Operand.tmp 30, Operand.tmp 33], argTypes := #[45, 45] }, type := 45, pos := "decode.go:55", after := #[{ on := 0, ground := Ground.data }, { on := 3, ground := Ground.data }, { on := 0, ground := Ground.phase }, { on := 1, ground := Ground.phase }, { on := 2, ground := Ground.phase }, { on := 3, ground := Ground.phase }], guard := none }, { dst := some 35, op := Op.indexAddr 45 (Operand.tmp 34) (Operand.tmp 32), type := 0, pos := "decode.go:55", after := #[{ on := 4, ground := Ground.data }, { on := 2, ground := Ground.data }, { on := 0, ground := Ground.phase }, { on := 1, ground := Ground.phase }, { on := 2, ground := Ground.phase }, { on := 3, ground := Ground.phase }, { on := 4, ground := Ground.phase }, { on := 7, ground := Ground.gcOnly Departure.appendInPlace }], guard := none }, { dst := none, op := Op.store 47 (Operand.tmp 35) (Operand.tmp 31), type := 0, pos := "decode.go:55", after := #[{ on := 5, ground := Ground.data }, { on := 1, ground := Ground.data }, { on := 4, ground := Ground.chain }, { on := 0, ground := Ground.phase }, { on := 1, ground := Ground.phase }, { on := 2, ground := Ground.phase }, { on := 3, ground := Ground.phase }, { on := 4, ground := Ground.phase }, { on := 7, ground := Ground.gcOnly Departure.appendInPlace }], guard := none }, { dst := none, op := Op.store 45 (Operand.tmp 4) (Operand.tmp 34), type := 0, pos := "decode.go:55", after := #[{ on := 4, ground := Ground.data }, { on := 4, ground := Ground.chain }, { on := 6, ground := Ground.textOnly Departure.appendInPlace }, { on := 0, ground := Ground.phase }, { on := 1, ground := Ground.phase }, { on := 2, ground := Ground.phase }, { on := 3, ground := Ground.phase }, { on := 4, ground := Ground.phase }, { on := 5, ground := Ground.textOnly Departure.appendInPlace }, { on := 6, ground := Ground.textOnly Departure.appendInPlace }], guard := none }]

set_option maxRecDepth 100000 in
set_option maxHeartbeats 4000000 in
theorem append_item_in (l' n' id : Nat) {Q : Exit → Act → World → Prop} (W : World) (bI bT zz n : Nat) (v : Value) (cl : List Value) (X : Im) (t0 t1 t2 t3 t5 t6 t7 t9 t10 t11 t12 t13 t14 t15 t16 t17 t18 t19 t20 t21 t22 t23 t24 t25 t26 t27 t28 t29 t36 t37 t38 u30 u31 u32 u33 u34 u35 : Value) (hL : ¬ LetsOut Q) (hn : n < 1000000)
    (hBI : Bx bI 45 v W) (hBT : ItIn bT X W) (hown : W.ownsRow zz 47 3 v n cl) (hzz : zz ≤ W.heap.size)
    (hQ : ∀ a' W' g c, Bx bI 45 (.slice (some ⟨g, 0, none⟩) (n + 1) c) W' → W'.ownsRow zz 47 3 (.slice (some ⟨g, 0, none⟩) (n + 1) c) (n + 1) (cl ++ cell3 X) → (some g = v.ownBlock ∨ W.heap.size ≤ g) → Rl W W' v bI → Q .normal a' W') :
    (Code.region id appOps.toArray true).wpIn (Fence.wide.inRound l') n' Tryz.prog Q { tmps := #[t0, t1, t2, t3, .pointer (some ⟨bI, 0, none⟩), t5, t6, t7, .pointer (some ⟨bT, 0, none⟩), t9, t10, t11, t12, t13, t14, t15, t16, t17, t18, t19, t20, t21, t22, t23, t24, t25, t26, t27, t28, t29, u30, u31, u32, u33, u34, u35, t36, t37, t38], defers := [] } W := by
  obtain ⟨i0, hi0, hz0, hz1, hz2⟩ := info_parts info_item
  obtain ⟨W0, hW0⟩ : ∃ W0, W.drew = W0 := ⟨_, rfl⟩
  have hBI0 : Bx bI 45 v W0 := by rw [← hW0]; exact hBI
  have hBT0 : ItIn bT X W0 := by rw [← hW0]; exact hBT
  have hown0 : W0.ownsRow zz 47 3 v n cl := by rw [← hW0]; exact hown.drew
  have hs0 : W.heap.size = W0.heap.size := by rw [← hW0]; rfl
  have hcl := hown0.1
  obtain ⟨ao, c0, hv⟩ : ∃ ao c0, v = .slice ao n c0 := by
    rcases hown0.2 with ⟨h, rfl⟩ | ⟨g, c, _, h, _⟩
    · exact ⟨none, 0, h⟩
    · exact ⟨_, c, h⟩
  obtain ⟨xl, xt, xa, xc, xx⟩ := X
  refine region_inv_in l' n' (fun S aa W' => ∃ x30 x31 x32 x33 x34 x35 : Value, aa = { tmps := #[t0, t1, t2, t3, .pointer (some ⟨bI, 0, none⟩), t5, t6, t7, .pointer (some ⟨bT, 0, none⟩), t9, t10, t11, t12, t13, t14, t15, t16, t17, t18, t19, t20, t21, t22, t23, t24, t25, t26, t27, t28, t29, x30, x31, x32, x33, x34, x35, t36, t37, t38], defers := [] } ∧ JA W0 bI bT zz n v cl (.mk xl xt xa xc xx) S x30 x31 x32 x33 x34 x35 W') (by kernel_rfl) (by kernel_rfl) hL (by kernel_rfl) ?_ ?_ ?_
  · rw [hW0]
    exact ⟨_, _, _, _, _, _, rfl, ⟨nofun, nofun, nofun, fun _ => rfl, nofun, nofun, fun _ => ⟨rfl, rfl, rfl⟩, nofun⟩⟩
  · intro i o S aa W' hi hun hJ hall K hK
    obtain ⟨x30, x31, x32, x33, x34, x35, rfl, jr⟩ := hJ
    have hlt : i < 8 := (List.getElem?_eq_some_iff.1 hi).1
    have hcase : i = 0 ∨ i = 1 ∨ i = 2 ∨ i = 3 ∨ i = 4 ∨ i = 5 ∨ i = 6 ∨ i = 7 := by omega
    rcases hcase with rfl | rfl | rfl | rfl | rfl | rfl | rfl | rfl
    all_goals (have ho := (Option.some.inj hi).symm; subst ho; clear hi hlt)
    · have h4 := jr.four 0 hun (by decide)
      have cB : W'.cell? ⟨bI, 0, none⟩ = some v := Bx.cell (((jr.pre h4).block bI hBI0.lt).trans hBI0)
      subst hv
      go_simp
      exact hK _ _ ⟨_, x31, x32, x33, x34, x35, rfl, ⟨fun _ => rfl, jr.f1, jr.f2, jr.e3, jr.f3, (fun h => Bool.noConfusion (h4.symm.trans h)), jr.e4, (fun h => Bool.noConfusion (h4.symm.trans h))⟩⟩
    · have h4 := jr.four 1 hun (by decide)
      have hB := ((jr.pre h4).block bT hBT0.lt).trans hBT0
      have d0 : W'.cell? ⟨bT, 0, none⟩ = some (.bool xl) := by rw [Lib.cell_of_heap hB]; rfl
      have d1 : W'.cell? ⟨bT, 1, none⟩ = some (.string xt) := by rw [Lib.cell_of_heap hB]; rfl
      have d2 : W'.cell? ⟨bT, 2, none⟩ = some (.slice xa xx.length xc) := by rw [Lib.cell_of_heap hB]; rfl
      go_simp
      exact hK _ _ ⟨x30, _, x32, x33, x34, x35, rfl, ⟨jr.f0, fun _ => rfl, jr.f2, jr.e3, jr.f3, (fun h => Bool.noConfusion (h4.symm.trans h)), jr.e4, (fun h => Bool.noConfusion (h4.symm.trans h))⟩⟩
    · have h4 := jr.four 2 hun (by decide)
      have s_0 : S 0 = true := hall ⟨0, .data⟩ (by simp) rfl
      obtain rfl := jr.f0 s_0
      subst hv
      go_simp
      exact hK _ _ ⟨_, x31, _, x33, x34, x35, rfl, ⟨fun _ => rfl, jr.f1, fun _ => rfl, jr.e3, jr.f3, (fun h => Bool.noConfusion (h4.symm.trans h)), jr.e4, (fun h => Bool.noConfusion (h4.symm.trans h))⟩⟩
    · have h4 := jr.four 3 hun (by decide)
      obtain rfl := jr.e3 hun
      go_simp
      exact hK _ _ ⟨x30, x31, x32, _, x34, x35, rfl, ⟨jr.f0, jr.f1, jr.f2, nofun, fun _ _ => ⟨rfl, rfl⟩, (fun h => Bool.noConfusion (h4.symm.trans h)), jr.e4, (fun h => Bool.noConfusion (h4.symm.trans h))⟩⟩
    · have s_0 : S 0 = true := hall ⟨0, .data⟩ (by simp) rfl
      have s_1 : S 1 = true := hall ⟨1, .phase⟩ (by simp) rfl
      have s_2 : S 2 = true := hall ⟨2, .phase⟩ (by simp) rfl
      have s_3 : S 3 = true := hall ⟨3, .data⟩ (by simp) rfl
      obtain rfl := jr.f0 s_0
      obtain ⟨rfl, rfl⟩ := jr.f3 s_3 hun
      obtain ⟨n5, n6, n7⟩ := jr.e4 hun
      have f1 := jr.f1 s_1
      have f2 := jr.f2 s_2
      refine (if_pos (show Region.wanted _ _ = true from rfl)).mpr ?_
      refine wp_append_where (.tmp 30) (.tmp 33) 45 rfl zz 47 i0 _ 3 48 Tryz.underlying45 hi0 hz0 hz1 hz2 rfl (by decide) x30 n cl rfl (hown0.alloc _) ⟨W0.heap.size, 0, none⟩ 1 1 zero3 rfl rfl ?_ ?_ (by unfold maxLen; omega) (by omega) (by rw [World.size_alloc]; omega) (by decide) ?_
      · intro j u hj
        rw [Addr.add_lit, Lib.cell_of_heap (World.alloc_heap_new W0 _), Nat.zero_add]
        simpa using hj
      · intro u hu
        simp only [zero3, List.mem_cons, List.not_mem_nil, or_false] at hu
        rcases hu with rfl | rfl | rfl <;> rfl
      · intro v' w' k2 k3 k4 k5
        obtain ⟨g, c, rfl⟩ : ∃ g c, v' = .slice (some ⟨g, 0, none⟩) (n + 1) c := by
          rcases k2.2 with ⟨h, _⟩ | ⟨g, c, _, h, _⟩
          · exact absurd h k4
          · exact ⟨g, c, h⟩
        refine hK _ _ ⟨_, _, _, _, _, x35, rfl, ⟨fun _ => rfl, fun _ => f1, fun _ => f2, (fun h => Bool.noConfusion (s_3.symm.trans h)), nofun, fun _ => ⟨s_0, s_1, s_2, s_3⟩, nofun, fun _ => ⟨g, c, rfl, (fun h => Bool.noConfusion (n5.symm.trans h)), ?_, ?_, ?_, ?_⟩⟩⟩
        · show World.ownsRow _ _ _ _ _ _ (cl ++ if S 6 then _ else _)
          rw [n6, if_neg (by decide)]
          exact k2
        · show Bx _ _ (if S 7 then _ else _) _
          rw [n7, if_neg (by decide)]
          exact (k3.block bI (by rw [World.size_alloc]; have := hBI0.lt; omega) (bx_no hBI0 hown0)).trans ((Below.heap_alloc _ _ _ (by have := hBI0.lt; omega)).trans hBI0)
        · rcases k5 with k5 | ⟨g', e, k5⟩
          · exact .inl k5
          · cases e
            rw [World.size_alloc] at k5
            exact .inr (Nat.le_trans (Nat.le_succ _) k5)
        · exact ⟨k3.os, k3.tape, k3.output, Nat.le_trans (by rw [World.size_alloc]; omega) k3.size, fun k h1 h2 _ => (k3.block k (by rw [World.size_alloc]; omega) h2).trans (Below.heap_alloc _ _ _ (by omega))⟩
    · have s_4 : S 4 = true := hall ⟨4, .data⟩ (by simp) rfl
      have s_2 : S 2 = true := hall ⟨2, .data⟩ (by simp) rfl
      obtain rfl := jr.f2 s_2
      obtain ⟨g, c, rfl, q5, q6, q7, q8, q9⟩ := jr.f4 s_4
      have hln : (n : Int) < ((n + 1 : Nat) : Int) := by omega
      have hln2 : (n : Int) < (n : Int) + 1 := by omega
      have HX : Hid (_ ∧ _ ∧ _) := ⟨q6, q7, q9⟩
      have HJ : Hid _ := jr
      clear q6 q7 q9 jr hall
      go_simp
      obtain ⟨q6, q7, q9⟩ := HX.out
      have jr := HJ.out
      refine hK _ _ ⟨x30, x31, _, x33, _, _, rfl, ⟨jr.f0, jr.f1, fun _ => rfl, jr.e3, jr.f3, jr.g4, (fun h => Bool.noConfusion (s_4.symm.trans h)), fun _ => ⟨g, c, rfl, fun _ => rfl, q6, q7, q8, q9⟩⟩⟩
    · have s_5 : S 5 = true := hall ⟨5, .data⟩ (by simp) rfl
      have s_4 : S 4 = true := hall ⟨4, .chain⟩ (by simp) rfl
      have s_1 : S 1 = true := hall ⟨1, .data⟩ (by simp) rfl
      obtain rfl := jr.f1 s_1
      obtain ⟨g, c, rfl, q5, q6, q7, q8, q9⟩ := jr.f4 s_4
      obtain rfl := q5 s_5
      rw [hun, if_neg (by decide)] at q6
      obtain ⟨v0, hv0⟩ : ∃ v, W'.cell? ⟨g, n * 3, none⟩ = some v := by
        rw [q6.cellAt (n * 3) (by omega)]
        exact ⟨_, List.getElem?_eq_getElem (by rw [q6.1]; omega)⟩
      obtain ⟨v1, hv1⟩ : ∃ v, W'.cell? ⟨g, n * 3 + 1, none⟩ = some v := by
        rw [q6.cellAt (n * 3 + 1) (by omega)]
        exact ⟨_, List.getElem?_eq_getElem (by rw [q6.1]; omega)⟩
      obtain ⟨v2, hv2⟩ : ∃ v, W'.cell? ⟨g, n * 3 + 2, none⟩ = some v := by
        rw [q6.cellAt (n * 3 + 2) (by omega)]
        exact ⟨_, List.getElem?_eq_getElem (by rw [q6.1]; omega)⟩
      have g0 := q6.frozenAt (n * 3)
      have g1 := q6.frozenAt (n * 3 + 1)
      have g2 := q6.frozenAt (n * 3 + 2)
      have hne := bx_ne q7 q6
      have r6 := (((q6.stored (n * 3) (.bool xl)).1.stored (n * 3 + 1) (.string xt)).1.stored (n * 3 + 2) (.slice xa xx.length xc)).1
      rw [show ((((cl ++ zero3).set (n * 3) (.bool xl)).set (n * 3 + 1) (.string xt)).set (n * 3 + 2) (.slice xa xx.length xc)) = cl ++ cell3 (.mk xl xt xa xc xx) from set3 cl n hcl (.mk xl xt xa xc xx)] at r6
      have r7 := ((q7.other (fun e => hne e.symm) (n * 3) (.bool xl)).other (fun e => hne e.symm) (n * 3 + 1) (.string xt)).other (fun e => hne e.symm) (n * 3 + 2) (.slice xa xx.length xc)
      have hp : ∀ o, some (⟨g, o, none⟩ : Addr).block = v.ownBlock ∨ W0.heap.size ≤ (⟨g, o, none⟩ : Addr).block ∨ (⟨g, o, none⟩ : Addr).block = bI := fun o => by
        rcases q8 with h | h
        · exact .inl h
        · exact .inr (.inl h)
      have r9 := ((q9.set ⟨g, n * 3, none⟩ (.bool xl) (hp _)).set ⟨g, n * 3 + 1, none⟩ (.string xt) (hp _)).set ⟨g, n * 3 + 2, none⟩ (.slice xa xx.length xc) (hp _)
      have HX : Hid (_ ∧ _ ∧ _ ∧ _ ∧ _ ∧ _) := ⟨r6, r7, r9, jr.g4 s_4, jr.f0, jr.f2⟩
      clear r6 r7 r9 q6 q7 q9 jr hall
      dsimp only [Im.val, Im.l, Im.t, Im.sl, Im.a, Im.xs, Im.c]
      go_simp
      obtain ⟨r6, r7, r9, jg, j0, j2⟩ := HX.out
      exact hK _ _ ⟨x30, _, x32, x33, _, _, rfl, ⟨j0, fun _ => rfl, j2, (fun h => Bool.noConfusion (jg.2.2.2.symm.trans h)), (fun _ h => Bool.noConfusion (s_4.symm.trans h)), fun _ => jg, (fun h => Bool.noConfusion (s_4.symm.trans h)), fun _ => ⟨g, c, rfl, fun _ => rfl, r6, r7, q8, r9⟩⟩⟩
    · have s_4 : S 4 = true := hall ⟨4, .data⟩ (by simp) rfl
      obtain ⟨g, c, rfl, q5, q6, q7, q8, q9⟩ := jr.f4 s_4
      rw [hun, if_neg (by decide)] at q7
      have hne := bx_ne q7 q6
      have cB := q7.cell
      have fB := q7.fr
      have r6 : (W'.setCell ⟨bI, 0, none⟩ (.slice (some ⟨g, 0, none⟩) (n + 1) c)).ownsRow zz 47 3 (.slice (some ⟨g, 0, none⟩) (n + 1) c) (n + 1) (cl ++ if S 6 then cell3 (.mk xl xt xa xc xx) else zero3) :=
        q6.kept (row := some bI) ⟨rfl, rfl, rfl, by simp [World.setCell], fun k _ hk => Below.heap_setCell _ _ _ _ (fun e => hk (by simp [e]))⟩ (Or.inr (fun e => hne (by injection e)))
      have r7 := q7.put (.slice (some ⟨g, 0, none⟩) (n + 1) c)
      have r9 := q9.set ⟨bI, 0, none⟩ (.slice (some ⟨g, 0, none⟩) (n + 1) c) (.inr (.inr rfl))
      have HX : Hid (_ ∧ _ ∧ _ ∧ _ ∧ _ ∧ _ ∧ _) := ⟨r6, r7, r9, jr.g4 s_4, jr.f0, jr.f1, jr.f2⟩
      clear r6 r7 r9 q6 q7 q9 jr hall
      go_simp
      obtain ⟨r6, r7, r9, jg, j0, j1, j2⟩ := HX.out
      exact hK _ _ ⟨x30, x31, x32, x33, _, x35, rfl, ⟨j0, j1, j2, (fun h => Bool.noConfusion (jg.2.2.2.symm.trans h)), (fun _ h => Bool.noConfusion (s_4.symm.trans h)), fun _ => jg, (fun h => Bool.noConfusion (s_4.symm.trans h)), fun _ => ⟨g, c, rfl, q5, r6, r7, q8, r9⟩⟩⟩
  · rintro S aa w4 hall ⟨x30, x31, x32, x33, x34, x35, rfl, jr⟩
    obtain ⟨g, c, -, -, h1, h2, h3, h4⟩ := jr.f4 (hall 4 (by decide))
    rw [hall 6 (by decide), if_pos rfl] at h1
    rw [hall 7 (by decide), if_pos rfl] at h2
    refine hQ _ _ g c h2 h1 (by rw [hs0]; exact h3) ⟨?_, ?_, ?_, by rw [hs0]; exact h4.size, fun k k1 k2 k3 => ?_⟩
    · rw [h4.os, ← hW0]; rfl
    · rw [h4.tape, ← hW0]; rfl
    · rw [h4.output, ← hW0]; rfl
    · rw [h4.block k (by rw [← hs0]; exact k1) k2 k3, ← hW0]; rfl
end Go.Proofs.YtbpcciifaekffaaGreatDoor
namespace Go.Proofs.YtbpcciifaekffaaGreatDoor
open Go.RowKit Go.Shelf Go.Sort

/-- Pairs as entries: their keys as paths. -/
def ents (es : List Pr) : List Pr := es.map fun e => (ofOf e.1, e.2)
theorem ents_at {es : List Pr} {j : Nat} {e : Pr} (h : es[j]? = some e) : (ents es)[j]? = some (ofOf e.1, e.2) := by
  unfold ents
  rw [List.getElem?_map, h]
  rfl
theorem ents_len (es : List Pr) : (ents es).length = es.length := by unfold ents; rw [List.length_map]
theorem info_entry : (Tryz.prog.info? 108).map (fun i => (i.zero, i.size, i.bytes)) = some (some (.agg #[.string ⟨#[]⟩, .string ⟨#[]⟩]), 2, 32) := by kernel_rfl
/-- The entries that a row holds, from its front. -/
def HeldE (cl : List Value) (es : List Pr) : Prop := ∀ (j : Nat) (e : Pr), es[j]? = some e → cl[2 * j]? = some (.string e.1) ∧ cl[2 * j + 1]? = some (.string e.2)
theorem HeldE.snoc {cl : List Value} {es : List Pr} (h : HeldE cl es) (e : Pr) (hl : 2 * es.length + 1 < cl.length) : HeldE ((cl.set (2 * es.length) (.string e.1)).set (2 * es.length + 1) (.string e.2)) (es ++ [e]) := by
  intro j x hx
  by_cases hj : j < es.length
  · rw [List.getElem?_append_left hj] at hx
    obtain ⟨h1, h2⟩ := h j x hx
    rw [List.getElem?_set_ne (by omega), List.getElem?_set_ne (by omega), List.getElem?_set_ne (by omega), List.getElem?_set_ne (by omega)]
    exact ⟨h1, h2⟩
  · have hjl := (List.getElem?_eq_some_iff.1 hx).1
    rw [List.length_append] at hjl
    have hj2 : j = es.length := by simp at hjl; omega
    subst hj2
    simp at hx
    subst hx
    refine ⟨?_, ?_⟩
    · rw [List.getElem?_set_ne (by omega), List.getElem?_set_self (by omega)]
    · rw [List.getElem?_set_self (by rw [List.length_set]; omega)]

set_option maxRecDepth 20000 in
set_option maxHeartbeats 2000000 in
theorem entriesOf_any (es : List Pr) (h0 : 0 < es.length) (hl : es.length ≤ 200) (hk : ∀ (j : Nat) (e : Pr), es[j]? = some e → e.1.size ≤ 64) (a : Option Addr) (c n : Nat) (w : World) (hn : n ≤ w.heap.size) (hp : slP n w a es) :
    Calls Tryz.prog 40 #[.slice a es.length c] w fun r w' => Below w.heap.size w w' ∧ r = .returned (.slice (some ⟨w.heap.size, 0, none⟩) es.length es.length) ∧ w.heap.size < w'.heap.size ∧ prs w' w.heap.size 0 (ents es) := by
  obtain ⟨i0, hi0, hz0, hz1, hz2⟩ := info_parts info_entry
  obtain ⟨N, hN⟩ : ∃ N, es.length = N := ⟨_, rfl⟩
  have HN : Hid (es.length = N) := hN
  rw [hN] at h0 hl ⊢
  clear hN
  go_enter Tryz.func40, Tryz.ntmps40
  go_wp2_with (at_make; refine wpList_make_full _ rfl _ _ 68 rfl w.heap.size 108 i0 _ 2 Tryz.underlying68 hi0 hz0 hz1 .i64 .i64 _ _ N rfl rfl rfl rfl (by rw [hz2]; omega) (by unfold maxLen; omega) (Nat.le_refl _) ?_; intro w1 hown hgr)
  obtain ⟨z, hz⟩ : ∃ z, w.heap.size = z := ⟨_, rfl⟩
  have B1 : Below z w w1 := hz ▸ (Below.refl _ w).grown hgr (Nat.le_refl _) (fun _ e => by cases e)
  have HZ : Hid (w.heap.size = z) := hz
  have hzw : z < w1.heap.size := by
    rcases hown.2 with ⟨h, _⟩ | ⟨g, _, _, h, _, h2, _⟩
    · cases h
    · cases h
      rw [← hz]
      exact (Array.getElem?_eq_some_iff.1 h2).1
  rw [hz] at hown hn ⊢
  clear hz
  go_loopg [11] N (fun gk i wr => ∃ (k : Nat) (cl : List Value), k + gk = N ∧ i = .int .i64 k ∧ wr.ownsRow z 108 2 (.slice (some ⟨z, 0, none⟩) N N) N cl ∧ HeldE cl (ents (es.take k)) ∧ Below z w wr)
  case atStart => exact ⟨0, _, by omega, rfl, hown, (fun j y h => by cases h), B1⟩
  case round =>
    obtain ⟨k, cl, hkk, rfl, hownr, hheld, BW⟩ := hrel
    have hzr : z < wr.heap.size := (hownr.lt z rfl).2
    by_cases hlt : k < N
    · have l1 : (k : Int) < N := by omega
      obtain ⟨f, hf⟩ : ∃ f, es[k]? = some f := ⟨es[k]'(by have := HN.out; omega), List.getElem?_eq_getElem (by have := HN.out; omega)⟩
      obtain ⟨b, o, rfl, hb, c0, c1⟩ := slP_at hp k f hf
      have hbz : b < z := by omega
      replace c0 := (BW.cell (p := ⟨b, _, none⟩) hbz).trans c0
      replace c1 := (BW.cell (p := ⟨b, _, none⟩) hbz).trans c1
      obtain ⟨r, hr⟩ : ∃ p, o + 2 * k = p := ⟨_, rfl⟩
      rw [hr] at c0 c1
      have hr2 : o + k * 2 = r := by omega
      have wk : IntKind.i64.wrap ((k : Int) + 1) = ((k + 1 : Nat) : Int) := by rw [IntKind.wrap_i64]; omega
      have hk64 := hk k f hf
      have KO := fun w => of_any f.1 (by omega) w
      have hstep : HeldE ((cl.set (2 * k) (.string (ofOf f.1))).set (2 * k + 1) (.string f.2)) (ents (es.take (k + 1))) := by
        have hl2 : (ents (es.take k)).length = k := by rw [ents_len, List.length_take]; have := HN.out; omega
        have hcl := hownr.1
        have := hheld.snoc (ofOf f.1, f.2) (by rw [hl2, hcl]; omega)
        rw [hl2] at this
        rw [List.take_add_one, hf]
        show HeldE _ (List.map _ (es.take k ++ [f]))
        rw [List.map_append]
        exact this
      have A1 : Below wr.heap.size wr (wr.alloc (.cells #[.string f.1, .string f.2] 40)) := (Below.refl _ wr).alloc (Nat.le_refl _) _
      have hP1 : PrIn wr.heap.size f (wr.alloc (.cells #[.string f.1, .string f.2] 40)) := World.alloc_heap_new wr _
      have hown1 := owns_below hownr A1
      obtain ⟨p, hpp⟩ : ∃ q, ofOf f.1 = q := ⟨_, rfl⟩
      rw [hpp] at KO hstep
      have HX : Hid (_ ∧ _ ∧ _ ∧ _ ∧ _) := ⟨A1, hP1, hown1, hstep, BW⟩
      clear hpp hf hk64 A1 hP1 hown1 hstep hheld hownr BW
      obtain ⟨fk, fv⟩ := f
      dsimp only at c0 c1 KO
      go_wp2_with fail
      obtain ⟨A1, hP1, hown1, hstep, BW⟩ := HX.out
      refine wpOf (fun W => Below wr.heap.size wr W ∧ PrIn wr.heap.size (fk, fv) W ∧ W.ownsRow z 108 2 (.slice (some ⟨z, 0, none⟩) N N) N cl) ⟨A1, hP1, hown1⟩ ?_
      rintro w4 ⟨B4, hP4, hown4⟩
      clear A1 hP1 hown1 HX c0 c1
      have hPl : wr.heap.size < w4.heap.size := (Array.getElem?_eq_some_iff.1 hP4).1
      have q0 : ∀ d os, (grow (redrawn w4 d) os).cell? ⟨wr.heap.size, 0, none⟩ = some (.string fk) := fun d os => ((below_regrown w4 d os).cell (p := ⟨wr.heap.size, 0, none⟩) hPl).trans (by rw [Lib.cell_of_heap hP4]; rfl)
      have q1 : ∀ d os, (grow (redrawn w4 d) os).cell? ⟨wr.heap.size, 1, none⟩ = some (.string fv) := fun d os => ((below_regrown w4 d os).cell (p := ⟨wr.heap.size, 1, none⟩) hPl).trans (by rw [Lib.cell_of_heap hP4]; rfl)
      have cO : ∀ d os, Calls Tryz.prog 29 #[.string fk] (grow (redrawn w4 d) os) fun e w'' => e = .returned (.string p) ∧ ∃ p : Regrown, w'' = grow (redrawn w4 p.d) p.os := fun d os => Calls.regrown_of (KO _)
      refine region_tail 8 (by kernel_rfl) (by kernel_rfl) ?_
      simp only [List.take_succ_cons, List.take_zero, List.drop_succ_cons, List.drop_zero]
      iterate 4 (quiet_step (fail))
      quiet_step (exact cO _ _)
      iterate 3 (quiet_step (fail))
      refine wpQuiet_nil ?_
      intro w8 hw8
      have B8 : Below w4.heap.size w4 w8 := by
        obtain ⟨p, rfl⟩ := hw8
        exact below_regrown _ _ _
      have hown8 := owns_below hown4 B8
      have BW8 := BW.trans ((belowStep B4 B4.size B8).mono (by omega))
      clear hw8 q0 q1 cO KO B8 B4 hown4 hP4 BW
      obtain ⟨v0, hv0⟩ : ∃ v, w8.cell? ⟨z, k * 2, none⟩ = some v := by
        rw [hown8.cellAt (k * 2) (by omega)]
        exact ⟨_, List.getElem?_eq_getElem (by rw [hown8.1]; omega)⟩
      obtain ⟨v1, hv1⟩ : ∃ v, w8.cell? ⟨z, k * 2 + 1, none⟩ = some v := by
        rw [hown8.cellAt (k * 2 + 1) (by omega)]
        exact ⟨_, List.getElem?_eq_getElem (by rw [hown8.1]; omega)⟩
      have g0 := hown8.frozenAt (k * 2)
      have g1 := hown8.frozenAt (k * 2 + 1)
      have hown9 := ((hown8.stored (k * 2) (.string p)).1.stored (k * 2 + 1) (.string fv)).1
      rw [show k * 2 = 2 * k by omega] at hown9
      have HY : Hid (_ ∧ _ ∧ _) := ⟨hown9, hstep, BW8⟩
      clear hown8 hown9 hstep BW8
      go_wp2
      go_roundg (gk - 1)
      case measure => omega
      case rel =>
        obtain ⟨hown9, hstep, BW8⟩ := HY.out
        refine ⟨k + 1, _, by omega, by first | rfl | (congr 1; omega), ?_, hstep, below_set (below_set BW8 z _ (Nat.le_refl _) _) z _ (Nat.le_refl _) _⟩
        rw [show k * 2 = 2 * k by omega]
        exact hown9
    · have l1 : ¬ (k : Int) < N := by omega
      have hk2 : k = N := by omega
      have HX : Hid (_ ∧ _ ∧ _) := ⟨hownr, hheld, BW⟩
      clear hownr hheld BW
      go_wp2
      go_ret
      obtain ⟨hownr, hheld, BW⟩ := HX.out
      refine ⟨by rw [HZ.out]; exact BW, by rw [HZ.out]; rfl, by rw [HZ.out]; exact hzr, fun j e he => ?_⟩
      rw [hk2, ← HN.out, List.take_length] at hheld
      have hj := (List.getElem?_eq_some_iff.1 he).1
      rw [ents_len, HN.out] at hj
      obtain ⟨p1, p2⟩ := hheld j e he
      rw [HZ.out]
      refine ⟨?_, ?_⟩
      · rw [Nat.zero_add, hownr.cellAt _ (by omega)]; exact p1
      · rw [Nat.zero_add, hownr.cellAt _ (by omega)]; exact p2
end Go.Proofs.YtbpcciifaekffaaGreatDoor
namespace Go.Proofs.YtbpcciifaekffaaGreatDoor
open Go.RowKit Go.Shelf Go.Sort
attribute [local go_sem] Oper.semAt_some

def comb (g : Nat × ByteArray → Option It) : List (Nat × ByteArray) → Option (List It)
  | [] => some []
  | e :: r => match g e, comb g r with
    | some x, some l => some (x :: l)
    | _, _ => none
theorem comb_some {g : Nat × ByteArray → Option It} : ∀ (l : List (Nat × ByteArray)) (its : List It), l.map g = its.map some → comb g l = some its
  | [], [], _ => rfl
  | [], _ :: _, h => by cases h
  | _ :: _, [], h => by cases h
  | e :: r, x :: l, h => by
    injection h with h1 h2
    show (match g e, comb g r with | some x, some l => some (x :: l) | _, _ => none) = _
    rw [h1, comb_some r l h2]
theorem comb_none {g : Nat × ByteArray → Option It} : ∀ (l : List (Nat × ByteArray)) (e : Nat × ByteArray), e ∈ l → g e = none → comb g l = none
  | a :: r, e, h, hn => by
    show (match g a, comb g r with | some x, some l => some (x :: l) | _, _ => none) = _
    rcases List.mem_cons.1 h with rfl | h
    · rw [hn]
    · rw [comb_none r e h hn]
      cases g a <;> rfl
/-- The items that bytes are, read no deeper than so often. -/
def decF : Nat → ByteArray → Option (List It)
  | 0, _ => some []
  | f + 1, s => comb (fun e => if e.1 = 1 then some (.mk false e.2 []) else if e.1 = 2 then (decF f e.2).map (It.mk true ⟨#[]⟩) else none) (ps s)
def one (f : Nat) (e : Nat × ByteArray) : Option It := if e.1 = 1 then some (.mk false e.2 []) else if e.1 = 2 then (decF f e.2).map (It.mk true ⟨#[]⟩) else none

/-- A block of cells. -/
def isC (W : World) (b : Nat) : Prop := ∃ c e fz, W.heap[b]? = some (.cells c e fz)
theorem isC_of {W : World} {b k : Nat} {v : Value} (h : W.cell? ⟨b, k, none⟩ = some v) : isC W b := by
  unfold World.cell? at h
  dsimp only at h
  split at h
  · rename_i c e fz hb
    exact ⟨c, e, fz, hb⟩
  · cases h
mutual
theorem inP_cells {p : Nat → Prop} {W : World} : ∀ x, inP p W x → inP (fun b => p b ∧ isC W b) W x
  | .mk _ _ a _ xs, h => rowP_cells a 0 xs h
theorem rowP_cells {p : Nat → Prop} {W : World} (a : Option Addr) : ∀ i xs, rowP p W a i xs → rowP (fun b => p b ∧ isC W b) W a i xs
  | _, [], _ => trivial
  | i, x :: r, ⟨⟨b, o, h0, h1, h2, h3, h4⟩, h5, h6⟩ => ⟨⟨b, o, ⟨h0, isC_of h2⟩, h1, h2, h3, h4⟩, inP_cells x h5, rowP_cells a (i + 1) r h6⟩
end
theorem Held.app {cl : List Value} {ys : List Im} (h : Held cl ys) (X : Im) (hl : cl.length = ys.length * 3) : Held (cl ++ cell3 X) (ys ++ [X]) := by
  intro j x hx
  by_cases hj : j < ys.length
  · rw [List.getElem?_append_left hj] at hx
    obtain ⟨h0, h1, h2⟩ := h j x hx
    rw [List.getElem?_append_left (by omega), List.getElem?_append_left (by omega), List.getElem?_append_left (by omega)]
    exact ⟨h0, h1, h2⟩
  · have hj2 : j = ys.length := by
      have := (List.getElem?_eq_some_iff.1 hx).1
      simp at this
      omega
    subst hj2
    simp at hx
    subst hx
    rw [List.getElem?_append_right (by omega), List.getElem?_append_right (by omega), List.getElem?_append_right (by omega), show 3 * ys.length - cl.length = 0 by omega, show 3 * ys.length + 1 - cl.length = 1 by omega, show 3 * ys.length + 2 - cl.length = 2 by omega]
    exact ⟨rfl, rfl, rfl⟩
theorem rowP_owned {W : World} {zz c : Nat} {ao : Option Addr} {cl : List Value} {ys : List Im} {p q : Nat → Prop} (hown : W.ownsRow zz 47 3 (.slice ao ys.length c) ys.length cl) (hheld : Held cl ys) (hin : ∀ y, y ∈ ys → inP p W y) (hpq : ∀ b, p b → q b) (hq : ∀ g, ao = some ⟨g, 0, none⟩ → q g) : rowP q W ao 0 ys := by
  rcases hown.2 with ⟨h, h0⟩ | ⟨g, cap, cur, h, _, hg, _⟩
  · have : ys = [] := List.length_eq_zero_iff.1 h0
    subst this
    exact trivial
  · injection h with h1 h2 h3
    subst h1 h3
    have key : ∀ (r : List Im) (i : Nat), ys.drop i = r → rowP q W (some ⟨g, 0, none⟩) i r := by
      intro r
      induction r with
      | nil => intro i _; trivial
      | cons y r ih =>
        intro i hi
        have hyi : ys[i]? = some y := by
          have := congrArg (·[0]?) hi
          simpa using this
        have hil := (List.getElem?_eq_some_iff.1 hyi).1
        obtain ⟨e0, e1, e2⟩ := hheld i y hyi
        refine ⟨⟨g, 0, hq g rfl, rfl, ?_, ?_, ?_⟩, ?_, ih (i + 1) ?_⟩
        · rw [show 0 + 3 * i = 3 * i by omega, hown.cellAt _ (by omega)]; exact e0
        · rw [show 0 + 3 * i + 1 = 3 * i + 1 by omega, hown.cellAt _ (by omega)]; exact e1
        · rw [show 0 + 3 * i + 2 = 3 * i + 2 by omega, hown.cellAt _ (by omega)]; exact e2
        · exact inP_of (fun b hb => ⟨hpq b hb, fun _ => rfl⟩) y (hin y (List.mem_of_getElem? hyi))
        · rw [← List.drop_drop, hi]
          rfl
    exact key ys 0 rfl
theorem Rl.keeps {W W' : World} {v u : Value} {bI zz n : Nat} {cl : List Value} (h : Rl W W' v bI) (hB : Bx bI 45 u W) (hown : W.ownsRow zz 47 3 v n cl) (B : Nat) : KeepsFrom B W W' :=
  ⟨h.size, fun k o _ hk ho => (h.block k (Array.getElem?_eq_some_iff.1 hk).1 (fun e => by
    obtain ⟨c, hc⟩ := owns_kind3 hown k e.symm
    rw [hk] at hc
    cases hc
    cases ho) (fun e => by
    rw [e, show W.heap[bI]? = _ from hB] at hk
    cases hk
    cases ho)).trans hk⟩
theorem Rl.below {W W' : World} {v : Value} {bI zz n B : Nat} {cl : List Value} (h : Rl W W' v bI) (hown : W.ownsRow zz 47 3 v n cl) (hz : B ≤ zz) (hb : B ≤ bI) (hB : B ≤ W.heap.size) : Below B W W' :=
  ⟨h.os, h.tape, h.output, h.size, fun k hk => h.block k (by omega) (fun e => by have := (hown.lt k e.symm).1; omega) (by omega)⟩
/-- The state of a round: the items so far, and that all is well. -/
def DSt {s : ByteArray} (f z bO : Nat) (w : World) (pre : List (Pe s)) (W : World) : Prop :=
  ∃ v cl ys, Bx z 45 v W ∧ Bx bO 4 (.bool true) W ∧ W.ownsRow z 47 3 v ys.length cl ∧ Held cl ys ∧ (pre.map (·.1)).map (one f) = (ers ys).map some ∧ (∀ y, y ∈ ys → inP (fun b => bO < b ∧ b < W.heap.size ∧ some b ≠ v.ownBlock) W y) ∧ Below z w W
theorem owns_own3 {A C : World} {b n : Nat} {v : Value} {xs : List Value} {row : Option Nat} (h : A.ownsRow b 47 3 v n xs) (hg : A.grownBy C row) (hr : ∀ r, row = some r → ∃ o : Obj, A.heap[r]? = some o ∧ o.isCells = false) : C.ownsRow b 47 3 v n xs := by
  refine h.kept hg ?_
  cases e' : v.ownBlock with
  | none => exact .inl rfl
  | some k =>
    obtain ⟨c, hk⟩ := owns_kind3 h k e'
    refine .inr fun e2 => ?_
    obtain ⟨o, ho, hc⟩ := hr k e2.symm
    rw [hk] at ho
    cases ho
    cases hc
theorem DSt.own {s : ByteArray} {f z bO : Nat} {w A C : World} {pre : List (Pe s)} {row : Option Nat} (h : DSt f z bO w pre A) (hg : A.grownBy C row) (hr : ∀ r, row = some r → z ≤ r ∧ ∃ o : Obj, A.heap[r]? = some o ∧ o.isCells = false) : DSt f z bO w pre C := by
  obtain ⟨v, cl, ys, h1, h2, h3, h4, h5, h6, h7⟩ := h
  have hl := h1.lt
  refine ⟨v, cl, ys, h1.own hg (fun r e => (hr r e).2), h2.own hg (fun r e => (hr r e).2), owns_own3 h3 hg (fun r e => (hr r e).2), h4, h5, fun y hy => ?_, h7.grown hg (by omega) (fun k e => (hr k e).1)⟩
  refine inP_of (fun b hb => ?_) y (inP_cells y (h6 y hy))
  obtain ⟨⟨b1, b2, b3⟩, c, e, fz, hb⟩ := hb
  have := hg.size
  refine ⟨⟨b1, by omega, b3⟩, fun k => World.cell?_of_block (w := A) (hg.block b b2 (fun e2 => ?_))⟩
  obtain ⟨_, o, ho, hc⟩ := hr b e2.symm
  rw [hb] at ho
  cases ho
  cases hc

theorem bx_same {W : World} {b : Nat} {T : TypeId} {u : Value} (h : Bx b T u W) (k : Nat) : (W.setCell ⟨b, 0, none⟩ u).heap[k]? = W.heap[k]? := by
  by_cases e : k = b
  · subst e
    exact (show (W.setCell ⟨k, 0, none⟩ u).heap[k]? = _ from h.put u).trans (show W.heap[k]? = _ from h).symm
  · exact Below.heap_setCell _ _ _ _ e
theorem below_same {B : Nat} {A W : World} {b : Nat} {T : TypeId} {u : Value} (hA : Below B A W) (h : Bx b T u W) : Below B A (W.setCell ⟨b, 0, none⟩ u) :=
  ⟨hA.os, hA.tape, hA.output, by have := hA.size; simp [World.setCell]; omega, fun k hk => (bx_same h k).trans (hA.block k hk)⟩
theorem dst_snoc {s : ByteArray} {f z bO : Nat} {w W W7 Wf : World} {pre : List (Pe s)} {x : Pe s} {v : Value} {cl : List Value} {ys : List Im} {X : Im} {g c : Nat} (hzO : z < bO)
    (hOd : Bx bO 4 (.bool true) W) (hownd : W.ownsRow z 47 3 v ys.length cl) (hheld : Held cl ys) (hone : (pre.map (·.1)).map (one f) = (ers ys).map some) (hin : ∀ y, y ∈ ys → inP (fun b => bO < b ∧ b < W.heap.size ∧ some b ≠ v.ownBlock) W y) (BWd : Below z w W)
    (hb : Below W.heap.size W W7) (hX : inP (fun b => W.heap.size ≤ b ∧ b < W7.heap.size) W7 X) (hx : one f x.1 = some (er X))
    (h1 : Bx z 45 (.slice (some ⟨g, 0, none⟩) (ys.length + 1) c) Wf) (h2 : Wf.ownsRow z 47 3 (.slice (some ⟨g, 0, none⟩) (ys.length + 1) c) (ys.length + 1) (cl ++ cell3 X)) (h3 : some g = v.ownBlock ∨ W7.heap.size ≤ g) (h4 : Rl W7 Wf v z) : DSt f z bO w (pre ++ [x]) Wf := by
  have hOw := hOd.lt
  have hs7 := hb.size
  have hs8 := h4.size
  have hvl : ∀ k, some k = v.ownBlock → k < W.heap.size := fun k e => (hownd.lt k e.symm).2
  have hOv : some bO ≠ v.ownBlock := fun e => by
    obtain ⟨c', hk⟩ := owns_kind3 hownd bO e.symm
    rw [show W.heap[bO]? = _ from hOd] at hk
    cases hk
  refine ⟨_, _, ys ++ [X], h1, ?_, ?_, hheld.app X (by rw [hownd.1]), ?_, ?_, ?_⟩
  · exact (h4.block bO (by omega) hOv (by omega)).trans ((hb.block bO hOw).trans hOd)
  · rw [List.length_append]
    exact h2
  · rw [List.map_append, List.map_append, hone, ers_map, ers_map, List.map_append, List.map_append]
    show _ ++ [one f x.1] = _ ++ [some (er X)]
    rw [hx]
  · intro y hy
    rcases List.mem_append.1 hy with h | h
    · refine inP_of ?_ y (hin y h)
      intro b hb'
      obtain ⟨c1, c2, c3⟩ := hb'
      refine ⟨⟨c1, by omega, ?_⟩, ?_⟩
      · intro e
        injection e with e
        have e' : b = g := e
        rcases h3 with h3 | h3
        · exact c3 (by rw [e']; exact h3)
        · omega
      · intro k
        exact (World.cell?_of_block (w := W7) (a := ⟨b, k, none⟩) (h4.block b (by omega) c3 (by omega))).trans (hb.cell (p := ⟨b, k, none⟩) c2)
    · simp at h
      subst h
      refine inP_of ?_ y hX
      intro b hb'
      obtain ⟨c1, c2⟩ := hb'
      refine ⟨⟨by omega, by omega, ?_⟩, ?_⟩
      · intro e
        injection e with e
        have e' : b = g := e
        rcases h3 with h3 | h3
        · have := hvl g h3
          omega
        · omega
      · intro k
        exact World.cell?_of_block (w := W7) (a := ⟨b, k, none⟩) (h4.block b c2 (fun e => by have := hvl b e; omega) (by omega))
  · exact BWd.trans ((hb.mono (by omega)).trans (h4.below (n := ys.length) (cl := cl) (owns_below hownd hb) (Nat.le_refl _) (Nat.le_refl _) (by omega)))
theorem ItIn.set1 {b : Nat} {l : Bool} {t t' : ByteArray} {a : Option Addr} {c : Nat} {xs : List Im} {W : World} (h : ItIn b (.mk l t a c xs) W) : ItIn b (.mk l t' a c xs) (W.setCell ⟨b, 1, none⟩ (.string t')) := heap_setCell_same W b 1 _ _ _ h
theorem ItIn.set0 {b : Nat} {l l' : Bool} {t : ByteArray} {a : Option Addr} {c : Nat} {xs : List Im} {W : World} (h : ItIn b (.mk l t a c xs) W) : ItIn b (.mk l' t a c xs) (W.setCell ⟨b, 0, none⟩ (.bool l')) := heap_setCell_same W b 0 _ _ _ h
theorem ItIn.set2 {b : Nat} {l : Bool} {t : ByteArray} {a a' : Option Addr} {c c' : Nat} {xs xs' : List Im} {W : World} (h : ItIn b (.mk l t a c xs) W) : ItIn b (.mk l t a' c' xs') (W.setCell ⟨b, 2, none⟩ (.slice a' xs'.length c')) := heap_setCell_same W b 2 _ _ _ h
def DStop {s : ByteArray} (f z bO : Nat) (w : World) (c : Code) (pre : List (Pe s)) (W : World) : Prop := c = Code.exit 0 ∧ Bx bO 4 (.bool false) W ∧ Below z w W ∧ ∃ e, e ∈ pre.map (·.1) ∧ one f e = none

end Go.Proofs.YtbpcciifaekffaaGreatDoor
namespace Go.Proofs.YtbpcciifaekffaaGreatDoor
open Go.RowKit Go.Shelf Go.Sort

theorem ps_mem : ∀ (N : Nat) (s : ByteArray), s.size ≤ N → ∀ e, e ∈ ps s → e.2.size ≤ s.size ∧ (e.1 = 2 → e.2.size < s.size)
  | N, s, h, e, he => by
    rw [ps_eq] at he
    split at he
    · cases he
    · split at he
      · simp at he
        subst he
        exact ⟨Nat.zero_le _, fun h => by cases h⟩
      · rename_i h0 h1
        have h2 := cutK_lt s (by omega) h1
        rcases List.mem_cons.1 he with he | he
        · obtain ⟨q1, q2, q3⟩ := h2
          generalize (cutK s).1 = a1 at *
          generalize (cutK s).2.1 = a2 at *
          subst he
          exact ⟨q1, q2⟩
        · match N, h with
          | 0, h => omega
          | N + 1, h =>
            have := ps_mem N (cutK s).2.2 (by omega) e he
            exact ⟨by omega, fun h => by have := this.2 h; omega⟩

def zeroI : Im := .mk false ⟨#[]⟩ none 0 []
/-- What Decode answers. -/
def DecR (s : ByteArray) (x : Im) (e : Int) : Prop :=
  (65536 < s.size ∧ e = 42 ∧ x = zeroI) ∨ (s.size ≤ 65536 ∧ (∀ y, decF 65537 s ≠ some [y]) ∧ e = 40 ∧ x = zeroI) ∨
    (s.size ≤ 65536 ∧ ∃ y : Im, decF 65537 s = some [er y] ∧ ((deep y = true ∧ e = 41 ∧ x = zeroI) ∨ (deep y = false ∧ e = 0 ∧ x = y)))

end Go.Proofs.YtbpcciifaekffaaGreatDoor
namespace Go.Proofs.YtbpcciifaekffaaGreatDoor
open Go.RowKit Go.Shelf Go.Sort

theorem num_size (n : Nat) : (numOf n).size = blen n := by8_size _ _
theorem num_at (n j : Nat) (h : j < blen n) : bt (numOf n) j = nAt n (blen n) j := bt_by8 _ _ (nAt_bd n _) j h
theorem num_8 (n : Nat) (hn : n < 18446744073709551616) : blen n ≤ 8 := blen_le n 8 hn
theorem blen_zero (n : Nat) : blen n = 0 ↔ n = 0 := by
  constructor
  · intro h
    by_cases h0 : n = 0
    · exact h0
    · rw [blen_pos n h0] at h
      cases h
  · intro h
    rw [h, blen_0]
theorem num_first (n : Nat) (h : 0 < blen n) : bt (numOf n) 0 ≠ 0 := by
  rw [num_at n 0 h]
  unfold nAt
  rw [Nat.sub_zero]
  have h1 := (div_pos n (blen n - 1)).2 (by omega)
  have h2 : ¬ 0 < n / 256 ^ blen n := fun h2 => by have := (div_pos n (blen n)).1 h2; omega
  have h3 : n / 256 ^ (blen n - 1) / 256 = n / 256 ^ blen n := by
    rw [Nat.div_div_eq_div_mul, ← Nat.pow_succ, show (blen n - 1).succ = blen n by omega]
  obtain ⟨q, hq⟩ : ∃ q, n / 256 ^ (blen n - 1) = q := ⟨_, rfl⟩
  rw [hq] at h1 h3 ⊢
  omega
theorem num_good (n : Nat) (hn : n < 18446744073709551616) : vGood (numOf n) = true := by
  unfold vGood
  rw [num_size, decide_eq_true (num_8 n hn), Bool.true_and]
  by_cases h : blen n = 0
  · rw [decide_eq_true h]; rfl
  · rw [decide_eq_true (num_first n (by omega)), Bool.or_true]
theorem num_val (n : Nat) : ∀ k, k ≤ blen n → val (numOf n) k = n / 256 ^ (blen n - k)
  | 0, _ => by
    show 0 = _
    have h2 : ¬ 0 < n / 256 ^ blen n := fun h2 => by have := (div_pos n (blen n)).1 h2; omega
    rw [Nat.sub_zero]
    obtain ⟨q, hq⟩ : ∃ q, n / 256 ^ blen n = q := ⟨_, rfl⟩
    rw [hq] at h2 ⊢
    omega
  | k + 1, h => by
    show val (numOf n) k * 256 + (bt (numOf n) k).toNat = _
    rw [num_val n k (by omega), num_at n k (by omega)]
    unfold nAt
    rw [show blen n - 1 - k = blen n - (k + 1) by omega, Int.toNat_natCast]
    have h3 : n / 256 ^ (blen n - (k + 1)) / 256 = n / 256 ^ (blen n - k) := by
      rw [Nat.div_div_eq_div_mul, ← Nat.pow_succ, show (blen n - (k + 1)).succ = blen n - k by omega]
    rw [← h3]
    omega
theorem num_back (n : Nat) (hn : n < 18446744073709551616) : vN (numOf n) = n ∧ vE (numOf n) = 0 := by
  unfold vN vE
  rw [num_good n hn, if_pos rfl, if_pos rfl, num_size, num_val n _ (Nat.le_refl _), Nat.sub_self, Nat.pow_zero, Nat.div_one]
  exact ⟨rfl, rfl⟩
theorem num_inj (n m : Nat) (hn : n < 18446744073709551616) (hm : m < 18446744073709551616) (h : numOf n = numOf m) : n = m := by
  rw [← (num_back n hn).1, h, (num_back m hm).1]
theorem blen_mono (n m : Nat) (h : n ≤ m) : blen n ≤ blen m := by
  by_cases h0 : blen n = 0
  · omega
  · have h1 := (div_pos n (blen n - 1)).2 (by omega)
    have h2 : 0 < m / 256 ^ (blen n - 1) := Nat.lt_of_lt_of_le h1 (Nat.div_le_div_right h)
    have := (div_pos m (blen n - 1)).1 h2
    omega
theorem val_div (s : ByteArray) (j : Nat) : ∀ k, val s (j + k) / 256 ^ k = val s j
  | 0 => by rw [Nat.pow_zero, Nat.div_one]; rfl
  | k + 1 => by
    have h := val_div s j k
    have hb := bt_bd s (j + k)
    show (val s (j + k) * 256 + (bt s (j + k)).toNat) / 256 ^ (k + 1) = _
    rw [Nat.pow_succ, Nat.mul_comm (256 ^ k) 256, ← Nat.div_div_eq_div_mul, show (val s (j + k) * 256 + (bt s (j + k)).toNat) / 256 = val s (j + k) by omega]
    exact h
theorem val_blen (s : ByteArray) (h : s.size = 0 ∨ bt s 0 ≠ 0) : blen (val s s.size) = s.size := by
  have hlt := val_lt s s.size
  have h1 : ¬ s.size < blen (val s s.size) := fun hc => by
    have := (div_pos _ _).2 hc
    rw [Nat.div_eq_of_lt hlt] at this
    omega
  by_cases h0 : s.size = 0
  · omega
  · have h2 := val_div s 1 (s.size - 1)
    rw [show 1 + (s.size - 1) = s.size by omega] at h2
    have hb := bt_bd s 0
    have h3 : val s 1 = (bt s 0).toNat := by show 0 * 256 + (bt s 0).toNat = _; omega
    have := (div_pos (val s s.size) (s.size - 1)).1 (by rw [h2, h3]; have := h.resolve_left h0; omega)
    omega
theorem val_num (s : ByteArray) (h : vE s = 0) : numOf (vN s) = s := by
  have hg : vGood s = true := by
    unfold vE at h
    split at h
    · assumption
    · cases h
  unfold vN
  rw [hg, if_pos rfl]
  have h2 : s.size = 0 ∨ bt s 0 ≠ 0 := by
    unfold vGood at hg
    simp only [Bool.and_eq_true, Bool.or_eq_true, decide_eq_true_eq] at hg
    exact hg.2
  have hb := val_blen s h2
  refine ext_bt _ _ (by rw [num_size, hb]) fun j hj => ?_
  rw [num_size, hb] at hj
  rw [num_at _ j (by rw [hb]; exact hj), hb]
  unfold nAt
  have h3 := val_div s (j + 1) (s.size - 1 - j)
  rw [show j + 1 + (s.size - 1 - j) = s.size by omega] at h3
  rw [h3]
  have hbd := bt_bd s j
  show (((val s j * 256 + (bt s j).toNat) % 256 : Nat) : Int) = _
  omega
theorem vN_lt (s : ByteArray) : vN s < 18446744073709551616 := by
  unfold vN
  split
  · rename_i hg
    unfold vGood at hg
    simp only [Bool.and_eq_true, decide_eq_true_eq] at hg
    refine Nat.lt_of_lt_of_le (val_lt s s.size) ?_
    have : 256 ^ s.size ≤ 256 ^ 8 := Nat.pow_le_pow_right (by decide) hg.1
    exact Nat.le_trans this (by decide)
  · decide
end Go.Proofs.YtbpcciifaekffaaGreatDoor
