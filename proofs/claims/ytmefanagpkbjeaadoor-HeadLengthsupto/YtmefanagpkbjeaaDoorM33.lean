/- Lemmas: Items gone through: slices.All. A list of parts read from an item. -/
import Derived.Test.YtmefanagpkbjeaaDoorM1
import Derived.Test.YtmefanagpkbjeaaDoorM10
import Derived.Test.YtmefanagpkbjeaaDoorM11
import Derived.Test.YtmefanagpkbjeaaDoorM12
import Derived.Test.YtmefanagpkbjeaaDoorM13
import Derived.Test.YtmefanagpkbjeaaDoorM14
import Derived.Test.YtmefanagpkbjeaaDoorM15
import Derived.Test.YtmefanagpkbjeaaDoorM16
import Derived.Test.YtmefanagpkbjeaaDoorM17
import Derived.Test.YtmefanagpkbjeaaDoorM18
import Derived.Test.YtmefanagpkbjeaaDoorM19
import Derived.Test.YtmefanagpkbjeaaDoorM2
import Derived.Test.YtmefanagpkbjeaaDoorM20
import Derived.Test.YtmefanagpkbjeaaDoorM21
import Derived.Test.YtmefanagpkbjeaaDoorM22
import Derived.Test.YtmefanagpkbjeaaDoorM23
import Derived.Test.YtmefanagpkbjeaaDoorM24
import Derived.Test.YtmefanagpkbjeaaDoorM25
import Derived.Test.YtmefanagpkbjeaaDoorM26
import Derived.Test.YtmefanagpkbjeaaDoorM27
import Derived.Test.YtmefanagpkbjeaaDoorM28
import Derived.Test.YtmefanagpkbjeaaDoorM29
import Derived.Test.YtmefanagpkbjeaaDoorM3
import Derived.Test.YtmefanagpkbjeaaDoorM30
import Derived.Test.YtmefanagpkbjeaaDoorM31
import Derived.Test.YtmefanagpkbjeaaDoorM4
import Derived.Test.YtmefanagpkbjeaaDoorM6
import Derived.Test.YtmefanagpkbjeaaDoorM7
import Derived.Test.YtmefanagpkbjeaaDoorM8
import Derived.Test.YtmefanagpkbjeaaDoorM9
import Derived.Test.YtmefanagpkbjeaaDoorRows
namespace Go.Proofs.YtmefanagpkbjeaaDoor
open Go.RowKit Go.Shelf Go.Sort
attribute [local go_sem] Oper.semAt_some

set_option maxHeartbeats 1000000 in
theorem all_items (a : Option Addr) (m c : Nat) (w : World) :
    Calls Tryd.prog 171 #[.slice a m c] w fun e w' => e = .returned (.func (.func 173) #[] #[.pointer (some ⟨w.heap.size, 0, none⟩)]) ∧ w' = w.alloc (.cells #[.slice a m c] 68) := by
  go_enter Tryd.func171, Tryd.ntmps171
  go_wp2
  go_ret
  exact ⟨rfl, rfl⟩
set_option maxRecDepth 100000 in
set_option maxHeartbeats 2000000 in
theorem items1_in (n l bX : Nat) (xs : List Im) (hxs : xs.length < 1000000000000) (a : Option Addr) (c : Nat)
    (J Jx : Nat → World → Prop)
    (hrow : ∀ k x W, J k W → xs[k]? = some x → ∃ b o, a = some ⟨b, o, none⟩ ∧ W.cell? ⟨b, o + 3 * k, none⟩ = some (.bool x.l) ∧ W.cell? ⟨b, o + 3 * k + 1, none⟩ = some (.string x.t) ∧ W.cell? ⟨b, o + 3 * k + 2, none⟩ = some x.sl)
    (hst : ∀ k W W', J k W → Below W.heap.size W W' → J k W')
    (hY : ∀ m k x W, J k W → xs[k]? = some x → YieldAt Fence.wide m Tryd.prog l #[.int .i64 (k : Int), x.val] W fun e W' =>
      (e = .returned (.bool true) ∧ J (k + 1) W') ∨ (e = .returned (.bool false) ∧ Jx k W'))
    (W : World) (hcX : W.cell? ⟨bX, 0, none⟩ = some (.slice a xs.length c)) (h0 : J 0 W) :
    CallsIn Fence.wide n Tryd.prog 173 #[.func (.yield l) #[] #[], .pointer (some ⟨bX, 0, none⟩)] W fun e W' => (∃ v, e = .returned v) ∧ (J xs.length W' ∨ ∃ k, k < xs.length ∧ Jx k W') := by
  refine callsIn_of_wp Tryd.func173 rfl trivial ?_ rfl
  simp only [Tryd.ntmps173, List.size_toArray, List.length_cons, List.length_nil, Nat.reduceAdd, Nat.reduceSub, Array.replicate_succ, Array.replicate_zero, List.push_toArray, List.append_toArray, List.nil_append, List.cons_append]
  obtain ⟨N, hN⟩ : ∃ N, xs.length = N := ⟨_, rfl⟩
  rw [hN] at hxs hcX ⊢
  gi_wp2
  gi_loopw [7] (fun i wr => ∃ k : Nat, k ≤ N ∧ i = .int .i64 (k : Int) ∧ J k wr)
    (fun i _ => (N - (intOf i).toNat))
  case atStart => exact ⟨0, by omega, rfl, h0⟩
  case round =>
    obtain ⟨k, hk, rfl, hJs⟩ := hrel
    by_cases hlt : k < N
    · have l0 : (k : Int) < N := by omega
      obtain ⟨x, hx⟩ : ∃ x, xs[k]? = some x := ⟨xs[k]'(by omega), List.getElem?_eq_getElem (by omega)⟩
      obtain ⟨b, o, rfl, c0, c1, c2⟩ := hrow k x wr hJs hx
      have wk : IntKind.i64.wrap ((k : Int) + 1) = ((k + 1 : Nat) : Int) := by rw [IntKind.wrap_i64]; omega
      obtain ⟨p, hp⟩ : ∃ p, o + 3 * k = p := ⟨_, rfl⟩
      rw [hp] at c0 c1 c2
      have hp2 : o + k * 3 = p := by omega
      obtain ⟨fn, tmps, assign, body, hy, hR⟩ := hY (n - 1) k x _ (hst k _ _ hJs (be_new wr (.cells #[.bool x.l, .string x.t, x.sl] 70))) hx
      obtain ⟨xl, xt, xa, xc, xx⟩ := x
      simp only [Im.val, Im.l, Im.t, Im.sl, Im.a, Im.xs, Im.c] at c0 c1 c2 hy hR
      clear hJs
      gi_wp2
      refine ⟨fun h => (by cases h), hR.mono ?_⟩
      rintro e W3 (⟨rfl, hJ3⟩ | ⟨rfl, hJx3⟩)
      · clear hy hR c0 c1 c2
        gi_wp2
        go_roundw
        case rel => exact ⟨k + 1, by omega, by first | rfl | (congr 1; omega), hJ3⟩
        case measure => simp [intOf]; omega
      · clear hy hR c0 c1 c2
        gi_wp2
        refine bodyPost_ret (v := .tuple #[]) (by simp [results, Tryd.results173, go_sem]) rfl ⟨⟨_, rfl⟩, .inr ⟨k, hlt, hJx3⟩⟩
    · obtain rfl : k = N := by omega
      have l0 : ¬ (k : Int) < k := by omega
      gi_wp2
      go_end0
      exact ⟨⟨_, rfl⟩, .inl hJs⟩
end Go.Proofs.YtmefanagpkbjeaaDoor
namespace Go.Proofs.YtmefanagpkbjeaaDoor
open Go.RowKit Go.Shelf Go.Sort
attribute [local go_sem] Oper.semAt_some

theorem Ld.set {q : Nat} {ty : TypeId} {N : Nat} {W : World} (h : Ld q ty N W) (p : Addr) (v : Value) : Ld q ty N (W.setCell p v) := by
  obtain ⟨cs, h, hs⟩ := h
  by_cases e : p.block = q
  · obtain ⟨b, o, s⟩ := p
    have e : b = q := e
    subst e
    cases s with
    | none => exact ⟨cs.setIfInBounds o v, heap_setCell_self h o v, by simp [hs]⟩
    | some k => exact ⟨cs, by simp [World.setCell, Array.getElem?_modify, h], hs⟩
  · exact ⟨cs, (Below.heap_setCell _ _ _ _ (fun e2 => e e2.symm)).trans h, hs⟩
theorem Ld.kept {q : Nat} {ty : TypeId} {N : Nat} {W W' : World} (h : Ld q ty N W) (he : W'.heap[q]? = W.heap[q]?) : Ld q ty N W' := by
  obtain ⟨cs, h, hs⟩ := h
  exact ⟨cs, he.trans h, hs⟩
/-- What reading a part keeps. -/
structure Rk (q : Nat) (ty : TypeId) (N : Nat) (ls : List Addr) (W W' : World) : Prop where
  k : Kq q W W'
  d : Ld q ty N W'
  c : ∀ o, (⟨q, o, none⟩ : Addr) ∉ ls → W'.cell? ⟨q, o, none⟩ = W.cell? ⟨q, o, none⟩
/-- What reading a part is. -/
def RdC (q : Nat) (ty : TypeId) (N : Nat) (p : Pt) (X : Im) : Prop := ∀ w : World, Ld q ty N w → skIn (fun b => b < w.heap.size ∧ b ≠ q) w p → inP (fun b => b < w.heap.size ∧ b ≠ q) w X →
  Calls Tryd.prog (rdF p) #[rcv p, X.val] w fun e w' => e = .returned (.bool (rdS p (er X))) ∧ Rk q ty N (lvP p) w w' ∧ (rdS p (er X) = true → dtIs (fun b => w.heap.size ≤ b ∧ b < w'.heap.size) w' p (er X))

theorem num_read (q o N : Nat) (ty : TypeId) (ho : o < N) (X : Im) (hr : rgI (er X) = true) : RdC q ty N (.num ⟨q, o, none⟩) X := by
  intro w hq _ _
  refine (numRead_any q o N ty ho X w hq).mono ?_
  rintro e w' ⟨rfl, U, hb, rfl⟩
  have hU := (hq.below hb)
  have e1 : rdS (.num ⟨q, o, none⟩) (er X) = (!X.l && decide (vE X.t = 0)) := by cases X; rfl
  refine ⟨by rw [e1], ⟨(Kq.below hb).trans (Kq.put U q o _), hU.set _ _, fun k hk => ?_⟩, fun h => ?_⟩
  · have hne : k ≠ o := fun e => hk (by rw [e]; exact List.mem_singleton.2 rfl)
    rw [World.cell?_setCell_other _ _ _ _ (fun e => hne (by injection e with _ e; exact e.symm))]
    exact hb.cell (p := ⟨q, k, none⟩) hq.lt
  · rw [e1, Bool.and_eq_true] at h
    have hl : lI (er X) = false := by
      have := h.1
      cases X
      simpa [lI, er, Im.l] using this
    have hv : vE X.t = 0 := of_decide_eq_true h.2
    obtain ⟨u, hu⟩ := hU.has ho
    refine ⟨vN X.t, vN_lt _, World.cell?_setCell_same _ _ _ hu, ?_⟩
    rw [val_num _ hv, rgI_txt hr hl]
    cases X
    rfl
theorem txt_read (q o N : Nat) (ty : TypeId) (ho : o < N) (X : Im) (hr : rgI (er X) = true) : RdC q ty N (.txt ⟨q, o, none⟩) X := by
  intro w hq _ _
  refine (txtRead_any q o N ty ho X w hq).mono ?_
  rintro e w' ⟨rfl, U, hb, rfl⟩
  have hU := (hq.below hb)
  have e1 : rdS (.txt ⟨q, o, none⟩) (er X) = (!X.l) := by cases X; rfl
  refine ⟨by rw [e1], ⟨(Kq.below hb).trans (Kq.put U q o _), hU.set _ _, fun k hk => ?_⟩, fun h => ?_⟩
  · have hne : k ≠ o := fun e => hk (by rw [e]; exact List.mem_singleton.2 rfl)
    rw [World.cell?_setCell_other _ _ _ _ (fun e => hne (by injection e with _ e; exact e.symm))]
    exact hb.cell (p := ⟨q, k, none⟩) hq.lt
  · have hl : lI (er X) = false := by
      rw [e1] at h
      cases X
      simpa [lI, er, Im.l] using h
    obtain ⟨u, hu⟩ := hU.has ho
    refine ⟨X.t, World.cell?_setCell_same _ _ _ hu, ?_⟩
    rw [rgI_txt hr hl]
    cases X
    rfl

theorem Kq.up {q b : Nat} {w W W' : World} (h : Kq q w W) (g : Kq b W W') (hb : w.heap.size ≤ b) : Kq q w W' := ⟨g.os.trans h.os, g.tape.trans h.tape, g.output.trans h.output, Nat.le_trans h.size g.size, fun k hk h1 => (g.at (Nat.lt_of_lt_of_le hk h.size) (by omega)).trans (h.block k hk h1)⟩
theorem Kq.cell {q : Nat} {W W' : World} (h : Kq q W W') {b : Nat} (hb : b < W.heap.size) (hn : b ≠ q) (o : Nat) : W'.cell? ⟨b, o, none⟩ = W.cell? ⟨b, o, none⟩ := World.cell?_of_block (w := W) (a := ⟨b, o, none⟩) (h.at hb hn)
theorem rowP_at {P : Nat → Prop} {W : World} {a : Option Addr} : ∀ (xs : List Im) (i : Nat), rowP P W a i xs → ∀ (j : Nat) (x : Im), xs[j]? = some x →
    (∃ b o, P b ∧ a = some ⟨b, o, none⟩ ∧ W.cell? ⟨b, o + 3 * (i + j), none⟩ = some (.bool x.l) ∧ W.cell? ⟨b, o + 3 * (i + j) + 1, none⟩ = some (.string x.t) ∧ W.cell? ⟨b, o + 3 * (i + j) + 2, none⟩ = some x.sl) ∧ inP P W x
  | [], _, _, _, _, h => by cases h
  | y :: r, i, h, 0, x, hx => by
    cases hx
    exact ⟨h.1, h.2.1⟩
  | y :: r, i, h, j + 1, x, hx => by
    have := rowP_at r (i + 1) h.2.2 j x hx
    rwa [show i + 1 + j = i + (j + 1) by omega] at this
/-- Is all well so far? -/
def rdV (r0 : Bool) (ps : List Pt) (xs : List It) (k : Nat) : Bool := r0 && rdL (ps.take k) (xs.take k)
/-- What holds ahead of a round: p the first box, v whether all is well so far. -/
structure LrG (q : Nat) (ty : TypeId) (N p M c : Nat) (a : Option Addr) (ps : List Pt) (xs : List It) (w : World) (k : Nat) (v : Bool) (W : World) : Prop where
  kq : Kq q w W
  ld : Ld q ty N W
  ce : ∀ o, (⟨q, o, none⟩ : Addr) ∉ lvPL (ps.take k) → W.cell? ⟨q, o, none⟩ = w.cell? ⟨q, o, none⟩
  lb : W.heap[p]? = some (.cells #[.slice a M c] 145 (0, 0))
  rb : W.heap[p + 2]? = some (.cells #[.bool v] 4 (0, 0))
  dt : v = true → dtAll (fun b => p + 6 ≤ b ∧ b < W.heap.size) W (ps.take k) (xs.take k)
  sz : p + 5 < W.heap.size
theorem LrG.up {q : Nat} {ty : TypeId} {N p M c : Nat} {a : Option Addr} {ps : List Pt} {xs : List It} {w : World} {k : Nat} {v : Bool} {W W' : World} (hp : w.heap.size = p) (hqp : q < p) (hlv : ∀ a, a ∈ lvPL ps → ∃ k, k < N ∧ a = ⟨q, k, none⟩)
    (h : LrG q ty N p M c a ps xs w k v W) {b : Nat} (g : Kq b W W') (hb : b = p + 4 ∨ b = p + 5) : LrG q ty N p M c a ps xs w k v W' := by
  have hz := h.sz
  have hqW : q < W.heap.size := by omega
  refine ⟨h.kq.up g (by omega), h.ld.kept (g.at hqW (by omega)), fun o ho => (g.cell hqW (by omega) o).trans (h.ce o ho), (g.at (by omega) (by omega)).trans h.lb, (g.at (by omega) (by omega)).trans h.rb, fun hv => ?_, Nat.lt_of_lt_of_le hz g.size⟩
  refine dtAll_of (fun b' hb' => ⟨⟨hb'.1, Nat.lt_of_lt_of_le hb'.2 g.size⟩, fun o => g.cell hb'.2 (by omega) o⟩) _ _ (fun a' ha' => ?_) (h.dt hv)
  obtain ⟨o, _, rfl⟩ := hlv a' (lv_take _ _ _ ha')
  exact g.cell hqW (by omega) o
set_option maxRecDepth 100000 in
set_option maxHeartbeats 4000000 in
theorem lstRead_of (q : Nat) (ty : TypeId) (N : Nat) (a : Option Addr) (c : Nat) (ps : List Pt) (X : Im) (hlen : X.xs.length < 1000000000000)
    (hlv : ∀ a, a ∈ lvPL ps → ∃ k, k < N ∧ a = ⟨q, k, none⟩) (hnd : (lvPL ps).Nodup) (hr : rgI (er X) = true)
    (IH : ∀ (j : Nat) (p : Pt) (y : Im), ps[j]? = some p → X.xs[j]? = some y → RdC q ty N p y)
    (w : World) (hq : Ld q ty N w) (hs : skRow (fun b => b < w.heap.size ∧ b ≠ q) w a 0 ps) (hX : inP (fun b => b < w.heap.size ∧ b ≠ q) w X) :
    Calls Tryd.prog 169 #[.slice a ps.length c, X.val] w fun e w' => e = .returned (.bool (X.l && rdL ps (ers X.xs))) ∧ Rk q ty N (lvPL ps) w w' ∧ ((X.l && rdL ps (ers X.xs)) = true → dtAll (fun b => w.heap.size ≤ b ∧ b < w'.heap.size) w' ps (ers X.xs)) := by
  obtain ⟨l, t, xa, xc, xs⟩ := X
  replace hX : rowP (fun b => b < w.heap.size ∧ b ≠ q) w xa 0 xs := hX
  simp only [Im.val, Im.l, Im.t, Im.sl, Im.a, Im.xs, Im.c] at hlen IH ⊢
  obtain ⟨M, hM⟩ : ∃ M, ps.length = M := ⟨_, rfl⟩
  obtain ⟨L, hL⟩ : ∃ L, xs.length = L := ⟨_, rfl⟩
  have HM : Hid (ps.length = M) := hM
  have HL : Hid (xs.length = L) := hL
  rw [hM]
  rw [hL] at hlen ⊢
  refine (callsIn_wide (n := 9)).1 ?_
  refine callsIn_of_wp_marks Tryd.func169 rfl trivial ?_ rfl
  refine wpIn_wide.2 ?_
  simp only [Tryd.ntmps169, List.size_toArray, List.length_cons, List.length_nil, Nat.reduceAdd, Nat.reduceSub, Array.replicate_succ, Array.replicate_zero, List.push_toArray, List.append_toArray, List.nil_append, List.cons_append]
  obtain ⟨p, hp⟩ : ∃ p, w.heap.size = p := ⟨_, rfl⟩
  have HP : Hid (w.heap.size = p) := hp
  obtain ⟨r0, hr0⟩ : ∃ r, (l && decide (L = M)) = r := ⟨_, rfl⟩
  have HR : Hid ((l && decide (L = M)) = r0) := hr0
  obtain ⟨A1, hb0, hb1⟩ := two_boxes w (.cells #[.slice a M c] 145) (.cells #[.bool l, .string t, .slice xa L xc] 70)
  obtain ⟨w1, hw1⟩ : ∃ W, (w.alloc (.cells #[.slice a M c] 145)).alloc (.cells #[.bool l, .string t, .slice xa L xc] 70) = W := ⟨_, rfl⟩
  have hsz1 : w1.heap.size = p + 2 := by rw [← hw1, ← hp]; simp
  rw [hw1] at A1 hb0 hb1
  rw [hp] at A1 hb0 hb1
  have d0 : w1.cell? ⟨p + 1, 0, none⟩ = some (.bool l) := by rw [Lib.cell_of_heap hb1]; rfl
  have d1 : w1.cell? ⟨p + 1, 2, none⟩ = some (.slice xa L xc) := by rw [Lib.cell_of_heap hb1]; rfl
  have d2 : w1.cell? ⟨p, 0, none⟩ = some (.slice a M c) := by rw [Lib.cell_of_heap hb0]; rfl
  go_wp2_with fail
  refine wp_scope_straight ?_
  refine wp_seq_k fun K hK => ?_
  obtain ⟨w2, hw2⟩ : ∃ W, w1.alloc (.cells #[.bool r0] 4) = W := ⟨_, rfl⟩
  have hsz2 : w2.heap.size = p + 3 := by rw [← hw2]; simp [hsz1]
  have A2 : Below p w w2 := by rw [← hw2]; exact A1.alloc (by omega) _
  have hb2 : w2.heap[p + 2]? = some (.cells #[.bool r0] 4 (0, 0)) := by rw [← hw2, ← hsz1]; exact World.alloc_heap_new w1 _
  have hb02 : w2.heap[p]? = some (.cells #[.slice a M c] 145 (0, 0)) := by rw [← hw2]; exact (Lib.alloc_old _ _ _ (by omega)).trans hb0
  have hb12 : w2.heap[p + 1]? = some (.cells #[.bool l, .string t, .slice xa L xc] 70 (0, 0)) := by rw [← hw2]; exact (Lib.alloc_old _ _ _ (by omega)).trans hb1
  have FIN : ∀ x8 x9 x10 x11 x12 x13 x14 x15 x16 x17 : Value, K { tmps := #[.slice a M c, .agg #[.bool l, .string t, .slice xa L xc], .pointer (some ⟨p, 0, none⟩), .pointer (some ⟨p + 1, 0, none⟩), .bool false, .pointer (some ⟨p + 2, 0, none⟩), undef, undef, x8, x9, x10, x11, x12, x13, x14, x15, x16, x17, undef, undef, undef, undef, undef, undef, undef, undef, undef, undef, undef, undef, undef, undef], defers := [] } w2 := by
    intro x8 x9 x10 x11 x12 x13 x14 x15 x16 x17
    refine hK _ _ ?_
    clear hK d0 d1 d2 hb0 hb1 A1
    have d1 : w2.cell? ⟨p + 1, 2, none⟩ = some (.slice xa L xc) := by rw [Lib.cell_of_heap hb12]; rfl
    clear hw1 hw2 hsz1
    go_wp2_with fail
    refine wp_label ?_
    go_wp2_with fail
    refine (all_items xa L xc _).mono ?_
    rintro e w3 ⟨rfl, hw3⟩
    have A3 : Below p w w3 := by rw [hw3]; exact A2.alloc (by omega) _
    have hsz3 : w3.heap.size = p + 4 := by rw [hw3]; simp [hsz2]
    have B3 : Below (p + 3) w2 w3 := by rw [hw3, ← hsz2]; exact (Below.refl _ w2).alloc (Nat.le_refl _) _
    have hb3 : w3.heap[p + 3]? = some (.cells #[.slice xa L xc] 68 (0, 0)) := by rw [hw3, ← hsz2]; exact World.alloc_heap_new w2 _
    have hb23 := (B3.block (p + 2) (by omega)).trans hb2
    have hb03 := (B3.block p (by omega)).trans hb02
    clear hw3 hb2 hb02 hb12 A2 B3 d1
    rw [hsz2]
    clear hsz2
    go_wp2_with fail
    refine (wpIn_wide (n := 9)).1 ?_
    refine range_to (by omega) (gf := 173) (lb := #[.pointer (some ⟨p + 3, 0, none⟩)]) rfl (enters_of Tryd.func173 (by kernel_rfl) rfl) ?_
    intro fn mk W1 hmk BW1 hszW hRc
    rw [hsz3] at hmk BW1 hszW hRc ⊢
    have hqp : q < p := by rw [← HP.out]; exact hq.lt
    have BWp : Below p w W1 := A3.trans (BW1.mono (by omega))
    have G0 : LrG q ty N p M c a ps (ers xs) w 0 r0 W1 := by
      refine ⟨Kq.below (by rw [HP.out]; exact BWp), hq.kept (BWp.block q hqp), fun o _ => BWp.cell (p := ⟨q, o, none⟩) hqp, (BW1.block p (by omega)).trans hb03, (BW1.block (p + 2) (by omega)).trans hb23, fun _ => ?_, by omega⟩
      rw [List.take_zero, List.take_zero]
      rfl
    have cX : W1.cell? ⟨p + 3, 0, none⟩ = some (.slice xa xs.length xc) := by rw [HL.out, BW1.cell (p := ⟨p + 3, 0, none⟩) (by show p + 3 < p + 4; omega), Lib.cell_of_heap hb3]; rfl
    have hVS : Hid (∀ k, _ → _ → _) := fun k (h1 : k < L) (h2 : L = M) => (by
      obtain ⟨pk, hpk⟩ : ∃ x, ps[k]? = some x := ⟨ps[k]'(by rw [HM.out]; omega), List.getElem?_eq_getElem (by rw [HM.out]; omega)⟩
      exact ⟨pk, hpk⟩ : ∃ pk, ps[k]? = some pk)
    clear A3 BW1 hb3 hb23 hb03 BWp hszW hsz3
    refine (items1_in 8 (p + 5) (p + 3) xs (by rw [HL.out]; exact hlen) xa xc (fun k W => Rc (p + 4) (mk .ready none) W ∧ LrG q ty N p M c a ps (ers xs) w k (rdV r0 ps (ers xs) k) W)
      (fun k W => Rc (p + 4) (mk .done (some (.exit 0))) W ∧ LrG q ty N p M c a ps (ers xs) w k false W ∧ rdV r0 ps (ers xs) k = false) ?hrow ?hst ?hY W1 cX ⟨hRc, by rw [show rdV r0 ps (ers xs) 0 = r0 by unfold rdV; rw [List.take_zero, List.take_zero, show rdL [] [] = true from rfl, Bool.and_true]]; exact G0⟩).mono ?_
    case hrow =>
      rintro k x W ⟨_, hG⟩ hx
      obtain ⟨⟨b, o, hb, rfl, c0, c1, c2⟩, _⟩ := rowP_at xs 0 hX k x hx
      refine ⟨b, o, rfl, ?_, ?_, ?_⟩
      · rw [← Nat.zero_add k]; exact (hG.kq.cell hb.1 hb.2 _).trans c0
      · rw [← Nat.zero_add k]; exact (hG.kq.cell hb.1 hb.2 _).trans c1
      · rw [← Nat.zero_add k]; exact (hG.kq.cell hb.1 hb.2 _).trans c2
    case hst =>
      rintro k W W' ⟨hr, hG⟩ hb
      exact ⟨hr.below hb, hG.up HP.out hqp hlv (b := p + 5) (Kq.below hb) (.inr rfl)⟩
    case hY =>
      rintro m k x W ⟨hr, hG⟩ hx
      obtain ⟨xl, xt, ya, yc, xx⟩ := x
      simp only [Im.val, Im.l, Im.t, Im.sl, Im.a, Im.xs, Im.c]
      have hbn := be_new W (.cells #[.bool xl, .string xt, .slice ya xx.length yc] 70)
      have hin : ItIn W.heap.size (.mk xl xt ya yc xx) (W.alloc (.cells #[.bool xl, .string xt, .slice ya xx.length yc] 70)) := World.alloc_heap_new W _
      refine yield_to mk hmk hr rfl ?_
      gi_wp2
      refine ⟨hr.below hbn, ?_⟩
      intro U hrU hkU
      have hGU := (hG.up HP.out hqp hlv (b := p + 5) (Kq.below hbn) (.inr rfl)).up HP.out hqp hlv hkU (.inr rfl)
      have hWz := hG.sz
      have hinU : ItIn W.heap.size (.mk xl xt ya yc xx) U := (hkU.at (by simp) (by omega)).trans hin
      obtain ⟨v, hv⟩ : ∃ v, rdV r0 ps (ers xs) k = v := ⟨_, rfl⟩
      rw [hv] at hGU
      clear hG hr hbn hin hkU
      have f0 : U.cell? ⟨p + 2, 0, none⟩ = some (.bool v) := by rw [Lib.cell_of_heap hGU.rb]; rfl
      cases v with
      | false =>
        have HX : Hid _ := hGU
        clear hGU
        gi_wp2
        exact ⟨hrU, fun X hrX hkX => .inr ⟨rfl, hrX, HX.out.up HP.out hqp hlv hkX (.inr rfl), hv⟩⟩
      | true =>
        have hv2 : r0 = true ∧ rdL (ps.take k) ((ers xs).take k) = true := by unfold rdV at hv; rwa [Bool.and_eq_true] at hv
        obtain ⟨rfl, hv2⟩ := hv2
        have hLM : l = true ∧ L = M := by
          have := HR.out
          rw [Bool.and_eq_true] at this
          exact ⟨this.1, of_decide_eq_true this.2⟩
        obtain ⟨rfl, rfl⟩ := hLM
        have hkL : k < L := by rw [← HL.out]; exact (List.getElem?_eq_some_iff.1 hx).1
        obtain ⟨pk, hpk⟩ : ∃ x, ps[k]? = some x := ⟨ps[k]'(by rw [HM.out]; omega), List.getElem?_eq_getElem (by rw [HM.out]; omega)⟩
        obtain ⟨⟨b, o, hb, rfl, c0⟩, hsk⟩ := sk_at ps 0 hs k pk hpk
        rw [Nat.zero_add] at c0
        have hbp : b < p := by rw [← HP.out]; exact hb.1
        have hUz := hGU.sz
        have g0 := (hGU.kq.cell hb.1 hb.2 _).trans c0
        have g1 : U.cell? ⟨p, 0, none⟩ = some (.slice (some ⟨b, o, none⟩) L c) := by rw [Lib.cell_of_heap hGU.lb]; rfl
        have fz : ∀ o, U.frozen? ⟨p + 2, o, none⟩ = false := fun o => Lib.frozen_of_heap hGU.rb o
        have i0 : U.cell? ⟨W.heap.size, 0, none⟩ = some (.bool xl) := by rw [Lib.cell_of_heap hinU]; rfl
        have i1 : U.cell? ⟨W.heap.size, 1, none⟩ = some (.string xt) := by rw [Lib.cell_of_heap hinU]; rfl
        have i2 : U.cell? ⟨W.heap.size, 2, none⟩ = some (.slice ya xx.length yc) := by rw [Lib.cell_of_heap hinU]; rfl
        have lk : (k : Int) < L := by omega
        rw [val_if] at g0
        have hm : ∀ w : World, (method 330 (tyP pk) (rcv pk) "pharos/head.read").run Tryd.prog w = .ok (rdF pk, rcv pk) w := fun _ => by cases pk <;> kernel_rfl
        have hcf : ∀ (args : Array Value) (w : World), (callFunc (rdF pk) args).run Tryd.prog w = .ok (.enter (rdF pk) args) w := fun _ _ => by cases pk <;> kernel_rfl
        have KI : Hid _ := IH k pk _ hpk hx
        have HX : Hid (_ ∧ _ ∧ _) := ⟨hGU, hrU, hinU⟩
        have hWU : W.heap.size < U.heap.size := hinU.lt
        clear hGU hrU hinU c0
        obtain ⟨ty', hty⟩ : ∃ q, tyP pk = q := ⟨_, rfl⟩
        obtain ⟨rv, hrv⟩ : ∃ q, rcv pk = q := ⟨_, rfl⟩
        obtain ⟨f, hf⟩ : ∃ q, rdF pk = q := ⟨_, rfl⟩
        rw [hty, hrv] at g0 hm
        rw [hf] at hm hcf
        have HE : Hid (rcv pk = rv ∧ rdF pk = f) := ⟨hrv, hf⟩
        clear hty hrv hf
        have k0 := cell_regrown f0
        have k1 := cell_regrown g0
        have k2 := cell_regrown g1
        have k3 := cell_regrown i0
        have k4 := cell_regrown i1
        have k5 := cell_regrown i2
        gi_wp2_with fail
        refine region_tail_in (p + 4 + 1) _ 5 (by kernel_rfl) (by kernel_rfl) (by rintro ⟨_, _, h⟩; exact h) (by kernel_rfl) ?_
        simp only [List.take_succ_cons, List.take_zero, List.drop_succ_cons, List.drop_zero]
        iterate 5 (quiet_step (fail))
        refine wpQuiet_nil ?_
        intro w8 hw8
        have hb8 : Below U.heap.size U w8 := by
          obtain ⟨p, rfl⟩ := hw8
          exact below_regrown _ _ _
        clear hw8 k0 k1 k2 k3 k4 k5
        obtain ⟨hGU, hrU, hinU⟩ := HX.out
        have hG8 := hGU.up HP.out hqp hlv (b := p + 5) (Kq.below hb8) (.inr rfl)
        have hr8 := hrU.below hb8
        have hP8 : ∀ b, b < w.heap.size ∧ b ≠ q → (b < w8.heap.size ∧ b ≠ q) ∧ ∀ j, w8.cell? ⟨b, j, none⟩ = w.cell? ⟨b, j, none⟩ := fun b hb => ⟨⟨Nat.lt_of_lt_of_le hb.1 hG8.kq.size, hb.2⟩, fun j => hG8.kq.cell hb.1 hb.2 j⟩
        have KI8 := KI.out w8 hG8.ld (skIn_of hP8 pk hsk) (inP_of hP8 _ (rowP_at xs 0 hX k _ hx).2)
        rw [HE.out.1, HE.out.2] at KI8
        simp only [Im.val, Im.l, Im.t, Im.sl, Im.a, Im.xs, Im.c] at KI8
        have hz8 := hb8.size
        clear hP8 hGU hrU hinU f0 g0 g1 i0 i1 i2 fz HX
        go_wp2_with fail
        refine KI8.mono ?_
        rintro e w9 ⟨rfl, hk9, hd9⟩
        obtain ⟨rb, hrb⟩ : ∃ b, rdS pk (er (.mk xl xt ya yc xx)) = b := ⟨_, rfl⟩
        rw [hrb] at hd9 ⊢
        have hlvk : ∀ a', a' ∈ lvP pk → a' ∈ lvPL ps := lv_at ps k pk hpk
        obtain ⟨hndk, hapk⟩ := lv_apart ps hnd k pk hpk
        have hz8' := hG8.sz
        have h9 : ∀ b', b' < w8.heap.size → b' ≠ q → w9.heap[b']? = w8.heap[b']? := fun b' h1 h2 => hk9.k.at h1 h2
        have hz9 := hk9.k.size
        have hb9 : w9.heap[p + 2]? = some (.cells #[.bool true] 4 (0, 0)) := (h9 _ (by omega) (by omega)).trans hG8.rb
        have f9 : w9.cell? ⟨p + 2, 0, none⟩ = some (.bool true) := by rw [Lib.cell_of_heap hb9]; rfl
        have z9 : ∀ o, w9.frozen? ⟨p + 2, o, none⟩ = false := fun o => Lib.frozen_of_heap hb9 o
        have hr9 : Rc (p + 4) (mk .busy none) w9 := ⟨(h9 _ (by omega) (by omega)).trans hr8.1, (h9 _ (by omega) (by omega)).trans hr8.2⟩
        have hxk : (ers xs)[k]? = some (er (.mk xl xt ya yc xx)) := by rw [ers_map, List.getElem?_map, hx]; rfl
        have hlen2 : (ers xs).length = ps.length := by rw [ers_map, List.length_map, HL.out, HM.out]
        have hvk : rdV true ps (ers xs) (k + 1) = rb := by
          unfold rdV
          rw [Bool.true_and, rdL_take ps (ers xs) hlen2 k pk _ hpk hxk, hv2, Bool.true_and, hrb]
        have htk : ps.take (k + 1) = ps.take k ++ [pk] := by rw [List.take_add_one, hpk]; rfl
        have hxt : (ers xs).take (k + 1) = (ers xs).take k ++ [er (.mk xl xt ya yc xx)] := by rw [List.take_add_one, hxk]; rfl
        have hGf : LrG q ty N p L c (some ⟨b, o, none⟩) ps (ers xs) w (k + 1) rb (w9.setCell ⟨p + 2, 0, none⟩ (.bool rb)) := by
          have hs : ∀ b', b' ≠ p + 2 → (w9.setCell ⟨p + 2, 0, none⟩ (.bool rb)).heap[b']? = w9.heap[b']? := fun b' h => Below.heap_setCell _ _ _ _ h
          have hcs : ∀ b' o', b' ≠ p + 2 → (w9.setCell ⟨p + 2, 0, none⟩ (.bool rb)).cell? ⟨b', o', none⟩ = w9.cell? ⟨b', o', none⟩ := fun b' o' h => cell_ne _ _ _ _ _ h
          refine ⟨((hG8.kq.trans hk9.k)).up (Kq.put w9 (p + 2) 0 _) (by rw [HP.out]; omega), hk9.d.set _ _, fun o' ho' => ?_, (hs _ (by omega)).trans ((h9 _ (by omega) (by omega)).trans hG8.lb), heap_setCell_self hb9 0 (.bool rb), fun hrt => ?_, ?_⟩
          · rw [htk, lv_snoc] at ho'
            rw [hcs _ _ (by omega), hk9.c o' (fun h => ho' (List.mem_append_right _ h)), hG8.ce o' (fun h => ho' (List.mem_append_left _ h))]
          · subst hrt
            rw [htk, hxt]
            have hsz : (w9.setCell ⟨p + 2, 0, none⟩ (.bool true)).heap.size = w9.heap.size := by simp [World.setCell]
            refine dt_snoc _ _ _ _ ?_ ?_
            · refine dtAll_of (fun b' hb' => ⟨⟨hb'.1, by rw [hsz]; omega⟩, fun o' => (hcs _ _ (by omega)).trans (hk9.k.cell hb'.2 (by omega) o')⟩) _ _ (fun a' ha' => ?_) (hG8.dt rfl)
              have hna := hapk a' ha'
              obtain ⟨o', _, rfl⟩ := hlv a' (lv_take _ _ _ ha')
              exact (hcs _ _ (by omega)).trans (hk9.c o' hna)
            · refine dtIs_of (fun b' hb' => ⟨⟨by omega, by rw [hsz]; exact hb'.2⟩, fun o' => hcs _ _ (by omega)⟩) _ _ (fun a' ha' => ?_) (hd9 rfl)
              obtain ⟨o', _, rfl⟩ := hlv a' (hlvk a' ha')
              exact hcs _ _ (by omega)
          · have hsz : (w9.setCell ⟨p + 2, 0, none⟩ (.bool rb)).heap.size = w9.heap.size := by simp [World.setCell]
            omega
        have hrf : Rc (p + 4) (mk .busy none) (w9.setCell ⟨p + 2, 0, none⟩ (.bool rb)) := ⟨(Below.heap_setCell _ _ _ _ (by show p + 4 + 1 ≠ p + 2; omega)).trans hr9.1, (Below.heap_setCell _ _ _ _ (by show p + 4 ≠ p + 2; omega)).trans hr9.2⟩
        have HF : Hid (_ ∧ _ ∧ _) := ⟨hGf, hrf, hvk⟩
        clear hGf hrf hvk hr9 hb9 h9 hd9 hk9 hG8 hr8 KI8 hb8 hm hcf
        go_wp2
        obtain ⟨hGf, hrf, hvk⟩ := HF.out
        refine ⟨hrf, fun X hrX hkX => .inl ⟨rfl, hrX, ?_⟩⟩
        rw [hvk]
        exact hGf.up HP.out hqp hlv hkX (.inr rfl)
    have hall : rdV r0 ps (ers xs) L = (l && rdL ps (ers xs)) := by
      unfold rdV
      by_cases hlm : L = M
      · rw [← HR.out, decide_eq_true hlm, Bool.and_true, List.take_of_length_le (by rw [HM.out]; omega), List.take_of_length_le (by rw [ers_map, List.length_map, HL.out]; omega)]
      · rw [← HR.out, decide_eq_false hlm, Bool.and_false, Bool.false_and]
        cases hh : rdL ps (ers xs) with
        | false => rw [Bool.and_false]
        | true =>
          have := rdL_len _ _ hh
          rw [ers_map, List.length_map, HL.out, HM.out] at this
          exact absurd this hlm
    have hnone : ∀ k, rdV r0 ps (ers xs) k = false → (l && rdL ps (ers xs)) = false := fun k hv => by
      unfold rdV at hv
      by_cases hlm : L = M
      · rw [← HR.out, decide_eq_true hlm, Bool.and_true] at hv
        cases hl : l with
        | false => rfl
        | true =>
          rw [hl, Bool.true_and] at hv
          rw [rdL_false ps (ers xs) k (by rw [ers_map, List.length_map, HL.out, HM.out, hlm]) hv]
          rfl
      · rw [← hall]
        unfold rdV
        rw [← HR.out, decide_eq_false hlm, Bool.and_false, Bool.false_and]
    have hend : ∀ (k : Nat) (v : Bool) (U : World), LrG q ty N p M c a ps (ers xs) w k v U → v = (l && rdL ps (ers xs)) → (v = true → k = L) →
        Rk q ty N (lvPL ps) w (U.putObj (p + 4) (.deferred none)) ∧ ((l && rdL ps (ers xs)) = true → dtAll (fun b => w.heap.size ≤ b ∧ b < (U.putObj (p + 4) (.deferred none)).heap.size) (U.putObj (p + 4) (.deferred none)) ps (ers xs)) := fun k v U hU hv hkl => by
      have h := hU.up HP.out hqp hlv (b := p + 4) (Kq.obj U (p + 4) (.deferred none)) (.inl rfl)
      refine ⟨⟨h.kq, h.ld, fun o ho => h.ce o (fun h' => ho (lv_take _ _ _ h'))⟩, fun ht => ?_⟩
      rw [← hv] at ht
      have hd := h.dt ht
      obtain rfl := hkl ht
      have hlm : (ers xs).length = ps.length := rdL_len _ _ (by rw [hv, Bool.and_eq_true] at ht; exact ht.2)
      rw [List.take_of_length_le (by rw [← hlm, ers_map, List.length_map, HL.out]; omega), List.take_of_length_le (by rw [ers_map, List.length_map, HL.out]; omega)] at hd
      exact dtAll_of (fun b hb => ⟨⟨by rw [HP.out]; omega, hb.2⟩, fun _ => rfl⟩) _ _ (fun _ _ => rfl) hd
    rintro e W2 ⟨he, ⟨hr, hG⟩ | ⟨k, hk, hr, hG, hv⟩⟩
    · refine ⟨he, .inl ⟨hr, ?_⟩⟩
      rw [HL.out, hall] at hG
      intro U hdU hkU
      have hGU := hG.up HP.out hqp hlv hkU (.inr rfl)
      have HX : Hid (_ ∧ _) := hend L _ U hGU rfl (fun _ => rfl)
      obtain ⟨v, hvv⟩ : ∃ v, (l && rdL ps (ers xs)) = v := ⟨_, rfl⟩
      rw [hvv] at hGU HX
      have HV : Hid _ := hvv
      have f1 : U.cell? ⟨p + 2, 0, none⟩ = some (.bool v) := by rw [Lib.cell_of_heap hGU.rb]; rfl
      clear hr hG hGU hkU hall hnone hend hvv
      go_wp2
      refine ⟨by simp, .inl ⟨_, _, rfl, run_takeDeferred hdU, ?_⟩⟩
      refine ⟨.bool v, by simp [results, Tryd.results169, go_sem], ?_⟩
      rw [HV.out]
      exact ⟨rfl, HX.out⟩
    · refine ⟨he, .inr ⟨.exit 0, hr, ?_⟩⟩
      have hv2 := hnone k hv
      intro U hdU hkU
      have hGU := hG.up HP.out hqp hlv hkU (.inr rfl)
      have HX : Hid (_ ∧ _) := hend k false U hGU hv2.symm (fun h => by cases h)
      rw [hv2] at HX
      have HV : Hid _ := hv2
      have f1 : U.cell? ⟨p + 2, 0, none⟩ = some (.bool false) := by rw [Lib.cell_of_heap hGU.rb]; rfl
      clear hr hG hGU hkU hall hnone hend hv2 hv
      gi_wp2
      go_wp2
      refine ⟨by simp, .inl ⟨_, _, rfl, run_takeDeferred hdU, ?_⟩⟩
      refine ⟨.bool false, by simp [results, Tryd.results169, go_sem], ?_⟩
      rw [HV.out]
      exact ⟨rfl, HX.out⟩
  clear hb2 hb02 hb12 A2 hsz2
  cases l with
  | true =>
    have hLM : ((L : Int) == (M : Int)) = r0 := by
      rw [← hr0, Bool.true_and, Bool.eq_iff_iff]
      simp
      omega
    clear hr0
    go_wp2
    exact FIN _ _ _ _ _ _ _ _ _ _
  | false =>
    obtain rfl : false = r0 := by simpa using hr0
    have HW2 : Hid _ := hw2
    clear hw2
    go_wp2
    rw [HW2.out]
    exact FIN _ _ _ _ _ _ _ _ _ _
end Go.Proofs.YtmefanagpkbjeaaDoor
