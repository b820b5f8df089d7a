/- Lemmas: within; whether an item is too deep; whether it is right. Whether an item is right. -/
import Derived.Test.YtmefanagpkbjeaaDoorM1
import Derived.Test.YtmefanagpkbjeaaDoorM10
import Derived.Test.YtmefanagpkbjeaaDoorM11
import Derived.Test.YtmefanagpkbjeaaDoorM12
import Derived.Test.YtmefanagpkbjeaaDoorM2
import Derived.Test.YtmefanagpkbjeaaDoorM3
import Derived.Test.YtmefanagpkbjeaaDoorM6
import Derived.Test.YtmefanagpkbjeaaDoorM7
import Derived.Test.YtmefanagpkbjeaaDoorM8
import Derived.Test.YtmefanagpkbjeaaDoorM9
import Derived.Test.YtmefanagpkbjeaaDoorRows
import Derived.Scope
namespace Go.Proofs.YtmefanagpkbjeaaDoor
open Go.RowKit Go.Shelf
attribute [local go_sem] Oper.semAt_some

/-- A variable in a box of its own. -/
def Bx (b : Nat) (T : TypeId) (v : Value) (W : World) : Prop := W.heap[b]? = some (.cells #[v] T (0, 0))
theorem Bx.cell {b : Nat} {T : TypeId} {v : Value} {W : World} (h : Bx b T v W) : W.cell? ⟨b, 0, none⟩ = some v := by rw [Lib.cell_of_heap h]; rfl
theorem Bx.fr {b : Nat} {T : TypeId} {v : Value} {W : World} (h : Bx b T v W) : W.frozen? ⟨b, 0, none⟩ = false := Lib.frozen_of_heap h 0
theorem Bx.lt {b : Nat} {T : TypeId} {v : Value} {W : World} (h : Bx b T v W) : b < W.heap.size := (Array.getElem?_eq_some_iff.1 h).1
theorem Bx.put {b : Nat} {T : TypeId} {v : Value} {W : World} (h : Bx b T v W) (u : Value) : Bx b T u (W.setCell ⟨b, 0, none⟩ u) := by
  have h' : W.heap[b]? = _ := h
  show (W.setCell ⟨b, 0, none⟩ u).heap[b]? = _
  simp [World.setCell, Array.getElem?_modify, h']
theorem Bx.other {b k : Nat} {T : TypeId} {v : Value} {W : World} (h : Bx b T v W) (hk : b ≠ k) (o : Nat) (u : Value) : Bx b T v (W.setCell ⟨k, o, none⟩ u) := (Below.heap_setCell _ _ _ _ hk).trans h
theorem Bx.own {b : Nat} {T : TypeId} {v : Value} {A C : World} {row : Option Nat} (h : Bx b T v A) (hg : A.grownBy C row) (hr : ∀ r, row = some r → ∃ o : Obj, A.heap[r]? = some o ∧ o.isCells = false) : Bx b T v C := by
  refine (hg.block b h.lt (fun e => ?_)).trans h
  obtain ⟨o, ho, hc⟩ := hr b e.symm
  rw [show A.heap[b]? = _ from h] at ho
  cases ho
  cases hc
theorem ko_set (W : World) (p : Addr) (u : Value) (B : Nat) : KeepsFrom B W (W.setCell p u) := (KeepsOthers.setCell W p u).from B

theorem ko_below {W W' : World} (h : Below W.heap.size W W') : KeepsOthers W W' :=
  ⟨h.size, fun k o hk _ => by rw [h.block k (Array.getElem?_eq_some_iff.1 hk).1]; exact hk⟩
/-- An item in a box. -/
def ItIn (b : Nat) (x : Im) (W : World) : Prop := W.heap[b]? = some (.cells #[.bool x.l, .string x.t, x.sl] 70 (0, 0))
theorem ItIn.lt {b : Nat} {x : Im} {W : World} (h : ItIn b x W) : b < W.heap.size := (Array.getElem?_eq_some_iff.1 h).1
/-- One of those within. -/
abbrev El (x : Im) := { e : Nat × Im // e ∈ pro 1 x }

set_option maxRecDepth 100000 in
set_option maxHeartbeats 2000000 in
theorem within1_in (n l bX n0 : Nat) (x : Im) (hc : cnt x < 100000000000000000) (W : World) (hbx : ItIn bX x W) (hW : n0 ≤ W.heap.size) (hm : inMem n0 W x) (J Jx : List (Nat × Im) → World → Prop) (B : Nat) (hJ : AbidesFrom B J)
    (hY : ∀ m pre e W, J pre W → pre.length < cnt x → e ∈ pro 1 x → n0 ≤ W.heap.size → YieldAt Fence.wide m Tryd.prog l (wEnc e) W fun e' W' =>
      (e' = .returned (.bool true) ∧ J (pre ++ [e]) W' ∧ ItK n0 W W') ∨ (e' = .returned (.bool false) ∧ Jx (pre ++ [e]) W')) (h0 : J [] W) :
    CallsIn Fence.wide n Tryd.prog 119 #[.func (.yield l) #[] #[], .pointer (some ⟨bX, 0, none⟩)] W fun e W' => (∃ v, e = .returned v) ∧
      (J (pro 1 x) W' ∨ ∃ q, q ≤ cnt x ∧ Jx ((pro 1 x).take q) W') := by
  have K := fun n => yieldWithin_in l n0 B (cnt x) (fun e => e ∈ pro 1 x) J Jx hJ hY (cnt x) x 1 [] W n (Nat.le_refl _) (by omega) (fun _ h => h) (by simp) hW hm h0
  obtain ⟨il, it, ia, ic, xs⟩ := x
  have x0 : W.cell? ⟨bX, 0, none⟩ = some (.bool il) := by rw [Lib.cell_of_heap hbx]; rfl
  have x1 : W.cell? ⟨bX, 1, none⟩ = some (.string it) := by rw [Lib.cell_of_heap hbx]; rfl
  have x2 : W.cell? ⟨bX, 2, none⟩ = some (.slice ia xs.length ic) := by rw [Lib.cell_of_heap hbx]; rfl
  refine callsIn_of_wp Tryd.func119 rfl trivial ?_ rfl
  simp only [Tryd.ntmps119, List.size_toArray, List.length_cons, List.length_nil, Nat.reduceAdd, Nat.reduceSub, Array.replicate_succ, Array.replicate_zero, List.push_toArray, List.append_toArray, List.nil_append, List.cons_append]
  gi_wp2_with fail
  refine ⟨trivial, fun h => (by cases h), (K (n - 1)).mono ?_⟩
  rintro e W3 (⟨rfl, hJ3, _⟩ | ⟨rfl, q, hq, hJx3⟩)
  · gi_wp2
    go_end0
    exact ⟨⟨_, rfl⟩, .inl hJ3⟩
  · gi_wp2
    go_end0
    exact ⟨⟨_, rfl⟩, .inr ⟨q, hq, hJx3⟩⟩

theorem within_stops (n bX n0 : Nat) (x : Im) (hc : cnt x < 100000000000000000) (w : World) (hbx : ItIn bX x w) (hw : n0 ≤ w.heap.size) (hm : inMem n0 w x) :
    SeqStopsK Fence.wide n Tryd.prog 119 #[.pointer (some ⟨bX, 0, none⟩)] (fun e : El x => wEnc e.1) (ItK n0) (fun ys => ys.map (·.1) = pro 1 x) (fun pre => ∃ q, q ≤ cnt x ∧ pre.map (·.1) = (pro 1 x).take q) (cnt x) w := fun l J Jx W hW hJ hJx hY h0 => by
  have hw0 : n0 ≤ W.heap.size := Nat.le_trans hw hW.size
  refine (within1_in n l bX n0 x hc W ((hW.block bX hbx.lt).trans hbx) hw0 (inMem_below hw (hW.mono hw) x hm) (fun pre0 W => ∃ pre : List (El x), pre.map (·.1) = pre0 ∧ J pre W) (fun pre0 W => ∃ pre : List (El x), pre.map (·.1) = pre0 ∧ Jx pre W) W.heap.size
    (fun s A C row hs hg hr => by obtain ⟨pre, h1, h2⟩ := hs; exact ⟨pre, h1, hJ pre A C row h2 hg hr⟩)
    (fun m pre0 e W1 hj hl he hn => by
      obtain ⟨pre, h1, h2⟩ := hj
      have hl' : pre.length < cnt x := by rw [← h1, List.length_map] at hl; exact hl
      refine (yieldAny m (hY pre ⟨e, he⟩ W1 h2 hl')).mono fun e' W' h => ?_
      rcases h with ⟨ha, hb, hc'⟩ | ⟨ha, hb⟩
      · exact .inl ⟨ha, ⟨pre ++ [⟨e, he⟩], by rw [List.map_append, h1]; rfl, hb⟩, hc'⟩
      · exact .inr ⟨ha, ⟨pre ++ [⟨e, he⟩], by rw [List.map_append, h1]; rfl, hb⟩⟩) ⟨[], rfl, h0⟩).mono ?_
  rintro e W' ⟨he, ⟨pre, h1, h2⟩ | ⟨q, hq, pre, h1, h2⟩⟩
  · exact ⟨he, .inl ⟨pre, h1, h2⟩⟩
  · exact ⟨he, .inr ⟨pre, ⟨q, hq, h1⟩, h2⟩⟩

set_option maxHeartbeats 1000000 in
theorem within_any (x : Im) (w : World) :
    Calls Tryd.prog 85 #[x.val] w fun e w' => e = .returned (.func (.func 119) #[] #[.pointer (some ⟨w.heap.size, 0, none⟩)]) ∧ w' = w.alloc (.cells #[.bool x.l, .string x.t, x.sl] 70) := by
  obtain ⟨il, it, ia, ic, xs⟩ := x
  show Calls Tryd.prog 85 #[.agg #[.bool il, .string it, .slice ia xs.length ic]] w _
  go_enter Tryd.func85, Tryd.ntmps85
  go_wp2
  go_ret
  exact ⟨rfl, rfl⟩

theorem itK_put {n0 : Nat} {w W : World} {l : Nat} {o o' : Obj} (hn : n0 ≤ w.heap.size) (hl : w.heap.size ≤ l) (h1 : W.heap[l]? = some o) (h2 : o.isCells = false) (h3 : o.isWalk = false) : ItK n0 W (W.putObj l o') := by
  refine ⟨belowK_b hn W l o o' hl h1 h2 h3, fun k c fz hk => ?_⟩
  refine (World.putObj_heap_other (fun e => ?_)).trans hk
  rw [e, h1] at hk
  cases hk
  cases h2
theorem wpOfC {P : Program} {f : FuncId} {args : Array Value} {R : Ending → World → Prop} {W : World} (S : World → Prop) (hS : S W) (h : ∀ W', S W' → Calls P f args W' R) : Calls P f args W R := h W hS
/-- Of all that have come something holds; of one it does not. -/
def AllE {x : Im} (p : Nat × Im → Prop) (pre : List (El x)) : Prop := ∀ e, e ∈ pre → p e.1
def ExE {x : Im} (p : Nat × Im → Prop) (pre : List (El x)) : Prop := ∃ e, e ∈ pre ∧ ¬ p e.1
theorem AllE.snoc {x : Im} {p : Nat × Im → Prop} {pre : List (El x)} (h : AllE p pre) (e : El x) (he : p e.1) : AllE p (pre ++ [e]) := fun e' h' => by
  rcases List.mem_append.1 h' with h' | h'
  · exact h e' h'
  · rw [List.mem_singleton.1 h']; exact he
theorem ExE.snoc {x : Im} {p : Nat × Im → Prop} (pre : List (El x)) (e : El x) (he : ¬ p e.1) : ExE p (pre ++ [e]) := ⟨e, by simp, he⟩
theorem AllE.all {x : Im} {p : Nat × Im → Prop} {ys : List (El x)} (h : AllE p ys) (hy : ys.map (·.1) = pro 1 x) : ∀ e, e ∈ pro 1 x → p e := fun e he => by
  rw [← hy] at he
  obtain ⟨e', he', rfl⟩ := List.mem_map.1 he
  exact h e' he'
theorem ExE.some {x : Im} {p : Nat × Im → Prop} {ys : List (El x)} (h : ExE p ys) : ∃ e, e ∈ pro 1 x ∧ ¬ p e := by
  obtain ⟨e, _, h⟩ := h
  exact ⟨e.1, e.2, h⟩
def okD (e : Nat × Im) : Prop := e.1 ≤ 12
/-- Is an item too deep? -/
def deep (x : Im) : Bool := (pro 1 x).any fun e => decide (12 < e.1)

set_option maxRecDepth 100000 in
set_option maxHeartbeats 2000000 in
theorem isDeep_any (x : Im) (hc : cnt x < 100000000000000000) (n0 : Nat) (w : World) (hw : n0 ≤ w.heap.size) (hm : inMem n0 w x) :
    Calls Tryd.prog 82 #[x.val] w fun e w' => e = .returned (.bool (deep x)) ∧ Below w.heap.size w w' := by
  have KW : Hid (∀ w : World, _) := fun w : World => within_any x w
  have KS := fun n bX w hb hn hm => within_stops n bX n0 x hc w hb hn hm
  have hD : deep x = (pro 1 x).any fun e => decide (12 < e.1) := rfl
  obtain ⟨L, hL⟩ : ∃ L, pro 1 x = L := ⟨_, rfl⟩
  rw [hL] at hD
  obtain ⟨il, it, ia, ic, xs⟩ := x
  replace KW : Hid (∀ w : World, Calls Tryd.prog 85 #[.agg #[.bool il, .string it, .slice ia xs.length ic]] w fun e w' => e = .returned (.func (.func 119) #[] #[.pointer (some ⟨w.heap.size, 0, none⟩)]) ∧ w' = w.alloc (.cells #[.bool il, .string it, .slice ia xs.length ic] 70)) := KW
  show Calls Tryd.prog 82 #[.agg #[.bool il, .string it, .slice ia xs.length ic]] w _
  refine (callsIn_wide (n := 9)).1 ?_
  refine callsIn_of_wp_marks Tryd.func82 rfl trivial ?_ rfl
  refine wpIn_wide.2 ?_
  simp only [Tryd.ntmps82, List.size_toArray, List.length_cons, List.length_nil, Nat.reduceAdd, Nat.reduceSub, Array.replicate_succ, Array.replicate_zero, List.push_toArray, List.append_toArray, List.nil_append, List.cons_append]
  go_wp2_with fail
  refine wpOfC (fun W => Bx (w.heap.size + 1) 4 (.bool false) W ∧ Below w.heap.size w W) ?_ ?_
  · refine ⟨?_, ((Below.refl _ w).alloc (Nat.le_refl _) _).alloc (by simp) _⟩
    have := World.alloc_heap_new (w.alloc (.cells #[.bool il, .string it, .slice ia xs.length ic] 70)) (.cells #[.bool false] 4)
    rwa [World.size_alloc] at this
  rintro w1 ⟨hR, BW1⟩
  obtain ⟨z, hz⟩ : ∃ c, w.heap.size = c := ⟨_, rfl⟩
  have HZ : Hid (w.heap.size = z) := hz
  have hm1 := inMem_below hw (BW1.mono hw) _ hm
  rw [hz] at hR BW1 hw ⊢
  obtain ⟨bR, hbR⟩ : ∃ c, z + 1 = c := ⟨_, rfl⟩
  rw [hbR] at hR ⊢
  clear hz hm
  refine (KW.out _).mono ?_
  rintro e w2 ⟨rfl, hw2⟩
  have a2 : Below w1.heap.size w1 w2 := by rw [hw2]; exact (Below.refl _ w1).alloc (Nat.le_refl _) _
  have hcx : ItIn w1.heap.size (.mk il it ia ic xs) w2 := by rw [hw2]; exact World.alloc_heap_new w1 _
  have hRl := hR.lt
  have hR2 : Bx bR 4 (.bool false) w2 := (a2.block bR hR.lt).trans hR
  have BW2 := belowStep BW1 (by omega) a2
  have hm2 := inMem_below (by omega) (a2.mono (by omega)) _ hm1
  clear hw2 a2 hR BW1 hm1
  obtain ⟨bX, hbX⟩ : ∃ c, w1.heap.size = c := ⟨_, rfl⟩
  rw [hbX] at hcx hRl ⊢
  clear hbX
  go_wp2_with fail
  have hxz : bX < w2.heap.size := hcx.lt
  have hn2 : n0 ≤ w2.heap.size := by omega
  refine (wpIn_wide (n := 9)).1 ?_
  refine wpIn_rangeFunc_ownH rfl (by omega) (gf := 119) (lb := #[.pointer (some ⟨bX, 0, none⟩)]) rfl trivial (enters_of Tryd.func119 (by kernel_rfl) rfl)
    (KS _ bX w2 hcx hn2 hm2) (fun h k => ItK.trans h k) (fun W l o o' hl h1 h2 h3 => itK_put hn2 hl h1 h2 h3) (Below.refl _ _) (fun _ => rfl)
    (fun pre W => Bx bR 4 (.bool false) W ∧ Below z w W ∧ AllE okD pre)
    (fun c pre W => c = .ret ∧ Bx bR 4 (.bool true) W ∧ Below z w W ∧ ExE okD pre)
    (fun s A C row hs hg hr => ⟨hs.1.own hg (fun r e => (hr r e).2), hs.2.1.grown hg (by have := hs.1.lt; omega) (fun k e => Nat.le_trans (by omega) (hr k e).1), hs.2.2⟩)
    (fun c s A C row hs hg hr => ⟨hs.1, hs.2.1.own hg (fun r e => (hr r e).2), hs.2.2.1.grown hg (by have := hs.2.1.lt; omega) (fun k e => Nat.le_trans (by omega) (hr k e).1), hs.2.2.2⟩)
    ⟨hR2, BW2, fun e he => (by cases he)⟩
    (fun x a' _ => a' = { tmps := #[.agg #[.bool il, .string it, .slice ia xs.length ic], .pointer (some ⟨z, 0, none⟩), .pointer (some ⟨bR, 0, none⟩), .int .i64 x.1.1, .agg #[.bool il, .string it, .slice ia xs.length ic], .func (.func 119) #[] #[.pointer (some ⟨bX, 0, none⟩)], .int .i64 x.1.1, x.1.2.val, undef, undef], defers := [] })
    (fun x a' _ X Y row hs hg hr => hs)
    ?assign ?body ?done ?stop
  case assign =>
    rintro l pre x W K hI hK
    dsimp only [wEnc]
    gi_wp2
    exact hK _ _ (KeepsFrom.refl _ _) (ItK.refl _ _) hI rfl
  case body =>
    rintro l pre x a' W hl ⟨r, hr⟩ ⟨hRd, BWd, hall⟩ rfl hlt
    obtain ⟨d, hd⟩ : ∃ d, x.1.1 = d := ⟨_, rfl⟩
    obtain ⟨v, hv⟩ : ∃ v, x.1.2.val = v := ⟨_, rfl⟩
    rw [hd, hv]
    have HD : Hid (x.1.1 = d) := hd
    clear hd hv
    have cR := hRd.cell
    have fR := hRd.fr
    have hRW := hRd.lt
    by_cases hbig : 12 < d
    · have l0 : (12 : Int) < d := by omega
      gi_wp2
      refine (?_ : KeepsFrom _ W (W.setCell ⟨bR, 0, none⟩ (.bool true)) ∧ Code.ret = .ret ∧ Bx bR 4 (.bool true) (W.setCell ⟨bR, 0, none⟩ (.bool true)) ∧ Below z w (W.setCell ⟨bR, 0, none⟩ (.bool true)) ∧ ExE okD (pre ++ [x]))
      exact ⟨ko_set _ _ _ _, rfl, hRd.put _, BWd.setCell (p := ⟨bR, 0, none⟩) (by show z ≤ bR; omega) _, ExE.snoc pre x (by unfold okD; rw [HD.out]; omega)⟩
    · have l0 : ¬ (12 : Int) < d := by omega
      gi_wp2
      refine (?_ : KeepsFrom _ W W ∧ ItK n0 W W ∧ Bx bR 4 (.bool false) W ∧ Below z w W ∧ AllE okD (pre ++ [x]))
      exact ⟨KeepsFrom.refl _ _, ItK.refl _ _, hRd, BWd, hall.snoc x (by unfold okD; rw [HD.out]; omega)⟩
  case done =>
    rintro D ys W hD hys ⟨hRd, BWd, hall⟩ hK
    have cR := hRd.cell
    have fR := hRd.fr
    have HO : Hid (deep (.mk il it ia ic xs) = false) := by
      show (pro 1 _).any _ = false
      rw [List.any_eq_false]
      intro e he
      have : e.1 ≤ 12 := hall.all hys e he
      simp
      omega
    have hDR : D ≠ bR := fun e => by rw [e, show W.heap[bR]? = _ from hRd] at hK; cases hK
    have hR5 := hRd.put (.bool false)
    have hK5 : (W.setCell ⟨bR, 0, none⟩ (.bool false)).heap[D]? = some (.deferred (some [])) := (Below.heap_setCell _ _ _ _ hDR).trans hK
    have B5 : Below z w (W.setCell ⟨bR, 0, none⟩ (.bool false)) := BWd.setCell (p := ⟨bR, 0, none⟩) (by show z ≤ bR; omega) _
    have HX : Hid (_ ∧ _ ∧ _) := ⟨hR5, hK5, B5⟩
    clear hR5 hK5 B5 hRd BWd hK
    go_wp2_with fail
    obtain ⟨hR5, hK5, B5⟩ := HX.out
    have hbP := belowK_b (n₀ := z) (w := w2) (by omega) _ D _ (.deferred none) hD hK5 rfl rfl
    have c5 : ((W.setCell ⟨bR, 0, none⟩ (.bool false)).putObj D (.deferred none)).cell? ⟨bR, 0, none⟩ = some (.bool false) := Bx.cell ((World.putObj_heap_other (fun e => hDR e.symm)).trans hR5)
    refine ⟨by simp, .inl ⟨_, _, rfl, run_takeDeferred hK5, ?_⟩⟩
    refine ⟨.bool false, by simp [results, Tryd.results82, go_sem, c5], by rw [HO.out], ?_⟩
    rw [HZ.out]
    exact B5.trans hbP
  case stop =>
    rintro D c pre W hD ⟨q, hq, hys⟩ ⟨rfl, hRd, BWd, hex⟩ hK
    have cR := hRd.cell
    have HO : Hid (deep (.mk il it ia ic xs) = true) := by
      show (pro 1 _).any _ = true
      obtain ⟨e, he, he2⟩ := hex.some
      unfold okD at he2
      rw [List.any_eq_true]
      exact ⟨e, he, by simp; omega⟩
    have hDR : D ≠ bR := fun e => by rw [e, show W.heap[bR]? = _ from hRd] at hK; cases hK
    gi_wp2
    have hbP := belowK_b (n₀ := z) (w := w2) (by omega) _ D _ (.deferred none) hD hK rfl rfl
    have c5 : (W.putObj D (.deferred none)).cell? ⟨bR, 0, none⟩ = some (.bool true) := Bx.cell ((World.putObj_heap_other (fun e => hDR e.symm)).trans hRd)
    refine ⟨by simp, .inl ⟨_, _, rfl, run_takeDeferred hK, ?_⟩⟩
    refine ⟨.bool true, by simp [results, Tryd.results82, go_sem, c5], by rw [HO.out], ?_⟩
    rw [HZ.out]
    exact BWd.trans hbP
end Go.Proofs.YtmefanagpkbjeaaDoor
namespace Go.Proofs.YtmefanagpkbjeaaDoor
open Go.RowKit Go.Shelf
attribute [local go_sem] Oper.semAt_some

/-- Is one right, by itself? -/
def rgt (x : Im) : Bool := if x.l then decide (x.t.size = 0) else decide (x.xs.length = 0)
theorem empty_list (s : ByteArray) (h : s.size = 0) : s.toList.isEmpty = true := by
  rw [← decide_eq_emptyBytes s]
  exact decide_eq_true (is_empty s h)
def okR (e : Nat × Im) : Prop := rgt e.2 = true
def right (x : Im) : Bool := (pro 1 x).all fun e => rgt e.2
theorem ItIn.own {b : Nat} {x : Im} {A C : World} {row : Option Nat} (h : ItIn b x A) (hg : A.grownBy C row) (hr : ∀ r, row = some r → ∃ o : Obj, A.heap[r]? = some o ∧ o.isCells = false) : ItIn b x C := by
  refine (hg.block b h.lt (fun e => ?_)).trans h
  obtain ⟨o, ho, hc⟩ := hr b e.symm
  rw [show A.heap[b]? = _ from h] at ho
  cases ho
  cases hc

set_option maxRecDepth 100000 in
set_option maxHeartbeats 2000000 in
theorem isRight_any (x : Im) (hc : cnt x < 100000000000000000) (n0 : Nat) (w : World) (hw : n0 ≤ w.heap.size) (hm : inMem n0 w x) :
    Calls Tryd.prog 83 #[x.val] w fun e w' => e = .returned (.bool (right x)) ∧ Below w.heap.size w w' := by
  have KW : Hid (∀ w : World, _) := fun w : World => within_any x w
  have KS := fun n bX w hb hn hm => within_stops n bX n0 x hc w hb hn hm
  obtain ⟨il, it, ia, ic, xs⟩ := x
  replace KW : Hid (∀ w : World, Calls Tryd.prog 85 #[.agg #[.bool il, .string it, .slice ia xs.length ic]] w fun e w' => e = .returned (.func (.func 119) #[] #[.pointer (some ⟨w.heap.size, 0, none⟩)]) ∧ w' = w.alloc (.cells #[.bool il, .string it, .slice ia xs.length ic] 70)) := KW
  show Calls Tryd.prog 83 #[.agg #[.bool il, .string it, .slice ia xs.length ic]] w _
  refine (callsIn_wide (n := 9)).1 ?_
  refine callsIn_of_wp_marks Tryd.func83 rfl trivial ?_ rfl
  refine wpIn_wide.2 ?_
  simp only [Tryd.ntmps83, List.size_toArray, List.length_cons, List.length_nil, Nat.reduceAdd, Nat.reduceSub, Array.replicate_succ, Array.replicate_zero, List.push_toArray, List.append_toArray, List.nil_append, List.cons_append]
  go_wp2_with fail
  refine wpOfC (fun W => Bx (w.heap.size + 1) 4 (.bool false) W ∧ Below w.heap.size w W) ?_ ?_
  · refine ⟨?_, ((Below.refl _ w).alloc (Nat.le_refl _) _).alloc (by simp) _⟩
    have := World.alloc_heap_new (w.alloc (.cells #[.bool il, .string it, .slice ia xs.length ic] 70)) (.cells #[.bool false] 4)
    rwa [World.size_alloc] at this
  rintro w1 ⟨hR, BW1⟩
  obtain ⟨z, hz⟩ : ∃ c, w.heap.size = c := ⟨_, rfl⟩
  have HZ : Hid (w.heap.size = z) := hz
  have hm1 := inMem_below hw (BW1.mono hw) _ hm
  rw [hz] at hR BW1 hw ⊢
  obtain ⟨bR, hbR⟩ : ∃ c, z + 1 = c := ⟨_, rfl⟩
  rw [hbR] at hR ⊢
  clear hz hm
  refine (KW.out _).mono ?_
  rintro e w2 ⟨rfl, hw2⟩
  have a2 : Below w1.heap.size w1 w2 := by rw [hw2]; exact (Below.refl _ w1).alloc (Nat.le_refl _) _
  have hcx : ItIn w1.heap.size (.mk il it ia ic xs) w2 := by rw [hw2]; exact World.alloc_heap_new w1 _
  have hRl := hR.lt
  have hR2 : Bx bR 4 (.bool false) w2 := (a2.block bR hR.lt).trans hR
  have BW2 := belowStep BW1 (by omega) a2
  have hm2 := inMem_below (by omega) (a2.mono (by omega)) _ hm1
  clear hw2 a2 hR BW1 hm1
  obtain ⟨bX, hbX⟩ : ∃ c, w1.heap.size = c := ⟨_, rfl⟩
  rw [hbX] at hcx hRl ⊢
  clear hbX
  go_wp2_with fail
  have hxz : bX < w2.heap.size := hcx.lt
  have hn2 : n0 ≤ w2.heap.size := by omega
  refine (wpIn_wide (n := 9)).1 ?_
  refine wpIn_rangeFunc_ownH rfl (by omega) (gf := 119) (lb := #[.pointer (some ⟨bX, 0, none⟩)]) rfl trivial (enters_of Tryd.func119 (by kernel_rfl) rfl)
    (KS _ bX w2 hcx hn2 hm2) (fun h k => ItK.trans h k) (fun W l o o' hl h1 h2 h3 => itK_put hn2 hl h1 h2 h3) (Below.refl _ _) (fun _ => rfl)
    (fun pre W => Bx bR 4 (.bool false) W ∧ Below z w W ∧ AllE okR pre)
    (fun c pre W => c = .ret ∧ Bx bR 4 (.bool false) W ∧ Below z w W ∧ ExE okR pre)
    (fun s A C row hs hg hr => ⟨hs.1.own hg (fun r e => (hr r e).2), hs.2.1.grown hg (by have := hs.1.lt; omega) (fun k e => Nat.le_trans (by omega) (hr k e).1), hs.2.2⟩)
    (fun c s A C row hs hg hr => ⟨hs.1, hs.2.1.own hg (fun r e => (hr r e).2), hs.2.2.1.grown hg (by have := hs.2.1.lt; omega) (fun k e => Nat.le_trans (by omega) (hr k e).1), hs.2.2.2⟩)
    ⟨hR2, BW2, fun e he => (by cases he)⟩
    (fun x a' W => ∃ Bi, bR < Bi ∧ ItIn Bi x.1.2 W ∧ a' = { tmps := #[.agg #[.bool il, .string it, .slice ia xs.length ic], .pointer (some ⟨z, 0, none⟩), .pointer (some ⟨bR, 0, none⟩), undef, .pointer (some ⟨Bi, 0, none⟩), .agg #[.bool il, .string it, .slice ia xs.length ic], .func (.func 119) #[] #[.pointer (some ⟨bX, 0, none⟩)], .int .i64 x.1.1, x.1.2.val, undef, undef, undef, undef, undef, undef, undef, undef, undef, undef, undef, undef, undef, undef, undef, undef, undef, undef], defers := [] })
    (fun x a' _ X Y row hs hg hr => by obtain ⟨Bi, h1, h2, h3⟩ := hs; exact ⟨Bi, h1, h2.own hg (fun r e => (hr r e).2), h3⟩)
    ?assign ?body ?done ?stop
  case assign =>
    rintro l pre x W K ⟨hRd, BWd, hall⟩ hK
    dsimp only [wEnc]
    obtain ⟨⟨d, il2, it2, ia2, ic2, xs2⟩, hx⟩ := x
    simp only [Im.val, Im.l, Im.t, Im.sl, Im.a, Im.xs, Im.c]
    have hRW := hRd.lt
    have A1 : Below W.heap.size W (W.alloc (.cells #[.bool il2, .string it2, .slice ia2 xs2.length ic2] 70)) := (Below.refl _ W).alloc (Nat.le_refl _) _
    have hN : ItIn W.heap.size (.mk il2 it2 ia2 ic2 xs2) (W.alloc (.cells #[.bool il2, .string it2, .slice ia2 xs2.length ic2] 70)) := World.alloc_heap_new W _
    gi_wp2
    exact hK _ _ ((ko_below A1).from _) (ItK.of_below (by omega) A1) ⟨(A1.block _ hRW).trans hRd, belowStep BWd (by omega) A1, hall⟩ ⟨W.heap.size, hRW, hN, rfl⟩
  case body =>
    rintro l pre x a' W hl ⟨r, hr⟩ ⟨hRd, BWd, hall⟩ ⟨Bi, hBi, hIt, rfl⟩ hlt
    obtain ⟨⟨d, il2, it2, ia2, ic2, xs2⟩, hx⟩ := x
    have i0 : W.cell? ⟨Bi, 0, none⟩ = some (.bool il2) := by rw [Lib.cell_of_heap hIt]; rfl
    have i1 : W.cell? ⟨Bi, 1, none⟩ = some (.string it2) := by rw [Lib.cell_of_heap hIt]; rfl
    have i2 : W.cell? ⟨Bi, 2, none⟩ = some (.slice ia2 xs2.length ic2) := by rw [Lib.cell_of_heap hIt]; rfl
    simp only [Im.val, Im.l, Im.t, Im.sl, Im.a, Im.xs, Im.c]
    have cR := hRd.cell
    have fR := hRd.fr
    have hRW := hRd.lt
    clear hIt
    cases il2 with
    | true =>
      by_cases h0 : it2.size = 0
      · have he : it2.toList.isEmpty = true := empty_list it2 h0
        gi_wp2
        refine (?_ : KeepsFrom _ W W ∧ ItK n0 W W ∧ Bx bR 4 (.bool false) W ∧ Below z w W ∧ AllE okR (pre ++ [_]))
        exact ⟨KeepsFrom.refl _ _, ItK.refl _ _, hRd, BWd, hall.snoc _ ((if_pos rfl).trans (decide_eq_true h0))⟩
      · have he := ne_empty it2 (by omega)
        gi_wp2
        any_goals (rename_i hb _; exact absurd hb (by simp [undef]))
        refine (?_ : KeepsFrom _ W (W.setCell ⟨bR, 0, none⟩ (.bool false)) ∧ Code.ret = .ret ∧ Bx bR 4 (.bool false) (W.setCell ⟨bR, 0, none⟩ (.bool false)) ∧ Below z w (W.setCell ⟨bR, 0, none⟩ (.bool false)) ∧ ExE okR (pre ++ [_]))
        exact ⟨ko_set _ _ _ _, rfl, hRd.put _, BWd.setCell (p := ⟨bR, 0, none⟩) (by show z ≤ bR; omega) _, ExE.snoc pre _ (fun h => h0 (of_decide_eq_true ((if_pos rfl).symm.trans h)))⟩
    | false =>
      by_cases h0 : xs2.length = 0
      · have he : ¬ (0 : Int) < xs2.length := by omega
        gi_wp2
        refine (?_ : KeepsFrom _ W W ∧ ItK n0 W W ∧ Bx bR 4 (.bool false) W ∧ Below z w W ∧ AllE okR (pre ++ [_]))
        exact ⟨KeepsFrom.refl _ _, ItK.refl _ _, hRd, BWd, hall.snoc _ ((if_neg (by decide : ¬ false = true)).trans (decide_eq_true h0))⟩
      · have he : (0 : Int) < xs2.length := by omega
        gi_wp2
        refine (?_ : KeepsFrom _ W (W.setCell ⟨bR, 0, none⟩ (.bool false)) ∧ Code.ret = .ret ∧ Bx bR 4 (.bool false) (W.setCell ⟨bR, 0, none⟩ (.bool false)) ∧ Below z w (W.setCell ⟨bR, 0, none⟩ (.bool false)) ∧ ExE okR (pre ++ [_]))
        exact ⟨ko_set _ _ _ _, rfl, hRd.put _, BWd.setCell (p := ⟨bR, 0, none⟩) (by show z ≤ bR; omega) _, ExE.snoc pre _ (fun h => h0 (of_decide_eq_true ((if_neg (by decide : ¬ false = true)).symm.trans h)))⟩
  case done =>
    rintro D ys W hD hys ⟨hRd, BWd, hall⟩ hK
    have cR := hRd.cell
    have fR := hRd.fr
    have HO : Hid (right (.mk il it ia ic xs) = true) := by
      show (pro 1 _).all _ = true
      rw [List.all_eq_true]
      exact fun e he => hall.all hys e he
    have hDR : D ≠ bR := fun e => by rw [e, show W.heap[bR]? = _ from hRd] at hK; cases hK
    have hR5 := hRd.put (.bool true)
    have hK5 : (W.setCell ⟨bR, 0, none⟩ (.bool true)).heap[D]? = some (.deferred (some [])) := (Below.heap_setCell _ _ _ _ hDR).trans hK
    have B5 : Below z w (W.setCell ⟨bR, 0, none⟩ (.bool true)) := BWd.setCell (p := ⟨bR, 0, none⟩) (by show z ≤ bR; omega) _
    have HX : Hid (_ ∧ _ ∧ _) := ⟨hR5, hK5, B5⟩
    clear hR5 hK5 B5 hRd BWd hK
    go_wp2_with fail
    obtain ⟨hR5, hK5, B5⟩ := HX.out
    have hbP := belowK_b (n₀ := z) (w := w2) (by omega) _ D _ (.deferred none) hD hK5 rfl rfl
    have c5 : ((W.setCell ⟨bR, 0, none⟩ (.bool true)).putObj D (.deferred none)).cell? ⟨bR, 0, none⟩ = some (.bool true) := Bx.cell ((World.putObj_heap_other (fun e => hDR e.symm)).trans hR5)
    refine ⟨by simp, .inl ⟨_, _, rfl, run_takeDeferred hK5, ?_⟩⟩
    refine ⟨.bool true, by simp [results, Tryd.results83, go_sem, c5], by rw [HO.out], ?_⟩
    rw [HZ.out]
    exact B5.trans hbP
  case stop =>
    rintro D c pre W hD ⟨q, hq, hys⟩ ⟨rfl, hRd, BWd, hex⟩ hK
    have cR := hRd.cell
    have HO : Hid (right (.mk il it ia ic xs) = false) := by
      show (pro 1 _).all _ = false
      obtain ⟨e, he, he2⟩ := hex.some
      unfold okR at he2
      rw [List.all_eq_false]
      exact ⟨e, he, he2⟩
    have hDR : D ≠ bR := fun e => by rw [e, show W.heap[bR]? = _ from hRd] at hK; cases hK
    gi_wp2
    have hbP := belowK_b (n₀ := z) (w := w2) (by omega) _ D _ (.deferred none) hD hK rfl rfl
    have c5 : (W.putObj D (.deferred none)).cell? ⟨bR, 0, none⟩ = some (.bool false) := Bx.cell ((World.putObj_heap_other (fun e => hDR e.symm)).trans hRd)
    refine ⟨by simp, .inl ⟨_, _, rfl, run_takeDeferred hK, ?_⟩⟩
    refine ⟨.bool false, by simp [results, Tryd.results83, go_sem, c5], by rw [HO.out], ?_⟩
    rw [HZ.out]
    exact BWd.trans hbP
end Go.Proofs.YtmefanagpkbjeaaDoor
