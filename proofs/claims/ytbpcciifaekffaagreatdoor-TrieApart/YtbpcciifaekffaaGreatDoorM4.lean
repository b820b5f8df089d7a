/- Lemmas: within; whether an item is too deep; whether it is right. Whether an item is right. An item's bytes: what Encode answers. Condition: at most four million bytes in all. -/
import Derived.Test.YtbpcciifaekffaaGreatDoorM1
import Derived.Test.YtbpcciifaekffaaGreatDoorM2
import Derived.Test.YtbpcciifaekffaaGreatDoorM3
import Derived.Test.YtbpcciifaekffaaGreatDoorRows
import Derived.Scope
import Derived.Lib.AppendStr
import Derived.Lib.OthersKept
import Derived.OwnWalk
namespace Go.Proofs.YtbpcciifaekffaaGreatDoor
open Go.RowKit Go.Shelf
attribute [local go_sem] Oper.semAt_some

/-- A variable in a box of its own. -/
def Bx (b : Nat) (T : TypeId) (v : Value) (W : World) : Prop := W.heap[b]? = some (.cells #[v] T (0, 0))
theorem Bx.cell {b : Nat} {T : TypeId} {v : Value} {W : World} (h : Bx b T v W) : W.cell? ⟨b, 0, none⟩ = some v := by rw [Lib.cell_of_heap h]; rfl
theorem Bx.fr {b : Nat} {T : TypeId} {v : Value} {W : World} (h : Bx b T v W) : W.frozen? ⟨b, 0, none⟩ = false := Lib.frozen_of_heap h 0
theorem Bx.lt {b : Nat} {T : TypeId} {v : Value} {W : World} (h : Bx b T v W) : b < W.heap.size := (Array.getElem?_eq_some_iff.1 h).1
theorem Bx.put {b : Nat} {T : TypeId} {v : Value} {W : World} (h : Bx b T v W) (u : Value) : Bx b T u (W.setCell ⟨b, 0, none⟩ u) := by
  have h' : W.heap[b]? = _ := h
  show (W.setCell ⟨b, 0, none⟩ u).heap[b]? = _
  simp [World.setCell, Array.getElem?_modify, h']
theorem Bx.other {b k : Nat} {T : TypeId} {v : Value} {W : World} (h : Bx b T v W) (hk : b ≠ k) (o : Nat) (u : Value) : Bx b T v (W.setCell ⟨k, o, none⟩ u) := (Below.heap_setCell _ _ _ _ hk).trans h
theorem Bx.own {b : Nat} {T : TypeId} {v : Value} {A C : World} {row : Option Nat} (h : Bx b T v A) (hg : A.grownBy C row) (hr : ∀ r, row = some r → ∃ o : Obj, A.heap[r]? = some o ∧ o.isCells = false) : Bx b T v C := by
  refine (hg.block b h.lt (fun e => ?_)).trans h
  obtain ⟨o, ho, hc⟩ := hr b e.symm
  rw [show A.heap[b]? = _ from h] at ho
  cases ho
  cases hc
theorem ko_set (W : World) (p : Addr) (u : Value) (B : Nat) : KeepsFrom B W (W.setCell p u) := (KeepsOthers.setCell W p u).from B

theorem ko_below {W W' : World} (h : Below W.heap.size W W') : KeepsOthers W W' :=
  ⟨h.size, fun k o hk _ => by rw [h.block k (Array.getElem?_eq_some_iff.1 hk).1]; exact hk⟩
/-- An item in a box. -/
def ItIn (b : Nat) (x : Im) (W : World) : Prop := W.heap[b]? = some (.cells #[.bool x.l, .string x.t, x.sl] 47 (0, 0))
theorem ItIn.lt {b : Nat} {x : Im} {W : World} (h : ItIn b x W) : b < W.heap.size := (Array.getElem?_eq_some_iff.1 h).1
/-- One of those within. -/
abbrev El (x : Im) := { e : Nat × Im // e ∈ pro 1 x }

set_option maxRecDepth 100000 in
set_option maxHeartbeats 2000000 in
theorem within1_in (n l bX n0 : Nat) (x : Im) (hc : cnt x < 100000000000000000) (W : World) (hbx : ItIn bX x W) (hW : n0 ≤ W.heap.size) (hm : inMem n0 W x) (J Jx : List (Nat × Im) → World → Prop) (B : Nat) (hJ : AbidesFrom B J)
    (hY : ∀ m pre e W, J pre W → pre.length < cnt x → e ∈ pro 1 x → n0 ≤ W.heap.size → YieldAt Fence.wide m Tryz.prog l (wEnc e) W fun e' W' =>
      (e' = .returned (.bool true) ∧ J (pre ++ [e]) W' ∧ ItK n0 W W') ∨ (e' = .returned (.bool false) ∧ Jx (pre ++ [e]) W')) (h0 : J [] W) :
    CallsIn Fence.wide n Tryz.prog 137 #[.func (.yield l) #[] #[], .pointer (some ⟨bX, 0, none⟩)] W fun e W' => (∃ v, e = .returned v) ∧
      (J (pro 1 x) W' ∨ ∃ q, q ≤ cnt x ∧ Jx ((pro 1 x).take q) W') := by
  have K := fun n => yieldWithin_in l n0 B (cnt x) (fun e => e ∈ pro 1 x) J Jx hJ hY (cnt x) x 1 [] W n (Nat.le_refl _) (by omega) (fun _ h => h) (by simp) hW hm h0
  obtain ⟨il, it, ia, ic, xs⟩ := x
  have x0 : W.cell? ⟨bX, 0, none⟩ = some (.bool il) := by rw [Lib.cell_of_heap hbx]; rfl
  have x1 : W.cell? ⟨bX, 1, none⟩ = some (.string it) := by rw [Lib.cell_of_heap hbx]; rfl
  have x2 : W.cell? ⟨bX, 2, none⟩ = some (.slice ia xs.length ic) := by rw [Lib.cell_of_heap hbx]; rfl
  refine callsIn_of_wp Tryz.func137 rfl trivial ?_ rfl
  simp only [Tryz.ntmps137, List.size_toArray, List.length_cons, List.length_nil, Nat.reduceAdd, Nat.reduceSub, Array.replicate_succ, Array.replicate_zero, List.push_toArray, List.append_toArray, List.nil_append, List.cons_append]
  gi_wp2_with fail
  refine ⟨trivial, fun h => (by cases h), (K (n - 1)).mono ?_⟩
  rintro e W3 (⟨rfl, hJ3, _⟩ | ⟨rfl, q, hq, hJx3⟩)
  · gi_wp2
    go_end0
    exact ⟨⟨_, rfl⟩, .inl hJ3⟩
  · gi_wp2
    go_end0
    exact ⟨⟨_, rfl⟩, .inr ⟨q, hq, hJx3⟩⟩

theorem within_stops (n bX n0 : Nat) (x : Im) (hc : cnt x < 100000000000000000) (w : World) (hbx : ItIn bX x w) (hw : n0 ≤ w.heap.size) (hm : inMem n0 w x) :
    SeqStopsK Fence.wide n Tryz.prog 137 #[.pointer (some ⟨bX, 0, none⟩)] (fun e : El x => wEnc e.1) (ItK n0) (fun ys => ys.map (·.1) = pro 1 x) (fun pre => ∃ q, q ≤ cnt x ∧ pre.map (·.1) = (pro 1 x).take q) (cnt x) w := fun l J Jx W hW hJ hJx hY h0 => by
  have hw0 : n0 ≤ W.heap.size := Nat.le_trans hw hW.size
  refine (within1_in n l bX n0 x hc W ((hW.block bX hbx.lt).trans hbx) hw0 (inMem_below hw (hW.mono hw) x hm) (fun pre0 W => ∃ pre : List (El x), pre.map (·.1) = pre0 ∧ J pre W) (fun pre0 W => ∃ pre : List (El x), pre.map (·.1) = pre0 ∧ Jx pre W) W.heap.size
    (fun s A C row hs hg hr => by obtain ⟨pre, h1, h2⟩ := hs; exact ⟨pre, h1, hJ pre A C row h2 hg hr⟩)
    (fun m pre0 e W1 hj hl he hn => by
      obtain ⟨pre, h1, h2⟩ := hj
      have hl' : pre.length < cnt x := by rw [← h1, List.length_map] at hl; exact hl
      refine (yieldAny m (hY pre ⟨e, he⟩ W1 h2 hl')).mono fun e' W' h => ?_
      rcases h with ⟨ha, hb, hc'⟩ | ⟨ha, hb⟩
      · exact .inl ⟨ha, ⟨pre ++ [⟨e, he⟩], by rw [List.map_append, h1]; rfl, hb⟩, hc'⟩
      · exact .inr ⟨ha, ⟨pre ++ [⟨e, he⟩], by rw [List.map_append, h1]; rfl, hb⟩⟩) ⟨[], rfl, h0⟩).mono ?_
  rintro e W' ⟨he, ⟨pre, h1, h2⟩ | ⟨q, hq, pre, h1, h2⟩⟩
  · exact ⟨he, .inl ⟨pre, h1, h2⟩⟩
  · exact ⟨he, .inr ⟨pre, ⟨q, hq, h1⟩, h2⟩⟩

set_option maxHeartbeats 1000000 in
theorem within_any (x : Im) (w : World) :
    Calls Tryz.prog 126 #[x.val] w fun e w' => e = .returned (.func (.func 137) #[] #[.pointer (some ⟨w.heap.size, 0, none⟩)]) ∧ w' = w.alloc (.cells #[.bool x.l, .string x.t, x.sl] 47) := by
  obtain ⟨il, it, ia, ic, xs⟩ := x
  show Calls Tryz.prog 126 #[.agg #[.bool il, .string it, .slice ia xs.length ic]] w _
  go_enter Tryz.func126, Tryz.ntmps126
  go_wp2
  go_ret
  exact ⟨rfl, rfl⟩

theorem itK_put {n0 : Nat} {w W : World} {l : Nat} {o o' : Obj} (hn : n0 ≤ w.heap.size) (hl : w.heap.size ≤ l) (h1 : W.heap[l]? = some o) (h2 : o.isCells = false) (h3 : o.isWalk = false) : ItK n0 W (W.putObj l o') := by
  refine ⟨belowK_b hn W l o o' hl h1 h2 h3, fun k c fz hk => ?_⟩
  refine (World.putObj_heap_other (fun e => ?_)).trans hk
  rw [e, h1] at hk
  cases hk
  cases h2
theorem wpOfC {P : Program} {f : FuncId} {args : Array Value} {R : Ending → World → Prop} {W : World} (S : World → Prop) (hS : S W) (h : ∀ W', S W' → Calls P f args W' R) : Calls P f args W R := h W hS
/-- Of all that have come something holds; of one it does not. -/
def AllE {x : Im} (p : Nat × Im → Prop) (pre : List (El x)) : Prop := ∀ e, e ∈ pre → p e.1
def ExE {x : Im} (p : Nat × Im → Prop) (pre : List (El x)) : Prop := ∃ e, e ∈ pre ∧ ¬ p e.1
theorem AllE.snoc {x : Im} {p : Nat × Im → Prop} {pre : List (El x)} (h : AllE p pre) (e : El x) (he : p e.1) : AllE p (pre ++ [e]) := fun e' h' => by
  rcases List.mem_append.1 h' with h' | h'
  · exact h e' h'
  · rw [List.mem_singleton.1 h']; exact he
theorem ExE.snoc {x : Im} {p : Nat × Im → Prop} (pre : List (El x)) (e : El x) (he : ¬ p e.1) : ExE p (pre ++ [e]) := ⟨e, by simp, he⟩
theorem AllE.all {x : Im} {p : Nat × Im → Prop} {ys : List (El x)} (h : AllE p ys) (hy : ys.map (·.1) = pro 1 x) : ∀ e, e ∈ pro 1 x → p e := fun e he => by
  rw [← hy] at he
  obtain ⟨e', he', rfl⟩ := List.mem_map.1 he
  exact h e' he'
theorem ExE.some {x : Im} {p : Nat × Im → Prop} {ys : List (El x)} (h : ExE p ys) : ∃ e, e ∈ pro 1 x ∧ ¬ p e := by
  obtain ⟨e, _, h⟩ := h
  exact ⟨e.1, e.2, h⟩
def okD (e : Nat × Im) : Prop := e.1 ≤ 12
/-- Is an item too deep? -/
def deep (x : Im) : Bool := (pro 1 x).any fun e => decide (12 < e.1)

set_option maxRecDepth 100000 in
set_option maxHeartbeats 2000000 in
theorem isDeep_any (x : Im) (hc : cnt x < 100000000000000000) (n0 : Nat) (w : World) (hw : n0 ≤ w.heap.size) (hm : inMem n0 w x) :
    Calls Tryz.prog 123 #[x.val] w fun e w' => e = .returned (.bool (deep x)) ∧ Below w.heap.size w w' := by
  have KW : Hid (∀ w : World, _) := fun w : World => within_any x w
  have KS := fun n bX w hb hn hm => within_stops n bX n0 x hc w hb hn hm
  have hD : deep x = (pro 1 x).any fun e => decide (12 < e.1) := rfl
  obtain ⟨L, hL⟩ : ∃ L, pro 1 x = L := ⟨_, rfl⟩
  rw [hL] at hD
  obtain ⟨il, it, ia, ic, xs⟩ := x
  replace KW : Hid (∀ w : World, Calls Tryz.prog 126 #[.agg #[.bool il, .string it, .slice ia xs.length ic]] w fun e w' => e = .returned (.func (.func 137) #[] #[.pointer (some ⟨w.heap.size, 0, none⟩)]) ∧ w' = w.alloc (.cells #[.bool il, .string it, .slice ia xs.length ic] 47)) := KW
  show Calls Tryz.prog 123 #[.agg #[.bool il, .string it, .slice ia xs.length ic]] w _
  refine (callsIn_wide (n := 9)).1 ?_
  refine callsIn_of_wp_marks Tryz.func123 rfl trivial ?_ rfl
  refine wpIn_wide.2 ?_
  simp only [Tryz.ntmps123, List.size_toArray, List.length_cons, List.length_nil, Nat.reduceAdd, Nat.reduceSub, Array.replicate_succ, Array.replicate_zero, List.push_toArray, List.append_toArray, List.nil_append, List.cons_append]
  go_wp2_with fail
  refine wpOfC (fun W => Bx (w.heap.size + 1) 4 (.bool false) W ∧ Below w.heap.size w W) ?_ ?_
  · refine ⟨?_, ((Below.refl _ w).alloc (Nat.le_refl _) _).alloc (by simp) _⟩
    have := World.alloc_heap_new (w.alloc (.cells #[.bool il, .string it, .slice ia xs.length ic] 47)) (.cells #[.bool false] 4)
    rwa [World.size_alloc] at this
  rintro w1 ⟨hR, BW1⟩
  obtain ⟨z, hz⟩ : ∃ c, w.heap.size = c := ⟨_, rfl⟩
  have HZ : Hid (w.heap.size = z) := hz
  have hm1 := inMem_below hw (BW1.mono hw) _ hm
  rw [hz] at hR BW1 hw ⊢
  obtain ⟨bR, hbR⟩ : ∃ c, z + 1 = c := ⟨_, rfl⟩
  rw [hbR] at hR ⊢
  clear hz hm
  refine (KW.out _).mono ?_
  rintro e w2 ⟨rfl, hw2⟩
  have a2 : Below w1.heap.size w1 w2 := by rw [hw2]; exact (Below.refl _ w1).alloc (Nat.le_refl _) _
  have hcx : ItIn w1.heap.size (.mk il it ia ic xs) w2 := by rw [hw2]; exact World.alloc_heap_new w1 _
  have hRl := hR.lt
  have hR2 : Bx bR 4 (.bool false) w2 := (a2.block bR hR.lt).trans hR
  have BW2 := belowStep BW1 (by omega) a2
  have hm2 := inMem_below (by omega) (a2.mono (by omega)) _ hm1
  clear hw2 a2 hR BW1 hm1
  obtain ⟨bX, hbX⟩ : ∃ c, w1.heap.size = c := ⟨_, rfl⟩
  rw [hbX] at hcx hRl ⊢
  clear hbX
  go_wp2_with fail
  have hxz : bX < w2.heap.size := hcx.lt
  have hn2 : n0 ≤ w2.heap.size := by omega
  refine (wpIn_wide (n := 9)).1 ?_
  refine wpIn_rangeFunc_ownH rfl (by omega) (gf := 137) (lb := #[.pointer (some ⟨bX, 0, none⟩)]) rfl trivial (enters_of Tryz.func137 (by kernel_rfl) rfl)
    (KS _ bX w2 hcx hn2 hm2) (fun h k => ItK.trans h k) (fun W l o o' hl h1 h2 h3 => itK_put hn2 hl h1 h2 h3) (Below.refl _ _) (fun _ => rfl)
    (fun pre W => Bx bR 4 (.bool false) W ∧ Below z w W ∧ AllE okD pre)
    (fun c pre W => c = .ret ∧ Bx bR 4 (.bool true) W ∧ Below z w W ∧ ExE okD pre)
    (fun s A C row hs hg hr => ⟨hs.1.own hg (fun r e => (hr r e).2), hs.2.1.grown hg (by have := hs.1.lt; omega) (fun k e => Nat.le_trans (by omega) (hr k e).1), hs.2.2⟩)
    (fun c s A C row hs hg hr => ⟨hs.1, hs.2.1.own hg (fun r e => (hr r e).2), hs.2.2.1.grown hg (by have := hs.2.1.lt; omega) (fun k e => Nat.le_trans (by omega) (hr k e).1), hs.2.2.2⟩)
    ⟨hR2, BW2, fun e he => (by cases he)⟩
    (fun x a' _ => a' = { tmps := #[.agg #[.bool il, .string it, .slice ia xs.length ic], .pointer (some ⟨z, 0, none⟩), .pointer (some ⟨bR, 0, none⟩), .int .i64 x.1.1, .agg #[.bool il, .string it, .slice ia xs.length ic], .func (.func 137) #[] #[.pointer (some ⟨bX, 0, none⟩)], .int .i64 x.1.1, x.1.2.val, undef, undef], defers := [] })
    (fun x a' _ X Y row hs hg hr => hs)
    ?assign ?body ?done ?stop
  case assign =>
    rintro l pre x W K hI hK
    dsimp only [wEnc]
    gi_wp2
    exact hK _ _ (KeepsFrom.refl _ _) (ItK.refl _ _) hI rfl
  case body =>
    rintro l pre x a' W hl ⟨r, hr⟩ ⟨hRd, BWd, hall⟩ rfl hlt
    obtain ⟨d, hd⟩ : ∃ d, x.1.1 = d := ⟨_, rfl⟩
    obtain ⟨v, hv⟩ : ∃ v, x.1.2.val = v := ⟨_, rfl⟩
    rw [hd, hv]
    have HD : Hid (x.1.1 = d) := hd
    clear hd hv
    have cR := hRd.cell
    have fR := hRd.fr
    have hRW := hRd.lt
    by_cases hbig : 12 < d
    · have l0 : (12 : Int) < d := by omega
      gi_wp2
      refine (?_ : KeepsFrom _ W (W.setCell ⟨bR, 0, none⟩ (.bool true)) ∧ Code.ret = .ret ∧ Bx bR 4 (.bool true) (W.setCell ⟨bR, 0, none⟩ (.bool true)) ∧ Below z w (W.setCell ⟨bR, 0, none⟩ (.bool true)) ∧ ExE okD (pre ++ [x]))
      exact ⟨ko_set _ _ _ _, rfl, hRd.put _, BWd.setCell (p := ⟨bR, 0, none⟩) (by show z ≤ bR; omega) _, ExE.snoc pre x (by unfold okD; rw [HD.out]; omega)⟩
    · have l0 : ¬ (12 : Int) < d := by omega
      gi_wp2
      refine (?_ : KeepsFrom _ W W ∧ ItK n0 W W ∧ Bx bR 4 (.bool false) W ∧ Below z w W ∧ AllE okD (pre ++ [x]))
      exact ⟨KeepsFrom.refl _ _, ItK.refl _ _, hRd, BWd, hall.snoc x (by unfold okD; rw [HD.out]; omega)⟩
  case done =>
    rintro D ys W hD hys ⟨hRd, BWd, hall⟩ hK
    have cR := hRd.cell
    have fR := hRd.fr
    have HO : Hid (deep (.mk il it ia ic xs) = false) := by
      show (pro 1 _).any _ = false
      rw [List.any_eq_false]
      intro e he
      have : e.1 ≤ 12 := hall.all hys e he
      simp
      omega
    have hDR : D ≠ bR := fun e => by rw [e, show W.heap[bR]? = _ from hRd] at hK; cases hK
    have hR5 := hRd.put (.bool false)
    have hK5 : (W.setCell ⟨bR, 0, none⟩ (.bool false)).heap[D]? = some (.deferred (some [])) := (Below.heap_setCell _ _ _ _ hDR).trans hK
    have B5 : Below z w (W.setCell ⟨bR, 0, none⟩ (.bool false)) := BWd.setCell (p := ⟨bR, 0, none⟩) (by show z ≤ bR; omega) _
    have HX : Hid (_ ∧ _ ∧ _) := ⟨hR5, hK5, B5⟩
    clear hR5 hK5 B5 hRd BWd hK
    go_wp2_with fail
    obtain ⟨hR5, hK5, B5⟩ := HX.out
    have hbP := belowK_b (n₀ := z) (w := w2) (by omega) _ D _ (.deferred none) hD hK5 rfl rfl
    have c5 : ((W.setCell ⟨bR, 0, none⟩ (.bool false)).putObj D (.deferred none)).cell? ⟨bR, 0, none⟩ = some (.bool false) := Bx.cell ((World.putObj_heap_other (fun e => hDR e.symm)).trans hR5)
    refine ⟨by simp, .inl ⟨_, _, rfl, run_takeDeferred hK5, ?_⟩⟩
    refine ⟨.bool false, by simp [results, Tryz.results123, go_sem, c5], by rw [HO.out], ?_⟩
    rw [HZ.out]
    exact B5.trans hbP
  case stop =>
    rintro D c pre W hD ⟨q, hq, hys⟩ ⟨rfl, hRd, BWd, hex⟩ hK
    have cR := hRd.cell
    have HO : Hid (deep (.mk il it ia ic xs) = true) := by
      show (pro 1 _).any _ = true
      obtain ⟨e, he, he2⟩ := hex.some
      unfold okD at he2
      rw [List.any_eq_true]
      exact ⟨e, he, by simp; omega⟩
    have hDR : D ≠ bR := fun e => by rw [e, show W.heap[bR]? = _ from hRd] at hK; cases hK
    gi_wp2
    have hbP := belowK_b (n₀ := z) (w := w2) (by omega) _ D _ (.deferred none) hD hK rfl rfl
    have c5 : (W.putObj D (.deferred none)).cell? ⟨bR, 0, none⟩ = some (.bool true) := Bx.cell ((World.putObj_heap_other (fun e => hDR e.symm)).trans hRd)
    refine ⟨by simp, .inl ⟨_, _, rfl, run_takeDeferred hK, ?_⟩⟩
    refine ⟨.bool true, by simp [results, Tryz.results123, go_sem, c5], by rw [HO.out], ?_⟩
    rw [HZ.out]
    exact BWd.trans hbP
end Go.Proofs.YtbpcciifaekffaaGreatDoor
namespace Go.Proofs.YtbpcciifaekffaaGreatDoor
open Go.RowKit Go.Shelf
attribute [local go_sem] Oper.semAt_some

/-- Is one right, by itself? -/
def rgt (x : Im) : Bool := if x.l then decide (x.t.size = 0) else decide (x.xs.length = 0)
theorem empty_list (s : ByteArray) (h : s.size = 0) : s.toList.isEmpty = true := by
  rw [← decide_eq_emptyBytes s]
  exact decide_eq_true (is_empty s h)
def okR (e : Nat × Im) : Prop := rgt e.2 = true
def right (x : Im) : Bool := (pro 1 x).all fun e => rgt e.2
theorem ItIn.own {b : Nat} {x : Im} {A C : World} {row : Option Nat} (h : ItIn b x A) (hg : A.grownBy C row) (hr : ∀ r, row = some r → ∃ o : Obj, A.heap[r]? = some o ∧ o.isCells = false) : ItIn b x C := by
  refine (hg.block b h.lt (fun e => ?_)).trans h
  obtain ⟨o, ho, hc⟩ := hr b e.symm
  rw [show A.heap[b]? = _ from h] at ho
  cases ho
  cases hc

set_option maxRecDepth 100000 in
set_option maxHeartbeats 2000000 in
theorem isRight_any (x : Im) (hc : cnt x < 100000000000000000) (n0 : Nat) (w : World) (hw : n0 ≤ w.heap.size) (hm : inMem n0 w x) :
    Calls Tryz.prog 124 #[x.val] w fun e w' => e = .returned (.bool (right x)) ∧ Below w.heap.size w w' := by
  have KW : Hid (∀ w : World, _) := fun w : World => within_any x w
  have KS := fun n bX w hb hn hm => within_stops n bX n0 x hc w hb hn hm
  obtain ⟨il, it, ia, ic, xs⟩ := x
  replace KW : Hid (∀ w : World, Calls Tryz.prog 126 #[.agg #[.bool il, .string it, .slice ia xs.length ic]] w fun e w' => e = .returned (.func (.func 137) #[] #[.pointer (some ⟨w.heap.size, 0, none⟩)]) ∧ w' = w.alloc (.cells #[.bool il, .string it, .slice ia xs.length ic] 47)) := KW
  show Calls Tryz.prog 124 #[.agg #[.bool il, .string it, .slice ia xs.length ic]] w _
  refine (callsIn_wide (n := 9)).1 ?_
  refine callsIn_of_wp_marks Tryz.func124 rfl trivial ?_ rfl
  refine wpIn_wide.2 ?_
  simp only [Tryz.ntmps124, List.size_toArray, List.length_cons, List.length_nil, Nat.reduceAdd, Nat.reduceSub, Array.replicate_succ, Array.replicate_zero, List.push_toArray, List.append_toArray, List.nil_append, List.cons_append]
  go_wp2_with fail
  refine wpOfC (fun W => Bx (w.heap.size + 1) 4 (.bool false) W ∧ Below w.heap.size w W) ?_ ?_
  · refine ⟨?_, ((Below.refl _ w).alloc (Nat.le_refl _) _).alloc (by simp) _⟩
    have := World.alloc_heap_new (w.alloc (.cells #[.bool il, .string it, .slice ia xs.length ic] 47)) (.cells #[.bool false] 4)
    rwa [World.size_alloc] at this
  rintro w1 ⟨hR, BW1⟩
  obtain ⟨z, hz⟩ : ∃ c, w.heap.size = c := ⟨_, rfl⟩
  have HZ : Hid (w.heap.size = z) := hz
  have hm1 := inMem_below hw (BW1.mono hw) _ hm
  rw [hz] at hR BW1 hw ⊢
  obtain ⟨bR, hbR⟩ : ∃ c, z + 1 = c := ⟨_, rfl⟩
  rw [hbR] at hR ⊢
  clear hz hm
  refine (KW.out _).mono ?_
  rintro e w2 ⟨rfl, hw2⟩
  have a2 : Below w1.heap.size w1 w2 := by rw [hw2]; exact (Below.refl _ w1).alloc (Nat.le_refl _) _
  have hcx : ItIn w1.heap.size (.mk il it ia ic xs) w2 := by rw [hw2]; exact World.alloc_heap_new w1 _
  have hRl := hR.lt
  have hR2 : Bx bR 4 (.bool false) w2 := (a2.block bR hR.lt).trans hR
  have BW2 := belowStep BW1 (by omega) a2
  have hm2 := inMem_below (by omega) (a2.mono (by omega)) _ hm1
  clear hw2 a2 hR BW1 hm1
  obtain ⟨bX, hbX⟩ : ∃ c, w1.heap.size = c := ⟨_, rfl⟩
  rw [hbX] at hcx hRl ⊢
  clear hbX
  go_wp2_with fail
  have hxz : bX < w2.heap.size := hcx.lt
  have hn2 : n0 ≤ w2.heap.size := by omega
  refine (wpIn_wide (n := 9)).1 ?_
  refine wpIn_rangeFunc_ownH rfl (by omega) (gf := 137) (lb := #[.pointer (some ⟨bX, 0, none⟩)]) rfl trivial (enters_of Tryz.func137 (by kernel_rfl) rfl)
    (KS _ bX w2 hcx hn2 hm2) (fun h k => ItK.trans h k) (fun W l o o' hl h1 h2 h3 => itK_put hn2 hl h1 h2 h3) (Below.refl _ _) (fun _ => rfl)
    (fun pre W => Bx bR 4 (.bool false) W ∧ Below z w W ∧ AllE okR pre)
    (fun c pre W => c = .ret ∧ Bx bR 4 (.bool false) W ∧ Below z w W ∧ ExE okR pre)
    (fun s A C row hs hg hr => ⟨hs.1.own hg (fun r e => (hr r e).2), hs.2.1.grown hg (by have := hs.1.lt; omega) (fun k e => Nat.le_trans (by omega) (hr k e).1), hs.2.2⟩)
    (fun c s A C row hs hg hr => ⟨hs.1, hs.2.1.own hg (fun r e => (hr r e).2), hs.2.2.1.grown hg (by have := hs.2.1.lt; omega) (fun k e => Nat.le_trans (by omega) (hr k e).1), hs.2.2.2⟩)
    ⟨hR2, BW2, fun e he => (by cases he)⟩
    (fun x a' W => ∃ Bi, bR < Bi ∧ ItIn Bi x.1.2 W ∧ a' = { tmps := #[.agg #[.bool il, .string it, .slice ia xs.length ic], .pointer (some ⟨z, 0, none⟩), .pointer (some ⟨bR, 0, none⟩), undef, .pointer (some ⟨Bi, 0, none⟩), .agg #[.bool il, .string it, .slice ia xs.length ic], .func (.func 137) #[] #[.pointer (some ⟨bX, 0, none⟩)], .int .i64 x.1.1, x.1.2.val, undef, undef, undef, undef, undef, undef, undef, undef, undef, undef, undef, undef, undef, undef, undef, undef, undef, undef], defers := [] })
    (fun x a' _ X Y row hs hg hr => by obtain ⟨Bi, h1, h2, h3⟩ := hs; exact ⟨Bi, h1, h2.own hg (fun r e => (hr r e).2), h3⟩)
    ?assign ?body ?done ?stop
  case assign =>
    rintro l pre x W K ⟨hRd, BWd, hall⟩ hK
    dsimp only [wEnc]
    obtain ⟨⟨d, il2, it2, ia2, ic2, xs2⟩, hx⟩ := x
    simp only [Im.val, Im.l, Im.t, Im.sl, Im.a, Im.xs, Im.c]
    have hRW := hRd.lt
    have A1 : Below W.heap.size W (W.alloc (.cells #[.bool il2, .string it2, .slice ia2 xs2.length ic2] 47)) := (Below.refl _ W).alloc (Nat.le_refl _) _
    have hN : ItIn W.heap.size (.mk il2 it2 ia2 ic2 xs2) (W.alloc (.cells #[.bool il2, .string it2, .slice ia2 xs2.length ic2] 47)) := World.alloc_heap_new W _
    gi_wp2
    exact hK _ _ ((ko_below A1).from _) (ItK.of_below (by omega) A1) ⟨(A1.block _ hRW).trans hRd, belowStep BWd (by omega) A1, hall⟩ ⟨W.heap.size, hRW, hN, rfl⟩
  case body =>
    rintro l pre x a' W hl ⟨r, hr⟩ ⟨hRd, BWd, hall⟩ ⟨Bi, hBi, hIt, rfl⟩ hlt
    obtain ⟨⟨d, il2, it2, ia2, ic2, xs2⟩, hx⟩ := x
    have i0 : W.cell? ⟨Bi, 0, none⟩ = some (.bool il2) := by rw [Lib.cell_of_heap hIt]; rfl
    have i1 : W.cell? ⟨Bi, 1, none⟩ = some (.string it2) := by rw [Lib.cell_of_heap hIt]; rfl
    have i2 : W.cell? ⟨Bi, 2, none⟩ = some (.slice ia2 xs2.length ic2) := by rw [Lib.cell_of_heap hIt]; rfl
    simp only [Im.val, Im.l, Im.t, Im.sl, Im.a, Im.xs, Im.c]
    have cR := hRd.cell
    have fR := hRd.fr
    have hRW := hRd.lt
    clear hIt
    cases il2 with
    | true =>
      by_cases h0 : it2.size = 0
      · have he : it2.toList.isEmpty = true := empty_list it2 h0
        gi_wp2
        refine (?_ : KeepsFrom _ W W ∧ ItK n0 W W ∧ Bx bR 4 (.bool false) W ∧ Below z w W ∧ AllE okR (pre ++ [_]))
        exact ⟨KeepsFrom.refl _ _, ItK.refl _ _, hRd, BWd, hall.snoc _ ((if_pos rfl).trans (decide_eq_true h0))⟩
      · have he := ne_empty it2 (by omega)
        gi_wp2
        any_goals (rename_i hb _; exact absurd hb (by simp [undef]))
        refine (?_ : KeepsFrom _ W (W.setCell ⟨bR, 0, none⟩ (.bool false)) ∧ Code.ret = .ret ∧ Bx bR 4 (.bool false) (W.setCell ⟨bR, 0, none⟩ (.bool false)) ∧ Below z w (W.setCell ⟨bR, 0, none⟩ (.bool false)) ∧ ExE okR (pre ++ [_]))
        exact ⟨ko_set _ _ _ _, rfl, hRd.put _, BWd.setCell (p := ⟨bR, 0, none⟩) (by show z ≤ bR; omega) _, ExE.snoc pre _ (fun h => h0 (of_decide_eq_true ((if_pos rfl).symm.trans h)))⟩
    | false =>
      by_cases h0 : xs2.length = 0
      · have he : ¬ (0 : Int) < xs2.length := by omega
        gi_wp2
        refine (?_ : KeepsFrom _ W W ∧ ItK n0 W W ∧ Bx bR 4 (.bool false) W ∧ Below z w W ∧ AllE okR (pre ++ [_]))
        exact ⟨KeepsFrom.refl _ _, ItK.refl _ _, hRd, BWd, hall.snoc _ ((if_neg (by decide : ¬ false = true)).trans (decide_eq_true h0))⟩
      · have he : (0 : Int) < xs2.length := by omega
        gi_wp2
        refine (?_ : KeepsFrom _ W (W.setCell ⟨bR, 0, none⟩ (.bool false)) ∧ Code.ret = .ret ∧ Bx bR 4 (.bool false) (W.setCell ⟨bR, 0, none⟩ (.bool false)) ∧ Below z w (W.setCell ⟨bR, 0, none⟩ (.bool false)) ∧ ExE okR (pre ++ [_]))
        exact ⟨ko_set _ _ _ _, rfl, hRd.put _, BWd.setCell (p := ⟨bR, 0, none⟩) (by show z ≤ bR; omega) _, ExE.snoc pre _ (fun h => h0 (of_decide_eq_true ((if_neg (by decide : ¬ false = true)).symm.trans h)))⟩
  case done =>
    rintro D ys W hD hys ⟨hRd, BWd, hall⟩ hK
    have cR := hRd.cell
    have fR := hRd.fr
    have HO : Hid (right (.mk il it ia ic xs) = true) := by
      show (pro 1 _).all _ = true
      rw [List.all_eq_true]
      exact fun e he => hall.all hys e he
    have hDR : D ≠ bR := fun e => by rw [e, show W.heap[bR]? = _ from hRd] at hK; cases hK
    have hR5 := hRd.put (.bool true)
    have hK5 : (W.setCell ⟨bR, 0, none⟩ (.bool true)).heap[D]? = some (.deferred (some [])) := (Below.heap_setCell _ _ _ _ hDR).trans hK
    have B5 : Below z w (W.setCell ⟨bR, 0, none⟩ (.bool true)) := BWd.setCell (p := ⟨bR, 0, none⟩) (by show z ≤ bR; omega) _
    have HX : Hid (_ ∧ _ ∧ _) := ⟨hR5, hK5, B5⟩
    clear hR5 hK5 B5 hRd BWd hK
    go_wp2_with fail
    obtain ⟨hR5, hK5, B5⟩ := HX.out
    have hbP := belowK_b (n₀ := z) (w := w2) (by omega) _ D _ (.deferred none) hD hK5 rfl rfl
    have c5 : ((W.setCell ⟨bR, 0, none⟩ (.bool true)).putObj D (.deferred none)).cell? ⟨bR, 0, none⟩ = some (.bool true) := Bx.cell ((World.putObj_heap_other (fun e => hDR e.symm)).trans hR5)
    refine ⟨by simp, .inl ⟨_, _, rfl, run_takeDeferred hK5, ?_⟩⟩
    refine ⟨.bool true, by simp [results, Tryz.results124, go_sem, c5], by rw [HO.out], ?_⟩
    rw [HZ.out]
    exact B5.trans hbP
  case stop =>
    rintro D c pre W hD ⟨q, hq, hys⟩ ⟨rfl, hRd, BWd, hex⟩ hK
    have cR := hRd.cell
    have HO : Hid (right (.mk il it ia ic xs) = false) := by
      show (pro 1 _).all _ = false
      obtain ⟨e, he, he2⟩ := hex.some
      unfold okR at he2
      rw [List.all_eq_false]
      exact ⟨e, he, he2⟩
    have hDR : D ≠ bR := fun e => by rw [e, show W.heap[bR]? = _ from hRd] at hK; cases hK
    gi_wp2
    have hbP := belowK_b (n₀ := z) (w := w2) (by omega) _ D _ (.deferred none) hD hK rfl rfl
    have c5 : (W.putObj D (.deferred none)).cell? ⟨bR, 0, none⟩ = some (.bool false) := Bx.cell ((World.putObj_heap_other (fun e => hDR e.symm)).trans hRd)
    refine ⟨by simp, .inl ⟨_, _, rfl, run_takeDeferred hK, ?_⟩⟩
    refine ⟨.bool false, by simp [results, Tryz.results124, go_sem, c5], by rw [HO.out], ?_⟩
    rw [HZ.out]
    exact BWd.trans hbP
end Go.Proofs.YtbpcciifaekffaaGreatDoor
namespace Go.Proofs.YtbpcciifaekffaaGreatDoor
open Go.RowKit Go.Shelf Go.Sort
attribute [local go_sem] Oper.semAt_some

/-- A statement in the text's order, in a round of a loop over a function: it is walked as anywhere. -/
theorem list_round {P : Program} (l' n : Nat) {ops : Array Oper} {Q : Exit → Act → World → Prop} (hL : ¬ LetsOut Q) : ∀ (rest : List Oper), (∀ o, o ∈ rest → ∀ c, o.op ≠ .defer c) → ∀ (a : Act) (w : World), wpList P ops Q rest a w → wpListIn (Fence.wide.inRound l') n P ops Q rest a w
  | [], _, _, _, h => h
  | o :: rest, hd, a, w, h => by
    unfold wpList at h
    unfold wpListIn
    by_cases hw : Region.wanted o (yielded ops a.tmps) = true
    · simp only [hw, if_true] at h ⊢
      exact Oper.wpIn_mono (fun a' w' h' => list_round l' n hL rest (fun o ho => hd o (List.mem_cons_of_mem _ ho)) a' w' h') (op_round l' n (hd o (List.mem_cons_self ..)) (h.resolve_right fun x => hL x.2))
    · simp only [hw] at h ⊢
      exact ⟨fun _ _ => trivial, list_round l' n hL rest (fun o ho => hd o (List.mem_cons_of_mem _ ho)) _ w h⟩
theorem region_ord_in {P : Program} (l' n : Nat) {id : Nat} {Q : Exit → Act → World → Prop} {a : Act} {w : World} {l : List Oper} (hd : noDefer l.toArray = true) (hL : ¬ LetsOut Q) (h : wpList P l.toArray Q l a w) : (Code.region id l.toArray false).wpIn (Fence.wide.inRound l') n P Q a w :=
  wpIn_region_lit (list_round l' n hL l (fun o ho c hc => by
    have := List.all_eq_true.1 hd o (by simpa using ho)
    simp [hc] at this) a w h)

theorem strCells_app (a b : ByteArray) : Lib.strCells (a ++ b) = Lib.strCells a ++ Lib.strCells b := by
  unfold Lib.strCells
  simp
/-- Heads and texts, one behind the other. -/
def cat (l : List (Nat × Im)) : ByteArray := l.foldl (fun b e => b ++ hOf e.2 ++ e.2.t) ⟨#[]⟩
theorem cat_snoc (l : List (Nat × Im)) (e : Nat × Im) : cat (l ++ [e]) = cat l ++ hOf e.2 ++ e.2.t := by simp [cat, List.foldl_append]
theorem hdB_size (b s : Nat) (h : s < 1000000000000000000) : (hdB b s).size ≤ 9 := by
  unfold hdB
  have := blen_le s 8 (by omega)
  split
  · show 1 ≤ 9
    omega
  · rw [ByteArray.size_append, numOf, by8_size]
    show 1 + _ ≤ 9
    omega
mutual
theorem pro_tb : ∀ (d : Nat) (x : Im) (e : Nat × Im), e ∈ pro d x → tb e.2 ≤ tb x
  | d, .mk l t a c xs, e, h => by
    rcases List.mem_cons.1 (show e ∈ (d, Im.mk l t a c xs) :: pros (d + 1) xs from h) with rfl | h
    · exact Nat.le_refl _
    · have := pros_tb (d + 1) xs e h
      show _ ≤ t.size + 9 + tbs xs
      omega
theorem pros_tb : ∀ (d : Nat) (xs : List Im) (e : Nat × Im), e ∈ pros d xs → tb e.2 ≤ tbs xs
  | _, [], _, h => by cases h
  | d, x :: r, e, h => by
    rcases List.mem_append.1 (show e ∈ pro d x ++ pros d r from h) with h | h
    · have := pro_tb d x e h
      show _ ≤ tb x + tbs r
      omega
    · have := pros_tb d r e h
      show _ ≤ tb x + tbs r
      omega
end
mutual
theorem pro_mem {n : Nat} {W : World} : ∀ (d : Nat) (x : Im) (e : Nat × Im), inMem n W x → e ∈ pro d x → inMem n W e.2
  | d, .mk l t a c xs, e, hm, h => by
    rcases List.mem_cons.1 (show e ∈ (d, Im.mk l t a c xs) :: pros (d + 1) xs from h) with rfl | h
    · exact hm
    · exact pros_memm a 0 (d + 1) xs e hm h
theorem pros_memm {n : Nat} {W : World} (a : Option Addr) : ∀ (i d : Nat) (xs : List Im) (e : Nat × Im), rowMem n W a i xs → e ∈ pros d xs → inMem n W e.2
  | _, _, [], _, _, h => by cases h
  | i, d, x :: r, e, hm, h => by
    rcases List.mem_append.1 (show e ∈ pro d x ++ pros d r from h) with h | h
    · exact pro_mem d x e hm.2.1 h
    · exact pros_memm a (i + 1) d r e hm.2.2 h
end
theorem hOf_size (x : Im) (h : tb x < 1000000000000000000) : (hOf x).size ≤ 9 := by
  have h1 := body_tb x h
  have h0 := h
  rw [tb_eq] at h
  unfold hOf
  split
  · exact hdB_size _ _ (by omega)
  · split
    · exact Nat.zero_le _
    · exact hdB_size _ _ (by omega)
theorem cnt_tb : ∀ (N : Nat) (x : Im), cnt x ≤ N → cnt x ≤ tb x := by
  have key : ∀ N, (∀ x : Im, cnt x ≤ N → cnt x ≤ tb x) := by
    intro N
    induction N with
    | zero => intro x h; rw [cnt_eq] at h; omega
    | succ N ih =>
      intro x h
      rw [cnt_eq] at h ⊢
      rw [tb_eq]
      have : ∀ xs : List Im, cnts xs ≤ N → cnts xs ≤ tbs xs := by
        intro xs
        induction xs with
        | nil => intro _; exact Nat.le_refl _
        | cons y r ihr =>
          intro hc
          have h0 : cnts (y :: r) = cnt y + cnts r := rfl
          have h1 : tbs (y :: r) = tb y + tbs r := rfl
          have := ih y (by omega)
          have := ihr (by omega)
          omega
      have := this x.xs (by omega)
      omega
  exact key
/-- The state of a round: the bytes so far in a slice of their own. -/
def ESt {x : Im} (z zz bB n0 : Nat) (w : World) (pre : List (El x)) (W : World) : Prop :=
  ∃ v, Bx bB 60 v W ∧ W.ownsRow zz 5 1 v (cat (pre.map (·.1))).size (Lib.strCells (cat (pre.map (·.1)))) ∧ Hid (v ≠ .slice none 0 0) ∧ Below z w W ∧ inMem n0 W x
theorem owns_below {w w' : World} {b : Nat} {e : TypeId} {size : Nat} {v : Value} {n : Nat} {xs : List Value} (h : w.ownsRow b e size v n xs) (hb : Below w.heap.size w w') : w'.ownsRow b e size v n xs :=
  h.kept (row := none) ⟨hb.os, hb.tape, hb.output, hb.size, fun k hk _ => hb.block k hk⟩ (by cases v.ownBlock <;> simp)
theorem owns_own {A C : World} {b n : Nat} {e : TypeId} {v : Value} {xs : List Value} {row : Option Nat} (h : A.ownsRow b e 1 v n xs) (hg : A.grownBy C row) (hr : ∀ r, row = some r → ∃ o : Obj, A.heap[r]? = some o ∧ o.isCells = false) : C.ownsRow b e 1 v n xs := by
  refine h.kept hg ?_
  cases e' : v.ownBlock with
  | none => exact .inl rfl
  | some k =>
    obtain ⟨c, fz, hk⟩ := Lib.ownsRowF_kind (World.ownsRowF_of h) k e'
    refine .inr fun e2 => ?_
    obtain ⟨o, ho, hc⟩ := hr k e2.symm
    rw [hk] at ho
    cases ho
    cases hc
theorem ESt.own {x : Im} {z zz bB n0 : Nat} {w A C : World} {pre : List (El x)} {row : Option Nat} (h : ESt z zz bB n0 w pre A) (hz : n0 ≤ z ∧ z < bB) (hg : A.grownBy C row) (hr : ∀ r, row = some r → z ≤ r ∧ ∃ o : Obj, A.heap[r]? = some o ∧ o.isCells = false) : ESt z zz bB n0 w pre C := by
  obtain ⟨v, h1, h2, h3, h4, h5⟩ := h
  have hl := h1.lt
  refine ⟨v, h1.own hg (fun r e => (hr r e).2), owns_own h2 hg (fun r e => (hr r e).2), h3, h4.grown hg (by omega) (fun k e => (hr k e).1), inMem_below (by omega) ((Below.refl n0 A).grown hg (by omega) (fun k e => Nat.le_trans hz.1 (hr k e).1)) x h5⟩
/-- A slice that is appended to, in its box. -/
theorem app_step {W W9 : World} {zz bB n n' : Nat} {v v' : Value} {xs xs' : List Value} (hBB : Bx bB 60 v W) (hown : W.ownsRow zz 5 1 v n xs) (hown' : W9.ownsRow zz 5 1 v' n' xs') (hg : W.grownBy W9 v.ownBlock) (n0 : Nat) (h0 : n0 ≤ zz) (h1 : n0 ≤ bB) :
    Bx bB 60 v' (W9.setCell ⟨bB, 0, none⟩ v') ∧ (W9.setCell ⟨bB, 0, none⟩ v').ownsRow zz 5 1 v' n' xs' ∧ ItK n0 W (W9.setCell ⟨bB, 0, none⟩ v') ∧ (∀ B, B ≤ zz → B ≤ bB → Below B W (W9.setCell ⟨bB, 0, none⟩ v')) ∧ ∀ B, KeepsFrom B W (W9.setCell ⟨bB, 0, none⟩ v') := by
  have hlt := hBB.lt
  have kind := Lib.ownsRowF_kind (World.ownsRowF_of hown)
  have kind' := Lib.ownsRowF_kind (World.ownsRowF_of hown')
  have hne : some bB ≠ v.ownBlock := fun e => by
    obtain ⟨c, fz, hk⟩ := kind bB e.symm
    rw [show W.heap[bB]? = _ from hBB] at hk
    cases hk
  have hB9 : Bx bB 60 v W9 := (hg.block bB hlt hne).trans hBB
  have hne' : v'.ownBlock ≠ some bB := fun e => by
    obtain ⟨c, fz, hk⟩ := kind' bB e
    rw [show W9.heap[bB]? = _ from hB9] at hk
    cases hk
  have hbel : ∀ B, B ≤ zz → B ≤ bB → Below B W (W9.setCell ⟨bB, 0, none⟩ v') := fun B hB hB2 =>
    ((Below.refl B W).grown hg (by omega) (fun k e => Nat.le_trans hB (hown.lt k e).1)).setCell (p := ⟨bB, 0, none⟩) hB2 _
  refine ⟨hB9.put v', ?_, ⟨hbel n0 h0 h1, fun k c fz hk => ?_⟩, hbel, fun B => ⟨?_, fun k o _ hk ho => ?_⟩⟩
  · exact hown'.kept (row := some bB) ⟨rfl, rfl, rfl, by simp [World.setCell], fun k _ hk => Below.heap_setCell _ _ _ _ (fun e => hk (by simp [e]))⟩ (Or.inr hne')
  · rw [Below.heap_setCell _ _ _ _ (fun e => by rw [e, show W.heap[bB]? = _ from hBB] at hk; cases hk), hg.block k (Array.getElem?_eq_some_iff.1 hk).1 (fun e => by
      obtain ⟨c', fz', hk'⟩ := kind k e.symm
      rw [hk] at hk'
      cases hk')]
    exact hk
  · have := hg.size
    simp [World.setCell]
    omega
  · rw [Below.heap_setCell _ _ _ _ (fun e => by rw [e, show W.heap[bB]? = _ from hBB] at hk; cases hk; cases ho), hg.block k (Array.getElem?_eq_some_iff.1 hk).1 (fun e => by
      obtain ⟨c', fz', hk'⟩ := kind k e.symm
      rw [hk] at hk'
      cases hk'
      cases ho)]
    exact hk
theorem owns_form {W : World} {zz n : Nat} {e : TypeId} {v : Value} {xs : List Value} (h : W.ownsRow zz e 1 v n xs) (hv : v ≠ .slice none 0 0) : ∃ g c, v = .slice (some ⟨g, 0, none⟩) n c := by
  rcases h.2 with ⟨h, _⟩ | ⟨g, c, _, h, _⟩
  · exact absurd h hv
  · exact ⟨g, c, h⟩
theorem app_box {W W9 : World} {zz bB n : Nat} {v : Value} {xs : List Value} (hBB : Bx bB 60 v W) (hown : W.ownsRow zz 5 1 v n xs) (hg : W.grownBy W9 v.ownBlock) : Bx bB 60 v W9 :=
  (hg.block bB hBB.lt (fun e => by
    obtain ⟨c, fz, hk⟩ := Lib.ownsRowF_kind (World.ownsRowF_of hown) bB e.symm
    rw [show W.heap[bB]? = _ from hBB] at hk
    cases hk)).trans hBB
theorem cat_le {x : Im} (htb : tb x < 4000000) (l : List (Nat × Im)) (h : ∀ e, e ∈ l → e ∈ pro 1 x) : (cat l).size ≤ l.length * 5000000 := by
  have key : ∀ (l : List (Nat × Im)) (b : ByteArray), (∀ e, e ∈ l → e ∈ pro 1 x) → (l.foldl (fun b e => b ++ hOf e.2 ++ e.2.t) b).size ≤ b.size + l.length * 5000000 := by
    intro l
    induction l with
    | nil => intro b _; exact Nat.le_refl _
    | cons e l ih =>
      intro b h
      have h1 := ih (b ++ hOf e.2 ++ e.2.t) (fun e' he => h e' (List.mem_cons_of_mem _ he))
      have h2 := pro_tb 1 x e (h e (List.mem_cons_self ..))
      have h3 := hOf_size e.2 (by omega)
      have h4 := tb_eq e.2
      rw [ByteArray.size_append, ByteArray.size_append] at h1
      rw [List.foldl_cons, List.length_cons]
      omega
  have := key l ⟨#[]⟩ h
  have h0 : (⟨#[]⟩ : ByteArray).size = 0 := rfl
  unfold cat
  omega
/-- What Encode answers. -/
def encE (x : Im) : Int := if deep x then 41 else if right x then (if 65536 < szOf x then 42 else 0) else 2
def encS (x : Im) : ByteArray := if encE x = 0 then cat (pro 1 x) else ⟨#[]⟩

set_option maxRecDepth 100000 in
set_option maxHeartbeats 4000000 in
theorem encode_any (x : Im) (htb : tb x < 4000000) (n0 : Nat) (w : World) (hw : n0 ≤ w.heap.size) (hm : inMem n0 w x) :
    Calls Tryz.prog 106 #[x.val] w fun e w' => e = .returned (.tuple #[.string (encS x), .int .i64 (encE x)]) ∧ Below w.heap.size w w' := by
  obtain ⟨i0, hi0, hz0, hz1, hz2⟩ := info_parts info_u8
  have hcnt := cnt_tb (cnt x) x (Nat.le_refl _)
  have KD : Hid (∀ (w : World), n0 ≤ w.heap.size → inMem n0 w x → _) := fun w hw hm => isDeep_any x (by omega) n0 w hw hm
  have KR : Hid (∀ (w : World), n0 ≤ w.heap.size → inMem n0 w x → _) := fun w hw hm => isRight_any x (by omega) n0 w hw hm
  have KZ : Hid (∀ (w : World), n0 ≤ w.heap.size → inMem n0 w x → _) := fun w hw hm => sizeOf_all (cnt x) x (Nat.le_refl _) (by omega) n0 w hw hm
  have KW : Hid (∀ w : World, _) := fun w : World => within_any x w
  have KS := fun n bX w hb hn hm => within_stops n bX n0 x (by omega) w hb hn hm
  have hszb := sz_tb x (by omega)
  have HE : Hid (encE x = (if deep x then 41 else if right x then (if 65536 < szOf x then 42 else 0) else 2) ∧ encS x = (if encE x = 0 then cat (pro 1 x) else ⟨#[]⟩)) := ⟨rfl, rfl⟩
  obtain ⟨dp, hdp⟩ : ∃ b, deep x = b := ⟨_, rfl⟩
  obtain ⟨rt, hrt⟩ : ∃ b, right x = b := ⟨_, rfl⟩
  obtain ⟨sz, hsz⟩ : ∃ b, szOf x = b := ⟨_, rfl⟩
  rw [hdp] at KD HE
  rw [hrt] at KR HE
  rw [hsz] at KZ HE hszb
  obtain ⟨il, it, ia, ic, xs⟩ := x
  replace KW : Hid (∀ w : World, Calls Tryz.prog 126 #[.agg #[.bool il, .string it, .slice ia xs.length ic]] w fun e w' => e = .returned (.func (.func 137) #[] #[.pointer (some ⟨w.heap.size, 0, none⟩)]) ∧ w' = w.alloc (.cells #[.bool il, .string it, .slice ia xs.length ic] 47)) := KW
  show Calls Tryz.prog 106 #[.agg #[.bool il, .string it, .slice ia xs.length ic]] w _
  refine (callsIn_wide (n := 9)).1 ?_
  refine callsIn_of_wp_marks Tryz.func106 rfl trivial ?_ rfl
  refine wpIn_wide.2 ?_
  simp only [Tryz.ntmps106, List.size_toArray, List.length_cons, List.length_nil, Nat.reduceAdd, Nat.reduceSub, Array.replicate_succ, Array.replicate_zero, List.push_toArray, List.append_toArray, List.nil_append, List.cons_append]
  have A0 : Below w.heap.size w (w.alloc (.cells #[.bool il, .string it, .slice ia xs.length ic] 47)) := (Below.refl _ w).alloc (Nat.le_refl _) _
  have hB0 : ItIn w.heap.size (.mk il it ia ic xs) (w.alloc (.cells #[.bool il, .string it, .slice ia xs.length ic] 47)) := World.alloc_heap_new w _
  have hm0 := inMem_below hw (A0.mono hw) _ hm
  go_wp2_with fail
  refine (KD.out _ (by simp; omega) hm0).mono ?_
  rintro e w1 ⟨rfl, B1⟩
  have hB1 : ItIn w.heap.size (.mk il it ia ic xs) w1 := (B1.block _ hB0.lt).trans hB0
  have hm1 := inMem_below (by simp; omega) (B1.mono (by simp; omega)) _ hm0
  have C1 := belowStep A0 A0.size B1
  clear B1 A0 hB0 hm0 KD hm
  obtain ⟨z, hz⟩ : ∃ c, w.heap.size = c := ⟨_, rfl⟩
  have HZ : Hid (w.heap.size = z) := hz
  rw [hz] at hB1 C1 hw ⊢
  clear hz
  have x0 : w1.cell? ⟨z, 0, none⟩ = some (.bool il) := by rw [Lib.cell_of_heap hB1]; rfl
  have x1 : w1.cell? ⟨z, 1, none⟩ = some (.string it) := by rw [Lib.cell_of_heap hB1]; rfl
  have x2 : w1.cell? ⟨z, 2, none⟩ = some (.slice ia xs.length ic) := by rw [Lib.cell_of_heap hB1]; rfl
  cases dp with
  | true =>
    have HO : Hid (encE (.mk il it ia ic xs) = 41 ∧ encS (.mk il it ia ic xs) = ⟨#[]⟩) := by
      obtain ⟨h1, h2⟩ := HE.out
      rw [if_pos rfl] at h1
      rw [h1] at h2
      exact ⟨h1, h2⟩
    go_wp2
    refine ⟨.tuple #[.string ⟨#[]⟩, .int .i64 41], by simp [results, Tryz.results106, go_sem], by rw [HO.out.1, HO.out.2], ?_⟩
    rw [HZ.out]
    exact C1
  | false =>
    go_wp2_with fail
    refine (KR.out _ (by have := hB1.lt; omega) hm1).mono ?_
    rintro e w2 ⟨rfl, B2⟩
    have hB2 : ItIn z (.mk il it ia ic xs) w2 := (B2.block _ hB1.lt).trans hB1
    have hm2 := inMem_below (by have := hB1.lt; omega) (B2.mono (by have := hB1.lt; omega)) _ hm1
    have C2 := belowStep C1 (by have := hB1.lt; omega) B2
    clear B2 hB1 hm1 C1 x0 x1 x2
    have x0 : w2.cell? ⟨z, 0, none⟩ = some (.bool il) := by rw [Lib.cell_of_heap hB2]; rfl
    have x1 : w2.cell? ⟨z, 1, none⟩ = some (.string it) := by rw [Lib.cell_of_heap hB2]; rfl
    have x2 : w2.cell? ⟨z, 2, none⟩ = some (.slice ia xs.length ic) := by rw [Lib.cell_of_heap hB2]; rfl
    cases rt with
    | false =>
      have HO : Hid (encE (.mk il it ia ic xs) = 2 ∧ encS (.mk il it ia ic xs) = ⟨#[]⟩) := by
        obtain ⟨h1, h2⟩ := HE.out
        rw [if_neg (by decide), if_neg (by decide)] at h1
        rw [h1] at h2
        exact ⟨h1, h2⟩
      go_wp2
      refine ⟨.tuple #[.string ⟨#[]⟩, .int .i64 2], by simp [results, Tryz.results106, go_sem], by rw [HO.out.1, HO.out.2], ?_⟩
      rw [HZ.out]
      exact C2
    | true =>
      go_wp2_with fail
      refine (KZ.out _ (by have := hB2.lt; omega) hm2).mono ?_
      rintro e w3 ⟨rfl, B3⟩
      have hB3 : ItIn z (.mk il it ia ic xs) w3 := (B3.block _ hB2.lt).trans hB2
      have hm3 := inMem_below (by have := hB2.lt; omega) (B3.mono (by have := hB2.lt; omega)) _ hm2
      have C3 := belowStep C2 (by have := hB2.lt; omega) B3
      clear B3 hB2 hm2 C2 x0 x1 x2
      have x0 : w3.cell? ⟨z, 0, none⟩ = some (.bool il) := by rw [Lib.cell_of_heap hB3]; rfl
      have x1 : w3.cell? ⟨z, 1, none⟩ = some (.string it) := by rw [Lib.cell_of_heap hB3]; rfl
      have x2 : w3.cell? ⟨z, 2, none⟩ = some (.slice ia xs.length ic) := by rw [Lib.cell_of_heap hB3]; rfl
      by_cases hbig : 65536 < sz
      · have l0 : (65536 : Int) < sz := by omega
        have HO : Hid (encE (.mk il it ia ic xs) = 42 ∧ encS (.mk il it ia ic xs) = ⟨#[]⟩) := by
          obtain ⟨h1, h2⟩ := HE.out
          replace h1 : encE (.mk il it ia ic xs) = 42 := by simpa [hbig] using h1
          rw [h1] at h2
          exact ⟨h1, h2⟩
        go_wp2
        refine ⟨.tuple #[.string ⟨#[]⟩, .int .i64 42], by simp [results, Tryz.results106, go_sem], by rw [HO.out.1, HO.out.2], ?_⟩
        rw [HZ.out]
        exact C3
      · have l0 : ¬ (65536 : Int) < sz := by omega
        have HO : Hid (encE (.mk il it ia ic xs) = 0 ∧ encS (.mk il it ia ic xs) = cat (pro 1 (.mk il it ia ic xs))) := by
          obtain ⟨h1, h2⟩ := HE.out
          replace h1 : encE (.mk il it ia ic xs) = 0 := by simpa [hbig] using h1
          rw [h1, if_pos rfl] at h2
          exact ⟨h1, h2⟩
        go_wp2_with (at_make; refine wpList_make_own _ rfl _ _ 60 rfl w3.heap.size 5 i0 (.int .u8 0) 1 Tryz.underlying60 hi0 hz0 hz1 .i64 .i64 _ sz rfl rfl (by omega) (by rw [hz2]; omega) (by unfold maxLen; omega) (Nat.le_refl _) ?_; intro w4 hown hgr; have B4 : Below w3.heap.size w3 w4 := (Below.refl _ w3).grown hgr (Nat.le_refl _) (fun _ e => by cases e); have A5 : Below w3.heap.size w3 (w4.alloc (.cells #[.slice (some ⟨w3.heap.size, 0, none⟩) 0 sz] 60)) := B4.alloc B4.size _; have y0 := (A5.cell (p := ⟨z, 0, none⟩) hB3.lt).trans x0; have y1 := (A5.cell (p := ⟨z, 1, none⟩) hB3.lt).trans x1; have y2 := (A5.cell (p := ⟨z, 2, none⟩) hB3.lt).trans x2)
        refine wpOfC (fun W => Bx w4.heap.size 60 (.slice (some ⟨w3.heap.size, 0, none⟩) 0 sz) W ∧ W.ownsRow w3.heap.size 5 1 (.slice (some ⟨w3.heap.size, 0, none⟩) 0 sz) 0 [] ∧ Below w3.heap.size w3 W) ⟨World.alloc_heap_new w4 _, hown.alloc _, A5⟩ ?_
        rintro w5 ⟨hBB, hown5, B5⟩
        have hm5 := inMem_below (by have := hB3.lt; omega) (B5.mono (by have := hB3.lt; omega)) _ hm3
        have C5 := belowStep C3 (by have := hB3.lt; omega) B5
        have hzz : z < w3.heap.size := hB3.lt
        have hbb := hBB.lt
        have hbz : w3.heap.size ≤ w4.heap.size := B4.size
        clear y0 y1 y2 x0 x1 x2 A5 B4 hgr hown B5 hB3 hm3 C3 KR KZ
        obtain ⟨zz, hzz2⟩ : ∃ c, w3.heap.size = c := ⟨_, rfl⟩
        obtain ⟨bB, hbB2⟩ : ∃ c, w4.heap.size = c := ⟨_, rfl⟩
        rw [hzz2] at hown5 hBB hzz hbz ⊢
        rw [hbB2] at hBB hbb hbz ⊢
        clear hzz2 hbB2
        refine (KW.out _).mono ?_
        rintro e w6 ⟨rfl, hw6⟩
        have a6 : Below w5.heap.size w5 w6 := by rw [hw6]; exact (Below.refl _ w5).alloc (Nat.le_refl _) _
        have hcx : ItIn w5.heap.size (.mk il it ia ic xs) w6 := by rw [hw6]; exact World.alloc_heap_new w5 _
        have hBB6 : Bx bB 60 (.slice (some ⟨zz, 0, none⟩) 0 sz) w6 := (a6.block bB hbb).trans hBB
        have hown6 := owns_below hown5 a6
        have C6 := belowStep C5 (by omega) a6
        have hm6 := inMem_below (by omega) (a6.mono (by omega)) _ hm5
        clear hw6 a6 hBB hown5 C5 hm5
        obtain ⟨bX, hbX⟩ : ∃ c, w5.heap.size = c := ⟨_, rfl⟩
        rw [hbX] at hcx hbb ⊢
        clear hbX
        go_wp2_with fail
        have hxz : bX < w6.heap.size := hcx.lt
        have hn6 : n0 ≤ w6.heap.size := by omega
        refine (wpIn_wide (n := 9)).1 ?_
        refine wpIn_rangeFunc_ownH rfl (by omega) (gf := 137) (lb := #[.pointer (some ⟨bX, 0, none⟩)]) rfl trivial (enters_of Tryz.func137 (by kernel_rfl) rfl)
          (KS _ bX w6 hcx hn6 hm6) (fun h k => ItK.trans h k) (fun W l o o' hl h1 h2 h3 => itK_put hn6 hl h1 h2 h3) (Below.refl _ _) (fun _ => rfl)
          (fun pre W => ESt z zz bB n0 w pre W)
          (fun _ _ _ => False)
          (fun s A C row hs hg hr => hs.own (by omega) hg (fun r e => ⟨Nat.le_trans (by omega) (hr r e).1, (hr r e).2⟩))
          (fun _ _ _ _ _ hs _ _ => hs)
          ⟨_, hBB6, hown6, (fun e => Value.noConfusion e fun a _ _ => by cases a), C6, hm6⟩
          (fun x a' W => ∃ Bi, bB < Bi ∧ ItIn Bi x.1.2 W ∧ a' = { tmps := #[.agg #[.bool il, .string it, .slice ia xs.length ic], .pointer (some ⟨z, 0, none⟩), .string ⟨#[]⟩, .int .i64 0, .int .i64 sz, .pointer (some ⟨bB, 0, none⟩), undef, .pointer (some ⟨Bi, 0, none⟩), .bool false, .agg #[.bool il, .string it, .slice ia xs.length ic], .bool false, .bool false, .agg #[.bool il, .string it, .slice ia xs.length ic], .bool true, .bool false, .agg #[.bool il, .string it, .slice ia xs.length ic], .int .i64 sz, .int .i64 sz, .bool (decide ((65536 : Int) < sz)), .int .i64 sz, .slice (some ⟨zz, 0, none⟩) 0 sz, .agg #[.bool il, .string it, .slice ia xs.length ic], .func (.func 137) #[] #[.pointer (some ⟨bX, 0, none⟩)], .int .i64 x.1.1, x.1.2.val, undef, undef, undef, undef, undef, undef, undef, undef, undef, undef], defers := [] })
          (fun x a' _ X Y row hs hg hr => by obtain ⟨Bi, h1, h2, h3⟩ := hs; exact ⟨Bi, h1, h2.own hg (fun r e => (hr r e).2), h3⟩)
          ?assign ?body ?done ?stop
        case assign =>
          rintro l pre x W K hI hK
          have hlW : bB < W.heap.size := by obtain ⟨_, h1, _⟩ := hI; exact h1.lt
          dsimp only [wEnc]
          obtain ⟨⟨d, il2, it2, ia2, ic2, xs2⟩, hx⟩ := x
          simp only [Im.val, Im.l, Im.t, Im.sl, Im.a, Im.xs, Im.c]
          have A1 : Below W.heap.size W (W.alloc (.cells #[.bool il2, .string it2, .slice ia2 xs2.length ic2] 47)) := (Below.refl _ W).alloc (Nat.le_refl _) _
          have hN : ItIn W.heap.size (.mk il2 it2 ia2 ic2 xs2) (W.alloc (.cells #[.bool il2, .string it2, .slice ia2 xs2.length ic2] 47)) := World.alloc_heap_new W _
          have hI2 := hI.own ⟨hw, by omega⟩ (grown_of A1) (fun r e => by cases e)
          gi_wp2
          exact hK _ _ ((ko_below A1).from _) (ItK.of_below (by omega) A1) hI2 ⟨W.heap.size, hlW, hN, rfl⟩
        case body =>
          rintro l pre x a' W hl ⟨r, hr⟩ hI ⟨Bi, hBi, hIt, rfl⟩ hlt
          obtain ⟨v, hBBd, hownd, hnv, BWd, hmd⟩ := hI
          have hme := pro_mem 1 _ x.1 hmd x.2
          have htbe := pro_tb 1 _ x.1 x.2
          have hlW := hBBd.lt
          have cB := hBBd.cell
          have fB := hBBd.fr
          obtain ⟨⟨d, il2, it2, ia2, ic2, xs2⟩, hx⟩ := x
          have i0' : W.cell? ⟨Bi, 0, none⟩ = some (.bool il2) := by rw [Lib.cell_of_heap hIt]; rfl
          have i1 : W.cell? ⟨Bi, 1, none⟩ = some (.string it2) := by rw [Lib.cell_of_heap hIt]; rfl
          have i2 : W.cell? ⟨Bi, 2, none⟩ = some (.slice ia2 xs2.length ic2) := by rw [Lib.cell_of_heap hIt]; rfl
          simp only [Im.val, Im.l, Im.t, Im.sl, Im.a, Im.xs, Im.c]
          have hprel := pre.length
          have hcl := cat_le htb (pre.map (·.1)) (fun e he => by obtain ⟨e', _, rfl⟩ := List.mem_map.1 he; exact e'.2)
          rw [List.length_map] at hcl
          have htb2 : tb (.mk il2 it2 ia2 ic2 xs2) < 4000000 := Nat.lt_of_le_of_lt htbe htb
          have htx : it2.size < 4000000 := by rw [tb_eq] at htb2; have : (Im.mk il2 it2 ia2 ic2 xs2).t.size = it2.size := rfl; omega
          have hh9 := hOf_size (.mk il2 it2 ia2 ic2 xs2) (by omega)
          have KH : Hid (∀ (w : World), n0 ≤ w.heap.size → inMem n0 w (.mk il2 it2 ia2 ic2 xs2) → _) := fun w hw hm => headOf_any (.mk il2 it2 ia2 ic2 xs2) (by omega) n0 w hw hm
          obtain ⟨hd, hhd⟩ : ∃ s, hOf (.mk il2 it2 ia2 ic2 xs2) = s := ⟨_, rfl⟩
          obtain ⟨cs, hcs⟩ : ∃ s, cat (pre.map (·.1)) = s := ⟨_, rfl⟩
          rw [hhd] at KH hh9
          rw [hcs] at hownd hcl
          have HC : Hid (cat ((pre ++ [⟨(d, .mk il2 it2 ia2 ic2 xs2), hx⟩] : List (El _)).map (·.1)) = cs ++ hd ++ it2) := by
            show cat _ = _
            rw [List.map_append, List.map_cons, List.map_nil, cat_snoc, hcs, hhd]
            rfl
          have hnW : n0 ≤ W.heap.size := by omega
          have cH : ∀ d os, Calls Tryz.prog 127 #[.agg #[.bool il2, .string it2, .slice ia2 xs2.length ic2]] (grow (redrawn W d) os) fun e w'' => e = .returned (.string hd) ∧ ∃ p : Regrown, w'' = grow (redrawn W p.d) p.os := fun d os => Calls.regrown_of (KH.out _ (Nat.le_trans hnW (below_regrown W d os).size) (inMem_below hnW ((below_regrown W d os).mono hnW) _ hme))
          have k0 := cell_regrown cB
          have k1 := cell_regrown i0'
          have k2 := cell_regrown i1
          have k3 := cell_regrown i2
          clear hcs hhd KH
          gi_wp2_with fail
          refine region_tail_in l _ 3 (by kernel_rfl) (by kernel_rfl) (by rintro ⟨_, _, h⟩; exact h) (by kernel_rfl) ?_
          simp only [List.take_succ_cons, List.take_zero, List.drop_succ_cons, List.drop_zero]
          iterate 2 (quiet_step (fail))
          quiet_step (exact cH _ _)
          refine wpQuiet_nil ?_
          intro w8 hw8
          have hb8 : Below W.heap.size W w8 := by
            obtain ⟨p, rfl⟩ := hw8
            exact below_regrown _ _ _
          have hBB8 : Bx bB 60 v w8 := (hb8.block bB hlW).trans hBBd
          have hown8 := owns_below hownd hb8
          have hIt8 : ItIn Bi (.mk il2 it2 ia2 ic2 xs2) w8 := (hb8.block Bi hIt.lt).trans hIt
          have BW8 := belowStep BWd (by omega) hb8
          have IK8 : ItK n0 W w8 := ItK.of_below (by omega) hb8
          have KF8 := (ko_below hb8).from w6.heap.size
          have hnw8 := hb8.size
          clear hw8 k0 k1 k2 k3 cH cB fB i0' i1 i2
          have cB8 := hBB8.cell
          have fB8 := hBB8.fr
          have cI8 : w8.cell? ⟨Bi, 1, none⟩ = some (.string it2) := by rw [Lib.cell_of_heap hIt8]; rfl
          have hzw8 : zz ≤ w8.heap.size := by omega
          refine Lib.wpList_append_own_string _ rfl _ _ 60 9 rfl zz 5 i0 Tryz.underlying60 Tryz.underlying9 hi0 hz0 hz1 hz2 v _ _ rfl hown8 hd rfl (by unfold maxLen; omega) (by omega) hzw8 ?_
          intro v9 w9 hown9 hgrow hiff
          have hnv9 : v9 ≠ .slice none 0 0 := fun e => hnv.out (hiff.1 e).1
          clear hiff
          obtain ⟨g9, c9, rfl⟩ := owns_form hown9 hnv9
          clear hnv9
          have hBB9 := app_box hBB8 hown8 hgrow
          obtain ⟨hBBa, howna, IKa, Ba, KFa⟩ := app_step hBB8 hown8 hown9 hgrow n0 (by omega) (by omega)
          have hIta : ItIn Bi (.mk il2 it2 ia2 ic2 xs2) (w9.setCell ⟨bB, 0, none⟩ _) := IKa.i Bi _ _ hIt8
          have cB9 := hBB9.cell
          have fB9 := hBB9.fr
          have HX : Hid (_ ∧ _ ∧ _ ∧ _ ∧ _ ∧ _) := ⟨hBBa, howna, IKa, Ba, KFa, hIta⟩
          clear hBBa howna IKa Ba KFa hIta
          go_wp2
          obtain ⟨hBBa, howna, IKa, Ba, KFa, hIta⟩ := HX.out
          have BWa := BW8.trans (Ba z (by omega) (by omega))
          have IKb := IK8.trans IKa
          have KFb := KF8.trans (KFa w6.heap.size)
          clear HX cB9 fB9 hBB9 hgrow hown9 Ba KFa IKa cB8 fB8 cI8 IK8 KF8 BW8 hIt8 hBB8 hown8 hb8
          generalize w9.setCell ⟨bB, 0, none⟩ (.slice (some ⟨g9, 0, none⟩) (cs.size + hd.size) c9) = Wa at *
          have cBa := hBBa.cell
          have fBa := hBBa.fr
          have cIa : Wa.cell? ⟨Bi, 1, none⟩ = some (.string it2) := by rw [Lib.cell_of_heap hIta]; rfl
          refine region_ord_in l _ (by kernel_rfl) (by rintro ⟨_, _, h⟩; exact h) ?_
          go_wp2_with (at_builtin; refine Lib.wpList_append_own_string _ rfl _ _ 60 9 rfl zz 5 i0 Tryz.underlying60 Tryz.underlying9 hi0 hz0 hz1 hz2 _ _ _ rfl howna it2 rfl (by unfold maxLen; omega) (by omega) (by have := hBBa.lt; omega) ?_; intro v10 w10 hown10 hgrow hiff; have hnv10 : v10 ≠ .slice none 0 0 := (fun e => Value.noConfusion (hiff.1 e).1 fun a _ _ => by cases a); clear hiff; obtain ⟨g10, c10, rfl⟩ := owns_form hown10 hnv10; clear hnv10; have hBBb := app_box hBBa howna hgrow; have hst := app_step hBBa howna hown10 hgrow n0 (by omega) (by omega); have HX : Hid _ := hst; clear hst; have cB9 := hBBb.cell; have fB9 := hBBb.fr)
          obtain ⟨hB11, hown11, IK11, B11, KF11⟩ := HX.out
          refine (?_ : KeepsFrom _ W _ ∧ ItK n0 W _ ∧ ESt z zz bB n0 w (pre ++ [_]) _)
          refine ⟨KFb.trans (KF11 _), IKb.trans IK11, _, hB11, ?_, (fun e => Value.noConfusion e fun a _ _ => by cases a), BWa.trans (B11 z (by omega) (by omega)), inMem_below hnW ((IKb.trans IK11).b) _ hmd⟩
          rw [HC.out, ByteArray.size_append, ByteArray.size_append, strCells_app, strCells_app]
          exact hown11
        case done =>
          rintro D ys W hD hys ⟨v, hBBd, hownd, hnv, BWd, hmd⟩ hK
          rw [hys] at hownd
          have HO2 : Hid _ := HO.out.2
          obtain ⟨cs, hcs⟩ : ∃ s, cat (pro 1 (.mk il it ia ic xs)) = s := ⟨_, rfl⟩
          rw [hcs] at hownd HO2
          obtain ⟨g, cp, rfl⟩ := owns_form hownd hnv.out
          have hcv := run_convert_bytes_back (P := Tryz.prog) W 60 9 5 ⟨g, 0, none⟩ cp cs.data.toList Tryz.underlying60 Tryz.underlying5 Tryz.underlying9 (fun j hj => by
            have hj' : j < cs.size := by simpa using hj
            refine hownd.cells (g := g) rfl j _ ?_
            simp [Lib.strCells, hj'])
          rw [show cs.data.toList.length = cs.size by simp, show (⟨cs.data.toList.toArray⟩ : ByteArray) = cs by simp] at hcv
          have cB := hBBd.cell
          have HX : Hid (_ ∧ _) := ⟨BWd, hK⟩
          clear BWd hK hownd hnv hys
          go_wp2
          obtain ⟨BWd, hK⟩ := HX.out
          have hbP := belowK_b (n₀ := z) (w := w6) (by omega) _ D _ (.deferred none) hD hK rfl rfl
          refine ⟨by simp, .inl ⟨_, _, rfl, run_takeDeferred hK, ?_⟩⟩
          refine ⟨.tuple #[.string cs, .int .i64 0], by simp [results, Tryz.results106, go_sem], by rw [HO.out.1, HO2.out], ?_⟩
          rw [HZ.out]
          exact BWd.trans hbP
        case stop =>
          rintro D c pre W _ _ h _
          exact h.elim
end Go.Proofs.YtbpcciifaekffaaGreatDoor
