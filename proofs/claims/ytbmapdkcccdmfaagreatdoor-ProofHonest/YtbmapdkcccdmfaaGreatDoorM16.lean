/- Lemmas: The items whose bytes stand one behind the other: itemsOf, with the lists' capacities. Bytes read: Decode, with the lists' capacities. -/
import Derived.Test.YtbmapdkcccdmfaaGreatDoorM1
import Derived.Test.YtbmapdkcccdmfaaGreatDoorM10
import Derived.Test.YtbmapdkcccdmfaaGreatDoorM11
import Derived.Test.YtbmapdkcccdmfaaGreatDoorM12
import Derived.Test.YtbmapdkcccdmfaaGreatDoorM13
import Derived.Test.YtbmapdkcccdmfaaGreatDoorM14
import Derived.Test.YtbmapdkcccdmfaaGreatDoorM15
import Derived.Test.YtbmapdkcccdmfaaGreatDoorM2
import Derived.Test.YtbmapdkcccdmfaaGreatDoorM3
import Derived.Test.YtbmapdkcccdmfaaGreatDoorM6
import Derived.Test.YtbmapdkcccdmfaaGreatDoorM7
import Derived.Test.YtbmapdkcccdmfaaGreatDoorM8
import Derived.Test.YtbmapdkcccdmfaaGreatDoorM9
import Derived.Test.YtbmapdkcccdmfaaGreatDoorRows
namespace Go.Proofs.YtbmapdkcccdmfaaGreatDoor
mutual
def capI : Im → Prop
 | .mk _ _ _ c xs => xs.length ≤ c ∧ capIs xs
def capIs : List Im → Prop
 | [] => True
 | x :: r => capI x ∧ capIs r
end
theorem capIs_snoc : ∀ (ys : List Im) (X : Im), capIs ys → capI X → capIs (ys ++ [X])
 | [], _, _, h => ⟨h, trivial⟩
 | _ :: r, X, ⟨h1, h2⟩, h => ⟨h1, capIs_snoc r X h2 h⟩
theorem capIs_at : ∀ (ys : List Im) (j : Nat) (x : Im), capIs ys → ys[j]? = some x → capI x
 | [], _, _, _, h => by cases h
 | y :: r, 0, x, ⟨h1, _⟩, h => by cases h; exact h1
 | y :: r, j + 1, x, ⟨_, h2⟩, h => capIs_at r j x h2 h
end Go.Proofs.YtbmapdkcccdmfaaGreatDoor
namespace Go.Proofs.YtbmapdkcccdmfaaGreatDoor.C
open Go.RowKit Go.Shelf Go.Sort
attribute [local go_sem] Oper.semAt_some
def DSt {s : ByteArray} (f z bO : Nat) (w : World) (pre : List (Pe s)) (W : World) : Prop :=
 ∃ v cl ys, Bx z 48 v W ∧ Bx bO 4 (.bool true) W ∧ W.ownsRow z 50 3 v ys.length cl ∧ Held cl ys ∧ (pre.map (·.1)).map (one f) = (ers ys).map some ∧ (∀ y, y ∈ ys → inP (fun b => bO < b ∧ b < W.heap.size ∧ some b ≠ v.ownBlock) W y) ∧ Below z w W ∧ capIs ys
theorem DSt.own {s : ByteArray} {f z bO : Nat} {w A C : World} {pre : List (Pe s)} {row : Option Nat} (h : DSt f z bO w pre A) (hg : A.grownBy C row) (hr : ∀ r, row = some r → z ≤ r ∧ ∃ o : Obj, A.heap[r]? = some o ∧ o.isCells = false) : DSt f z bO w pre C := by
 obtain ⟨v, cl, ys, h1, h2, h3, h4, h5, h6, h7⟩ := h
 have hl := h1.lt
 refine ⟨v, cl, ys, h1.own hg (fun r e => (hr r e).2), h2.own hg (fun r e => (hr r e).2), owns_own3 h3 hg (fun r e => (hr r e).2), h4, h5, fun y hy => ?_, h7.1.grown hg (by omega) (fun k e => (hr k e).1), h7.2⟩
 refine inP_of (fun b hb => ?_) y (inP_cells y (h6 y hy))
 obtain ⟨⟨b1, b2, b3⟩, c, e, fz, hb⟩ := hb
 have := hg.size
 refine ⟨⟨b1, by omega, b3⟩, fun k => World.cell?_of_block (w := A) (hg.block b b2 (fun e2 => ?_))⟩
 obtain ⟨_, o, ho, hc⟩ := hr b e2.symm
 rw [hb] at ho
 cases ho
 cases hc

theorem dst_snoc {s : ByteArray} {f z bO : Nat} {w W W7 Wf : World} {pre : List (Pe s)} {x : Pe s} {v : Value} {cl : List Value} {ys : List Im} {X : Im} {g c : Nat} (hzO : z < bO)
  (hOd : Bx bO 4 (.bool true) W) (hownd : W.ownsRow z 50 3 v ys.length cl) (hheld : Held cl ys) (hone : (pre.map (·.1)).map (one f) = (ers ys).map some) (hin : ∀ y, y ∈ ys → inP (fun b => bO < b ∧ b < W.heap.size ∧ some b ≠ v.ownBlock) W y) (BWd : Below z w W) (hcI : capIs ys) (hcX : capI X)
  (hb : Below W.heap.size W W7) (hX : inP (fun b => W.heap.size ≤ b ∧ b < W7.heap.size) W7 X) (hx : one f x.1 = some (er X))
  (h1 : Bx z 48 (.slice (some ⟨g, 0, none⟩) (ys.length + 1) c) Wf) (h2 : Wf.ownsRow z 50 3 (.slice (some ⟨g, 0, none⟩) (ys.length + 1) c) (ys.length + 1) (cl ++ cell3 X)) (h3 : some g = v.ownBlock ∨ W7.heap.size ≤ g) (h4 : Rl W7 Wf v z) : DSt f z bO w (pre ++ [x]) Wf := by
 have hOw := hOd.lt
 have hs7 := hb.size
 have hs8 := h4.size
 have hvl : ∀ k, some k = v.ownBlock → k < W.heap.size := fun k e => (hownd.lt k e.symm).2
 have hOv : some bO ≠ v.ownBlock := fun e => by
  obtain ⟨c', hk⟩ := owns_kind3 hownd bO e.symm
  rw [show W.heap[bO]? = _ from hOd] at hk
  cases hk
 refine ⟨_, _, ys ++ [X], h1, ?_, ?_, hheld.app X (by rw [hownd.1]), ?_, ?_, ?_⟩
 ·exact (h4.block bO (by omega) hOv (by omega)).trans ((hb.block bO hOw).trans hOd)
 ·rw [List.length_append]
  exact h2
 ·rw [List.map_append, List.map_append, hone, ers_map, ers_map, List.map_append, List.map_append]
  show _ ++ [one f x.1] = _ ++ [some (er X)]
  rw [hx]
 ·intro y hy
  rcases List.mem_append.1 hy with h | h
  ·refine inP_of ?_ y (hin y h)
   intro b hb'
   obtain ⟨c1, c2, c3⟩ := hb'
   refine ⟨⟨c1, by omega, ?_⟩, ?_⟩
   ·intro e
    injection e with e
    have e' : b = g := e
    rcases h3 with h3 | h3
    ·exact c3 (by rw [e']; exact h3)
    ·omega
   ·intro k
    exact (World.cell?_of_block (w := W7) (a := ⟨b, k, none⟩) (h4.block b (by omega) c3 (by omega))).trans (hb.cell (p := ⟨b, k, none⟩) c2)
  ·simp at h
   subst h
   refine inP_of ?_ y hX
   intro b hb'
   obtain ⟨c1, c2⟩ := hb'
   refine ⟨⟨by omega, by omega, ?_⟩, ?_⟩
   ·intro e
    injection e with e
    have e' : b = g := e
    rcases h3 with h3 | h3
    ·have := hvl g h3
     omega
    ·omega
   ·intro k
    exact World.cell?_of_block (w := W7) (a := ⟨b, k, none⟩) (h4.block b c2 (fun e => by have := hvl b e; omega) (by omega))
 ·exact ⟨BWd.trans ((hb.mono (by omega)).trans (h4.below (n := ys.length) (cl := cl) (owns_below hownd hb) (Nat.le_refl _) (Nat.le_refl _) (by omega))), capIs_snoc ys X hcI hcX⟩
set_option maxRecDepth 100000 in
set_option maxHeartbeats 4000000 in
theorem itemsOf_of (f : Nat) (s : ByteArray) (hs : s.size < 1000000)
  (IH : ∀ (e : Nat × ByteArray), e ∈ ps s → e.1 = 2 → ∀ w : World, Calls Tryz.prog 108 #[.string e.2] w fun r w' => Below w.heap.size w w' ∧
   ((decF f e.2 = none ∧ r = .returned (.tuple #[.slice none 0 0, .bool false])) ∨ ∃ a c ys, decF f e.2 = some (ers ys) ∧ r = .returned (.tuple #[.slice a ys.length c, .bool true]) ∧ rowP (fun b => w.heap.size ≤ b ∧ b < w'.heap.size) w' a 0 ys ∧ (ys.length ≤ c ∧ capIs ys)))
  (hsub : ∀ e, e ∈ ps s → e.2.size ≤ 1000000)
  (w : World) :
  Calls Tryz.prog 108 #[.string s] w fun r w' => Below w.heap.size w w' ∧
   ((decF (f + 1) s = none ∧ r = .returned (.tuple #[.slice none 0 0, .bool false])) ∨ ∃ a c ys, decF (f + 1) s = some (ers ys) ∧ r = .returned (.tuple #[.slice a ys.length c, .bool true]) ∧ rowP (fun b => w.heap.size ≤ b ∧ b < w'.heap.size) w' a 0 ys ∧ (ys.length ≤ c ∧ capIs ys)) := by
 have KP := parts_any s
 have KS := fun n bX w hb => parts_stops n bX s (by omega) w hb
 have hpl := ps_len s.size s (Nat.le_refl _)
 refine (callsIn_wide (n := 9)).1 ?_
 refine callsIn_of_wp_marks Tryz.func108 rfl trivial ?_ rfl
 refine wpIn_wide.2 ?_
 simp only [Tryz.ntmps108, List.size_toArray, List.length_cons, List.length_nil, Nat.reduceAdd, Nat.reduceSub, Array.replicate_succ, Array.replicate_zero, List.push_toArray, List.append_toArray, List.nil_append, List.cons_append]
 go_wp2_with fail
 refine wp_scope_straight ?_
 go_wp2_with fail
 refine wpOf (fun W => Bx w.heap.size 48 (.slice none 0 0) W ∧ Bx (w.heap.size + 1) 4 (.bool true) W ∧ Below w.heap.size w W) ?_ ?_
 ·have a1 : Below w.heap.size w ((w.alloc (.cells #[.slice none 0 0] 48)).alloc (.cells #[.bool true] 4)) := ((Below.refl _ w).alloc (Nat.le_refl _) _).alloc (by simp) _
  refine ⟨(Lib.alloc_old _ _ _ (by simp)).trans (World.alloc_heap_new w _), ?_, a1⟩
  have := World.alloc_heap_new (w.alloc (.cells #[.slice none 0 0] 48)) (.cells #[.bool true] 4)
  rwa [World.size_alloc] at this
 rintro w2 ⟨hI, hO, BW2⟩
 obtain ⟨z, hz⟩ : ∃ c, w.heap.size = c := ⟨_, rfl⟩
 have HZ : Hid (w.heap.size = z) := hz
 rw [hz] at hI hO BW2 ⊢
 clear hz
 obtain ⟨bO, hbO⟩ : ∃ c, z + 1 = c := ⟨_, rfl⟩
 rw [hbO] at hO ⊢
 refine wp_label ?_
 go_wp2_with fail
 refine (KP w2).mono ?_
 rintro e w3 ⟨rfl, hw3⟩
 have a3 : Below w2.heap.size w2 w3 := by rw [hw3]; exact (Below.refl _ w2).alloc (Nat.le_refl _) _
 have hcx : Bx w2.heap.size 9 (.string s) w3 := by rw [hw3]; exact World.alloc_heap_new w2 _
 have hI3 : Bx z 48 (.slice none 0 0) w3 := (a3.block z hI.lt).trans hI
 have hO3 : Bx bO 4 (.bool true) w3 := (a3.block bO hO.lt).trans hO
 have hOw := hO.lt
 have BW3 := belowStep BW2 (by omega) a3
 clear hw3 a3 hI hO BW2 KP
 obtain ⟨bX, hbX⟩ : ∃ c, w2.heap.size = c := ⟨_, rfl⟩
 rw [hbX] at hcx hOw ⊢
 clear hbX
 go_wp2_with fail
 have hxz : bX < w3.heap.size := hcx.lt
 refine (wpIn_wide (n := 9)).1 ?_
 refine wpIn_rangeFunc_ownH rfl (by omega) (gf := 140) (lb := #[.pointer (some ⟨bX, 0, none⟩)]) rfl trivial (enters_of Tryz.func140 (by kernel_rfl) rfl)
  (KS _ bX w3 hcx) (fun _ _ => trivial) (fun _ _ _ _ _ _ _ _ => trivial) (Below.refl _ _) (fun _ => rfl)
  (fun pre W => DSt f z bO w pre W)
  (fun c pre W => DStop f z bO w c pre W)
  (fun s A C row hs hg hr => hs.own hg (fun r e => ⟨Nat.le_trans (by omega) (hr r e).1, (hr r e).2⟩))
  (fun c s A C row hs hg hr => ⟨hs.1, hs.2.1.own hg (fun r e => (hr r e).2), hs.2.2.1.grown hg (by have := hs.2.1.lt; omega) (fun k e => Nat.le_trans (by omega) (hr k e).1), hs.2.2.2⟩)
  ⟨_, _, [], hI3, hO3, World.ownsRow_nil _ _ _ _, (fun j y h => by cases h), rfl, (fun y h => by cases h), BW3, trivial⟩
  (fun x a' W => a' = { tmps := #[.string s, undef, .slice none 0 0, .bool false, .pointer (some ⟨z, 0, none⟩), .pointer (some ⟨bO, 0, none⟩), .int .i64 x.1.1, .string x.1.2, undef, .string s, .func (.func 140) #[] #[.pointer (some ⟨bX, 0, none⟩)], .int .i64 x.1.1, .string x.1.2, undef, undef, undef, undef, undef, undef, undef, undef, undef, undef, undef, undef, undef, undef, undef, undef, undef, undef, undef, undef, undef, undef, undef, undef, undef, undef], defers := [] })
  (fun _ _ _ _ _ _ h _ _ => h)
  ?assign ?body ?done ?stop
 case assign =>
  rintro l pre x W K hI hK
  dsimp only [pEnc]
  gi_wp2
  exact hK _ _ (KeepsFrom.refl _ _) trivial hI rfl
 case body =>
  rintro l pre x a' W hl ⟨r, hr⟩ ⟨v, cl, ys, hId, hOd, hownd, hheld, hone, hin, BWd, hcI⟩ rfl hlt
  obtain ⟨⟨k, bo⟩, hx⟩ := x
  have hsb := hsub _ hx
  have IHx := IH _ hx
  dsimp only at hsb IHx ⊢
  have hOw := hOd.lt
  have hIw := hId.lt
  have hyl : ys.length < 1000000 := by
   have := congrArg List.length hone
   rw [List.length_map, List.length_map, List.length_map, ers_map, List.length_map] at this
   omega
  have A1 : Below W.heap.size W (W.alloc (.cells #[.bool false, .string ⟨#[]⟩, .slice none 0 0] 50)) := (Below.refl _ W).alloc (Nat.le_refl _) _
  have hT1 : ItIn W.heap.size (.mk false ⟨#[]⟩ none 0 []) (W.alloc (.cells #[.bool false, .string ⟨#[]⟩, .slice none 0 0] 50)) := World.alloc_heap_new W _
  by_cases k1 : k = 1
  ·subst k1
   have KC := fun w => clone_any bo w (by omega)
   gi_wp2_with fail
   refine ⟨trivial, (CallsIn.inRound l (callsIn_wide.2 (KC _))).mono ?_⟩
   rintro e w4 ⟨rfl, B4⟩
   have hT4 : ItIn W.heap.size (.mk false ⟨#[]⟩ none 0 []) w4 := (B4.block _ (by simp)).trans hT1
   have BA := belowStep A1 (by simp) B4
   have hT5 := ItIn.set1 (t' := bo) hT4
   have B5 := below_set BA W.heap.size 1 (Nat.le_refl _) (.string bo)
   have d1 : w4.cell? ⟨W.heap.size, 1, none⟩ = some (.string ⟨#[]⟩) := by rw [Lib.cell_of_heap hT4]; rfl
   have f1 := Lib.frozen_of_heap hT4 1
   have HX : Hid (_ ∧ _) := ⟨hT5, B5⟩
   clear KC A1 hT1 B4 hT4 BA hT5 B5
   gi_wp2_with fail
   obtain ⟨hT7, B7⟩ := HX.out
   refine append_item_in l _ 15 _ z W.heap.size z ys.length v cl (.mk false bo none 0 []) _ _ _ _ _ _ _ _ _ _ _ _ _ _ _ _ _ _ _ _ _ _ _ _ _ _ _ _ _ _ _ _ _ _ _ _ _ (by rintro ⟨_, _, h⟩; exact h) hyl ((B7.block z hIw).trans hId) hT7 (owns_below hownd B7) (by have := B7.size; omega) ?_
   intro a' Wf g c h1 h2 h3 h4
   refine (?_ : KeepsFrom _ W Wf ∧ True ∧ DSt f z bO w (pre ++ [_]) Wf)
   refine ⟨((ko_below B7).from _).trans (h4.keeps ((B7.block z hIw).trans hId) (owns_below hownd B7) _), trivial, dst_snoc (by omega) hOd hownd hheld hone hin BWd hcI (show capI (.mk false bo none 0 []) from ⟨Nat.le_refl _, trivial⟩) B7 (show inP _ _ (.mk false bo none 0 []) from trivial) rfl h1 h2 h3 h4⟩
  ·have b1 : ((k : Int) == 1) = false := by rw [beq_eq_false_iff_ne]; omega
   by_cases k2 : k = 2
   ·subst k2
    have A2 : Below W.heap.size W (W.alloc (.cells #[.bool true, .string ⟨#[]⟩, .slice none 0 0] 50)) := (Below.refl _ W).alloc (Nat.le_refl _) _
    have hT2 : ItIn W.heap.size (.mk true ⟨#[]⟩ none 0 []) (W.alloc (.cells #[.bool true, .string ⟨#[]⟩, .slice none 0 0] 50)) := World.alloc_heap_new W _
    have KI := IHx rfl
    clear A1 hT1 IHx
    gi_wp2_with fail
    refine ⟨trivial, (CallsIn.inRound l (callsIn_wide.2 (KI _))).mono ?_⟩
    rintro e w4 ⟨B4, hcase⟩
    have hT4 : ItIn W.heap.size (.mk true ⟨#[]⟩ none 0 []) w4 := (B4.block _ (by simp)).trans hT2
    have BA := belowStep A2 (by simp) B4
    have hO4 : Bx bO 4 (.bool true) w4 := (BA.block bO hOw).trans hOd
    have d2 : w4.cell? ⟨W.heap.size, 2, none⟩ = some (.slice none 0 0) := by rw [Lib.cell_of_heap hT4]; rfl
    have f2 := Lib.frozen_of_heap hT4 2
    have cO := hO4.cell
    have fO := hO4.fr
    have hbOT : bO ≠ W.heap.size := by omega
    rw [World.size_alloc] at hcase
    clear KI A2 hT2 B4
    rcases hcase with ⟨hnone, rfl⟩ | ⟨a4, c4, zs, hsome, rfl, hrow, hcR⟩
    ·have hO5 := (hO4.other hbOT 2 (.slice none 0 0)).put (.bool false)
     have B5 := (below_set (BWd.trans (BA.mono (by omega))) W.heap.size 2 (by omega) (.slice none 0 0)).setCell (p := ⟨bO, 0, none⟩) (by show z ≤ bO; omega) (.bool false)
     have K5 := (((ko_below BA).from w3.heap.size).trans (ko_set _ ⟨W.heap.size, 2, none⟩ (.slice none 0 0) w3.heap.size)).trans (ko_set _ ⟨bO, 0, none⟩ (.bool false) w3.heap.size)
     have HX : Hid (_ ∧ _ ∧ _) := ⟨hO5, B5, K5⟩
     clear hO5 B5 K5 BA hT4 hO4
     gi_wp2
     obtain ⟨hO2, B2, K2⟩ := HX.out
     refine (?_ : KeepsFrom _ W _ ∧ DStop f z bO w (Code.exit 0) (pre ++ [_]) _)
     refine ⟨K2, rfl, hO2, B2, (2, bo), by simp, ?_⟩
     show (decF f bo).map _ = _
     rw [hnone]
     rfl
    ·have hT5 : ItIn W.heap.size (.mk true ⟨#[]⟩ a4 c4 zs) (w4.setCell ⟨W.heap.size, 2, none⟩ (.slice a4 zs.length c4)) := ItIn.set2 hT4
     have B5 := below_set BA W.heap.size 2 (Nat.le_refl _) (.slice a4 zs.length c4)
     have hO5 := hO4.other hbOT 2 (.slice a4 zs.length c4)
     have B6 := below_same B5 hO5
     have hT6 : ItIn W.heap.size (.mk true ⟨#[]⟩ a4 c4 zs) ((w4.setCell ⟨W.heap.size, 2, none⟩ (.slice a4 zs.length c4)).setCell ⟨bO, 0, none⟩ (.bool true)) := (bx_same hO5 _).trans hT5
     have hX6 : inP (fun b => W.heap.size ≤ b ∧ b < ((w4.setCell ⟨W.heap.size, 2, none⟩ (.slice a4 zs.length c4)).setCell ⟨bO, 0, none⟩ (.bool true)).heap.size) ((w4.setCell ⟨W.heap.size, 2, none⟩ (.slice a4 zs.length c4)).setCell ⟨bO, 0, none⟩ (.bool true)) (.mk true ⟨#[]⟩ a4 c4 zs) := by
      refine rowP_of ?_ a4 0 zs hrow
      intro b hb
      obtain ⟨c1, c2⟩ := hb
      refine ⟨⟨by omega, by simp [World.setCell]; omega⟩, fun j => ?_⟩
      rw [cell_ne _ _ _ _ _ (by show b ≠ bO; omega), cell_ne _ _ _ _ _ (by show b ≠ W.heap.size; omega)]
     have HX : Hid (_ ∧ _ ∧ _) := ⟨hT6, B6, hX6⟩
     clear hT5 B5 hO5 B6 hT6 hX6 BA hT4 hO4 hrow
     gi_wp2_with fail
     obtain ⟨hT7, B7, hX7⟩ := HX.out
     refine append_item_in l _ 15 _ z W.heap.size z ys.length v cl (.mk true ⟨#[]⟩ a4 c4 zs) _ _ _ _ _ _ _ _ _ _ _ _ _ _ _ _ _ _ _ _ _ _ _ _ _ _ _ _ _ _ _ _ _ _ _ _ _ (by rintro ⟨_, _, h⟩; exact h) hyl ((B7.block z hIw).trans hId) hT7 (owns_below hownd B7) (by have := B7.size; omega) ?_
     intro a' Wf g c h1 h2 h3 h4
     refine (?_ : KeepsFrom _ W Wf ∧ True ∧ DSt f z bO w (pre ++ [_]) Wf)
     refine ⟨((ko_below B7).from _).trans (h4.keeps ((B7.block z hIw).trans hId) (owns_below hownd B7) _), trivial, dst_snoc (by omega) hOd hownd hheld hone hin BWd hcI (show capI (.mk true ⟨#[]⟩ a4 c4 zs) from hcR) B7 hX7 (by show (decF f bo).map _ = _; rw [hsome]; rfl) h1 h2 h3 h4⟩
   ·have b2 : ((k : Int) == 2) = false := by rw [beq_eq_false_iff_ne]; omega
    have cO := hOd.cell
    have fO := hOd.fr
    have hO2 : Bx bO 4 (.bool false) ((W.setCell ⟨bO, 0, none⟩ (.bool false)).alloc (.cells #[.bool false, .string ⟨#[]⟩, .slice none 0 0] 50)) := (Lib.alloc_old _ _ _ (by simp [World.setCell]; omega)).trans (hOd.put (.bool false))
    have A2 : Below (W.setCell ⟨bO, 0, none⟩ (.bool false)).heap.size (W.setCell ⟨bO, 0, none⟩ (.bool false)) ((W.setCell ⟨bO, 0, none⟩ (.bool false)).alloc (.cells #[.bool false, .string ⟨#[]⟩, .slice none 0 0] 50)) := (Below.refl _ _).alloc (Nat.le_refl _) _
    have B2 := (BWd.setCell (p := ⟨bO, 0, none⟩) (by show z ≤ bO; omega) (.bool false)).trans (A2.mono (by simp [World.setCell]; omega))
    have K2 := (ko_set W ⟨bO, 0, none⟩ (.bool false) w3.heap.size).trans ((ko_below A2).from w3.heap.size)
    have HX : Hid (_ ∧ _ ∧ _) := ⟨hO2, B2, K2⟩
    clear hO2 B2 K2 A1 A2 hT1
    gi_wp2
    obtain ⟨hO2, B2, K2⟩ := HX.out
    refine (?_ : KeepsFrom _ W _ ∧ DStop f z bO w (Code.exit 0) (pre ++ [_]) _)
    refine ⟨K2, rfl, hO2, B2, (k, bo), by simp, ?_⟩
    show (if k = 1 then _ else if k = 2 then _ else _) = _
    rw [if_neg k1, if_neg k2]
 case done =>
  rintro D ys W hD hys ⟨v, cl, xs, hId, hOd, hownd, hheld, hone, hin, BWd, hcI⟩ hK
  rw [hys] at hone
  have HO : Hid (decF (f + 1) s = some (ers xs)) := comb_some _ _ hone
  have hch := (Array.getElem?_eq_some_iff.1 hK).1
  obtain ⟨ao, c, rfl, hcap⟩ : ∃ ao c, v = .slice ao xs.length c ∧ xs.length ≤ c := by
   rcases hownd.2 with ⟨h, h0⟩ | ⟨g, c, _, h, _, _, hle, _⟩
   ·exact ⟨none, 0, by rw [h, h0], by omega⟩
   ·exact ⟨_, c, h, hle⟩
  have HC : Hid (_ ∧ _) := ⟨hcap, hcI⟩
  clear hcap hcI
  have hrow : rowP (fun b => z ≤ b ∧ b < W.heap.size) W ao 0 xs := rowP_owned hownd hheld hin (fun b hb => ⟨by omega, hb.2.1⟩) (fun g hg => hownd.lt g (by rw [hg]; rfl))
  have cI := hId.cell
  have cO := hOd.cell
  have HX : Hid (_ ∧ _ ∧ _) := ⟨BWd, hK, hrow⟩
  clear BWd hK hrow hownd hheld hone hin hys
  go_wp2
  obtain ⟨BWd, hK, hrow⟩ := HX.out
  rw [Exit.noGoto_ret]
  have hbP := belowK_b (n₀ := z) (w := w3) (by omega) W D _ (.deferred none) hD hK rfl rfl
  refine ⟨by simp, .inl ⟨_, _, rfl, run_takeDeferred hK, ?_⟩⟩
  refine ⟨.tuple #[.slice ao xs.length c, .bool true], by simp [results, Tryz.results108, go_sem], ?_, .inr ⟨ao, c, xs, HO.out, rfl, ?_, HC.out⟩⟩
  ·rw [HZ.out]; exact BWd.trans hbP
  ·rw [HZ.out]
   refine rowP_of (fun b hb => ⟨⟨hb.1.1, by have := hb.1.2; simpa using this⟩, fun k => World.cell?_of_block (w := W) (World.putObj_heap_other (fun e => ?_))⟩) ao 0 xs (rowP_cells ao 0 xs hrow)
   obtain ⟨_, c', e', fz, hc⟩ := hb
   rw [show b = D from e, hK] at hc
   cases hc
 case stop =>
  rintro D c pre W hD ⟨q, hq, hpre⟩ ⟨rfl, hOd, BWd, e, he, hbad⟩ hK
  have HO : Hid (decF (f + 1) s = none) := comb_none _ e (List.mem_of_mem_take (by rw [← hpre]; exact he)) hbad
  have cO := hOd.cell
  gi_wp2
  go_wp2
  rw [Exit.noGoto_ret]
  have hbP := belowK_b (n₀ := z) (w := w3) (by omega) W D _ (.deferred none) hD hK rfl rfl
  refine ⟨by simp, .inl ⟨_, _, rfl, run_takeDeferred hK, ?_⟩⟩
  refine ⟨.tuple #[.slice none 0 0, .bool false], by simp [results, Tryz.results108, go_sem], ?_, .inl ⟨HO.out, rfl⟩⟩
  rw [HZ.out]
  exact BWd.trans hbP
end Go.Proofs.YtbmapdkcccdmfaaGreatDoor.C
namespace Go.Proofs.YtbmapdkcccdmfaaGreatDoor.C
open Go.RowKit Go.Shelf Go.Sort
theorem itemsOf_all : ∀ (N : Nat) (s : ByteArray), s.size ≤ N → s.size < 1000000 → ∀ w : World, Calls Tryz.prog 108 #[.string s] w fun r w' => Below w.heap.size w w' ∧
   ((decF (N + 1) s = none ∧ r = .returned (.tuple #[.slice none 0 0, .bool false])) ∨ ∃ a c ys, decF (N + 1) s = some (ers ys) ∧ r = .returned (.tuple #[.slice a ys.length c, .bool true]) ∧ rowP (fun b => w.heap.size ≤ b ∧ b < w'.heap.size) w' a 0 ys ∧ (ys.length ≤ c ∧ capIs ys))
 | 0, s, h, h2, w => itemsOf_of 0 s h2 (fun e he hk w' => by
   have := (ps_mem s.size s (Nat.le_refl _) e he).2 hk
   omega) (fun e he => by have := (ps_mem s.size s (Nat.le_refl _) e he).1; omega) w
 | N + 1, s, h, h2, w => itemsOf_of (N + 1) s h2 (fun e he hk w' => by
   have := (ps_mem s.size s (Nat.le_refl _) e he).2 hk
   exact itemsOf_all N e.2 (by omega) (by omega) w') (fun e he => by have := (ps_mem s.size s (Nat.le_refl _) e he).1; omega) w

set_option maxRecDepth 20000 in
set_option maxHeartbeats 2000000 in
theorem decode_any (s : ByteArray) (hc : ∀ y : Im, decF 65537 s = some [er y] → cnt y < 100000000000000000) (w : World) :
  Calls Tryz.prog 81 #[.string s] w fun r w' => Below w.heap.size w w' ∧ ∃ x e, r = .returned (.tuple #[x.val, .int .i64 e]) ∧ DecR s x e ∧ inMem w'.heap.size w' x ∧ capI x := by
 have A1 : Below w.heap.size w (w.alloc (.cells #[.bool false, .string ⟨#[]⟩, .slice none 0 0] 50)) := (Below.refl _ w).alloc (Nat.le_refl _) _
 have hR0 : ItIn w.heap.size zeroI (w.alloc (.cells #[.bool false, .string ⟨#[]⟩, .slice none 0 0] 50)) := World.alloc_heap_new w _
 by_cases h0 : 65536 < s.size
 ·have l0 : (65536 : Int) < s.size := by omega
  go_enter Tryz.func81, Tryz.ntmps81
  go_wp2
  refine bodyPost_ret (v := .tuple #[.agg #[.bool false, .string ⟨#[]⟩, .slice none 0 0], .int .i64 42]) (by simp [results, Tryz.results81, go_sem]) rfl ⟨A1, zeroI, 42, rfl, .inl ⟨h0, rfl, rfl⟩, trivial, ⟨Nat.le_refl _, trivial⟩⟩
 ·have l0 : ¬ (65536 : Int) < s.size := by omega
  have hs6 : s.size ≤ 65536 := by omega
  have KI := itemsOf_all 65536 s (by omega) (by omega)
  go_enter Tryz.func81, Tryz.ntmps81
  go_wp2_with fail
  refine (KI _).mono ?_
  rintro e w1 ⟨B1, hcase⟩
  have hR : ItIn w.heap.size zeroI w1 := (B1.block _ (by simp)).trans hR0
  have BA := belowStep A1 (by simp) B1
  rw [World.size_alloc] at hcase
  clear A1 hR0 B1 KI
  obtain ⟨bR, hbR⟩ : ∃ c, w.heap.size = c := ⟨_, rfl⟩
  have HZ : Hid (w.heap.size = bR) := hbR
  rw [hbR] at hR hcase BA ⊢
  clear hbR
  have d0 : w1.cell? ⟨bR, 0, none⟩ = some (.bool false) := by rw [Lib.cell_of_heap hR]; rfl
  have d1 : w1.cell? ⟨bR, 1, none⟩ = some (.string ⟨#[]⟩) := by rw [Lib.cell_of_heap hR]; rfl
  have d2 : w1.cell? ⟨bR, 2, none⟩ = some (.slice none 0 0) := by rw [Lib.cell_of_heap hR]; rfl
  have f0 := Lib.frozen_of_heap hR 0
  have f1 := Lib.frozen_of_heap hR 1
  have f2 := Lib.frozen_of_heap hR 2
  rcases hcase with ⟨hn, rfl⟩ | ⟨a, c, ys, hd, rfl, hrow, hcR⟩
  ·go_wp2
   refine bodyPost_ret (v := .tuple #[.agg #[.bool false, .string ⟨#[]⟩, .slice none 0 0], .int .i64 40]) (by simp [results, Tryz.results81, go_sem, d0, d1, d2]) rfl ⟨?_, zeroI, 40, rfl, .inr (.inl ⟨hs6, fun y h => ?_, rfl, rfl⟩), trivial, ⟨Nat.le_refl _, trivial⟩⟩
   ·rw [HZ.out]
    exact below_set (below_set (below_set BA bR 0 (Nat.le_refl _) _) bR 1 (Nat.le_refl _) _) bR 2 (Nat.le_refl _) _
   ·have h2 := hn.symm.trans h
    cases h2
  ·by_cases h1 : ys.length = 1
   ·obtain ⟨y, rfl⟩ : ∃ y, ys = [y] := List.length_eq_one_iff.1 h1
    have hcy := hc y hd
    obtain ⟨⟨b, o, hb, rfl, c0, c1, c2⟩, hy, -⟩ := hrow
    rw [show o + 3 * 0 = o by omega] at c0 c1 c2
    have hym : inMem w1.heap.size w1 y := inMem_of (fun b hb => hb.2) y hy
    have KD := isDeep_any y hcy w1.heap.size
    obtain ⟨yl, yt, ya, yc, yx⟩ := y
    simp only [Im.l, Im.t, Im.sl, Im.a, Im.xs, Im.c] at c0 c1 c2
    have HX : Hid (_ ∧ _ ∧ _) := ⟨hy, BA, hd⟩
    clear hc hy BA hd h1
    dsimp only [List.length_cons, List.length_nil]
    go_wp2_with fail
    refine (KD _ (Nat.le_refl _) hym).mono ?_
    rintro e w2 ⟨rfl, B2⟩
    have e0 := (B2.cell (p := ⟨bR, 0, none⟩) hR.lt).trans d0
    have e1 := (B2.cell (p := ⟨bR, 1, none⟩) hR.lt).trans d1
    have e2 := (B2.cell (p := ⟨bR, 2, none⟩) hR.lt).trans d2
    have hR2 : ItIn bR zeroI w2 := (B2.block _ hR.lt).trans hR
    have g0 := Lib.frozen_of_heap hR2 0
    have g1 := Lib.frozen_of_heap hR2 1
    have g2 := Lib.frozen_of_heap hR2 2
    have m0 := (B2.cell (p := ⟨b, o, none⟩) hb.2).trans c0
    have m1 := (B2.cell (p := ⟨b, o + 1, none⟩) hb.2).trans c1
    have m2 := (B2.cell (p := ⟨b, o + 2, none⟩) hb.2).trans c2
    obtain ⟨dp, hdp⟩ : ∃ q, deep (.mk yl yt ya yc yx) = q := ⟨_, rfl⟩
    rw [hdp]
    have hbne : b ≠ bR := by omega
    have HY : Hid (_ ∧ _) := ⟨hdp, B2⟩
    clear hdp B2 hym KD c0 c1 c2 d0 d1 d2 f0 f1 f2 hR
    cases dp with
    | true =>
     go_wp2
     obtain ⟨hy, BA, hd⟩ := HX.out
     obtain ⟨hdp, B2⟩ := HY.out
     refine bodyPost_ret (v := .tuple #[.agg #[.bool false, .string ⟨#[]⟩, .slice none 0 0], .int .i64 41]) (by simp [results, Tryz.results81, go_sem, e0, e1, e2]) rfl ⟨?_, zeroI, 41, rfl, .inr (.inr ⟨hs6, _, hd, .inl ⟨hdp, rfl, rfl⟩⟩), trivial, ⟨Nat.le_refl _, trivial⟩⟩
     rw [HZ.out]
     exact below_set (below_set (below_set (belowStep BA (by rw [← HZ.out]; exact BA.size) B2) bR 0 (Nat.le_refl _) _) bR 1 (Nat.le_refl _) _) bR 2 (Nat.le_refl _) _
    | false =>
     go_wp2
     obtain ⟨hy, BA, hd⟩ := HX.out
     obtain ⟨hdp, B2⟩ := HY.out
     refine bodyPost_ret (v := .tuple #[.agg #[.bool yl, .string yt, .slice ya yx.length yc], .int .i64 0]) (by simp [results, Tryz.results81, go_sem, e0, e1, e2]) rfl ⟨?_, .mk yl yt ya yc yx, 0, rfl, .inr (.inr ⟨hs6, _, hd, .inr ⟨hdp, rfl, rfl⟩⟩), ?_, hcR.2.1⟩
     ·rw [HZ.out]
      exact below_set (below_set (below_set (belowStep BA (by rw [← HZ.out]; exact BA.size) B2) bR 0 (Nat.le_refl _) _) bR 1 (Nat.le_refl _) _) bR 2 (Nat.le_refl _) _
     ·refine inMem_of (p := fun b => bR + 1 ≤ b ∧ b < w1.heap.size) (fun b hb => by have := hb.2; have := B2.size; simp [World.setCell]; omega) _ (inP_of ?_ _ hy)
      intro b hb
      refine ⟨hb, fun j => ?_⟩
      rw [cell_ne _ _ _ _ _ (by show b ≠ bR; omega), cell_ne _ _ _ _ _ (by show b ≠ bR; omega), cell_ne _ _ _ _ _ (by show b ≠ bR; omega)]
      exact B2.cell (p := ⟨b, j, none⟩) hb.2
   ·have l1 : ¬ (ys.length : Int) = 1 := by omega
    have l2 : ((ys.length : Int) == 1) = false := by rw [beq_eq_false_iff_ne]; exact l1
    clear hrow
    go_wp2
    refine bodyPost_ret (v := .tuple #[.agg #[.bool false, .string ⟨#[]⟩, .slice none 0 0], .int .i64 40]) (by simp [results, Tryz.results81, go_sem, d0, d1, d2]) rfl ⟨?_, zeroI, 40, rfl, .inr (.inl ⟨hs6, fun y h => ?_, rfl, rfl⟩), trivial, ⟨Nat.le_refl _, trivial⟩⟩
    ·rw [HZ.out]
     exact below_set (below_set (below_set BA bR 0 (Nat.le_refl _) _) bR 1 (Nat.le_refl _) _) bR 2 (Nat.le_refl _) _
    ·have := Option.some.inj (hd.symm.trans h)
     have := congrArg List.length this
     rw [ers_map, List.length_map] at this
     exact h1 this
end Go.Proofs.YtbmapdkcccdmfaaGreatDoor.C
