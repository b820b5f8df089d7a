/- Lemmas: Pairs gathered anew: slices.Values, AppendSeq, Collect. -/
import Derived.Test.YtbmapdkcccdmfaaGreatDoorM1
import Derived.Test.YtbmapdkcccdmfaaGreatDoorM10
import Derived.Test.YtbmapdkcccdmfaaGreatDoorM11
import Derived.Test.YtbmapdkcccdmfaaGreatDoorM12
import Derived.Test.YtbmapdkcccdmfaaGreatDoorM13
import Derived.Test.YtbmapdkcccdmfaaGreatDoorM14
import Derived.Test.YtbmapdkcccdmfaaGreatDoorM15
import Derived.Test.YtbmapdkcccdmfaaGreatDoorM2
import Derived.Test.YtbmapdkcccdmfaaGreatDoorM3
import Derived.Test.YtbmapdkcccdmfaaGreatDoorM32
import Derived.Test.YtbmapdkcccdmfaaGreatDoorM6
import Derived.Test.YtbmapdkcccdmfaaGreatDoorM7
import Derived.Test.YtbmapdkcccdmfaaGreatDoorM8
import Derived.Test.YtbmapdkcccdmfaaGreatDoorM9
import Derived.Test.YtbmapdkcccdmfaaGreatDoorRows
namespace Go.Proofs.YtbmapdkcccdmfaaGreatDoor
open Go.RowKit Go.Shelf Go.Sort
attribute [local go_sem] Oper.semAt_some

def kz : Value → Nat
 | .int _ k => k.toNat
 | _ => 0
def pArr (e : ByteArray × ByteArray) : Array Value := #[pV e]

set_option maxHeartbeats 1000000 in
theorem values_any (a : Option Addr) (m c : Nat) (w : World) :
  Calls Tryz.prog 88 #[.slice a m c] w fun e w' => e = .returned (.func (.func 115) #[] #[.pointer (some ⟨w.heap.size, 0, none⟩)]) ∧ w' = w.alloc (.cells #[.slice a m c] 32) := by
 go_enter Tryz.func88, Tryz.ntmps88
 go_wp2
 go_ret
 exact ⟨rfl, rfl⟩

set_option maxRecDepth 100000 in
set_option maxHeartbeats 2000000 in
theorem values1_in (n l bX n0 : Nat) (es : List (ByteArray × ByteArray)) (hl : es.length < 1000000) (a : Option Addr) (c : Nat) (J Jx : List (ByteArray × ByteArray) → World → Prop) (B : Nat) (hJ : AbidesFrom B J)
  (W : World) (hn0 : n0 ≤ W.heap.size) (hp : slP n0 W a es) (hc0 : W.cell? ⟨bX, 0, none⟩ = some (.slice a es.length c))
  (hY : ∀ m pre e W, J pre W → pre.length < es.length → YieldAt Fence.wide m Tryz.prog l (pArr e) W fun e' W' =>
   (e' = .returned (.bool true) ∧ J (pre ++ [e]) W' ∧ Below n0 W W') ∨ (e' = .returned (.bool false) ∧ Jx (pre ++ [e]) W'))
  (h0 : J [] W) :
  CallsIn Fence.wide n Tryz.prog 115 #[.func (.yield l) #[] #[], .pointer (some ⟨bX, 0, none⟩)] W fun e W' => (∃ v, e = .returned v) ∧
   (J es W' ∨ (∃ q, q ≤ es.length ∧ Jx (es.take q) W')) := by
 obtain ⟨N, hN⟩ : ∃ N, es.length = N := ⟨_, rfl⟩
 rw [hN] at hl hc0
 refine callsIn_of_wp Tryz.func115 rfl trivial ?_ rfl
 simp only [Tryz.ntmps115, List.size_toArray, List.length_cons, List.length_nil, Nat.reduceAdd, Nat.reduceSub, Array.replicate_succ, Array.replicate_zero, List.push_toArray, List.append_toArray, List.nil_append, List.cons_append]
 gi_wp2
 gi_loopw [7] (fun v wr => ∃ k : Nat, v = .int .i64 k ∧ k ≤ N ∧ J (es.take k) wr ∧ Below n0 W wr) (fun v _ => N - kz v)
 case atStart => exact ⟨0, rfl, Nat.zero_le _, h0, Below.refl _ _⟩
 case round =>
  obtain ⟨k, rfl, hk, hJs, BW⟩ := hrel
  by_cases hlt : k < N
  ·have l1 : (k : Int) < N := by omega
   obtain ⟨f, hf⟩ : ∃ f, es[k]? = some f := ⟨es[k]'(by omega), List.getElem?_eq_getElem (by omega)⟩
   have htl : (es.take k).length = k := by rw [List.length_take]; omega
   obtain ⟨b, o, rfl, hb, c0, c1⟩ := slP_at (slP_below BW hp) k f hf
   obtain ⟨r, hr⟩ : ∃ p, o + 2 * k = p := ⟨_, rfl⟩
   rw [hr] at c0 c1
   have hr2 : o + k * 2 = r := by omega
   have wk : IntKind.i64.wrap ((k : Int) + 1) = ((k + 1 : Nat) : Int) := by rw [IntKind.wrap_i64]; omega
   have hA : Below wr.heap.size wr (wr.alloc (.cells #[.string f.1, .string f.2] 55)) := (Below.refl _ wr).alloc (Nat.le_refl _) _
   have hJ3 := hJ _ wr _ none hJs (grown_of hA) (fun _ h => by cases h)
   obtain ⟨fn, tmps, assign, body, hy, hR⟩ := hY (n - 1) (es.take k) f _ hJ3 (by omega)
   have htk : es.take k ++ [f] = es.take (k + 1) := by rw [List.take_add_one, hf]; rfl
   rw [htk] at hR
   have BW3 := BW.trans (hA.mono (Nat.le_trans hn0 BW.size))
   clear htl htk hf hJ3 hA BW
   obtain ⟨fk, fv⟩ := f
   unfold pArr pV at hy
   dsimp only at hy c0 c1 hR BW3
   gi_wp2
   refine ⟨fun h => (by cases h), hR.mono ?_⟩
   rintro e W4 (⟨rfl, hJ4, B4⟩ | ⟨rfl, hJx4⟩)
   ·clear hy hR c0 c1
    have BW4 := BW3.trans B4
    clear BW3 B4
    gi_wp2
    go_roundw
    case rel => exact ⟨k + 1, by first | rfl | (congr 1; omega), by omega, hJ4, BW4⟩
    case measure => show N - (((k + 1 : Nat) : Int)).toNat < N - ((k : Int)).toNat; omega
   ·clear hy hR c0 c1
    gi_wp2
    refine bodyPost_ret (v := .tuple #[]) (by simp [results, Tryz.results115, go_sem]) rfl ⟨⟨_, rfl⟩, .inr ⟨k + 1, by omega, hJx4⟩⟩
  ·have l1 : ¬ (k : Int) < N := by omega
   have hk2 : k = N := by omega
   rw [hk2, ← hN, List.take_length] at hJs
   have HJ : Hid _ := hJs
   clear hJs
   gi_wp2
   go_end0
   exact ⟨⟨_, rfl⟩, .inl HJ.out⟩
theorem values_stops (n bX n0 : Nat) (es : List (ByteArray × ByteArray)) (hl : es.length < 1000000) (a : Option Addr) (c : Nat) (w : World) (hn0 : n0 ≤ w.heap.size) (hp : slP n0 w a es) (hbx : Bx bX 32 (.slice a es.length c) w) :
  SeqStopsK Fence.wide n Tryz.prog 115 #[.pointer (some ⟨bX, 0, none⟩)] pArr (fun A B => Below n0 A B) (fun ys => ys = es) (fun pre => ∃ q, q ≤ es.length ∧ pre = es.take q) es.length w := fun l J Jx W hW hJ hJx hY h0 => by
 refine (values1_in n l bX n0 es hl a c J Jx W.heap.size hJ W (Nat.le_trans hn0 hW.size) (slP_below (hW.mono hn0) hp) (Bx.cell ((hW.block bX hbx.lt).trans hbx)) (fun m pre e W1 hj hl => (yieldAny m (hY pre e W1 hj hl)).mono fun e' W' h => h) h0).mono ?_
 rintro e W' ⟨he, h | ⟨q, hq, h⟩⟩
 ·exact ⟨he, .inl ⟨es, rfl, h⟩⟩
 ·exact ⟨he, .inr ⟨_, ⟨q, hq, rfl⟩, h⟩⟩

def pC (es : List (ByteArray × ByteArray)) : List Value := es.flatMap fun e => [.string e.1, .string e.2]
theorem pC_snoc (es : List (ByteArray × ByteArray)) (e : ByteArray × ByteArray) : pC (es ++ [e]) = pC es ++ [.string e.1, .string e.2] := by simp [pC]
theorem pC_at : ∀ (es : List (ByteArray × ByteArray)) (j : Nat) (e : ByteArray × ByteArray), es[j]? = some e → (pC es)[2 * j]? = some (.string e.1) ∧ (pC es)[2 * j + 1]? = some (.string e.2)
 | [], _, _, h => by cases h
 | a :: r, 0, e, h => by
  cases h
  exact ⟨rfl, rfl⟩
 | a :: r, j + 1, e, h => by
  have := pC_at r j e h
  have e1 : pC (a :: r) = .string a.1 :: .string a.2 :: pC r := rfl
  rw [e1, show 2 * (j + 1) = 2 * j + 1 + 1 by omega, List.getElem?_cons_succ, List.getElem?_cons_succ, List.getElem?_cons_succ, List.getElem?_cons_succ]
  exact this
theorem owns_kind {W : World} {zz n k : Nat} {e : TypeId} {size : Nat} {v : Value} {xs : List Value} (h : W.ownsRow zz e size v n xs) (hk : v.ownBlock = some k) : ∃ c, W.heap[k]? = some (.cells c e (0, 0)) := by
 rcases h.2 with ⟨rfl, _⟩ | ⟨g, c, cur, rfl, _, hg, _⟩
 ·cases hk
 ·injection hk with hk
  subst hk
  exact ⟨cur, hg⟩
theorem owns_owned {A C : World} {b n : Nat} {e : TypeId} {size : Nat} {v : Value} {xs : List Value} {row : Option Nat} (h : A.ownsRow b e size v n xs) (hg : A.grownBy C row) (hr : ∀ r, row = some r → ∃ o : Obj, A.heap[r]? = some o ∧ o.isCells = false) : C.ownsRow b e size v n xs := by
 refine h.kept hg ?_
 cases e' : v.ownBlock with
 | none => exact .inl rfl
 | some k =>
  obtain ⟨c, hk⟩ := owns_kind h e'
  refine .inr fun e2 => ?_
  obtain ⟨o, ho, hc⟩ := hr k e2.symm
  rw [hk] at ho
  cases ho
  cases hc
theorem frozen_block {W W' : World} {b : Nat} (h : W'.heap[b]? = W.heap[b]?) (k : Nat) : W'.frozen? ⟨b, k, none⟩ = W.frozen? ⟨b, k, none⟩ := by
 unfold World.frozen?
 dsimp only
 rw [h]
def GSt (z : Nat) (w : World) (pre : List (ByteArray × ByteArray)) (W : World) : Prop := ∃ v, Bx z 32 v W ∧ W.ownsRow (z + 1) 55 2 v pre.length (pC pre) ∧ Below z w W
theorem GSt.own {z : Nat} {w A C : World} {pre : List (ByteArray × ByteArray)} {row : Option Nat} (h : GSt z w pre A) (hg : A.grownBy C row) (hr : ∀ r, row = some r → z ≤ r ∧ ∃ o : Obj, A.heap[r]? = some o ∧ o.isCells = false) : GSt z w pre C := by
 obtain ⟨v, h1, h2, h3⟩ := h
 have := h1.lt
 exact ⟨v, h1.own hg (fun r e => (hr r e).2), owns_owned h2 hg (fun r e => (hr r e).2), h3.grown hg (by omega) (fun k e => (hr k e).1)⟩
def PrIn (b : Nat) (e : ByteArray × ByteArray) (W : World) : Prop := W.heap[b]? = some (.cells #[.string e.1, .string e.2] 55 (0, 0))
theorem info_pair : (Tryz.prog.info? 55).map (fun i => (i.zero, i.size, i.bytes)) = some (some (.agg #[.string ⟨#[]⟩, .string ⟨#[]⟩]), 2, 32) := by kernel_rfl

set_option maxRecDepth 100000 in
set_option maxHeartbeats 4000000 in
theorem appendSeq_of (es : List (ByteArray × ByteArray)) (hl : es.length < 1000000) (a : Option Addr) (c bX n0 : Nat) (w : World) (hn : n0 ≤ w.heap.size) (hp : slP n0 w a es) (hbx : Bx bX 32 (.slice a es.length c) w) :
  Calls Tryz.prog 130 #[.slice none 0 0, .func (.func 115) #[] #[.pointer (some ⟨bX, 0, none⟩)]] w fun r w' => Below w.heap.size w w' ∧
   ∃ a' c', r = .returned (.slice a' es.length c') ∧ (es = [] ∧ a' = none ∧ c' = 0 ∨ ∃ g, a' = some ⟨g, 0, none⟩ ∧ w.heap.size ≤ g ∧ g < w'.heap.size ∧ prs w' g 0 es ∧ ∀ k, w'.frozen? ⟨g, k, none⟩ = false) := by
 refine (callsIn_wide (n := 9)).1 ?_
 refine callsIn_of_wp_marks Tryz.func130 rfl trivial ?_ rfl
 refine wpIn_wide.2 ?_
 simp only [Tryz.ntmps130, List.size_toArray, List.length_cons, List.length_nil, Nat.reduceAdd, Nat.reduceSub, Array.replicate_succ, Array.replicate_zero, List.push_toArray, List.append_toArray, List.nil_append, List.cons_append]
 obtain ⟨i0, hi0, hz0, hz1, hz2⟩ := info_parts info_pair
 have A1 : Below w.heap.size w (w.alloc (.cells #[.slice none 0 0] 32)) := (Below.refl _ w).alloc (Nat.le_refl _) _
 have hB1 : Bx w.heap.size 32 (.slice none 0 0) (w.alloc (.cells #[.slice none 0 0] 32)) := World.alloc_heap_new w _
 go_wp2_with fail
 refine wpOf (fun W => Below w.heap.size w W ∧ Bx w.heap.size 32 (.slice none 0 0) W) ⟨A1, hB1⟩ ?_
 rintro w2 ⟨BW2, hB2⟩
 clear A1 hB1
 have KS := fun n => values_stops n bX n0 es hl a c w2 (Nat.le_trans hn BW2.size) (slP_below (BW2.mono hn) hp) ((BW2.block bX hbx.lt).trans hbx)
 obtain ⟨z, hz⟩ : ∃ c, w.heap.size = c := ⟨_, rfl⟩
 have HZ : Hid (w.heap.size = z) := hz
 rw [hz] at hn BW2 hB2 ⊢
 clear hz
 have hzw := hB2.lt
 refine (wpIn_wide (n := 9)).1 ?_
 refine wpIn_rangeFunc_ownH rfl (by omega) (gf := 115) (lb := #[.pointer (some ⟨bX, 0, none⟩)]) rfl trivial (enters_of Tryz.func115 (by kernel_rfl) rfl)
  (KS _) (fun h1 h2 => h1.trans h2) (fun W l o o' h1 h2 h3 h4 => belowK_b (Nat.le_trans hn (Nat.le_of_lt hzw)) W l o o' h1 h2 h3 h4) (Below.refl _ _) (fun _ => rfl)
  (fun pre W => GSt z w pre W)
  (fun _ _ _ => False)
  (fun s A C row hs hg hr => hs.own hg (fun r e => ⟨Nat.le_trans (by omega) (hr r e).1, (hr r e).2⟩))
  (fun c s A C row hs hg hr => hs)
  ⟨_, hB2, World.ownsRow_nil _ _ _ _, BW2⟩
  (fun x a' W => ∃ bV, z < bV ∧ PrIn bV x W ∧ a' = { tmps := #[.slice none 0 0, .func (.func 115) #[] #[.pointer (some ⟨bX, 0, none⟩)], .pointer (some ⟨z, 0, none⟩), undef, .slice none 0 0, .pointer (some ⟨bV, 0, none⟩), .func (.func 115) #[] #[.pointer (some ⟨bX, 0, none⟩)], pV x, undef, undef, undef, undef, undef], defers := [] })
  (fun x a' _ A C row hs hg hr => by
   obtain ⟨bV, h1, h2, h3⟩ := hs
   refine ⟨bV, h1, (hg.block bV (Array.getElem?_eq_some_iff.1 h2).1 (fun e => ?_)).trans h2, h3⟩
   obtain ⟨_, o, ho, hc⟩ := hr bV e.symm
   rw [show A.heap[bV]? = _ from h2] at ho
   cases ho
   cases hc)
  ?assign ?body ?done ?stop
 case assign =>
  rintro l pre x W K hI hK
  dsimp only [pArr, pV]
  have hzW : z < W.heap.size := by
   obtain ⟨v, h1, h2, h3⟩ := hI
   exact h1.lt
  have hA : Below W.heap.size W (W.alloc (.cells #[.string x.1, .string x.2] 55)) := (Below.refl _ W).alloc (Nat.le_refl _) _
  have hN : PrIn W.heap.size x (W.alloc (.cells #[.string x.1, .string x.2] 55)) := World.alloc_heap_new W _
  have hI2 := hI.own (grown_of hA) (fun _ h => by cases h)
  obtain ⟨x1, x2⟩ := x
  have HX : Hid (_ ∧ _ ∧ _) := ⟨hA, hN, hI2⟩
  clear hA hN hI2 hI
  dsimp only at HX ⊢
  gi_wp2
  obtain ⟨hA, hN, hI2⟩ := HX.out
  exact hK _ _ ((ko_below hA).from _) (hA.mono (by omega)) hI2 ⟨W.heap.size, hzW, hN, rfl⟩
 case body =>
  rintro l pre x a' W hl ⟨r, hr⟩ ⟨v, hId, hownd, BWd⟩ ⟨bV, hbV, hPr, rfl⟩ hlt
  have hbVl : bV < W.heap.size := (Array.getElem?_eq_some_iff.1 hPr).1
  have hzl := hId.lt
  have hplen : pre.length < 1000000 := by omega
  obtain ⟨x1, x2⟩ := x
  have c0 : W.cell? ⟨bV, 0, none⟩ = some (.string x1) := by rw [Lib.cell_of_heap hPr]; rfl
  have c1 : W.cell? ⟨bV, 1, none⟩ = some (.string x2) := by rw [Lib.cell_of_heap hPr]; rfl
  have cB := hId.cell
  have fB := hId.fr
  have A1 : Below W.heap.size W (W.alloc (.cells #[.string x1, .string x2] 55)) := (Below.refl _ W).alloc (Nat.le_refl _) _
  have hN1 : (W.alloc (.cells #[.string x1, .string x2] 55)).heap[W.heap.size]? = some (.cells #[.string x1, .string x2] 55 (0, 0)) := World.alloc_heap_new W _
  have hown1 := owns_below hownd A1
  have hB1 : Bx z 32 v (W.alloc (.cells #[.string x1, .string x2] 55)) := (A1.block z hzl).trans hId
  obtain ⟨ao, c0', hv⟩ : ∃ ao c0, v = .slice ao pre.length c0 := by
   rcases hownd.2 with ⟨h, h0⟩ | ⟨g, c, _, h, _⟩
   ·exact ⟨none, 0, by rw [h, h0]⟩
   ·exact ⟨_, c, h⟩
  have HX : Hid (_ ∧ _ ∧ _ ∧ _ ∧ _) := ⟨A1, hN1, hown1, hB1, BWd⟩
  clear A1 hN1 hown1 hB1 BWd hownd hPr hId
  subst hv
  dsimp only [pV]
  refine wpIn_block ?_
  refine region_ord_in l _ (by kernel_rfl) (by rintro ⟨_, _, h⟩; exact h) ?_
  go_wp2_with (at_builtin; refine wpList_append_where _ rfl _ _ 32 rfl (z + 1) 55 i0 _ 2 32 Tryz.underlying32 hi0 hz0 hz1 hz2 rfl (by decide) _ pre.length (pC pre) rfl HX.out.2.2.1 ⟨W.heap.size, 0, none⟩ 1 1 [.string x1, .string x2] rfl rfl ?c1 ?c2 (by unfold maxLen; omega) (by omega) ?c3 (by decide) ?_)
  case c1 =>
   intro j u hj
   rw [Addr.add_lit, Lib.cell_of_heap HX.out.2.1, Nat.zero_add]
   simpa using hj
  case c2 =>
   intro u hu
   simp only [List.mem_cons, List.not_mem_nil, or_false] at hu
   rcases hu with rfl | rfl <;> rfl
  case c3 => simp; omega
  intro v' w6 k2 k3 k4 k5
  obtain ⟨A1, hN1, hown1, hB1, BWd⟩ := HX.out
  have hne : some z ≠ (Value.slice ao pre.length c0').ownBlock := fun e => by
   have := (hown1.lt z e.symm).1
   omega
  have hB6 : Bx z 32 (.slice ao pre.length c0') w6 := (k3.block z (by simp; omega) hne).trans hB1
  have cB6 := hB6.cell
  have fB6 := hB6.fr
  obtain ⟨g, c6, rfl⟩ : ∃ g c, v' = .slice (some ⟨g, 0, none⟩) (pre.length + 1) c := by
   rcases k2.2 with ⟨h, _⟩ | ⟨g, c, _, h, _⟩
   ·exact absurd h k4
   ·exact ⟨g, c, h⟩
  have hgz := (k2.lt g rfl).1
  have hB7 := hB6.put (.slice (some ⟨g, 0, none⟩) (pre.length + 1) c6)
  have hown7 : (w6.setCell ⟨z, 0, none⟩ (.slice (some ⟨g, 0, none⟩) (pre.length + 1) c6)).ownsRow (z + 1) 55 2 (.slice (some ⟨g, 0, none⟩) (pre.length + 1) c6) (pre.length + 1) (pC pre ++ [.string x1, .string x2]) :=
   k2.kept (row := some z) ⟨rfl, rfl, rfl, by simp [World.setCell], fun k _ hk => Below.heap_setCell _ _ _ _ (fun e => hk (by simp [e]))⟩ (Or.inr (fun e => by injection e with e; have e' : g = z := e; omega))
  have G16 : ∀ k, k < W.heap.size → some k ≠ (Value.slice ao pre.length c0').ownBlock → w6.heap[k]? = W.heap[k]? := fun k h1 h2 => (k3.block k (by simp; omega) h2).trans (A1.block k h1)
  have hs6 := k3.size
  have hvl : ∀ k, some k = (Value.slice ao pre.length c0').ownBlock → z + 1 ≤ k := fun k e => (hown1.lt k e.symm).1
  have B67 : ∀ m, m ≤ z → Below m W (w6.setCell ⟨z, 0, none⟩ (.slice (some ⟨g, 0, none⟩) (pre.length + 1) c6)) := fun m hm => Below.setCell (p := ⟨z, 0, none⟩) ⟨k3.os.trans A1.os, k3.tape.trans A1.tape, k3.output.trans A1.output, Nat.le_trans A1.size hs6, fun k hk => G16 k (by omega) (fun e => by have := hvl k e; omega)⟩ hm _
  have KF : KeepsFrom w2.heap.size W (w6.setCell ⟨z, 0, none⟩ (.slice (some ⟨g, 0, none⟩) (pre.length + 1) c6)) := by
   refine (show KeepsFrom w2.heap.size W w6 from ⟨Nat.le_trans A1.size hs6, fun k o hk ho hc => ?_⟩).trans (ko_set _ ⟨z, 0, none⟩ _ _)
   have hkW := (Array.getElem?_eq_some_iff.1 ho).1
   refine (G16 k hkW (fun e => ?_)).trans ho
   obtain ⟨c, hc'⟩ := owns_kind hown1 e.symm
   rw [A1.block k hkW, ho] at hc'
   cases hc'
   cases hc
  have HY : Hid (_ ∧ _ ∧ _ ∧ _) := ⟨hB7, hown7, B67, KF⟩
  clear hB7 hown7 B67 KF hB6 k2 k3 k4 k5 A1 hN1 hown1 hB1 G16
  go_wp2
  obtain ⟨hB7, hown7, B67, KF⟩ := HY.out
  refine (?_ : KeepsFrom _ W _ ∧ Below n0 W _ ∧ GSt z w (pre ++ [_]) _)
  refine ⟨KF, B67 n0 (by omega), _, hB7, ?_, BWd.trans (B67 z (Nat.le_refl _))⟩
  rw [pC_snoc, List.length_append]
  exact hown7
 case done =>
  rintro D ys W hD rfl ⟨v, hId, hownd, BWd⟩ hK
  have hch := (Array.getElem?_eq_some_iff.1 hK).1
  obtain ⟨ao, c, rfl⟩ : ∃ ao c, v = .slice ao ys.length c := by
   rcases hownd.2 with ⟨h, h0⟩ | ⟨g, c, _, h, _⟩
   ·exact ⟨none, 0, by rw [h, h0]⟩
   ·exact ⟨_, c, h⟩
  have cI := hId.cell
  have HX : Hid (_ ∧ _ ∧ _) := ⟨BWd, hK, hownd⟩
  clear BWd hK hownd
  go_wp2
  obtain ⟨BWd, hK, hownd⟩ := HX.out
  have hbP := belowK_b (n₀ := z) (w := w2) (by omega) W D _ (.deferred none) hD hK rfl rfl
  refine ⟨by simp, .inl ⟨_, _, rfl, run_takeDeferred hK, ?_⟩⟩
  refine ⟨.slice ao ys.length c, by simp [results, Tryz.results130, go_sem], ?_, ao, c, rfl, ?_⟩
  ·rw [HZ.out]; exact BWd.trans hbP
  ·rcases hownd.2 with ⟨h, h0⟩ | ⟨g, cp, _, h, _⟩
   ·injection h with h1 h2 h3
    exact .inl ⟨List.length_eq_zero_iff.1 h0, h1, h3⟩
   ·injection h with h1 h2 h3
    subst h1 h3
    have hlt := hownd.lt g rfl
    refine .inr ⟨g, rfl, by rw [HZ.out]; omega, by simpa using hlt.2, fun j e he => ?_, fun k => ?_⟩
    rotate_left
    ·have hgD : g ≠ D := fun e => by
      obtain ⟨cc, hcc⟩ := owns_kind hownd (k := g) rfl
      rw [e, hK] at hcc
      cases hcc
     have hfr := hownd.frozenAt k
     rw [← hfr]
     exact frozen_block (World.putObj_heap_other hgD) k
    have hj := (List.getElem?_eq_some_iff.1 he).1
    obtain ⟨p1, p2⟩ := pC_at ys j e he
    have hgD : g ≠ D := fun e => by
     obtain ⟨cc, hcc⟩ := owns_kind hownd (k := g) rfl
     rw [e, hK] at hcc
     cases hcc
    refine ⟨(World.cell?_of_block (w := W) (World.putObj_heap_other hgD)).trans ?_, (World.cell?_of_block (w := W) (World.putObj_heap_other hgD)).trans ?_⟩
    ·rw [Nat.zero_add, hownd.cellAt _ (by omega)]; exact p1
    ·rw [Nat.zero_add, hownd.cellAt _ (by omega)]; exact p2
 case stop =>
  rintro D c pre W hD _ h
  exact h.elim
end Go.Proofs.YtbmapdkcccdmfaaGreatDoor
