/- Lemmas: Pairs sorted by their keys: Collect, SortFunc, SortedFunc. Pairs sorted anew: SortedFunc; sorted. -/
import Derived.Test.YtbmapdkcccdmfaaGreatDoorM1
import Derived.Test.YtbmapdkcccdmfaaGreatDoorM10
import Derived.Test.YtbmapdkcccdmfaaGreatDoorM11
import Derived.Test.YtbmapdkcccdmfaaGreatDoorM12
import Derived.Test.YtbmapdkcccdmfaaGreatDoorM13
import Derived.Test.YtbmapdkcccdmfaaGreatDoorM14
import Derived.Test.YtbmapdkcccdmfaaGreatDoorM15
import Derived.Test.YtbmapdkcccdmfaaGreatDoorM2
import Derived.Test.YtbmapdkcccdmfaaGreatDoorM20
import Derived.Test.YtbmapdkcccdmfaaGreatDoorM3
import Derived.Test.YtbmapdkcccdmfaaGreatDoorM32
import Derived.Test.YtbmapdkcccdmfaaGreatDoorM33
import Derived.Test.YtbmapdkcccdmfaaGreatDoorM34
import Derived.Test.YtbmapdkcccdmfaaGreatDoorM6
import Derived.Test.YtbmapdkcccdmfaaGreatDoorM7
import Derived.Test.YtbmapdkcccdmfaaGreatDoorM8
import Derived.Test.YtbmapdkcccdmfaaGreatDoorM9
import Derived.Test.YtbmapdkcccdmfaaGreatDoorRows
namespace Go.Proofs.YtbmapdkcccdmfaaGreatDoor
open Go.RowKit Go.Shelf Go.Sort

theorem cmp_lt : ∀ a b : List UInt8, decide (Lib.compareBytes a b < 0) = ltStr a b
 | [], [] => by simp [Lib.compareBytes, ltStr]
 | [], _ :: _ => by simp [Lib.compareBytes, ltStr]
 | _ :: _, [] => by simp [Lib.compareBytes, ltStr]
 | a :: ar, b :: br => by
  have ih := cmp_lt ar br
  unfold ltStr at ih ⊢
  unfold Lib.compareBytes
  by_cases h1 : a < b
  ·rw [if_pos h1, decide_eq_true (show (-1 : Int) < 0 by decide), decide_eq_true (List.cons_lt_cons_iff.2 (.inl h1))]
  ·rw [if_neg h1]
   by_cases h2 : b < a
   ·rw [if_pos h2, decide_eq_false (show ¬ (1 : Int) < 0 by decide), decide_eq_false]
    intro h
    rcases List.cons_lt_cons_iff.1 h with h | ⟨h, _⟩
    ·exact h1 h
    ·subst h
     exact h1 h2
   ·rw [if_neg h2, ih]
    have hab : a = b := by
     have : a.toNat = b.toNat := by
      rw [UInt8.lt_iff_toNat_lt] at h1 h2
      omega
     exact UInt8.toNat_inj.1 this
    subst hab
    congr 1
    apply propext
    constructor
    ·intro h
     exact List.cons_lt_cons_iff.2 (.inr ⟨rfl, h⟩)
    ·intro h
     rcases List.cons_lt_cons_iff.1 h with h | ⟨_, h⟩
     ·exact absurd h h1
     ·exact h
abbrev Pr := ByteArray × ByteArray
def kcf (x y : Pr) : Int := Lib.compareBytes x.1.data.toList y.1.data.toList
theorem kcf_lt (x y : Pr) : ltOf kcf x y = ltStr x.1.data.toList y.1.data.toList := cmp_lt _ _
theorem kcf_swo : SWO (ltOf kcf) where
 irrefl x := by rw [kcf_lt]; exact swo_ltStr.irrefl _
 trans x y z h1 h2 := by rw [kcf_lt] at *; exact swo_ltStr.trans _ _ _ h1 h2
 ntrans x y z h1 h2 := by rw [kcf_lt] at *; exact swo_ltStr.ntrans _ _ _ h1 h2
def pE2 (e : Pr) : List Value := [.string e.1, .string e.2]

set_option maxHeartbeats 1000000 in
theorem cmpKeys_any (x y : Pr) (W : World) : Calls Tryz.prog 89 #[.agg (pE2 x).toArray, .agg (pE2 y).toArray] W fun e w' => e = .returned (.int .i64 (kcf x y)) ∧ ∃ q os', w' = grow (W.drewN q) os' := by
 have hcon := fun W' => Tryz.strings_Compare x.1 y.1 W'
 unfold kcf
 generalize Lib.compareBytes x.1.data.toList y.1.data.toList = r at hcon ⊢
 obtain ⟨x1, x2⟩ := x
 obtain ⟨y1, y2⟩ := y
 show Calls Tryz.prog 89 #[.agg #[.string x1, .string x2], .agg #[.string y1, .string y2]] W _
 dsimp only at hcon
 go_enter Tryz.func89, Tryz.ntmps89
 go_wp2_with fail
 refine (hcon _).mono ?_
 rintro e w' ⟨rfl, rfl⟩
 go_wp2
 go_ret
 exact ⟨rfl, 0, _, by rw [alloc_eq_grow, alloc_eq_grow, grow_grow]; rfl⟩
theorem cmpKeys_lays (blk off size : Nat) (w : World) : CmpLays Tryz.prog 89 #[] pE2 2 kcf blk off size w := fun _ _ _ _ x y => cmpKeys_any x y _
theorem holds_prs {W : World} {g : Nat} {es : List Pr} (hp : prs W g 0 es) (hf : ∀ k, W.frozen? ⟨g, k, none⟩ = false) : HoldsK pE2 2 W g 0 es.toArray := by
 intro j hj
 rw [size_flatK, List.size_toArray] at hj
 refine ⟨?_, hf _⟩
 rw [get_flatK _ _ _ _ (by rw [List.size_toArray]; exact hj)]
 obtain ⟨e, he⟩ : ∃ e, es[j / 2]? = some e := ⟨es[j / 2]'(by omega), List.getElem?_eq_getElem (by omega)⟩
 have he2 : es.toArray[j / 2]! = e := by
  rw [getElem!_pos _ _ (by rw [List.size_toArray]; omega)]
  have := (List.getElem?_eq_some_iff.1 he).2
  simpa using this
 rw [he2]
 obtain ⟨h1, h2⟩ := hp (j / 2) e he
 have hmod : j % 2 = 0 ∨ j % 2 = 1 := by omega
 rcases hmod with hm | hm
 ·rw [hm, show 0 + j = 0 + 2 * (j / 2) by omega]
  exact h1
 ·rw [hm, show 0 + j = 0 + 2 * (j / 2) + 1 by omega]
  exact h2
theorem prs_holds {W : World} {g : Nat} {d : Array Pr} (h : HoldsK pE2 2 W g 0 d) : prs W g 0 d.toList := by
 intro j e he
 rw [Array.getElem?_toList] at he
 have hj := (Array.getElem?_eq_some_iff.1 he).1
 have he2 : d[j]! = e := by
  rw [getElem!_pos d j hj]
  exact (Array.getElem?_eq_some_iff.1 he).2
 have h0 : W.cell? ⟨g, 0 + 2 * j, none⟩ = some ((flatK pE2 2 d)[2 * j]!) := (h (2 * j) (by rw [size_flatK]; omega)).1
 have h1 : W.cell? ⟨g, 0 + (2 * j + 1), none⟩ = some ((flatK pE2 2 d)[2 * j + 1]!) := (h (2 * j + 1) (by rw [size_flatK]; omega)).1
 rw [get_flatK _ _ _ _ (by omega), show 2 * j / 2 = j by omega, show 2 * j % 2 = 0 by omega, he2] at h0
 rw [get_flatK _ _ _ _ (by omega), show (2 * j + 1) / 2 = j by omega, show (2 * j + 1) % 2 = 1 by omega, he2] at h1
 refine ⟨h0, ?_⟩
 rw [show 0 + 2 * j + 1 = 0 + (2 * j + 1) by omega]
 exact h1
theorem sort_below (w : World) (blk off m : Nat) (d : Array Pr) (os : Array Obj) (B : Nat) (hB : B ≤ blk) (hb : blk < w.heap.size) : Below B w (sortWorldK pE2 2 w blk off m d os) := by
 refine ⟨rfl, rfl, rfl, ?_, fun k hk => ?_⟩
 ·show w.heap.size ≤ (grow (putRow id (Sort.ahead w m) blk off (flatK pE2 2 d)) os).heap.size
  rw [size_grow, size_putRow]
  exact Nat.le_add_right _ _
 ·show (grow (putRow id (Sort.ahead w m) blk off (flatK pE2 2 d)) os).heap[k]? = _
  rw [heap_grow_old _ _ (by rw [size_putRow]; show k < w.heap.size; omega)]
  show (mapBlock (Sort.ahead w m) blk _).heap[k]? = _
  unfold mapBlock
  have hne : blk ≠ k := by omega
  simp [Array.getElem?_modify, hne]

set_option maxHeartbeats 1000000 in
theorem sortFunc_any (g : Nat) (es : List Pr) (c : Nat) (w : World) (hg : g < w.heap.size) (hl : es.length < 1000000) (hp : prs w g 0 es) (hf : ∀ k, w.frozen? ⟨g, k, none⟩ = false) :
  Calls Tryz.prog 114 #[.slice (some ⟨g, 0, none⟩) es.length c, .func (.func 89) #[] #[]] w fun e w' => e = .returned (.tuple #[]) ∧ ∃ es' : List Pr, es'.Perm es ∧ (∀ (i j : Nat) (x y : Pr), i < j → es'[i]? = some x → es'[j]? = some y → ltStr y.1.data.toList x.1.data.toList = false) ∧ prs w' g 0 es' ∧ Below g w w' := by
 have eg : ∀ args w, (callFunc 89 args).run Tryz.prog w = .ok (.enter 89 args) w := enters_of Tryz.func89 (by kernel_rfl) rfl
 have hcon := AnyQ.slices_SortFunc Tryz.sortPair 2 Tryz.isAgg55 Tryz.sizeOf55 pE2 (fun _ => rfl) (fun x v hv => by simp [pE2] at hv; rcases hv with rfl | rfl <;> rfl) kcf kcf_swo 89 #[] g 0 c es.toArray w eg (cmpKeys_lays g 0 es.toArray.size w) (holds_prs hp hf) hg (by rw [List.size_toArray]; omega)
 change Calls Tryz.prog 114 _ _ _ at hcon
 rw [List.size_toArray] at hcon
 refine hcon.mono ?_
 rintro e w' ⟨rfl, d', n, os, hperm, hsort, rfl⟩
 have hds : d'.size = es.length := by rw [hperm.1, List.size_toArray]
 refine ⟨rfl, d'.toList, ?_, ?_, ?_, sort_below w g 0 n d' os g (Nat.le_refl _) hg⟩
 ·have := hperm.2.2
  rw [show d'.extract 0 es.length = d' by rw [← hds]; exact Array.extract_size, show es.toArray.extract 0 es.length = es.toArray by rw [← List.size_toArray]; exact Array.extract_size] at this
  exact this
 ·intro i j x y hij hx hy
  rw [Array.getElem?_toList] at hx hy
  have hj := (Array.getElem?_eq_some_iff.1 hy).1
  have hi := (Array.getElem?_eq_some_iff.1 hx).1
  have := hsort i j (Nat.zero_le _) hij (by omega)
  rw [getElem!_pos d' i hi, getElem!_pos d' j hj, (Array.getElem?_eq_some_iff.1 hx).2, (Array.getElem?_eq_some_iff.1 hy).2, kcf_lt] at this
  exact this
 ·refine prs_holds ?_
  unfold sortWorldK
  refine holdsK_grow (w := putRowK pE2 2 (Sort.ahead w n) g 0 d') (os := os) (blk := g) (off := 0) (d := d') (hb := ?_) (h := ?_)
  ·show g < (putRow id (Sort.ahead w n) g 0 (flatK pE2 2 d')).heap.size
   rw [size_putRow]
   exact hg
  ·exact holdsK_putRowK (w := Sort.ahead w n) (blk := g) (off := 0) (d0 := es.toArray) (d := d') (h0 := holdsK_ahead (w := w) (n := n) (blk := g) (off := 0) (d := es.toArray) (h := holds_prs hp hf)) (hs := by rw [hds, List.size_toArray])
end Go.Proofs.YtbmapdkcccdmfaaGreatDoor
namespace Go.Proofs.YtbmapdkcccdmfaaGreatDoor
open Go.RowKit Go.Shelf Go.Sort

set_option maxRecDepth 20000 in
set_option maxHeartbeats 1000000 in
theorem insertion_none (w : World) : Calls Tryz.prog 144 #[.slice none 0 0, .int .i64 0, .int .i64 0, .func (.func 89) #[] #[]] w fun e w' => e = .returned (.tuple #[]) ∧ Below w.heap.size w w' := by
 go_enter Tryz.func144, Tryz.ntmps144
 go_wp2_with fail
 go_loopg [8] 0 (fun gk i wr => i = .int .i64 1 ∧ Below w.heap.size w wr)
 case atStart => exact ⟨rfl, Below.refl _ _⟩
 case round =>
  obtain ⟨rfl, BW⟩ := hrel
  go_wp2
  go_end0
  exact ⟨rfl, BW⟩
set_option maxRecDepth 20000 in
set_option maxHeartbeats 1000000 in
theorem pdq_none (l : Int) (w : World) : Calls Tryz.prog 131 #[.slice none 0 0, .int .i64 0, .int .i64 0, .int .i64 l, .func (.func 89) #[] #[]] w fun e w' => e = .returned (.tuple #[]) ∧ Below w.heap.size w w' := by
 have KI := insertion_none
 go_enter Tryz.func131, Tryz.ntmps131
 go_wp2_with fail
 go_loopg [1, 2] 0 (fun gk i j wr => i = .int .i64 0 ∧ j = .int .i64 0 ∧ Below w.heap.size w wr)
 case atStart => exact ⟨rfl, rfl, Below.refl _ _⟩
 case round =>
  obtain ⟨rfl, rfl, BW⟩ := hrel
  go_wp2_with fail
  refine (KI _).mono ?_
  rintro e w1 ⟨rfl, B1⟩
  clear KI
  go_wp2
  refine bodyPost_ret (v := .tuple #[]) (by simp [results, Tryz.results131, go_sem]) rfl ⟨rfl, belowStep BW BW.size B1⟩
set_option maxRecDepth 20000 in
set_option maxHeartbeats 1000000 in
theorem sortFunc_none (w : World) : Calls Tryz.prog 114 #[.slice none 0 0, .func (.func 89) #[] #[]] w fun e w' => e = .returned (.tuple #[]) ∧ Below w.heap.size w w' := by
 have KL := fun w => Tryz.bits_Len 0 w (by decide) (by decide)
 have KP := pdq_none
 generalize (Lib.bitLen (0 : Int).toNat : Int) = bl at KL
 go_enter Tryz.func114, Tryz.ntmps114
 go_wp2_with fail
 refine (KL _).mono ?_
 rintro e w1 ⟨rfl, rfl⟩
 go_wp2_with fail
 refine (KP _ _).mono ?_
 rintro e w2 ⟨rfl, B2⟩
 clear KL KP
 go_wp2
 go_end0
 exact ⟨rfl, B2⟩

set_option maxRecDepth 20000 in
set_option maxHeartbeats 1000000 in
theorem collect_of (es : List Pr) (hl : es.length < 1000000) (a : Option Addr) (c bX n0 : Nat) (w : World) (hn : n0 ≤ w.heap.size) (hp : slP n0 w a es) (hbx : Bx bX 32 (.slice a es.length c) w) :
  Calls Tryz.prog 113 #[.func (.func 115) #[] #[.pointer (some ⟨bX, 0, none⟩)]] w fun r w' => Below w.heap.size w w' ∧
   ∃ a' c', r = .returned (.slice a' es.length c') ∧ (es = [] ∧ a' = none ∧ c' = 0 ∨ ∃ g, a' = some ⟨g, 0, none⟩ ∧ w.heap.size ≤ g ∧ g < w'.heap.size ∧ prs w' g 0 es ∧ ∀ k, w'.frozen? ⟨g, k, none⟩ = false) := by
 have KA := appendSeq_of es hl a c bX n0 w hn hp hbx
 go_enter Tryz.func113, Tryz.ntmps113
 go_wp2_with fail
 refine KA.mono ?_
 rintro e w1 ⟨B1, a', c', rfl, h⟩
 have HX : Hid _ := And.intro B1 h
 clear KA B1 h
 go_wp2
 go_ret
 exact ⟨HX.out.1, a', c', rfl, HX.out.2⟩

def SortedP (es : List Pr) : Prop := ∀ (i j : Nat) (x y : Pr), i < j → es[i]? = some x → es[j]? = some y → ltStr y.1.data.toList x.1.data.toList = false

set_option maxRecDepth 20000 in
set_option maxHeartbeats 1000000 in
theorem sortedFunc_of (es : List Pr) (hl : es.length < 1000000) (a : Option Addr) (c bX n0 : Nat) (w : World) (hn : n0 ≤ w.heap.size) (hp : slP n0 w a es) (hbx : Bx bX 32 (.slice a es.length c) w) :
  Calls Tryz.prog 87 #[.func (.func 115) #[] #[.pointer (some ⟨bX, 0, none⟩)], .func (.func 89) #[] #[]] w fun r w' => Below w.heap.size w w' ∧
   ∃ (es' : List Pr) (a' : Option Addr) (c' : Nat), r = .returned (.slice a' es'.length c') ∧ es'.Perm es ∧ SortedP es' ∧ slP w'.heap.size w' a' es' := by
 have KC := collect_of es hl a c bX n0 w hn hp hbx
 go_enter Tryz.func87, Tryz.ntmps87
 go_wp2_with fail
 refine KC.mono ?_
 rintro e w1 ⟨B1, a', c', rfl, h⟩
 clear KC
 rcases h with ⟨rfl, rfl, rfl⟩ | ⟨g, rfl, hg1, hg2, hp1, hf1⟩
 ·have KS := sortFunc_none
  dsimp only [List.length_nil]
  go_wp2_with fail
  refine (KS _).mono ?_
  rintro e w2 ⟨rfl, B2⟩
  clear KS
  go_wp2
  go_ret
  exact ⟨belowStep B1 B1.size B2, [], none, 0, rfl, List.Perm.refl _, fun i j x y _ h => (by cases h), .inl rfl⟩
 ·have KS := sortFunc_any g es c' w1 hg2 hl hp1 hf1
  obtain ⟨N, hN⟩ : ∃ N, es.length = N := ⟨_, rfl⟩
  rw [hN] at KS ⊢
  have HX : Hid (_ ∧ _) := ⟨B1, hN⟩
  clear hp1 hf1 B1 hN
  go_wp2_with fail
  refine KS.mono ?_
  rintro e w2 ⟨rfl, es', hperm, hs, hp2, B2⟩
  have HY : Hid (_ ∧ _ ∧ _ ∧ _) := ⟨hperm, hs, hp2, B2⟩
  clear KS hperm hs hp2 B2
  go_wp2
  go_ret
  obtain ⟨hperm, hs, hp2, B2⟩ := HY.out
  have hle : es'.length = N := by rw [hperm.length_eq]; exact HX.out.2
  refine ⟨HX.out.1.trans (B2.mono hg1), es', some ⟨g, 0, none⟩, c', by rw [hle]; rfl, hperm, hs, .inr ⟨g, 0, rfl, by have := B2.size; omega, hp2⟩⟩

theorem right_pair (es : List Pr) : RightP es ↔ es.length ≤ 200 ∧ (∀ e, e ∈ es → pOk e = true) ∧ es.Pairwise (fun a b => a.1 ≠ b.1) := by
 constructor
 ·rintro ⟨h1, h2, h3⟩
  refine ⟨h1, fun e he => ?_, ?_⟩
  ·obtain ⟨j, hj⟩ := List.mem_iff_getElem?.1 he
   exact h2 j e hj
  ·rw [List.pairwise_iff_getElem]
   intro i j hi hj hij
   exact h3 i j _ _ hij (List.getElem?_eq_getElem hi) (List.getElem?_eq_getElem hj)
 ·rintro ⟨h1, h2, h3⟩
  refine ⟨h1, fun j e he => h2 e (List.mem_of_getElem? he), fun i j e f hij he hf => ?_⟩
  rw [List.pairwise_iff_getElem] at h3
  obtain ⟨hi, rfl⟩ := List.getElem?_eq_some_iff.1 he
  obtain ⟨hj, rfl⟩ := List.getElem?_eq_some_iff.1 hf
  exact h3 i j hi hj hij
theorem right_perm {es es' : List Pr} (h : es'.Perm es) : RightP es' ↔ RightP es := by
 rw [right_pair, right_pair, h.length_eq, h.pairwise_iff (fun {a b} hab => Ne.symm hab)]
 constructor
 ·rintro ⟨h1, h2, h3⟩
  exact ⟨h1, fun e he => h2 e (h.mem_iff.2 he), h3⟩
 ·rintro ⟨h1, h2, h3⟩
  exact ⟨h1, fun e he => h2 e (h.mem_iff.1 he), h3⟩
theorem tri_ltStr : ∀ a b : List UInt8, ltStr a b = false → ltStr b a = false → a = b
 | [], [], _, _ => rfl
 | [], b :: br, h, _ => by simp [ltStr] at h
 | a :: ar, [], _, h => by simp [ltStr] at h
 | a :: ar, b :: br, h1, h2 => by
  unfold ltStr at h1 h2
  have h1' := of_decide_eq_false h1
  have h2' := of_decide_eq_false h2
  rw [List.cons_lt_cons_iff] at h1' h2'
  have hab : a = b := by
   have hlt1 : ¬ a < b := fun h => h1' (.inl h)
   have hlt2 : ¬ b < a := fun h => h2' (.inl h)
   have : a.toNat = b.toNat := by
    rw [UInt8.lt_iff_toNat_lt] at hlt1 hlt2
    omega
   exact UInt8.toNat_inj.1 this
  subst hab
  rw [tri_ltStr ar br (decide_eq_false fun h => h1' (.inr ⟨rfl, h⟩)) (decide_eq_false fun h => h2' (.inr ⟨rfl, h⟩))]
theorem bytes_inj2 {a b : ByteArray} (h : a.data.toList = b.data.toList) : a = b := by
 have h2 : a.data = b.data := Array.toList_inj.1 h
 cases a
 cases b
 cases h2
 rfl
theorem sorted_apart {es : List Pr} (hs : SortedP es) (m : Nat) (hadj : ∀ (i : Nat) (x y : Pr), i + 1 < m → es[i]? = some x → es[i + 1]? = some y → x.1 ≠ y.1) (i j : Nat) (x y : Pr) (hij : i < j) (hj : j < m) (hx : es[i]? = some x) (hy : es[j]? = some y) : x.1 ≠ y.1 := by
 intro e
 have hjl := (List.getElem?_eq_some_iff.1 hy).1
 obtain ⟨z, hz⟩ : ∃ z, es[i + 1]? = some z := ⟨es[i + 1]'(by omega), List.getElem?_eq_getElem (by omega)⟩
 have hne := hadj i x z (by omega) hx hz
 have h1 := hs i (i + 1) x z (by omega) hx hz
 have h2 : ltStr x.1.data.toList z.1.data.toList = true := by
  cases h : ltStr x.1.data.toList z.1.data.toList with
  | true => rfl
  | false => exact absurd (bytes_inj2 (tri_ltStr _ _ h h1)) hne
 by_cases hj2 : j = i + 1
 ·subst hj2
  rw [hz] at hy
  cases hy
  exact hne e
 ·have h3 := hs (i + 1) j z y (by omega) hz hy
  rw [← e, h2] at h3
  cases h3

def SrP (es : List Pr) (r : Ending) (w' : World) : Prop := (¬ RightP es ∧ r = .returned (.tuple #[.slice none 0 0, .bool false])) ∨
 (RightP es ∧ ∃ (es' : List Pr) (a' : Option Addr) (c' : Nat), r = .returned (.tuple #[.slice a' es'.length c', .bool true]) ∧ es'.Perm es ∧ SortedP es' ∧ slP w'.heap.size w' a' es')

set_option maxRecDepth 20000 in
set_option maxHeartbeats 2000000 in
theorem sorted_any (es : List Pr) (a : Option Addr) (c n : Nat) (w : World) (hn : n ≤ w.heap.size) (hp : slP n w a es) :
  Calls Tryz.prog 57 #[.slice a es.length c] w fun r w' => Below w.heap.size w w' ∧ SrP es r w' := by
 by_cases hl : 200 < es.length
 ·have l0 : (200 : Int) < es.length := by omega
  go_enter Tryz.func57, Tryz.ntmps57
  go_wp2
  refine bodyPost_ret (v := .tuple #[.slice none 0 0, .bool false]) (by simp [results, Tryz.results57, go_sem]) rfl ⟨Below.refl _ _, .inl ⟨fun h => by have := h.1; omega, rfl⟩⟩
 ·have l0 : ¬ (200 : Int) < es.length := by omega
  have KC := containsFunc_any es (by omega) a c n w hn hp
  have KV := fun w => values_any a es.length c w
  have KS := fun bX w hn hp hbx => sortedFunc_of es (by omega) a c bX n w hn hp hbx
  obtain ⟨N, hN⟩ : ∃ N, es.length = N := ⟨_, rfl⟩
  rw [hN] at l0 hl KC KV KS ⊢
  obtain ⟨ok, hok⟩ : ∃ q, es.all pOk = q := ⟨_, rfl⟩
  rw [hok] at KC
  have HX : Hid (_ ∧ _ ∧ _) := ⟨hN, hok, hp⟩
  clear hN hok hp
  go_enter Tryz.func57, Tryz.ntmps57
  go_wp2_with fail
  refine KC.mono ?_
  rintro e w1 ⟨rfl, B1⟩
  clear KC
  cases ok with
  | false =>
   go_wp2
   refine bodyPost_ret (v := .tuple #[.slice none 0 0, .bool false]) (by simp [results, Tryz.results57, go_sem]) rfl ⟨B1, .inl ⟨fun h => ?_, rfl⟩⟩
   have h2 := ((right_pair es).1 h).2.1
   have h3 : es.all pOk = true := List.all_eq_true.2 h2
   rw [HX.out.2.1] at h3
   cases h3
  | true =>
   go_wp2_with fail
   refine (KV _).mono ?_
   rintro e w2 ⟨rfl, hw2⟩
   have A2 : Below w1.heap.size w1 w2 := by rw [hw2]; exact (Below.refl _ w1).alloc (Nat.le_refl _) _
   have hbx : Bx w1.heap.size 32 (.slice a N c) w2 := by rw [hw2]; exact World.alloc_heap_new w1 _
   have BW := belowStep B1 B1.size A2
   clear hw2 KV
   go_wp2_with fail
   refine (KS w1.heap.size w2 (Nat.le_trans hn BW.size) (slP_below (BW.mono hn) HX.out.2.2) hbx).mono ?_
   rintro e w3 ⟨B3, es', a', c', rfl, hperm, hsort, hp'⟩
   replace BW := belowStep BW BW.size B3
   clear KS A2 hbx B1 B3
   have hlen : es'.length = N := by rw [hperm.length_eq]; exact HX.out.1
   rw [hlen]
   have HY : Hid (_ ∧ _ ∧ _ ∧ _) := ⟨hperm, hsort, hp', hlen⟩
   clear hperm hsort hp' hlen
   go_wp2_with fail
   obtain ⟨z3, hz3⟩ : ∃ q, w3.heap.size = q := ⟨_, rfl⟩
   have HZ3 : Hid (w3.heap.size = z3) := hz3
   have B33 : Below z3 w3 w3 := by rw [← hz3]; exact Below.refl _ _
   clear hz3
   go_loopg [5] N (fun gk i wr => ∃ k : Nat, 1 ≤ k ∧ N ≤ k + gk ∧ k + gk ≤ N + 1 ∧ i = .int .i64 k ∧ (∀ (i : Nat) (x y : Pr), i + 1 < k → es'[i]? = some x → es'[i + 1]? = some y → x.1 ≠ y.1) ∧ Below z3 w3 wr)
   case atStart => exact ⟨1, Nat.le_refl _, by omega, by omega, rfl, fun i x y h => by omega, B33⟩
   case round =>
    obtain ⟨k, hk1, hk2, hk3, rfl, hadj, B4⟩ := hrel
    have HA : Hid _ := hadj
    clear hadj
    have hz4 : z3 ≤ wr.heap.size := by have := B4.size; have := HZ3.out; omega
    by_cases hlt : k < N
    ·have l1 : (k : Int) < N := by omega
     obtain ⟨hperm, hsort, hp', hlen⟩ := HY.out
     obtain ⟨x, hx⟩ : ∃ x, es'[k - 1]? = some x := ⟨es'[k - 1]'(by omega), List.getElem?_eq_getElem (by omega)⟩
     obtain ⟨y, hy⟩ : ∃ y, es'[k]? = some y := ⟨es'[k]'(by omega), List.getElem?_eq_getElem (by omega)⟩
     obtain ⟨b, o, rfl, hb, c0, c1⟩ := slP_at hp' k y hy
     obtain ⟨b', o', he', hb', c2, c3⟩ := slP_at hp' (k - 1) x hx
     injection he' with he'
     injection he' with he1 he2
     subst he1 he2
     have hb3 : b < z3 := by have := HZ3.out; omega
     replace c0 := (B4.cell (p := ⟨b, _, none⟩) hb3).trans c0
     replace c2 := (B4.cell (p := ⟨b, _, none⟩) hb3).trans c2
     have hbr : b < wr.heap.size := by omega
     obtain ⟨r, hr⟩ : ∃ p, o + 2 * k = p := ⟨_, rfl⟩
     obtain ⟨r', hr'⟩ : ∃ p, o + 2 * (k - 1) = p := ⟨_, rfl⟩
     rw [hr] at c0
     rw [hr'] at c2
     have hr2 : o + k * 2 = r := by omega
     obtain ⟨k1, hkk⟩ : ∃ q, k - 1 = q := ⟨_, rfl⟩
     have hr2' : o + k1 * 2 = r' := by omega
     have lk1 : (k : Int) - 1 = k1 := by omega
     have lk2 : IntKind.i64.wrap (k1 : Int) = k1 := by rw [IntKind.wrap_i64]; omega
     have lk3 : (k1 : Int) < N := by omega
     have wk : IntKind.i64.wrap ((k : Int) + 1) = ((k + 1 : Nat) : Int) := by rw [IntKind.wrap_i64]; omega
     have q0 : ∀ d os, (grow (redrawn wr d) os).cell? ⟨b, r, none⟩ = some (.string y.1) := fun d os => ((below_regrown wr d os).cell (p := ⟨b, r, none⟩) hbr).trans c0
     have q1 : ∀ d os, (grow (redrawn wr d) os).cell? ⟨b, r', none⟩ = some (.string x.1) := fun d os => ((below_regrown wr d os).cell (p := ⟨b, r', none⟩) hbr).trans c2
     have HB : Hid (_ ∧ _ ∧ _) := ⟨hx, hy, hkk⟩
     clear c0 c1 c2 c3 hperm hsort hp' hx hy
     by_cases hsame : x.1 = y.1
     ·have hs : (x.1.toList == y.1.toList) = true := by rw [hsame]; exact beq_self_eq_true _
      have HG : Hid (¬ RightP es) := fun h => ((right_perm HY.out.1).2 h).2.2 (k - 1) k x y (by omega) HB.out.1 HB.out.2.1 hsame
      clear hsame
      go_wp2_with fail
      refine wp_region_quiet_below (by kernel_rfl) (by kernel_rfl) ?_
      repeat (quiet_step (fail))
      refine wpQuiet_nil ?_
      intro w8 hw8
      have B8 : Below wr.heap.size wr w8 := by
       obtain ⟨p, rfl⟩ := hw8
       exact below_regrown _ _ _
      clear hw8 q0 q1
      go_wp2
      refine bodyPost_ret (v := .tuple #[.slice none 0 0, .bool false]) (by simp [results, Tryz.results57, go_sem]) rfl ⟨?_, .inl ⟨HG.out, rfl⟩⟩
      exact BW.trans ((belowStep B4 hz4 B8).mono (by have := BW.size; have := HZ3.out; omega))
     ·have hs : (x.1.toList == y.1.toList) = false := by rw [beq_eq_false_iff_ne]; exact fun e => hsame (toList_inj e)
      have HG : Hid _ := hsame
      clear hsame
      go_wp2_with fail
      refine wp_region_quiet_below (by kernel_rfl) (by kernel_rfl) ?_
      repeat (quiet_step (fail))
      refine wpQuiet_nil ?_
      intro w8 hw8
      have B8 : Below wr.heap.size wr w8 := by
       obtain ⟨p, rfl⟩ := hw8
       exact below_regrown _ _ _
      clear hw8 q0 q1
      go_wp2
      go_roundg (gk - 1)
      case measure => omega
      case rel =>
       refine ⟨k + 1, by omega, by omega, by omega, by first | rfl | (congr 1; omega), fun i u v hi hu hv => ?_, belowStep B4 hz4 B8⟩
       by_cases hik : i + 1 = k
       ·obtain rfl : i = k - 1 := by omega
        rw [HB.out.1] at hu
        rw [hik, HB.out.2.1] at hv
        cases hu
        cases hv
        exact HG.out
       ·exact HA.out i u v (by omega) hu hv
    ·have l1 : ¬ (k : Int) < N := by omega
     have HR : Hid (RightP es) := by
      obtain ⟨hperm, hsort, hp', hlen⟩ := HY.out
      refine (right_perm hperm).1 ⟨by omega, fun j e he => ?_, fun i j x y hij hx hy => ?_⟩
      ·have hm := hperm.mem_iff.1 (List.mem_of_getElem? he)
       exact List.all_eq_true.1 HX.out.2.1 e hm
      ·exact sorted_apart hsort k HA.out i j x y hij (by have := (List.getElem?_eq_some_iff.1 hy).1; omega) hx hy
     go_wp2
     obtain ⟨hperm, hsort, hp', hlen⟩ := HY.out
     refine bodyPost_ret (v := .tuple #[.slice a' N c', .bool true]) (by simp [results, Tryz.results57, go_sem]) rfl ⟨BW.trans (B4.mono (by have := BW.size; have := HZ3.out; omega)), .inr ⟨HR.out, es', a', c', by rw [hlen], hperm, hsort, ?_⟩⟩
     rcases hp' with h | ⟨b, o, h1, h2, h3⟩
     ·exact .inl h
     ·exact .inr ⟨b, o, h1, by have := HZ3.out; omega, prs_below B4 (by have := HZ3.out; omega) h3⟩

end Go.Proofs.YtbmapdkcccdmfaaGreatDoor
