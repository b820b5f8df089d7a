/- Lemmas: What Form does at this translation: a path's form, or that there is none. Condition: the path has at most 10^8 bytes. -/
import Derived.Test.YtbmapdkcccdmfaaGreatDoorM1
import Derived.Test.YtbmapdkcccdmfaaGreatDoorM11
import Derived.Test.YtbmapdkcccdmfaaGreatDoorM18
import Derived.Test.YtbmapdkcccdmfaaGreatDoorM19
import Derived.Test.YtbmapdkcccdmfaaGreatDoorM20
import Derived.Test.YtbmapdkcccdmfaaGreatDoorM21
import Derived.Test.YtbmapdkcccdmfaaGreatDoorM22
import Derived.Test.YtbmapdkcccdmfaaGreatDoorM23
import Derived.Test.YtbmapdkcccdmfaaGreatDoorM24
import Derived.Test.YtbmapdkcccdmfaaGreatDoorM25
import Derived.Test.YtbmapdkcccdmfaaGreatDoorM3
import Derived.Test.YtbmapdkcccdmfaaGreatDoorRows
import Derived.Scope
namespace Go.Proofs.YtbmapdkcccdmfaaGreatDoor
open Go.RowKit Go.Shelf Go.Sort
attribute [local go_sem] Oper.semAt_some

theorem formHalves_stops (n bX bL : Nat) (p : ByteArray) (leaf : Bool) (ht : p.size < 1000000000) (w : World) (hc : TxtIn bX p w) (hl : BolIn bL leaf w) :
  SeqStopsK Fence.wide n Tryz.prog 169 #[.pointer (some ⟨bX, 0, none⟩), .pointer (some ⟨bL, 0, none⟩)] (fEnc p leaf) (fun _ _ => True) (fun ys => ys = List.range (full p leaf).size) (fun pre => ∃ q, q ≤ (full p leaf).size ∧ pre = List.range q) (full p leaf).size w := fun l J Jx W hW hJ _ hY h0 => by
 refine (formHalves1_in n l bX bL p leaf ht J Jx W.heap.size hJ (fun m pre x W1 hj hl => (n_yieldAny m (hY pre x W1 hj hl)).mono fun _ _ h => h.imp (fun h => ⟨h.1, h.2.1⟩) id) W ((hW.block bX hc.lt).trans hc) ((hW.block bL (Array.getElem?_eq_some_iff.1 hl).1).trans hl) h0).mono ?_
 rintro e W' ⟨he, hj | ⟨q, hq, hj⟩⟩
 ·exact ⟨he, .inl ⟨_, rfl, hj⟩⟩
 ·exact ⟨he, .inr ⟨_, ⟨q, hq, rfl⟩, hj⟩⟩

set_option maxHeartbeats 1000000 in
theorem formHalves_any (p : ByteArray) (leaf : Bool) (w : World) :
  Calls Tryz.prog 158 #[.string p, .bool leaf] w fun e w' => e = .returned (.func (.func 169) #[] #[.pointer (some ⟨w.heap.size, 0, none⟩), .pointer (some ⟨w.heap.size + 1, 0, none⟩)]) ∧ w' = (w.alloc (.cells #[.string p] 9)).alloc (.cells #[.bool leaf] 4) := by
 go_enter Tryz.func158, Tryz.ntmps158
 go_wp2
 go_ret
 exact ⟨rfl, rfl⟩

def n_Bx (b : Nat) (T : TypeId) (v : Value) (W : World) : Prop := W.heap[b]? = some (.cells #[v] T (0, 0))
theorem n_Bx.cell {b : Nat} {T : TypeId} {v : Value} {W : World} (h : n_Bx b T v W) : W.cell? ⟨b, 0, none⟩ = some v := by rw [Lib.cell_of_heap h]; rfl
theorem n_Bx.fr {b : Nat} {T : TypeId} {v : Value} {W : World} (h : n_Bx b T v W) : W.frozen? ⟨b, 0, none⟩ = false := Lib.frozen_of_heap h 0
theorem n_Bx.lt {b : Nat} {T : TypeId} {v : Value} {W : World} (h : n_Bx b T v W) : b < W.heap.size := (Array.getElem?_eq_some_iff.1 h).1
theorem n_Bx.put {b : Nat} {T : TypeId} {v : Value} {W : World} (h : n_Bx b T v W) (u : Value) : n_Bx b T u (W.setCell ⟨b, 0, none⟩ u) := by
 have h' : W.heap[b]? = _ := h
 show (W.setCell ⟨b, 0, none⟩ u).heap[b]? = _
 simp [World.setCell, Array.getElem?_modify, h']
theorem n_Bx.other {b k : Nat} {T : TypeId} {v : Value} {W : World} (h : n_Bx b T v W) (hk : b ≠ k) (o : Nat) (u : Value) : n_Bx b T v (W.setCell ⟨k, o, none⟩ u) := (Below.heap_setCell _ _ _ _ hk).trans h
theorem n_Bx.own {b : Nat} {T : TypeId} {v : Value} {A C : World} {row : Option Nat} (h : n_Bx b T v A) (hg : A.grownBy C row) (hr : ∀ r, row = some r → ∃ o : Obj, A.heap[r]? = some o ∧ o.isCells = false) : n_Bx b T v C := by
 refine (hg.block b h.lt (fun e => ?_)).trans h
 obtain ⟨o, ho, hc⟩ := hr b e.symm
 rw [show A.heap[b]? = _ from h] at ho
 cases ho
 cases hc
theorem n_ko_set (W : World) (p : Addr) (u : Value) (B : Nat) : KeepsFrom B W (W.setCell p u) := (KeepsOthers.setCell W p u).from B

def stepF (f : Nat → Int) (s : Int × List Value) (x : Nat) : Int × List Value := if x % 2 = 0 then (f x, s.2) else (s.1, s.2 ++ [.int .u8 (s.1 * 16 + f x)])
def stF (f : Nat → Int) (l : List Nat) : Int × List Value := l.foldl (stepF f) (0, [])
theorem stF_snoc (f : Nat → Int) (l : List Nat) (x : Nat) : stF f (l ++ [x]) = stepF f (stF f l) x := by simp [stF, List.foldl_append]
theorem stF_range (f : Nat → Int) : ∀ k, (stF f (List.range (2 * k))).2 = (List.range k).map fun j => Value.int .u8 (f (2 * j) * 16 + f (2 * j + 1))
 | 0 => rfl
 | k + 1 => by
  rw [show 2 * (k + 1) = 2 * k + 1 + 1 by omega, List.range_succ, List.range_succ, stF_snoc, stF_snoc, List.range_succ, List.map_append, ← stF_range f k]
  rw [stepF, if_neg (by omega), stepF, if_pos (by omega)]
  rfl
theorem path_of_full (p : ByteArray) (leaf : Bool) (h : ∀ j, j < (full p leaf).size → n_bt (full p leaf) j ≤ 15) : isP p = true := by
 refine (isP_iff p).2 fun j hj => ?_
 have := h ((hdOf p.size leaf).size + j) (by rw [full_size]; omega)
 unfold full at this
 rwa [n_bt_app, if_neg (by omega), show (hdOf p.size leaf).size + j - (hdOf p.size leaf).size = j by omega] at this
theorem hd_le (n : Nat) (leaf : Bool) (j : Nat) : n_bt (hdOf n leaf) j ≤ 15 := by
 have e : ∀ a : ByteArray, (a = ⟨#[2, 0]⟩ ∨ a = ⟨#[3]⟩ ∨ a = ⟨#[0, 0]⟩ ∨ a = ⟨#[1]⟩) → n_bt a j ≤ 15 := by
  rintro a (rfl | rfl | rfl | rfl) <;> unfold n_bt <;> match j with
  | 0 => decide
  | 1 => decide
  | j + 2 => simp
 apply e
 cases leaf <;> unfold hdOf <;> by_cases h : n % 2 = 0 <;> simp [h]
theorem full_of_path (p : ByteArray) (leaf : Bool) (h : isP p = true) (j : Nat) (hj : j < (full p leaf).size) : n_bt (full p leaf) j ≤ 15 := by
 unfold full
 rw [n_bt_app]
 by_cases h1 : j < (hdOf p.size leaf).size
 ·rw [if_pos h1]
  exact hd_le _ _ _
 ·rw [if_neg h1]
  rw [full_size] at hj
  exact (isP_iff p).1 h _ (by omega)
theorem bt_out (s : ByteArray) (j : Nat) (h : s.size ≤ j) : n_bt s j = 0 := by
 unfold n_bt
 have h' : ¬ j < s.size := by omega
 simp [Array.getD, h']
theorem full_le (p : ByteArray) (leaf : Bool) (h : isP p = true) (j : Nat) : 0 ≤ n_bt (full p leaf) j ∧ n_bt (full p leaf) j < 16 := by
 have := n_bt_bd (full p leaf) j
 by_cases hj : j < (full p leaf).size
 ·have := full_of_path p leaf h j hj
  omega
 ·rw [bt_out _ _ (by omega)]
  omega
def fmAt (p : ByteArray) (leaf : Bool) (j : Nat) : Int := n_bt (full p leaf) (2 * j) * 16 + n_bt (full p leaf) (2 * j + 1)
def fmOf (p : ByteArray) (leaf : Bool) : ByteArray := ⟨(n_by8 ((full p leaf).size / 2) (fmAt p leaf)).toArray⟩
def fmS (p : ByteArray) (leaf : Bool) : ByteArray := if isP p then fmOf p leaf else ⟨#[]⟩
def fmE (p : ByteArray) : Int := if isP p then 0 else 2
theorem fm_bd (p : ByteArray) (leaf : Bool) (h : isP p = true) (j : Nat) : 0 ≤ fmAt p leaf j ∧ fmAt p leaf j < 256 := by
 have h1 := full_le p leaf h (2 * j)
 have h2 := full_le p leaf h (2 * j + 1)
 unfold fmAt
 omega
theorem or_16 (a b : Int) (ha : 0 ≤ a ∧ a < 16) (hb : 0 ≤ b ∧ b < 16) : bits .or .u8 (a * 16) b = a * 16 + b := by
 have e : ∀ i j : Fin 16, bits .or .u8 (((i.val : Nat) : Int) * 16) ((j.val : Nat) : Int) = ((i.val : Nat) : Int) * 16 + ((j.val : Nat) : Int) := by decide +kernel
 have := e ⟨a.toNat, by omega⟩ ⟨b.toNat, by omega⟩
 rwa [show ((a.toNat : Nat) : Int) = a by omega, show ((b.toNat : Nat) : Int) = b by omega] at this
structure FSt (f : Nat → Int) (z bH bP : Nat) (w : World) (pre : List Nat) (W : World) : Prop where
 rb : ∃ g cap, Rb z g cap (stF f pre).2 W ∧ cap ≠ 0 ∧ z < g ∧ g ≠ bH ∧ g ≠ bP
 hi : n_Bx bH 5 (.int .u8 (stF f pre).1) W
 ok : n_Bx bP 4 (.bool true) W
 bd : 0 ≤ (stF f pre).1 ∧ (stF f pre).1 < 16
 ln : (stF f pre).2.length ≤ pre.length
 all : ∀ x, x ∈ pre → f x ≤ 15
 bw : Below z w W
theorem FSt.own {f : Nat → Int} {z bH bP : Nat} {w A C : World} {pre : List Nat} {row : Option Nat} (h : FSt f z bH bP w pre A) (hg : A.grownBy C row) (hr : ∀ r, row = some r → z ≤ r ∧ ∃ o : Obj, A.heap[r]? = some o ∧ o.isCells = false) : FSt f z bH bP w pre C := by
 obtain ⟨g, cap, h1, h2⟩ := h.rb
 exact ⟨⟨g, cap, h1.own hg (fun r e => (hr r e).2), h2⟩, h.hi.own hg (fun r e => (hr r e).2), h.ok.own hg (fun r e => (hr r e).2), h.bd, h.ln, h.all, h.bw.grown hg (Nat.le_of_lt h1.lt) (fun k e => (hr k e).1)⟩

set_option maxRecDepth 100000 in
set_option maxHeartbeats 2000000 in
theorem form_any (p : ByteArray) (leaf : Bool) (hp : p.size ≤ 100000000) (w : World) :
  Calls Tryz.prog 136 #[.string p, .bool leaf] w fun e w' => e = .returned (.tuple #[.string (fmS p leaf), .int .i64 (fmE p)]) ∧ Below w.heap.size w w' := by
 refine (callsIn_wide (n := 9)).1 ?_
 refine callsIn_of_wp_marks Tryz.func136 rfl trivial ?_ rfl
 refine wpIn_wide.2 ?_
 simp only [Tryz.ntmps136, List.size_toArray, List.length_cons, List.length_nil, Nat.reduceAdd, Nat.reduceSub, Array.replicate_succ, Array.replicate_zero, List.push_toArray, List.append_toArray, List.nil_append, List.cons_append]
 obtain ⟨m, hm⟩ : ∃ m, p.size / 2 + 1 = m := ⟨_, rfl⟩
 have h2 : (p.size : Int) / 2 + 1 = m := by omega
 have h3 : (p.size : Int).tdiv 2 + 1 = m := by rw [Int.tdiv_eq_ediv_of_nonneg (by omega)]; exact h2
 go_wp2_with fail
 refine wp_scope_straight ?_
 go_wp2_with fail
 have hnew : (w.alloc (.cells #[.pointer none, .slice none 0 0] 89)).heap[w.heap.size]? = some (.cells #[.pointer none, .slice none 0 0] 89 (0, 0)) := World.alloc_heap_new w _
 have KG := grow_row w.heap.size m (w.alloc (.cells #[.pointer none, .slice none 0 0] 89)) hnew (by omega) (by omega)
 refine KG.mono ?_
 rintro e w1 ⟨rfl, B1, g, cap, hgc, hzg, rb1⟩
 have BW1 := ((Below.refl w.heap.size w).alloc (Nat.le_refl _) (.cells #[.pointer none, .slice none 0 0] 89)).trans B1
 clear KG B1 hnew h2 h3
 have hz1 : w.heap.size < w1.heap.size := rb1.lt
 have hg1 : g < w1.heap.size := rb1.r.lt
 go_wp2_with fail
 refine wpOf (fun W => Rb w.heap.size g cap [] W ∧ n_Bx w1.heap.size 5 (.int .u8 0) W ∧ n_Bx (w1.heap.size + 1) 4 (.bool true) W ∧ Below w.heap.size w W) ?_ ?_
 ·have a1 : Below w1.heap.size w1 ((w1.alloc (.cells #[.int .u8 0] 5)).alloc (.cells #[.bool true] 4)) := ((Below.refl _ w1).alloc (Nat.le_refl _) _).alloc (by simp) _
  refine ⟨rb1.below a1, (Lib.alloc_old _ _ _ (by simp)).trans (World.alloc_heap_new w1 _), ?_, belowStep BW1 BW1.size a1⟩
  have := World.alloc_heap_new (w1.alloc (.cells #[.int .u8 0] 5)) (.cells #[.bool true] 4)
  rwa [World.size_alloc] at this
 rintro w2 ⟨rb2, hH, hP, BW2⟩
 obtain ⟨bH, hbH⟩ : ∃ c, w1.heap.size = c := ⟨_, rfl⟩
 rw [hbH] at hH hP hz1 hg1 ⊢
 obtain ⟨bP, hbP⟩ : ∃ c, bH + 1 = c := ⟨_, rfl⟩
 rw [hbP] at hP ⊢
 obtain ⟨z, hz⟩ : ∃ c, w.heap.size = c := ⟨_, rfl⟩
 have HZ : Hid (w.heap.size = z) := hz
 rw [hz] at rb2 BW2 hz1 hzg ⊢
 clear hz hbH BW1 rb1
 refine wp_label ?_
 go_wp2_with fail
 refine (formHalves_any p leaf w2).mono ?_
 rintro e w3 ⟨rfl, hw3⟩
 have a3 : Below w2.heap.size w2 w3 := by rw [hw3]; exact ((Below.refl _ w2).alloc (Nat.le_refl _) _).alloc (by simp) _
 have hcx : TxtIn w2.heap.size p w3 := by rw [hw3]; exact (Lib.alloc_old _ _ _ (by simp)).trans (World.alloc_heap_new w2 _)
 have hcl : BolIn (w2.heap.size + 1) leaf w3 := by
  rw [hw3]
  have := World.alloc_heap_new (w2.alloc (.cells #[.string p] 9)) (.cells #[.bool leaf] 4)
  rwa [World.size_alloc] at this
 have rb3 := rb2.below a3
 have hH3 : n_Bx bH 5 (.int .u8 0) w3 := (a3.block bH hH.lt).trans hH
 have hP3 : n_Bx bP 4 (.bool true) w3 := (a3.block bP hP.lt).trans hP
 have BW3 := belowStep BW2 (Nat.le_of_lt rb2.lt) a3
 have hPw := hP.lt
 clear hw3 a3 rb2 hH hP BW2
 obtain ⟨bX, hbX⟩ : ∃ c, w2.heap.size = c := ⟨_, rfl⟩
 rw [hbX] at hcx hcl hPw ⊢
 clear hbX
 obtain ⟨bL, hbL⟩ : ∃ c, bX + 1 = c := ⟨_, rfl⟩
 rw [hbL] at hcl ⊢
 go_wp2_with fail
 have hxz : bX < w3.heap.size := hcx.lt
 obtain ⟨f, hf⟩ : ∃ f : Nat → Int, n_bt (full p leaf) = f := ⟨_, rfl⟩
 have HF : Hid (n_bt (full p leaf) = f) := hf
 have hfb : ∀ j, 0 ≤ f j ∧ f j < 256 := fun j => by rw [← hf]; exact n_bt_bd _ _
 obtain ⟨N, hN⟩ : ∃ N, (full p leaf).size = N := ⟨_, rfl⟩
 have hN2 : N ≤ 100000002 := by rw [← hN, full_size, hd_size]; omega
 refine (wpIn_wide (n := 9)).1 ?_
 refine wpIn_rangeFunc_ownH rfl (by omega) (gf := 169) (lb := #[.pointer (some ⟨bX, 0, none⟩), .pointer (some ⟨bL, 0, none⟩)]) rfl trivial (enters_of Tryz.func169 (by kernel_rfl) rfl)
  (formHalves_stops _ bX bL p leaf (by omega) w3 hcx hcl) (fun _ _ => trivial) (fun _ _ _ _ _ _ _ _ => trivial) (Below.refl _ _) (fun _ => rfl)
  (fun pre W => FSt f z bH bP w pre W)
  (fun c pre W => c = .exit 0 ∧ n_Bx bP 4 (.bool false) W ∧ z < W.heap.size ∧ Below z w W ∧ ∃ x, x ∈ pre ∧ 15 < f x)
  (fun s A C row hs hg hr => hs.own hg (fun r e => ⟨Nat.le_trans (by omega) (hr r e).1, (hr r e).2⟩))
  (fun c s A C row hs hg hr => ⟨hs.1, hs.2.1.own hg (fun r e => (hr r e).2), Nat.lt_of_lt_of_le hs.2.2.1 hg.size, hs.2.2.2.1.grown hg (Nat.le_of_lt hs.2.2.1) (fun k e => Nat.le_trans (by omega) (hr k e).1), hs.2.2.2.2⟩)
  ⟨⟨g, cap, rb3, by omega, hzg, by omega, by omega⟩, hH3, hP3, ⟨(by show (0 : Int) ≤ 0; decide), (by show (0 : Int) < 16; decide)⟩, Nat.le_refl _, fun x hx => (by cases hx), BW3⟩
  (fun x a' _ => ∃ q : Nat, q % 2 = x % 2 ∧ a' = { tmps := #[.string p, .bool leaf, undef, undef, .string ⟨#[]⟩, .int .i64 0, .pointer (some ⟨z, 0, none⟩), .pointer (some ⟨bH, 0, none⟩), .pointer (some ⟨bP, 0, none⟩), .int .i64 q, .int .u8 (f x), .string p, .int .i64 p.size, .int .i64 (p.size / 2), .int .i64 m, .tuple #[], .string p, .bool leaf, .func (.func 169) #[] #[.pointer (some ⟨bX, 0, none⟩), .pointer (some ⟨bL, 0, none⟩)], .int .i64 q, .int .u8 (f x), undef, undef, undef, undef, undef, undef, undef, undef, undef, undef, undef, undef, undef, undef, undef, undef], defers := [] })
  (fun x a' _ X Y row hs hg hr => hs)
  ?assign ?body ?done ?stop
 case assign =>
  rintro l pre x W K hI hK
  obtain ⟨q, hq⟩ : ∃ q, x % 4294967296 = q := ⟨_, rfl⟩
  dsimp only [fEnc]
  rw [hf, hq]
  gi_wp2
  exact hK _ _ (KeepsFrom.refl _ _) trivial hI ⟨q, by omega, rfl⟩
 case body =>
  rintro l pre x a' W hl ⟨r, hr⟩ hI ⟨q, hq, rfl⟩ hlt
  obtain ⟨u, hu⟩ : ∃ u, f x = u := ⟨_, rfl⟩
  have hub := hfb x
  obtain ⟨h, hh⟩ : ∃ h, (stF f pre).1 = h := ⟨_, rfl⟩
  obtain ⟨bs, hbs⟩ : ∃ bs, (stF f pre).2 = bs := ⟨_, rfl⟩
  obtain ⟨⟨g4, cap4, rb4, hc4, hzg4, hgH, hgP⟩, hH4, hP4, hbd, hln, hall, hbw⟩ := hI
  rw [hh] at hH4 hbd
  rw [hbs] at rb4 hln
  rw [hu] at hub ⊢
  have HU : Hid (f x = u ∧ (stF f pre).1 = h ∧ (stF f pre).2 = bs) := ⟨hu, hh, hbs⟩
  clear hu hh hbs
  have cH := hH4.cell
  have cP := hP4.cell
  have fH := hH4.fr
  have fP := hP4.fr
  have hHW := hH4.lt
  have hPW := hP4.lt
  by_cases hbig : 15 < u
  ·have HI : Hid (_ ∧ _) := ⟨hP4, hbw⟩
   clear hP4 hbw rb4 hH4
   gi_wp2
   refine (?_ : KeepsFrom _ W (W.setCell ⟨bP, 0, none⟩ (.bool false)) ∧ Code.exit 0 = .exit 0 ∧ n_Bx bP 4 (.bool false) (W.setCell ⟨bP, 0, none⟩ (.bool false)) ∧ z < (W.setCell ⟨bP, 0, none⟩ (.bool false)).heap.size ∧ Below z w (W.setCell ⟨bP, 0, none⟩ (.bool false)) ∧ ∃ y, y ∈ pre ++ [x] ∧ 15 < f y)
   exact ⟨n_ko_set _ _ _ _, rfl, HI.out.1.put _, by simp [World.setCell]; omega, HI.out.2.setCell (p := ⟨bP, 0, none⟩) (by show z ≤ bP; omega) _, x, by simp, by rw [HU.out.1]; exact hbig⟩
  ·by_cases hev : q % 2 = 0
   ·have e1 : (q : Int).tmod 2 = 0 := by rw [Int.tmod_eq_emod_of_nonneg (by omega)]; omega
    have e2 : (q : Int) % 2 = 0 := by omega
    have HI : Hid (_ ∧ _ ∧ _ ∧ _) := ⟨hP4, hbw, rb4, hH4⟩
    clear hP4 hbw rb4 hH4
    gi_wp2
    obtain ⟨hP4, hbw, rb4, hH4⟩ := HI.out
    have hst : stF f (pre ++ [x]) = (u, bs) := by rw [stF_snoc, stepF, if_pos (by omega), HU.out.1, HU.out.2.2]
    refine (?_ : KeepsFrom _ W (W.setCell ⟨bH, 0, none⟩ (.int .u8 u)) ∧ True ∧ FSt f z bH bP w (pre ++ [x]) (W.setCell ⟨bH, 0, none⟩ (.int .u8 u)))
    refine ⟨n_ko_set _ _ _ _, trivial, ⟨g4, cap4, ?_, hc4, hzg4, hgH, hgP⟩, ?_, hP4.other (by omega) _ _, ?_, ?_, ?_, hbw.setCell (p := ⟨bH, 0, none⟩) (by show z ≤ bH; omega) _⟩
    ·rw [hst]
     exact rb4.keep (Below.heap_setCell _ _ _ _ (by show z ≠ bH; omega)) (Below.heap_setCell _ _ _ _ hgH)
    ·rw [hst]
     exact hH4.put _
    ·rw [hst]
     exact ⟨hub.1, by show u < 16; omega⟩
    ·rw [hst, List.length_append]
     exact Nat.le_trans hln (Nat.le_add_right _ _)
    ·intro y hy
     rcases List.mem_append.1 hy with hy | hy
     ·exact hall y hy
     ·simp at hy
      rw [hy, HU.out.1]
      omega
   ·have e1 : (q : Int).tmod 2 = 1 := by rw [Int.tmod_eq_emod_of_nonneg (by omega)]; omega
    have e2 : (q : Int) % 2 = 1 := by omega
    have hsh : h * 16 % 256 = h * 16 := by omega
    have hor := or_16 h u hbd ⟨hub.1, by omega⟩
    obtain ⟨v, hv⟩ : ∃ v, h * 16 + u = v := ⟨_, rfl⟩
    rw [hv] at hor
    have HI : Hid (_ ∧ _ ∧ _ ∧ _) := ⟨hP4, hbw, rb4, hH4⟩
    clear hP4 hbw rb4 hH4
    gi_wp2_with fail
    obtain ⟨hP4, hbw, rb4, hH4⟩ := HI.out
    refine ⟨trivial, (CallsIn.inRound l (callsIn_wide.2 (write_row z g4 cap4 bs v W rb4 (by omega)))).mono ?_⟩
    rintro e W5 ⟨rfl, g5, cap5, rb5, hg5, hz5, hk5, hb5⟩
    clear hP4 hbw rb4 hH4
    gi_wp2
    obtain ⟨hP4, hbw, rb4, hH4⟩ := HI.out
    have hst : stF f (pre ++ [x]) = (h, bs ++ [.int .u8 v]) := by rw [stF_snoc, stepF, if_neg (by omega), HU.out.1, HU.out.2.1, HU.out.2.2, hv]
    refine (?_ : KeepsFrom _ W W5 ∧ True ∧ FSt f z bH bP w (pre ++ [x]) W5)
    have hzW := rb4.lt
    have hgW := rb4.r.lt
    refine ⟨⟨hz5, fun k o _ hk ho => ?_⟩, trivial, ⟨g5, cap5, ?_, ?_, ?_, ?_, ?_⟩, ?_, (hk5 bP hPW (by omega) (by omega)).trans hP4, ?_, ?_, ?_, hbw.trans (hb5 z (Nat.le_refl _) (by omega))⟩
    ·refine (hk5 k (Array.getElem?_eq_some_iff.1 hk).1 (fun e => ?_) (fun e => ?_)).trans hk
     ·rw [e, rb4.hb] at hk
      cases hk
      cases ho
     ·obtain ⟨cur, hcur, _⟩ := rb4.r.h
      rw [e, hcur] at hk
      cases hk
      cases ho
    ·rw [hst]
     exact rb5
    ·have := rb5.r.nc
     simp at this
     omega
    ·rcases hg5 with e | e <;> omega
    ·rcases hg5 with e | e <;> omega
    ·rcases hg5 with e | e <;> omega
    ·rw [hst]
     exact (hk5 bH hHW (by omega) (by omega)).trans hH4
    ·rw [hst]
     exact hbd
    ·rw [hst]
     simp
     omega
    ·intro y hy
     rcases List.mem_append.1 hy with hy | hy
     ·exact hall y hy
     ·simp at hy
      rw [hy, HU.out.1]
      omega
 case done =>
  rintro D ys W hD rfl hI hK
  have hP4 := hI.ok.cell
  obtain ⟨g4, cap4, rb4, hc4, hzg4, hgH, hgP⟩ := hI.rb
  have hgood : isP p = true := path_of_full p leaf (fun j hj => by rw [HF.out]; exact hI.all j (by rw [hN] at *; exact List.mem_range.2 hj))
  have hev : N = 2 * (N / 2) := by rw [← hN, full_size, hd_size]; omega
  have hfm : ∀ j, f (2 * j) * 16 + f (2 * j + 1) = fmAt p leaf j := fun j => by unfold fmAt; rw [HF.out]
  obtain ⟨bs, hbs⟩ : ∃ bs, (List.range (N / 2)).map (fun j => UInt8.ofNat (fmAt p leaf j).toNat) = bs := ⟨_, rfl⟩
  have HO : Hid (fmS p leaf = ⟨bs.toArray⟩ ∧ fmE p = 0) := by
   unfold fmS fmE fmOf n_by8
   rw [if_pos hgood, if_pos hgood, hN, hbs]
   exact ⟨rfl, rfl⟩
  rw [hN, hev, stF_range] at rb4
  simp only [hfm] at rb4
  rw [byteCells_map (fmAt p leaf) (fm_bd p leaf hgood), hbs] at rb4
  have hDg : D ≠ g4 := fun e => by
   obtain ⟨cur, hcur, _⟩ := rb4.r.h
   rw [e, hcur] at hK
   cases hK
  have hbw := hI.bw
  clear hbs hfm hev hgood hI
  go_wp2_with fail
  refine (string_row z g4 cap4 _ W rb4 hc4).mono ?_
  rintro e w4 ⟨rfl, hz4, hk4, hb4⟩
  have hK4 := (hk4 D hDg).trans hK
  have BW4 := hbw.trans (hb4 z (by omega))
  clear hb4 hk4 hK hbw
  go_wp2
  have hbP := belowK_b (n₀ := z) (w := w3) (by omega) w4 D _ (.deferred none) hD hK4 rfl rfl
  rw [Exit.noGoto_ret]
  refine ⟨by simp, .inl ⟨_, _, rfl, run_takeDeferred hK4, ?_⟩⟩
  refine ⟨.tuple #[.string ⟨bs.toArray⟩, .int .i64 0], by simp [results, Tryz.results136, go_sem], by rw [HO.out.1, HO.out.2], ?_⟩
  rw [HZ.out]
  exact BW4.trans hbP
 case stop =>
  rintro D c pre W hD ⟨k, hk, rfl⟩ ⟨rfl, hPf, hzW, BWf, y, hy, hy2⟩ hK
  have hP4 := hPf.cell
  have HO : Hid (fmS p leaf = ⟨#[]⟩ ∧ fmE p = 2) := by
   have hbad : isP p = false := by
    cases e : isP p with
    | false => rfl
    | true =>
     have := full_of_path p leaf e y (by have := List.mem_range.1 hy; omega)
     rw [HF.out] at this
     omega
   unfold fmS fmE
   rw [hbad]
   exact ⟨rfl, rfl⟩
  clear hPf
  gi_wp2
  go_wp2
  have hbP := belowK_b (n₀ := z) (w := w3) (by omega) W D _ (.deferred none) hD hK rfl rfl
  rw [Exit.noGoto_ret]
  refine ⟨by simp, .inl ⟨_, _, rfl, run_takeDeferred hK, ?_⟩⟩
  refine ⟨.tuple #[.string ⟨#[]⟩, .int .i64 2], by simp [results, Tryz.results136, go_sem], by rw [HO.out.1, HO.out.2], ?_⟩
  rw [HZ.out]
  exact BWf.trans hbP
end Go.Proofs.YtbmapdkcccdmfaaGreatDoor
