/- Lemmas: What Read does at this translation: the path whose form bytes are, or that there is none. Condition: at most 10^8 bytes. -/
import Derived.Test.YtbmapdkcccdmfaaDoorM1
import Derived.Test.YtbmapdkcccdmfaaDoorM11
import Derived.Test.YtbmapdkcccdmfaaDoorM18
import Derived.Test.YtbmapdkcccdmfaaDoorM19
import Derived.Test.YtbmapdkcccdmfaaDoorM20
import Derived.Test.YtbmapdkcccdmfaaDoorM21
import Derived.Test.YtbmapdkcccdmfaaDoorM22
import Derived.Test.YtbmapdkcccdmfaaDoorM23
import Derived.Test.YtbmapdkcccdmfaaDoorM24
import Derived.Test.YtbmapdkcccdmfaaDoorM25
import Derived.Test.YtbmapdkcccdmfaaDoorM26
import Derived.Test.YtbmapdkcccdmfaaDoorM3
import Derived.Test.YtbmapdkcccdmfaaDoorRows
import Derived.Deep.RegionWith
import Derived.Laws.Closers25
namespace Go.Proofs.YtbmapdkcccdmfaaDoor
open Go.RowKit Go.Shelf Go.Sort
attribute [local go_sem] Oper.semAt_some

def stepR (f : Nat → Int) (s : Int × List Value × Bool) (x : Nat) : Int × List Value × Bool :=
 if x % 4294967296 = 0 then (f x, s.2.1, s.2.2 && decide (f x ≤ 3))
 else if x % 4294967296 = 1 ∧ s.1 % 2 = 0 then (s.1, s.2.1, s.2.2 && decide (f x = 0))
 else (s.1, s.2.1 ++ [.int .u8 (f x)], s.2.2)
def stR (f : Nat → Int) (l : List Nat) : Int × List Value × Bool := l.foldl (stepR f) (0, [], true)
theorem stR_snoc (f : Nat → Int) (l : List Nat) (x : Nat) : stR f (l ++ [x]) = stepR f (stR f l) x := by simp [stR, List.foldl_append]
def rgood (f : Nat → Int) : Bool := decide (f 0 ≤ 3) && (decide (f 0 % 2 = 1) || decide (f 1 = 0))
def rfrom (f : Nat → Int) : Nat := if f 0 % 2 = 0 then 2 else 1
theorem stR_range (f : Nat → Int) (hf : 0 ≤ f 0) : ∀ k, k + 2 < 4294967296 → stR f (List.range (k + 2)) = (f 0, (List.range (k + 2 - rfrom f)).map (fun j => Value.int .u8 (f (rfrom f + j))), rgood f)
 | 0, _ => by
  show stR f [0, 1] = _
  by_cases h : f 0 % 2 = 0
  ·have h' : ¬ f 0 % 2 = 1 := by omega
   simp [stR, stepR, rgood, rfrom, h]
  ·have h' : f 0 % 2 = 1 := by omega
   simp [stR, stepR, rgood, rfrom, h']
 | k + 1, hk => by
  rw [show k + 1 + 2 = (k + 2) + 1 by omega, List.range_succ, stR_snoc, stR_range f hf k (by omega)]
  unfold stepR
  rw [if_neg (by omega), if_neg (by omega)]
  have hr : rfrom f ≤ 2 := by unfold rfrom; split <;> omega
  rw [show k + 2 + 1 - rfrom f = (k + 2 - rfrom f) + 1 by omega, List.range_succ, List.map_append]
  simp only [List.map_cons, List.map_nil]
  rw [show rfrom f + (k + 2 - rfrom f) = k + 2 by omega]
theorem stR_bad (f : Nat → Int) (hf : 0 ≤ f 0) (q : Nat) (hq : q < 4294967296) (h : (stR f (List.range q)).2.2 = false) : rgood f = false := by
 match q, hq, h with
 | 0, _, h => cases h
 | 1, _, h =>
  have : (stR f [0]).2.2 = false := h
  simp [stR, stepR] at this
  have h3 : ¬ f 0 ≤ 3 := by omega
  unfold rgood
  rw [decide_eq_false h3, Bool.false_and]
 | q + 2, hq, h => rw [stR_range f hf q hq] at h; exact h
structure RSt (f : Nat → Int) (z bH bP : Nat) (w : World) (pre : List Nat) (W : World) : Prop where
 rb : ∃ g cap, Rb z g cap (stR f pre).2.1 W ∧ cap ≠ 0 ∧ z < g ∧ g ≠ bH ∧ g ≠ bP
 hi : n_Bx bH 5 (.int .u8 (stR f pre).1) W
 ok : n_Bx bP 4 (.bool true) W
 bd : 0 ≤ (stR f pre).1 ∧ (stR f pre).1 < 16
 ln : (stR f pre).2.1.length ≤ pre.length
 gd : (stR f pre).2.2 = true
 bw : Below z w W
theorem RSt.own {f : Nat → Int} {z bH bP : Nat} {w A C : World} {pre : List Nat} {row : Option Nat} (h : RSt f z bH bP w pre A) (hg : A.grownBy C row) (hr : ∀ r, row = some r → z ≤ r ∧ ∃ o : Obj, A.heap[r]? = some o ∧ o.isCells = false) : RSt f z bH bP w pre C := by
 obtain ⟨g, cap, h1, h2⟩ := h.rb
 exact ⟨⟨g, cap, h1.own hg (fun r e => (hr r e).2), h2⟩, h.hi.own hg (fun r e => (hr r e).2), h.ok.own hg (fun r e => (hr r e).2), h.bd, h.ln, h.gd, h.bw.grown hg (Nat.le_of_lt h1.lt) (fun k e => (hr k e).1)⟩
theorem ne_empty (s : ByteArray) (h : 0 < s.size) : s.toList.isEmpty = false := by
 rw [← decide_eq_emptyBytes s]
 exact decide_eq_false fun e => by rw [e] at h; exact absurd h (by decide)
structure JRd (V w : World) (z bH D : Nat) (h : Int) (bs : List UInt8) (lf : Bool) (S : Nat → Bool) (x51 x52 x53 x54 x2 x3 x4 : Value) (W : World) : Prop where
 e0 : S 0 = false → W = V.drew
 c : W.cell? ⟨bH, 0, none⟩ = some (.int .u8 h)
 f0 : S 0 = true → x51 = .string ⟨bs.toArray⟩ ∧ W.heap[D]? = some (.deferred (some [])) ∧ Below z w W
 f1 : S 1 = true → x52 = .int .u8 h
 f2 : S 2 = true → x53 = .int .u8 (h / 2 % 2 * 2)
 f3 : S 3 = true → x54 = .bool lf
 f4 : S 4 = true → x2 = .string ⟨bs.toArray⟩
 f5 : S 5 = true → x3 = .bool lf
 f6 : S 6 = true → x4 = .int .i64 0
def rdGood (s : ByteArray) : Bool := decide (0 < s.size) && rgood (half s)
def rdS (s : ByteArray) : ByteArray := if rdGood s then ⟨(n_by8 (2 * s.size - rfrom (half s)) (fun j => half s (rfrom (half s) + j))).toArray⟩ else ⟨#[]⟩
def rdL (s : ByteArray) : Bool := rdGood s && decide (half s 0 / 2 % 2 = 1)
def rdE (s : ByteArray) : Int := if rdGood s then 0 else 50
theorem and_1 (a : Int) (h : 0 ≤ a ∧ a < 16) : bits .and .u8 a 1 = a % 2 := by
 have e : ∀ i : Fin 16, bits .and .u8 ((i.val : Nat) : Int) 1 = ((i.val : Nat) : Int) % 2 := by decide +kernel
 have := e ⟨a.toNat, by omega⟩
 rwa [show ((a.toNat : Nat) : Int) = a by omega] at this
theorem and_2 (a : Int) (h : 0 ≤ a ∧ a < 16) : bits .and .u8 a 2 = a / 2 % 2 * 2 := by
 have e : ∀ i : Fin 16, bits .and .u8 ((i.val : Nat) : Int) 2 = ((i.val : Nat) : Int) / 2 % 2 * 2 := by decide +kernel
 have := e ⟨a.toNat, by omega⟩
 rwa [show ((a.toNat : Nat) : Int) = a by omega] at this

set_option maxRecDepth 100000 in
set_option maxHeartbeats 2000000 in
theorem read_any (s : ByteArray) (hs : s.size ≤ 100000000) (h0 : 0 < s.size) (w : World) :
  Calls Tryd.prog 102 #[.string s] w fun e w' => e = .returned (.tuple #[.string (rdS s), .bool (rdL s), .int .i64 (rdE s)]) ∧ Below w.heap.size w w' := by
 refine (callsIn_wide (n := 9)).1 ?_
 refine callsIn_of_wp_marks Tryd.func102 rfl trivial ?_ rfl
 refine wpIn_wide.2 ?_
 simp only [Tryd.ntmps102, List.size_toArray, List.length_cons, List.length_nil, Nat.reduceAdd, Nat.reduceSub, Array.replicate_succ, Array.replicate_zero, List.push_toArray, List.append_toArray, List.nil_append, List.cons_append]
 have wz : IntKind.i64.wrap (2 * (s.size : Int)) = ((2 * s.size : Nat) : Int) := by rw [IntKind.wrap_i64]; omega
 have hne := ne_empty s h0
 go_wp2_with fail
 refine wp_scope_straight ?_
 go_wp2_with fail
 have hnew : (w.alloc (.cells #[.pointer none, .slice none 0 0] 83)).heap[w.heap.size]? = some (.cells #[.pointer none, .slice none 0 0] 83 (0, 0)) := World.alloc_heap_new w _
 have KG := grow_row w.heap.size (2 * s.size) (w.alloc (.cells #[.pointer none, .slice none 0 0] 83)) hnew (by omega) (by omega)
 rw [show ((2 * s.size : Nat) : Int) = 2 * (s.size : Int) by omega] at KG
 refine KG.mono ?_
 rintro e w1 ⟨rfl, B1, g, cap, hgc, hzg, rb1⟩
 have BW1 := ((Below.refl w.heap.size w).alloc (Nat.le_refl _) (.cells #[.pointer none, .slice none 0 0] 83)).trans B1
 clear KG B1 hnew wz
 have hz1 : w.heap.size < w1.heap.size := rb1.lt
 have hg1 : g < w1.heap.size := rb1.r.lt
 go_wp2_with fail
 refine wpOf (fun W => Rb w.heap.size g cap [] W ∧ n_Bx w1.heap.size 5 (.int .u8 0) W ∧ n_Bx (w1.heap.size + 1) 4 (.bool true) W ∧ Below w.heap.size w W) ?_ ?_
 ·have a1 : Below w1.heap.size w1 ((w1.alloc (.cells #[.int .u8 0] 5)).alloc (.cells #[.bool true] 4)) := ((Below.refl _ w1).alloc (Nat.le_refl _) _).alloc (by simp) _
  refine ⟨rb1.below a1, (Lib.alloc_old _ _ _ (by simp)).trans (World.alloc_heap_new w1 _), ?_, belowStep BW1 BW1.size a1⟩
  have := World.alloc_heap_new (w1.alloc (.cells #[.int .u8 0] 5)) (.cells #[.bool true] 4)
  rwa [World.size_alloc] at this
 rintro w2 ⟨rb2, hH, hP, BW2⟩
 obtain ⟨bH, hbH⟩ : ∃ c, w1.heap.size = c := ⟨_, rfl⟩
 rw [hbH] at hH hP hz1 hg1 ⊢
 obtain ⟨bP, hbP⟩ : ∃ c, bH + 1 = c := ⟨_, rfl⟩
 rw [hbP] at hP ⊢
 obtain ⟨z, hz⟩ : ∃ c, w.heap.size = c := ⟨_, rfl⟩
 have HZ : Hid (w.heap.size = z) := hz
 rw [hz] at rb2 BW2 hz1 hzg ⊢
 clear hz hbH BW1 rb1
 refine wp_label ?_
 go_wp2_with fail
 refine (halves_any s w2).mono ?_
 rintro e w3 ⟨rfl, hw3⟩
 have a3 : Below w2.heap.size w2 w3 := by rw [hw3]; exact (Below.refl _ w2).alloc (Nat.le_refl _) _
 have hcx : TxtIn w2.heap.size s w3 := by rw [hw3]; exact World.alloc_heap_new w2 _
 have rb3 := rb2.below a3
 have hH3 : n_Bx bH 5 (.int .u8 0) w3 := (a3.block bH hH.lt).trans hH
 have hP3 : n_Bx bP 4 (.bool true) w3 := (a3.block bP hP.lt).trans hP
 have BW3 := belowStep BW2 (Nat.le_of_lt rb2.lt) a3
 have hPw := hP.lt
 have hgw := rb2.r.lt
 clear hw3 a3 rb2 hH hP BW2
 obtain ⟨bX, hbX⟩ : ∃ c, w2.heap.size = c := ⟨_, rfl⟩
 rw [hbX] at hcx hPw hgw ⊢
 clear hbX
 go_wp2_with fail
 have hxz : bX < w3.heap.size := hcx.lt
 obtain ⟨f, hf⟩ : ∃ f : Nat → Int, half s = f := ⟨_, rfl⟩
 have HF : Hid (half s = f) := hf
 have hfb : ∀ j, 0 ≤ f j ∧ f j < 16 := fun j => by rw [← hf]; exact half_bd _ _
 obtain ⟨N, hN⟩ : ∃ N, 2 * s.size = N := ⟨_, rfl⟩
 refine (wpIn_wide (n := 9)).1 ?_
 refine wpIn_rangeFunc_ownH rfl (by omega) (gf := 65) (lb := #[.pointer (some ⟨bX, 0, none⟩)]) rfl trivial (enters_of Tryd.func65 (by kernel_rfl) rfl)
  (halves_stops _ bX s (by omega) w3 hcx) (fun h k => TxtK.trans h k) (fun W l o o' hl h1 h2 h3 hx => (World.putObj_heap_other (by omega)).trans hx) (Below.refl _ _) (fun _ => rfl)
  (fun pre W => RSt f z bH bP w pre W ∧ bX < W.heap.size)
  (fun c pre W => c = .exit 0 ∧ n_Bx bP 4 (.bool false) W ∧ z < W.heap.size ∧ Below z w W ∧ (stR f pre).2.2 = false)
  (fun s A C row hs hg hr => ⟨hs.1.own hg (fun r e => ⟨Nat.le_trans (by omega) (hr r e).1, (hr r e).2⟩), Nat.lt_of_lt_of_le hs.2 hg.size⟩)
  (fun c s A C row hs hg hr => ⟨hs.1, hs.2.1.own hg (fun r e => (hr r e).2), Nat.lt_of_lt_of_le hs.2.2.1 hg.size, hs.2.2.2.1.grown hg (Nat.le_of_lt hs.2.2.1) (fun k e => Nat.le_trans (by omega) (hr k e).1), hs.2.2.2.2⟩)
  ⟨⟨⟨g, cap, rb3, by omega, hzg, by omega, by omega⟩, hH3, hP3, ⟨(by show (0 : Int) ≤ 0; decide), (by show (0 : Int) < 16; decide)⟩, Nat.le_refl _, rfl, BW3⟩, hxz⟩
  (fun x a' _ => ∃ q : Nat, x % 4294967296 = q ∧ a' = { tmps := #[.string s, undef, .string ⟨#[]⟩, .bool false, .int .i64 0, .pointer (some ⟨z, 0, none⟩), .pointer (some ⟨bH, 0, none⟩), .pointer (some ⟨bP, 0, none⟩), .int .i64 q, .int .u8 (f x), undef, .string s, .int .i64 s.size, .int .i64 (2 * s.size), .tuple #[], .string s, .bool true, .string s, .func (.func 65) #[] #[.pointer (some ⟨bX, 0, none⟩)], .int .i64 q, .int .u8 (f x), undef, undef, undef, undef, undef, undef, undef, undef, undef, undef, undef, undef, undef, undef, undef, undef, undef, undef, undef, undef, undef, undef, undef, undef, undef, undef, undef, undef, undef, undef, undef, undef, undef, undef], defers := [] })
  (fun x a' _ X Y row hs hg hr => hs)
  ?assign ?body ?done ?stop
 case assign =>
  rintro l pre x W K hI hK
  obtain ⟨q, hq⟩ : ∃ q, x % 4294967296 = q := ⟨_, rfl⟩
  dsimp only [hEnc]
  rw [hf, hq]
  gi_wp2
  exact hK _ _ (KeepsFrom.refl _ _) (fun h => h) hI ⟨q, hq, rfl⟩
 case body =>
  rintro l pre x a' W hl ⟨r, hr⟩ ⟨hI, hxW⟩ ⟨q, hq, rfl⟩ hlt
  obtain ⟨u, hu⟩ : ∃ u, f x = u := ⟨_, rfl⟩
  have hub := hfb x
  obtain ⟨h, hh⟩ : ∃ h, (stR f pre).1 = h := ⟨_, rfl⟩
  obtain ⟨bs, hbs⟩ : ∃ bs, (stR f pre).2.1 = bs := ⟨_, rfl⟩
  obtain ⟨⟨g4, cap4, rb4, hc4, hzg4, hgH, hgP⟩, hH4, hP4, hbd, hln, hgd, hbw⟩ := hI
  rw [hh] at hH4 hbd
  rw [hbs] at rb4 hln
  rw [hu] at hub ⊢
  have HU : Hid (f x = u ∧ (stR f pre).1 = h ∧ (stR f pre).2.1 = bs ∧ (stR f pre).2.2 = true) := ⟨hu, hh, hbs, hgd⟩
  clear hu hh hbs hgd
  have cH := hH4.cell
  have cP := hP4.cell
  have fH := hH4.fr
  have fP := hP4.fr
  have hHW := hH4.lt
  have hPW := hP4.lt
  have ha1 := and_1 h hbd
  have HI : Hid (_ ∧ _ ∧ _ ∧ _) := ⟨hP4, hbw, rb4, hH4⟩
  clear hP4 hbw rb4 hH4
  by_cases hq0 : q = 0
  ·subst hq0
   rw [show ((0 : Nat) : Int) = 0 from rfl]
   by_cases hbig : 3 < u
   ·have hst : (stR f (pre ++ [x])).2.2 = false := by rw [stR_snoc, stepR, if_pos hq, HU.out.1]; simp; omega
    gi_wp2
    refine (?_ : KeepsFrom _ W (W.setCell ⟨bP, 0, none⟩ (.bool false)) ∧ Code.exit 0 = .exit 0 ∧ n_Bx bP 4 (.bool false) (W.setCell ⟨bP, 0, none⟩ (.bool false)) ∧ z < (W.setCell ⟨bP, 0, none⟩ (.bool false)).heap.size ∧ Below z w (W.setCell ⟨bP, 0, none⟩ (.bool false)) ∧ (stR f (pre ++ [x])).2.2 = false)
    exact ⟨n_ko_set _ _ _ _, rfl, HI.out.1.put _, by simp [World.setCell]; omega, HI.out.2.1.setCell (p := ⟨bP, 0, none⟩) (by show z ≤ bP; omega) _, hst⟩
   ·have hst : stR f (pre ++ [x]) = (u, bs, true) := by rw [stR_snoc, stepR, if_pos hq, HU.out.1, HU.out.2.2.1, HU.out.2.2.2]; simp; omega
    gi_wp2
    obtain ⟨hP4, hbw, rb4, hH4⟩ := HI.out
    refine (?_ : KeepsFrom _ W (W.setCell ⟨bH, 0, none⟩ (.int .u8 u)) ∧ TxtK bX s W (W.setCell ⟨bH, 0, none⟩ (.int .u8 u)) ∧ RSt f z bH bP w (pre ++ [x]) (W.setCell ⟨bH, 0, none⟩ (.int .u8 u)) ∧ bX < (W.setCell ⟨bH, 0, none⟩ (.int .u8 u)).heap.size)
    refine ⟨n_ko_set _ _ _ _, fun hc => (Below.heap_setCell _ _ _ _ (by show bX ≠ bH; omega)).trans hc, ⟨⟨g4, cap4, ?_, hc4, hzg4, hgH, hgP⟩, ?_, hP4.other (by omega) _ _, ?_, ?_, ?_, hbw.setCell (p := ⟨bH, 0, none⟩) (by show z ≤ bH; omega) _⟩, by simp [World.setCell]; omega⟩
    ·rw [hst]
     exact rb4.keep (Below.heap_setCell _ _ _ _ (by show z ≠ bH; omega)) (Below.heap_setCell _ _ _ _ hgH)
    ·rw [hst]
     exact hH4.put _
    ·rw [hst]
     exact hub
    ·rw [hst, List.length_append]
     exact Nat.le_trans hln (Nat.le_add_right _ _)
    ·rw [hst]
  ·have hq0' : ¬ (q : Int) = 0 := by omega
   have hq0b : ((q : Int) == 0) = false := by simpa using hq0
   by_cases hq1 : q = 1 ∧ h % 2 = 0
   ·obtain ⟨hq1, he⟩ := hq1
    subst hq1
    rw [show ((1 : Nat) : Int) = 1 from rfl]
    rw [he] at ha1
    by_cases hu0 : u = 0
    ·subst hu0
     have hst : stR f (pre ++ [x]) = (h, bs, true) := by rw [stR_snoc, stepR, if_neg (by omega), if_pos ⟨hq, by rw [HU.out.2.1]; exact he⟩, HU.out.1, HU.out.2.1, HU.out.2.2.1, HU.out.2.2.2]; simp
     gi_wp2
     obtain ⟨hP4, hbw, rb4, hH4⟩ := HI.out
     refine (?_ : KeepsFrom _ W W ∧ TxtK bX s W W ∧ RSt f z bH bP w (pre ++ [x]) W ∧ bX < W.heap.size)
     refine ⟨KeepsFrom.refl _ _, fun hc => hc, ⟨⟨g4, cap4, by rw [hst]; exact rb4, hc4, hzg4, hgH, hgP⟩, by rw [hst]; exact hH4, hP4, by rw [hst]; exact hbd, ?_, by rw [hst], hbw⟩, hxW⟩
     rw [hst, List.length_append]
     exact Nat.le_trans hln (Nat.le_add_right _ _)
    ·have hst : (stR f (pre ++ [x])).2.2 = false := by rw [stR_snoc, stepR, if_neg (by omega), if_pos ⟨hq, by rw [HU.out.2.1]; exact he⟩, HU.out.1]; simp [hu0]
     have hu0b : (u == 0) = false := by simpa using hu0
     gi_wp2
     refine (?_ : KeepsFrom _ W (W.setCell ⟨bP, 0, none⟩ (.bool false)) ∧ Code.exit 0 = .exit 0 ∧ n_Bx bP 4 (.bool false) (W.setCell ⟨bP, 0, none⟩ (.bool false)) ∧ z < (W.setCell ⟨bP, 0, none⟩ (.bool false)).heap.size ∧ Below z w (W.setCell ⟨bP, 0, none⟩ (.bool false)) ∧ (stR f (pre ++ [x])).2.2 = false)
     exact ⟨n_ko_set _ _ _ _, rfl, HI.out.1.put _, by simp [World.setCell]; omega, HI.out.2.1.setCell (p := ⟨bP, 0, none⟩) (by show z ≤ bP; omega) _, hst⟩
   ·have hst : stR f (pre ++ [x]) = (h, bs ++ [.int .u8 u], true) := by rw [stR_snoc, stepR, if_neg (by omega), if_neg (by rw [hq, HU.out.2.1]; exact hq1), HU.out.1, HU.out.2.1, HU.out.2.2.1, HU.out.2.2.2]
    by_cases hq2 : q = 1
    ·subst hq2
     rw [show ((1 : Nat) : Int) = 1 from rfl]
     have he : h % 2 = 1 := by omega
     rw [he] at ha1
     gi_wp2_with fail
     obtain ⟨hP4, hbw, rb4, hH4⟩ := HI.out
     refine ⟨trivial, (CallsIn.inRound l (callsIn_wide.2 (write_row z g4 cap4 bs u W rb4 (by omega)))).mono ?_⟩
     rintro e W5 ⟨rfl, g5, cap5, rb5, hg5, hz5, hk5, hb5⟩
     clear hP4 hbw rb4 hH4
     gi_wp2
     obtain ⟨hP4, hbw, rb4, hH4⟩ := HI.out
     refine (?_ : KeepsFrom _ W W5 ∧ TxtK bX s W W5 ∧ RSt f z bH bP w (pre ++ [x]) W5 ∧ bX < W5.heap.size)
     have hzW := rb4.lt
     have hgW := rb4.r.lt
     refine ⟨⟨hz5, fun k o _ hk ho => ?_⟩, fun hc => ?_, ⟨⟨g5, cap5, ?_, ?_, ?_, ?_, ?_⟩, ?_, (hk5 bP hPW (by omega) (by omega)).trans hP4, ?_, ?_, ?_, hbw.trans (hb5 z (Nat.le_refl _) (by omega))⟩, by omega⟩
     ·refine (hk5 k (Array.getElem?_eq_some_iff.1 hk).1 (fun e => ?_) (fun e => ?_)).trans hk
      ·rw [e, rb4.hb] at hk
       cases hk
       cases ho
      ·obtain ⟨cur, hcur, _⟩ := rb4.r.h
       rw [e, hcur] at hk
       cases hk
       cases ho
     ·refine (hk5 bX hxW (by omega) (fun e => ?_)).trans hc
      obtain ⟨cur, hcur, _⟩ := rb4.r.h
      have hc' : W.heap[bX]? = _ := hc
      rw [e, hcur] at hc'
      cases hc'
     ·rw [hst]
      exact rb5
     ·have := rb5.r.nc
      simp at this
      omega
     ·rcases hg5 with e | e <;> omega
     ·rcases hg5 with e | e <;> omega
     ·rcases hg5 with e | e <;> omega
     ·rw [hst]
      exact (hk5 bH hHW (by omega) (by omega)).trans hH4
     ·rw [hst]
      exact hbd
     ·rw [hst]
      simp
      omega
     ·rw [hst]
    ·have hq2' : ¬ (q : Int) = 1 := by omega
     have hq2b : ((q : Int) == 1) = false := by simpa using hq2'
     gi_wp2_with fail
     obtain ⟨hP4, hbw, rb4, hH4⟩ := HI.out
     refine ⟨trivial, (CallsIn.inRound l (callsIn_wide.2 (write_row z g4 cap4 bs u W rb4 (by omega)))).mono ?_⟩
     rintro e W5 ⟨rfl, g5, cap5, rb5, hg5, hz5, hk5, hb5⟩
     clear hP4 hbw rb4 hH4
     gi_wp2
     obtain ⟨hP4, hbw, rb4, hH4⟩ := HI.out
     refine (?_ : KeepsFrom _ W W5 ∧ TxtK bX s W W5 ∧ RSt f z bH bP w (pre ++ [x]) W5 ∧ bX < W5.heap.size)
     have hzW := rb4.lt
     have hgW := rb4.r.lt
     refine ⟨⟨hz5, fun k o _ hk ho => ?_⟩, fun hc => ?_, ⟨⟨g5, cap5, ?_, ?_, ?_, ?_, ?_⟩, ?_, (hk5 bP hPW (by omega) (by omega)).trans hP4, ?_, ?_, ?_, hbw.trans (hb5 z (Nat.le_refl _) (by omega))⟩, by omega⟩
     ·refine (hk5 k (Array.getElem?_eq_some_iff.1 hk).1 (fun e => ?_) (fun e => ?_)).trans hk
      ·rw [e, rb4.hb] at hk
       cases hk
       cases ho
      ·obtain ⟨cur, hcur, _⟩ := rb4.r.h
       rw [e, hcur] at hk
       cases hk
       cases ho
     ·refine (hk5 bX hxW (by omega) (fun e => ?_)).trans hc
      obtain ⟨cur, hcur, _⟩ := rb4.r.h
      have hc' : W.heap[bX]? = _ := hc
      rw [e, hcur] at hc'
      cases hc'
     ·rw [hst]
      exact rb5
     ·have := rb5.r.nc
      simp at this
      omega
     ·rcases hg5 with e | e <;> omega
     ·rcases hg5 with e | e <;> omega
     ·rcases hg5 with e | e <;> omega
     ·rw [hst]
      exact (hk5 bH hHW (by omega) (by omega)).trans hH4
     ·rw [hst]
      exact hbd
     ·rw [hst]
      simp
      omega
     ·rw [hst]
 case done =>
  rintro D ys W hD rfl ⟨hI, hxW⟩ hK
  have hP4 := hI.ok.cell
  obtain ⟨g4, cap4, rb4, hc4, hzg4, hgH, hgP⟩ := hI.rb
  obtain ⟨k, hk⟩ : ∃ k, 2 * s.size = k + 2 := ⟨2 * s.size - 2, by omega⟩
  have hsr := stR_range f (hfb 0).1 k (by omega)
  have hgd := hI.gd
  have hH4 := hI.hi
  have hbw := hI.bw
  rw [hk] at rb4 hgd hH4
  rw [hsr] at rb4 hgd hH4
  obtain ⟨bs, hbs⟩ : ∃ bs, (List.range (k + 2 - rfrom f)).map (fun j => UInt8.ofNat (f (rfrom f + j)).toNat) = bs := ⟨_, rfl⟩
  replace hgd : rgood f = true := hgd
  have hgood : rdGood s = true := by unfold rdGood; rw [HF.out, hgd, decide_eq_true h0]; rfl
  obtain ⟨h, hh⟩ : ∃ h, f 0 = h := ⟨_, rfl⟩
  have hhb := hfb 0
  rw [hh] at hH4 hhb
  have ha2 := and_2 h hhb
  obtain ⟨lf, hlf⟩ : ∃ lf : Bool, decide (h / 2 % 2 = 1) = lf := ⟨_, rfl⟩
  have HO : Hid (rdS s = ⟨bs.toArray⟩ ∧ rdL s = lf ∧ rdE s = 0) := by
   unfold rdS rdL rdE n_by8
   rw [if_pos hgood, if_pos hgood, hgood, HF.out, hk, hbs, hh, hlf]
   exact ⟨rfl, rfl, rfl⟩
  rw [byteCells_map (fun j => f (rfrom f + j)) (fun j => by have := hfb (rfrom f + j); omega), hbs] at rb4
  have hDg : D ≠ g4 := fun e => by
   obtain ⟨cur, hcur, _⟩ := rb4.r.h
   rw [e, hcur] at hK
   cases hK
  have rbD : Rb z g4 cap4 (Lib.byteCells bs) W.drew := rb4.keep rfl rfl
  have KS : Hid (Calls Tryd.prog 43 #[.pointer (some ⟨z, 0, none⟩)] W.drew fun e w' => e = .returned (.string ⟨bs.toArray⟩) ∧ w'.cell? ⟨bH, 0, none⟩ = some (.int .u8 h) ∧ w'.heap[D]? = some (.deferred (some [])) ∧ Below z w w') := by
   refine (string_row z g4 cap4 _ W.drew rbD hc4).mono ?_
   rintro e w' ⟨rfl, hz4, hk4, hb4⟩
   exact ⟨rfl, n_Bx.cell ((hk4 bH (fun e => hgH e.symm)).trans hH4), (hk4 D hDg).trans hK, (hbw.drew).trans (hb4 z (by omega))⟩
  have cH := hH4.cell
  clear hbs hgood hI rb4 rbD hsr hk hgd hH4 hbw hK
  have hlf2 : (h / 2 % 2 * 2 == 0) = !lf := by
   rw [← hlf]
   by_cases e : h / 2 % 2 = 1
   ·rw [e]; rfl
   ·rw [show h / 2 % 2 = 0 by omega]; rfl
  have hlf3 : Hid (Value.bool (!(h / 2 % 2 * 2 == 0)) = .bool lf) := by
   show Value.bool (!(h / 2 % 2 * 2 == 0)) = .bool lf
   rw [hlf2, Bool.not_not]
  clear hlf hlf2
  go_wp2_with fail
  refine region_inv (fun S aa W' => ∃ x51 x52 x53 x54 x2 x3 x4 : Value, aa = { tmps := #[.string s, undef, x2, x3, x4, .pointer (some ⟨z, 0, none⟩), .pointer (some ⟨bH, 0, none⟩), .pointer (some ⟨bP, 0, none⟩), undef, undef, undef, .string s, .int .i64 s.size, .int .i64 (2 * s.size), .tuple #[], .string s, .bool true, .string s, .func (.func 65) #[] #[.pointer (some ⟨bX, 0, none⟩)], undef, undef, undef, undef, undef, undef, undef, undef, undef, undef, undef, undef, undef, undef, undef, undef, undef, undef, undef, undef, undef, undef, undef, undef, undef, undef, undef, undef, undef, undef, .bool true, .bool false, x51, x52, x53, x54], defers := [{ target := .collected D, args := #[] }] } ∧ JRd W w z bH D h bs lf S x51 x52 x53 x54 x2 x3 x4 W') (by kernel_rfl) (by kernel_rfl) ?_ ?_ ?_
  ·exact ⟨undef, undef, undef, undef, _, _, _, rfl, ⟨fun _ => rfl, cH, nofun, nofun, nofun, nofun, nofun, nofun, nofun⟩⟩
  ·intro i o S aa W' hi hun hJ hall K hK
   obtain ⟨x51, x52, x53, x54, x2, x3, x4, rfl, jr⟩ := hJ
   have hlt : i < 7 := (List.getElem?_eq_some_iff.1 hi).1
   have hcase : i = 0 ∨ i = 1 ∨ i = 2 ∨ i = 3 ∨ i = 4 ∨ i = 5 ∨ i = 6 := by omega
   have cW := jr.c
   rcases hcase with rfl | rfl | rfl | rfl | rfl | rfl | rfl
   all_goals (have ho := (Option.some.inj hi).symm; subst ho; clear hi hlt)
   ·obtain rfl := jr.e0 hun
    go_simp
    refine KS.out.mono ?_
    rintro e w4 ⟨rfl, c4, k4, b4⟩
    go_simp
    exact hK _ _ ⟨_, x52, x53, x54, x2, x3, x4, rfl, ⟨nofun, c4, fun _ => ⟨rfl, k4, b4⟩, jr.f1, jr.f2, jr.f3, jr.f4, jr.f5, jr.f6⟩⟩
   ·go_simp
    exact hK _ _ ⟨x51, _, x53, x54, x2, x3, x4, rfl, ⟨jr.e0, jr.c, jr.f0, fun _ => rfl, jr.f2, jr.f3, jr.f4, jr.f5, jr.f6⟩⟩
   ·have s_1 : S 1 = true := hall ⟨1, .data⟩ (by simp) rfl
    obtain rfl := jr.f1 s_1
    go_simp
    exact hK _ _ ⟨x51, _, _, x54, x2, x3, x4, rfl, ⟨jr.e0, jr.c, jr.f0, jr.f1, fun _ => rfl, jr.f3, jr.f4, jr.f5, jr.f6⟩⟩
   ·have s_2 : S 2 = true := hall ⟨2, .data⟩ (by simp) rfl
    obtain rfl := jr.f2 s_2
    go_simp
    exact hK _ _ ⟨x51, x52, _, _, x2, x3, x4, rfl, ⟨jr.e0, jr.c, jr.f0, jr.f1, jr.f2, fun _ => hlf3.out, jr.f4, jr.f5, jr.f6⟩⟩
   ·have s_0 : S 0 = true := hall ⟨0, .data⟩ (by simp) rfl
    obtain ⟨rfl, _, _⟩ := jr.f0 s_0
    go_simp
    exact hK _ _ ⟨_, x52, x53, x54, _, x3, x4, rfl, ⟨jr.e0, jr.c, jr.f0, jr.f1, jr.f2, jr.f3, fun _ => rfl, jr.f5, jr.f6⟩⟩
   ·have s_3 : S 3 = true := hall ⟨3, .data⟩ (by simp) rfl
    obtain rfl := jr.f3 s_3
    go_simp
    exact hK _ _ ⟨x51, x52, x53, _, x2, _, x4, rfl, ⟨jr.e0, jr.c, jr.f0, jr.f1, jr.f2, jr.f3, jr.f4, fun _ => rfl, jr.f6⟩⟩
   ·go_simp
    exact hK _ _ ⟨x51, x52, x53, x54, x2, x3, _, rfl, ⟨jr.e0, jr.c, jr.f0, jr.f1, jr.f2, jr.f3, jr.f4, jr.f5, fun _ => rfl⟩⟩
  ·rintro S aa w4 hall ⟨x51, x52, x53, x54, x2, x3, x4, rfl, jr⟩
   obtain ⟨rfl, hK4, BW4⟩ := jr.f0 (hall 0 (by decide))
   obtain rfl := jr.f1 (hall 1 (by decide))
   obtain rfl := jr.f2 (hall 2 (by decide))
   obtain rfl := jr.f3 (hall 3 (by decide))
   obtain rfl := jr.f4 (hall 4 (by decide))
   obtain rfl := jr.f5 (hall 5 (by decide))
   obtain rfl := jr.f6 (hall 6 (by decide))
   clear jr hall
   go_wp2
   have hbP := belowK_b (n₀ := z) (w := w3) (by omega) w4 D _ (.deferred none) hD hK4 rfl rfl
   rw [Exit.noGoto_ret]
   refine ⟨by simp, .inl ⟨_, _, rfl, run_takeDeferred hK4, ?_⟩⟩
   refine ⟨.tuple #[.string ⟨bs.toArray⟩, .bool lf, .int .i64 0], by simp [results, Tryd.results102, go_sem], by rw [HO.out.1, HO.out.2.1, HO.out.2.2], ?_⟩
   rw [HZ.out]
   exact BW4.trans hbP
 case stop =>
  rintro D c pre W hD ⟨k, hk, rfl⟩ ⟨rfl, hPf, hzW, BWf, hbad⟩ hK
  have hP4 := hPf.cell
  have HO : Hid (rdS s = ⟨#[]⟩ ∧ rdL s = false ∧ rdE s = 50) := by
   have hb : rdGood s = false := by
    unfold rdGood
    rw [HF.out, stR_bad f (hfb 0).1 k (by omega) hbad, Bool.and_false]
   unfold rdS rdL rdE
   rw [hb]
   exact ⟨rfl, rfl, rfl⟩
  clear hPf
  gi_wp2
  go_wp2
  have hbP := belowK_b (n₀ := z) (w := w3) (by omega) W D _ (.deferred none) hD hK rfl rfl
  rw [Exit.noGoto_ret]
  refine ⟨by simp, .inl ⟨_, _, rfl, run_takeDeferred hK, ?_⟩⟩
  refine ⟨.tuple #[.string ⟨#[]⟩, .bool false, .int .i64 50], by simp [results, Tryd.results102, go_sem], by rw [HO.out.1, HO.out.2.1, HO.out.2.2], ?_⟩
  rw [HZ.out]
  exact BWf.trans hbP
end Go.Proofs.YtbmapdkcccdmfaaDoor
