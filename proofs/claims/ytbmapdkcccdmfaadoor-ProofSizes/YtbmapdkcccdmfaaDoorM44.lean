/- Lemmas: The law's some: the first pairs. turned, Same. TrieOrder's walk. A list of 17, half by half. What the reference filters and measures, on sorted entries. -/
import Derived.Test.YtbmapdkcccdmfaaDoorM1
import Derived.Test.YtbmapdkcccdmfaaDoorM10
import Derived.Test.YtbmapdkcccdmfaaDoorM11
import Derived.Test.YtbmapdkcccdmfaaDoorM12
import Derived.Test.YtbmapdkcccdmfaaDoorM13
import Derived.Test.YtbmapdkcccdmfaaDoorM14
import Derived.Test.YtbmapdkcccdmfaaDoorM15
import Derived.Test.YtbmapdkcccdmfaaDoorM16
import Derived.Test.YtbmapdkcccdmfaaDoorM17
import Derived.Test.YtbmapdkcccdmfaaDoorM18
import Derived.Test.YtbmapdkcccdmfaaDoorM19
import Derived.Test.YtbmapdkcccdmfaaDoorM2
import Derived.Test.YtbmapdkcccdmfaaDoorM20
import Derived.Test.YtbmapdkcccdmfaaDoorM21
import Derived.Test.YtbmapdkcccdmfaaDoorM22
import Derived.Test.YtbmapdkcccdmfaaDoorM23
import Derived.Test.YtbmapdkcccdmfaaDoorM24
import Derived.Test.YtbmapdkcccdmfaaDoorM25
import Derived.Test.YtbmapdkcccdmfaaDoorM26
import Derived.Test.YtbmapdkcccdmfaaDoorM3
import Derived.Test.YtbmapdkcccdmfaaDoorM32
import Derived.Test.YtbmapdkcccdmfaaDoorM33
import Derived.Test.YtbmapdkcccdmfaaDoorM34
import Derived.Test.YtbmapdkcccdmfaaDoorM35
import Derived.Test.YtbmapdkcccdmfaaDoorM36
import Derived.Test.YtbmapdkcccdmfaaDoorM37
import Derived.Test.YtbmapdkcccdmfaaDoorM38
import Derived.Test.YtbmapdkcccdmfaaDoorM39
import Derived.Test.YtbmapdkcccdmfaaDoorM4
import Derived.Test.YtbmapdkcccdmfaaDoorM40
import Derived.Test.YtbmapdkcccdmfaaDoorM41
import Derived.Test.YtbmapdkcccdmfaaDoorM42
import Derived.Test.YtbmapdkcccdmfaaDoorM43
import Derived.Test.YtbmapdkcccdmfaaDoorM5
import Derived.Test.YtbmapdkcccdmfaaDoorM6
import Derived.Test.YtbmapdkcccdmfaaDoorM7
import Derived.Test.YtbmapdkcccdmfaaDoorM8
import Derived.Test.YtbmapdkcccdmfaaDoorM9
import Derived.Test.YtbmapdkcccdmfaaDoorRows
import Derived.Deep.SlicePairs
namespace Go.Proofs.YtbmapdkcccdmfaaDoor
open Go.RowKit Go.Shelf Go.Sort

def SlR (es : List Pr) (e : Ending) (w' : World) : Prop := ∃ a c, e = .returned (.slice a es.length c) ∧ slP w'.heap.size w' a es
theorem owns_below2 {w w' : World} {b : Nat} {e : TypeId} {size : Nat} {v : Value} {n : Nat} {xs : List Value} (h : w.ownsRow b e size v n xs) (hb : Below w.heap.size w w') : w'.ownsRow b e size v n xs :=
 h.kept (row := none) ⟨hb.os, hb.tape, hb.output, hb.size, fun k hk _ => hb.block k hk⟩ (by cases v.ownBlock <;> simp)

structure SmK (V : World) (b o r N c k : Nat) (fk fv fw : ByteArray) (u3 : Value) (S : Nat → Bool) (x15 x16 x17 x18 x19 x20 x21 x22 x23 x24 x25 x26 x27 x28 x29 x30 x31 x32 x33 x34 x35 : Value) (W : World) : Prop where
 e : Below V.heap.size V W
 f0 : S 0 = true → x15 = u3
 f1 : S 1 = true → x16 = Value.slice (some ⟨b, o, none⟩) N c
 f2 : S 2 = true → x17 = Value.int .i64 (k : Int)
 f3 : S 3 = true → x18 = Value.pointer (some ⟨b, r, none⟩)
 f4 : S 4 = true → x19 = Value.pointer (some ⟨b, r, none⟩)
 f5 : S 5 = true → x20 = Value.string fk
 f6 : S 6 = true → x21 = Value.slice (some ⟨b, o, none⟩) N c
 f7 : S 7 = true → x22 = Value.int .i64 (k : Int)
 f8 : S 8 = true → x23 = Value.pointer (some ⟨b, r, none⟩)
 f9 : S 9 = true → x24 = Value.pointer (some ⟨b, r + 1, none⟩)
 f10 : S 10 = true → x25 = Value.string fv
 f11 : S 11 = true → x26 = Value.slice (some ⟨b, o, none⟩) N c
 f12 : S 12 = true → x27 = Value.int .i64 (k : Int)
 f13 : S 13 = true → x28 = Value.pointer (some ⟨b, r, none⟩)
 f14 : S 14 = true → x29 = Value.pointer (some ⟨b, r + 1, none⟩)
 f15 : S 15 = true → x30 = Value.string fv
 f16 : S 16 = true → x31 = Value.int .i64 (fv.size : Int)
 f17 : S 17 = true → x32 = Value.int .i64 (min (fv.size : Int) 100)
 f18 : S 18 = true → x33 = Value.string fw
 f19 : S 19 = true → x34 = Value.agg #[.string fk, .string fw]
 f20 : S 20 = true → ∃ g, x35 = .slice (some ⟨g, 0, none⟩) 1 1 ∧ V.heap.size ≤ g ∧ g < W.heap.size ∧ W.heap[g]? = some (.cells #[.string fk, .string fw] 57 (0, 0))
theorem SmK.grow {V : World} {b o r N c k : Nat} {fk fv fw : ByteArray} {u3 : Value} {S : Nat → Bool} {x15 x16 x17 x18 x19 x20 x21 x22 x23 x24 x25 x26 x27 x28 x29 x30 x31 x32 x33 x34 x35 : Value} {W W' : World} (h : SmK V b o r N c k fk fv fw u3 S x15 x16 x17 x18 x19 x20 x21 x22 x23 x24 x25 x26 x27 x28 x29 x30 x31 x32 x33 x34 x35 W) (hb : Below W.heap.size W W') : SmK V b o r N c k fk fv fw u3 S x15 x16 x17 x18 x19 x20 x21 x22 x23 x24 x25 x26 x27 x28 x29 x30 x31 x32 x33 x34 x35 W' :=
 ⟨belowStep h.e h.e.size hb, h.f0, h.f1, h.f2, h.f3, h.f4, h.f5, h.f6, h.f7, h.f8, h.f9, h.f10, h.f11, h.f12, h.f13, h.f14, h.f15, h.f16, h.f17, h.f18, h.f19, fun s => (h.f20 s).imp fun _ ⟨j1, j0, j2, j3⟩ => ⟨j1, j0, Nat.lt_of_lt_of_le j2 hb.size, (hb.block _ j2).trans j3⟩⟩

end Go.Proofs.YtbmapdkcccdmfaaDoor
namespace Go.Proofs.YtbmapdkcccdmfaaDoor
open Go.RowKit Go.Shelf Go.Sort

def slS (n : Nat) (W : World) (a : Option Addr) (xs : List ByteArray) : Prop := xs = [] ∨ ∃ b o, a = some ⟨b, o, none⟩ ∧ b < n ∧ ∀ j x, xs[j]? = some x → W.cell? ⟨b, o + j, none⟩ = some (.string x)
theorem slS_below {n : Nat} {W W' : World} (hb : Below n W W') {a : Option Addr} {xs : List ByteArray} (hp : slS n W a xs) : slS n W' a xs := by
 rcases hp with h | ⟨b, o, h1, h2, h3⟩
 ·exact .inl h
 ·exact .inr ⟨b, o, h1, h2, fun j x hx => (hb.cell (p := ⟨b, _, none⟩) h2).trans (h3 j x hx)⟩
theorem slS_at {n : Nat} {W : World} {a : Option Addr} {xs : List ByteArray} (hp : slS n W a xs) (j : Nat) (x : ByteArray) (hx : xs[j]? = some x) : ∃ b o, a = some ⟨b, o, none⟩ ∧ b < n ∧ W.cell? ⟨b, o + j, none⟩ = some (.string x) := by
 rcases hp with h | ⟨b, o, h1, h2, h3⟩
 ·subst h
  cases hx
 ·exact ⟨b, o, h1, h2, h3 j x hx⟩
theorem slS_owns {z : Nat} {v : Value} {xs : List ByteArray} {W : World} (h : W.ownsRow z 9 1 v xs.length (xs.map .string)) : ∃ a c, v = .slice a xs.length c ∧ slS W.heap.size W a xs := by
 rcases h.2 with ⟨h1, h2⟩ | ⟨g, c, cur, h1, h2, h3, h4, h5, h6, h7⟩
 ·exact ⟨none, 0, by rw [h1, h2], .inl (List.length_eq_zero_iff.1 h2)⟩
 ·refine ⟨_, c, h1, .inr ⟨g, 0, rfl, (Array.getElem?_eq_some_iff.1 h3).1, fun j x hx => ?_⟩⟩
  have hj : j < xs.length := (List.getElem?_eq_some_iff.1 hx).1
  subst h1
  rw [h.cellAt (0 + j) (by omega), Nat.zero_add, List.getElem?_map, hx]
  rfl
set_option maxRecDepth 20000 in
set_option maxHeartbeats 1000000 in
theorem same6_any (xs ys : List ByteArray) (hx : xs.length < 1000000) (hy : ys.length < 1000000) (a a' : Option Addr) (c c' n : Nat) (w : World) (hn : n ≤ w.heap.size) (h1 : slS n w a xs) (h2 : slS n w a' ys) :
  Calls Tryd.prog 17 #[.slice a xs.length c, .slice a' ys.length c'] w fun e w' => e = .returned (.bool (decide (xs = ys))) ∧ Below w.heap.size w w' := by
 obtain ⟨N, hN⟩ : ∃ N, xs.length = N := ⟨_, rfl⟩
 obtain ⟨M, hM⟩ : ∃ M, ys.length = M := ⟨_, rfl⟩
 have HN : Hid (xs.length = N ∧ ys.length = M) := ⟨hN, hM⟩
 rw [hN] at hx ⊢
 rw [hM] at hy ⊢
 clear hN hM
 by_cases hne : N = M
 ·subst hne
  obtain ⟨q, hq⟩ : ∃ q, decide (xs = ys) = q := ⟨_, rfl⟩
  have HQ : Hid _ := hq
  rw [hq]
  clear hq
  obtain ⟨z, hz⟩ : ∃ z, w.heap.size = z := ⟨_, rfl⟩
  rw [hz] at hn ⊢
  have B0 : Below z w w := by rw [← hz]; exact Below.refl _ _
  have HZ : Hid _ := hz
  clear hz
  go_enter Tryd.func17, Tryd.ntmps17
  go_wp2_with fail
  go_loopg [5] N (fun gk i wr => ∃ k : Nat, k + gk = N ∧ i = .int .i64 k ∧ Hid (∀ j, j < k → xs[j]? = ys[j]?) ∧ Below z w wr)
  case atStart => exact ⟨0, by omega, rfl, (fun j h => by omega), B0⟩
  case round =>
   obtain ⟨k, hk, rfl, hA, BW⟩ := hrel
   have hwz : z ≤ wr.heap.size := by have := BW.size; have := HZ.out; omega
   by_cases hlt : k < N
   ·have l1 : (k : Int) < N := by omega
    obtain ⟨f, hf⟩ : ∃ f, xs[k]? = some f := ⟨xs[k]'(by have := HN.out; omega), List.getElem?_eq_getElem (by have := HN.out; omega)⟩
    obtain ⟨g, hg⟩ : ∃ f, ys[k]? = some f := ⟨ys[k]'(by have := HN.out; omega), List.getElem?_eq_getElem (by have := HN.out; omega)⟩
    obtain ⟨b, o, rfl, hb, c0⟩ := slS_at h1 k f hf
    obtain ⟨b', o', rfl, hb', c1⟩ := slS_at h2 k g hg
    have hbv : b < wr.heap.size := by omega
    have hbv' : b' < wr.heap.size := by omega
    replace c0 := (BW.cell (p := ⟨b, _, none⟩) (by show b < z; omega)).trans c0
    replace c1 := (BW.cell (p := ⟨b', _, none⟩) (by show b' < z; omega)).trans c1
    obtain ⟨r, hr⟩ : ∃ p, o + k = p := ⟨_, rfl⟩
    obtain ⟨r', hr'⟩ : ∃ p, o' + k = p := ⟨_, rfl⟩
    rw [hr] at c0
    rw [hr'] at c1
    have q0 : ∀ d os, (grow (redrawn wr d) os).cell? ⟨b, r, none⟩ = some (.string f) := fun d os => ((below_regrown wr d os).cell (p := ⟨b, r, none⟩) hbv).trans c0
    have q1 : ∀ d os, (grow (redrawn wr d) os).cell? ⟨b', r', none⟩ = some (.string g) := fun d os => ((below_regrown wr d os).cell (p := ⟨b', r', none⟩) hbv').trans c1
    have wk : IntKind.i64.wrap ((k : Int) + 1) = ((k + 1 : Nat) : Int) := by rw [IntKind.wrap_i64]; omega
    clear c0 c1
    by_cases hsame : f = g
    ·have hs : (f.toList == g.toList) = true := by rw [hsame]; exact beq_self_eq_true _
     have HG : Hid (xs[k]? = ys[k]?) := (show xs[k]? = ys[k]? by rw [hf, hg, hsame])
     clear hsame hg hf
     go_wp2_with fail
     refine wp_region_quiet_below (by kernel_rfl) (by kernel_rfl) ?_
     repeat (quiet_step (fail))
     refine wpQuiet_nil ?_
     intro w8 hw8
     have B8 : Below wr.heap.size wr w8 := by
      obtain ⟨p, rfl⟩ := hw8
      exact below_regrown _ _ _
     have BW8 := belowStep BW hwz B8
     clear hw8 q0 q1
     go_wp2
     go_roundg (gk - 1)
     case measure => omega
     case rel =>
      refine ⟨k + 1, by omega, by first | rfl | (congr 1; omega), ?_, BW8⟩
      intro j hj
      by_cases e : j = k
      ·subst e
       exact HG.out
      ·exact hA.out j (by omega)
    ·have hs : (f.toList == g.toList) = false := by rw [beq_eq_false_iff_ne]; exact fun e => hsame (toList_inj e)
     have hqf : q = false := by
      rw [← HQ.out]
      refine decide_eq_false fun e => hsame ?_
      rw [e, hg] at hf
      exact (Option.some.inj hf).symm
     have HG : Hid (q = false) := hqf
     clear hqf
     clear hsame hg hf
     go_wp2_with fail
     refine wp_region_quiet_below (by kernel_rfl) (by kernel_rfl) ?_
     repeat (quiet_step (fail))
     refine wpQuiet_nil ?_
     intro w8 hw8
     have B8 : Below wr.heap.size wr w8 := by
      obtain ⟨p, rfl⟩ := hw8
      exact below_regrown _ _ _
     have BW8 := belowStep BW hwz B8
     clear hw8 q0 q1
     go_wp2
     go_ret
     exact ⟨by rw [HG.out]; rfl, BW8⟩
   ·have l1 : ¬ (k : Int) < N := by omega
    have hqf : q = true := by
     rw [← HQ.out]
     refine decide_eq_true (List.ext_getElem? fun j => ?_)
     by_cases hj : j < k
     ·exact hA.out j hj
     ·have := HN.out
      rw [List.getElem?_eq_none (by omega), List.getElem?_eq_none (by omega)]
    have HG : Hid (q = true) := hqf
    clear hqf
    go_wp2
    go_ret
    exact ⟨by rw [HG.out]; rfl, BW⟩
 ·have hd : decide (xs = ys) = false := by
   refine decide_eq_false fun e => hne ?_
   have := congrArg List.length e
   have := HN.out
   omega
  rw [hd]
  have hb : ((N : Int) == M) = false := by rw [beq_eq_false_iff_ne]; omega
  go_enter Tryd.func17, Tryd.ntmps17
  go_wp2
  go_ret
  exact ⟨rfl, Below.refl _ _⟩
end Go.Proofs.YtbmapdkcccdmfaaDoor
namespace Go.Proofs.YtbmapdkcccdmfaaDoor
open Go.RowKit Go.Shelf Go.Sort

mutual
theorem wyN_len (path : ByteArray) : ∀ n : Nd, (wyN path n).length ≤ cN n
 | .mk x ss => by
  have h := wyS_len path ss
  show (ownT x ++ wyS path ss).length ≤ cS ss + 1
  rw [List.length_append]
  have : (ownT x).length ≤ 1 := by unfold ownT; split <;> simp
  omega
theorem wyS_len (path : ByteArray) : ∀ ss : Sts, (wyS path ss).length ≤ cS ss
 | .nil => Nat.le_refl _
 | .cons p n r => by
  have h1 := wyN_len (rst path p) n
  have h2 := wyS_len path r
  show (if pfx p path = true then wyN (rst path p) n else wyS path r).length ≤ cN n + cS r
  split <;> omega
end
theorem way_len (path : ByteArray) (es : List Pr) (h : es.length ≤ 200) : (wyL (wayL path) es).length < 100000 := by
 unfold wyL
 split
 ·simp
 ·have h1 := cN_top es h
  obtain ⟨x, hx⟩ : ∃ x, topN es = x := ⟨_, rfl⟩
  rw [hx] at h1 ⊢
  obtain ⟨x, ss⟩ := x
  have h2 := wyS_len path ss
  show (eS x :: wyS path ss).length < 100000
  have h3 : cN (.mk x ss) = cS ss + 1 := rfl
  rw [List.length_cons]
  omega
theorem TdP.of {n : Nat} {G : Nd → List ByteArray} {es es0 : List Pr} {e : Ending} {w' : World} (h : TdP n G es e w') (hr : RightP es) (hp : es0.Perm es) (hs : SortedP es0) : ∃ v, e = .returned (.tuple #[v, .int .i64 0]) ∧ w'.ownsRow n 9 1 v (wyL G es0).length ((wyL G es0).map .string) := by
 rcases h with ⟨h, _⟩ | ⟨_, es', v, h1, h2, h3, h4⟩
 ·exact absurd hr h
 ·rw [sorted_one hr h1 hp h2 hs] at h4
  exact ⟨v, h3, h4⟩
theorem RtP.of {es es0 : List Pr} {e : Ending} (h : RtP es e) (hr : RightP es) (hp : es0.Perm es) (hs : SortedP es0) : e = .returned (.tuple #[.string (sumOf (topB es0)), .int .i64 0]) := by
 rcases h with ⟨h, _⟩ | ⟨_, es', h1, h2, h3⟩
 ·exact absurd hr h
 ·rw [sorted_one hr h1 hp h2 hs] at h3
  exact h3

def srt (es : List Pr) : List Pr := es.mergeSort fun x y => !ltStr y.1.data.toList x.1.data.toList
theorem srt_perm (es : List Pr) : (srt es).Perm es := List.mergeSort_perm _ _
theorem srt_sorted (es : List Pr) : SortedP (srt es) := by
 have h : (srt es).Pairwise fun x y => (!ltStr y.1.data.toList x.1.data.toList) = true := by
  refine List.pairwise_mergeSort (fun x y z h1 h2 => ?_) (fun x y => ?_) es
  ·simp only [ltStr, Bool.not_eq_true', decide_eq_false_iff_not] at h1 h2 ⊢
   exact List.le_trans (α := UInt8) h1 h2
  ·simp only [ltStr, Bool.or_eq_true, Bool.not_eq_true', decide_eq_false_iff_not]
   exact List.le_total _ _
 intro i j x y hij hx hy
 rw [List.pairwise_iff_getElem] at h
 obtain ⟨hi, rfl⟩ := List.getElem?_eq_some_iff.1 hx
 obtain ⟨hj, rfl⟩ := List.getElem?_eq_some_iff.1 hy
 have := h i j hi hj hij
 simpa using this
def rtS (b : Bool) (es : List Pr) : ByteArray := if b = true then sumOf (topB (srt es)) else ⟨#[]⟩
def erS (b : Bool) : Int := if b = true then 0 else 60
def tdS (b : Bool) (G : Nd → List ByteArray) (es : List Pr) : List ByteArray := if b = true then wyL G (srt es) else []
theorem tdW_len {b : Bool} (path : ByteArray) (es : List Pr) (hb0 : b = true ↔ RightP es) : (tdS b (wayL path) es).length < 100000 := by
 unfold tdS
 split
 ·rename_i h
  exact way_len path _ (by rw [(srt_perm es).length_eq]; exact (hb0.1 h).1)
 ·simp
theorem slS_up {n m : Nat} {W : World} {a : Option Addr} {xs : List ByteArray} (h : slS n W a xs) (hm : n ≤ m) : slS m W a xs := by
 rcases h with h | ⟨b, o, h1, h2, h3⟩
 ·exact .inl h
 ·exact .inr ⟨b, o, h1, Nat.lt_of_lt_of_le h2 hm, h3⟩

end Go.Proofs.YtbmapdkcccdmfaaDoor
namespace Go.Proofs.YtbmapdkcccdmfaaDoor
open Go.RowKit Go.Shelf Go.Sort

def goes (d : Nat) (h : Int) (e : Pr) : Bool := decide (d < e.1.size) && decide (bt e.1 d = h)
def hvI (nd : List Pr → Nd) (d : Nat) (es : List Pr) (h : Nat) : It := if (es.filter (goes d (h : Int))).length = 0 then zIt else refI (nd (es.filter (goes d (h : Int)))).x

theorem rn_stop (d : Nat) (x : Int) : ∀ (es : List Pr) (e : Pr), es[rn d x es]? = some e → bt e.1 d ≠ x
 | [], e, h => by cases h
 | a :: r, e, h => by
  by_cases hx : bt a.1 d = x
  ·rw [show rn d x (a :: r) = rn d x r + 1 by simp [rn, hx]] at h
   exact rn_stop d x r e (by simpa using h)
  ·rw [show rn d x (a :: r) = 0 by simp [rn, hx]] at h
   simp at h
   rw [← h]
   exact hx
theorem Ok.mono {d : Nat} {rs : List Pr} (h : Ok d rs) (hl : ∀ (j : Nat) (e : Pr), rs[j]? = some e → d < e.1.size) {i j : Nat} {e f : Pr} (hij : i < j) (he : rs[i]? = some e) (hf : rs[j]? = some f) : bt e.1 d ≤ bt f.1 d := by
 obtain ⟨t, h1, h2, h3, h4⟩ := h.srt i j e f hij he hf
 have le := hl i e he
 by_cases ht : t < d
 ·rcases h4 with h4 | h4
  ·omega
  ·have := h.alk i j e f t he hf ht
   omega
 ·by_cases htd : t = d
  ·subst htd
   rcases h4 with h4 | h4
   ·omega
   ·omega
  ·have := h3 d (by omega)
   omega
theorem run_filter {d : Nat} {rs : List Pr} (h : Ok d rs) (hl : ∀ (j : Nat) (e : Pr), rs[j]? = some e → d < e.1.size) (k : Nat) (hk : k < rs.length) :
  (rs.drop k).filter (goes d (hfA d rs k)) = (rs.drop k).take (rn d (hfA d rs k) (rs.drop k)) ∧ (∀ e ∈ rs.drop (k + rn d (hfA d rs k) (rs.drop k)), hfA d rs k < bt e.1 d) := by
 obtain ⟨m, hm⟩ : ∃ m, rn d (hfA d rs k) (rs.drop k) = m := ⟨_, rfl⟩
 obtain ⟨x, hx⟩ : ∃ x, hfA d rs k = x := ⟨_, rfl⟩
 have hle := rn_le d x (rs.drop k)
 have hpos := rn_pos (d := d) hk
 rw [hx] at hm hpos
 rw [hm] at hle hpos
 rw [hx, hm]
 have behind : ∀ e ∈ rs.drop (k + m), x < bt e.1 d := by
  intro e he
  obtain ⟨j, hj⟩ := List.getElem?_of_mem he
  rw [List.getElem?_drop] at hj
  have hlt : k + m + j < rs.length := (List.getElem?_eq_some_iff.1 hj).1
  have hs : rs[k + m]? = some (rs[k + m]'(by omega)) := List.getElem?_eq_getElem (by omega)
  have hne : bt (rs[k + m]'(by omega)).1 d ≠ x := by
   refine rn_stop d x (rs.drop k) _ ?_
   rw [hm, List.getElem?_drop]
   exact hs
  have hk0 : rs[k]? = some rs[k] := List.getElem?_eq_getElem hk
  have hxk : bt rs[k].1 d = x := by rw [← hx, hfA_at hk0]
  have h1 := h.mono hl (i := k) (j := k + m) (by omega) hk0 hs
  by_cases hj0 : j = 0
  ·subst hj0
   rw [Nat.add_zero, hs] at hj
   cases hj
   omega
  ·have h2 := h.mono hl (i := k + m) (j := k + m + j) (by omega) hs hj
   omega
 refine ⟨?_, behind⟩
 have e1 : rs.drop k = (rs.drop k).take m ++ rs.drop (k + m) := by rw [← List.drop_drop, List.take_append_drop]
 rw [e1, List.filter_append, List.take_append_of_le_length (by rw [List.length_take]; omega)]
 have f2 : (rs.drop (k + m)).filter (goes d x) = [] := by
  rw [List.filter_eq_nil_iff]
  intro e he hg
  have h1 := behind e he
  unfold goes at hg
  simp only [Bool.and_eq_true, decide_eq_true_eq] at hg
  omega
 have f1 : ((rs.drop k).take m).filter (goes d x) = (rs.drop k).take m := by
  rw [List.filter_eq_self]
  intro e he
  obtain ⟨j, hj⟩ := List.getElem?_of_mem he
  obtain ⟨hjm, hj2⟩ := part_get hj
  unfold goes
  have h1 := rn_all d x (rs.drop k) j e (by omega) (by rw [List.getElem?_drop]; exact hj2)
  rw [decide_eq_true (hl _ e hj2), decide_eq_true h1]
  rfl
 rw [f1, f2, List.append_nil, List.take_take, Nat.min_self]
theorem fold_half (nd : List Pr → Nd) {d : Nat} {rs : List Pr} (h : Ok d rs) (hl : ∀ (j : Nat) (e : Pr), rs[j]? = some e → d < e.1.size) :
  ∀ (f k : Nat) (l : List It) (j : Nat), rs.length ≤ f + k → j < l.length →
   (((pgF d rs f k).map (kdE nd d rs)).foldl (fun l k => l.set k.1.toNat (refI k.2.x)) l)[j]? = some (if ((rs.drop k).filter (goes d (j : Int))).length = 0 then l.getD j zIt else refI (nd ((rs.drop k).filter (goes d (j : Int)))).x)
 | 0, k, l, j, hf, hj => by
  rw [List.drop_of_length_le (by omega)]
  simp only [pgF, List.map_nil, List.foldl_nil, List.filter_nil, List.length_nil, if_pos]
  rw [List.getD_eq_getElem?_getD, List.getElem?_eq_getElem hj]
  rfl
 | f + 1, k, l, j, hf, hj => by
  by_cases hk : k < rs.length
  ·obtain ⟨r1, r2⟩ := run_filter h hl k hk
   have hk0 : rs[k]? = some rs[k] := List.getElem?_eq_getElem hk
   have hpos := rn_pos (d := d) hk
   obtain ⟨x, hx⟩ : ∃ x, hfA d rs k = x := ⟨_, rfl⟩
   have hx0 : 0 ≤ x ∧ x < 16 := by rw [← hx, hfA_at hk0]; exact h.hlf k _ d hk0
   simp only [pgF, if_pos hk, List.map_cons, List.foldl_cons]
   rw [hx] at r1 r2 hpos ⊢
   obtain ⟨m, hm⟩ : ∃ m, rn d x (rs.drop k) = m := ⟨_, rfl⟩
   rw [hm] at r1 r2 hpos ⊢
   rw [fold_half nd h hl f (k + m) _ j (by omega) (by rw [List.length_set]; exact hj)]
   have e1 : rs.drop k = (rs.drop k).take m ++ rs.drop (k + m) := by rw [← List.drop_drop, List.take_append_drop]
   by_cases hjx : (j : Int) = x
   ·have n1 : (rs.drop (k + m)).filter (goes d (j : Int)) = [] := by
     rw [List.filter_eq_nil_iff]
     intro e he hg
     have h1 := r2 e he
     unfold goes at hg
     simp only [Bool.and_eq_true, decide_eq_true_eq] at hg
     omega
    rw [n1, if_pos List.length_nil]
    rw [show (goes d (j : Int)) = goes d x by rw [hjx], r1]
    have hne : ¬ ((rs.drop k).take m).length = 0 := by rw [List.length_take, List.length_drop]; omega
    rw [if_neg hne]
    have hjt : (kdE nd d rs (k, m)).1.toNat = j := by
     show (hfA d rs k).toNat = j
     rw [hx]
     omega
    rw [hjt, List.getD_eq_getElem?_getD, List.getElem?_set_self (by omega)]
    rfl
   ·have e2 : (rs.drop k).filter (goes d (j : Int)) = (rs.drop (k + m)).filter (goes d (j : Int)) := by
     have f1 : ((rs.drop k).take m).filter (goes d (j : Int)) = [] := by
      rw [List.filter_eq_nil_iff]
      intro e he hg
      rw [← r1] at he
      have h1 := (List.mem_filter.1 he).2
      unfold goes at hg h1
      simp only [Bool.and_eq_true, decide_eq_true_eq] at hg h1
      omega
     conv => lhs; rw [e1, List.filter_append, f1, List.nil_append]
    rw [e2]
    have hjt : (kdE nd d rs (k, m)).1.toNat ≠ j := by
     show (hfA d rs k).toNat ≠ j
     rw [hx]
     omega
    have hg : (l.set (kdE nd d rs (k, m)).1.toNat (refI (kdE nd d rs (k, m)).2.x)).getD j zIt = l.getD j zIt := by
     rw [List.getD_eq_getElem?_getD, List.getD_eq_getElem?_getD, List.getElem?_set_ne hjt]
    rw [hg]
  ·simp only [pgF, if_neg hk, List.map_nil, List.foldl_nil]
   rw [List.drop_of_length_le (by omega), List.filter_nil, if_pos List.length_nil, List.getD_eq_getElem?_getD, List.getElem?_eq_getElem hj]
   rfl
theorem goes_rest {d : Nat} {es : List Pr} (x : Int) : (rsE d es).filter (goes d x) = es.filter (goes d x) := by
 unfold rsE
 match es with
 | [] => rfl
 | e :: r =>
  dsimp only
  split
  ·rename_i h
   rw [List.filter_cons, if_neg]
   unfold goes
   rw [decide_eq_false (by omega)]
   simp
  ·rfl
theorem fork_halves (nd : List Pr → Nd) {d : Nat} {es : List Pr} (h : Ok d es) (h2 : 2 ≤ es.length) : (fkN nd d es).x = .mk true ⟨#[]⟩ ((List.range 16).map (hvI nd d es) ++ [.mk false (vlE d es) []]) := by
 obtain ⟨k1, k2, _, _⟩ := h.rest h2
 show It.mk true ⟨#[]⟩ (fkI (vlE d es) ((pg d (rsE d es) 0).map (kdE nd d (rsE d es)))) = _
 congr 1
 refine List.ext_getElem? fun j => ?_
 have hlen := fkI_len (vlE d es) ((pg d (rsE d es) 0).map (kdE nd d (rsE d es)))
 by_cases hj : j < 17
 ·have hf := fold_half nd k1 k2 ((rsE d es).length - 0) 0 (List.replicate 16 zIt ++ [.mk false (vlE d es) []]) j (by omega) (by simp; omega)
  unfold fkI
  show (((pgF d (rsE d es) ((rsE d es).length - 0) 0).map (kdE nd d (rsE d es))).foldl _ _)[j]? = _
  rw [hf, List.drop_zero, goes_rest]
  by_cases hj16 : j < 16
  ·rw [List.getElem?_append_left (by simp; exact hj16), List.getElem?_map, List.getElem?_range hj16]
   show _ = some (hvI nd d es j)
   unfold hvI
   congr 2
   rw [List.getD_eq_getElem?_getD, List.getElem?_append_left (by simp; exact hj16), List.getElem?_replicate, if_pos hj16]
   rfl
  ·obtain rfl : j = 16 := by omega
   have hn : es.filter (goes d ((16 : Nat) : Int)) = [] := by
    rw [List.filter_eq_nil_iff]
    intro e he hg
    obtain ⟨i, hi⟩ := List.getElem?_of_mem he
    have := h.hlf i e d hi
    unfold goes at hg
    simp only [Bool.and_eq_true, decide_eq_true_eq] at hg
    omega
   rw [hn, if_pos List.length_nil]
   rfl
 ·rw [List.getElem?_eq_none (by omega), List.getElem?_eq_none (by simp; omega)]
end Go.Proofs.YtbmapdkcccdmfaaDoor
namespace Go.Proofs.YtbmapdkcccdmfaaDoor
open Go.RowKit Go.Shelf Go.Sort

theorem Ok_iff (d : Nat) (es : List Pr) : Ok d es ↔ (1 ≤ es.length ∧ es.length ≤ 200 ∧ (∀ e ∈ es, d ≤ e.1.size ∧ e.1.size ≤ 128 ∧ e.2.size ≤ 1000) ∧ es.Pairwise (fun e f => LtB e.1 f.1) ∧ (∀ e ∈ es, ∀ f ∈ es, ∀ t, t < d → bt e.1 t = bt f.1 t) ∧ (∀ e ∈ es, ∀ t, 0 ≤ bt e.1 t ∧ bt e.1 t < 16)) := by
 constructor
 ·intro h
  refine ⟨h.pos, h.few, fun e he => ?_, ?_, fun e he f hf t ht => ?_, fun e he t => ?_⟩
  ·obtain ⟨j, hj⟩ := List.getElem?_of_mem he
   exact h.sz j e hj
  ·rw [List.pairwise_iff_getElem]
   intro i j hi hj hij
   exact h.srt i j _ _ hij (List.getElem?_eq_getElem hi) (List.getElem?_eq_getElem hj)
  ·obtain ⟨i, hi⟩ := List.getElem?_of_mem he
   obtain ⟨j, hj⟩ := List.getElem?_of_mem hf
   exact h.alk i j e f t hi hj ht
  ·obtain ⟨i, hi⟩ := List.getElem?_of_mem he
   exact h.hlf i e t hi
 ·rintro ⟨h1, h2, h3, h4, h5, h6⟩
  rw [List.pairwise_iff_getElem] at h4
  refine ⟨h1, h2, fun j e he => h3 e (List.mem_of_getElem? he), fun i j e f hij he hf => ?_, fun i j e f t he hf ht => h5 e (List.mem_of_getElem? he) f (List.mem_of_getElem? hf) t ht, fun j e t he => h6 e (List.mem_of_getElem? he) t⟩
  obtain ⟨hi, rfl⟩ := List.getElem?_eq_some_iff.1 he
  obtain ⟨hj, rfl⟩ := List.getElem?_eq_some_iff.1 hf
  exact h4 i j hi hj hij
theorem Ok.sub {d : Nat} {es gs : List Pr} (h : Ok d es) (hs : gs.Sublist es) (h0 : gs.length ≠ 0) : Ok d gs := by
 rw [Ok_iff] at h ⊢
 obtain ⟨h1, h2, h3, h4, h5, h6⟩ := h
 have := hs.length_le
 exact ⟨by omega, by omega, fun e he => h3 e (hs.subset he), h4.sublist hs, fun e he f hf => h5 e (hs.subset he) f (hs.subset hf), fun e he => h6 e (hs.subset he)⟩
theorem Ok.going {d : Nat} {es : List Pr} (h : Ok d es) (x : Int) (h0 : (es.filter (goes d x)).length ≠ 0) : Ok (d + 1) (es.filter (goes d x)) := by
 refine (h.sub List.filter_sublist h0).next x fun j e he => ?_
 have := (List.mem_filter.1 (List.mem_of_getElem? he)).2
 unfold goes at this
 simpa using this
theorem right_iff (es : List Pr) : RightP es ↔ (es.length ≤ 200 ∧ (∀ e ∈ es, pOk e = true) ∧ es.Pairwise (fun a b => a.1 ≠ b.1)) := by
 constructor
 ·rintro ⟨h1, h2, h3⟩
  refine ⟨h1, fun e he => ?_, ?_⟩
  ·obtain ⟨j, hj⟩ := List.getElem?_of_mem he
   exact h2 j e hj
  ·rw [List.pairwise_iff_getElem]
   intro i j hi hj hij
   exact h3 i j _ _ hij (List.getElem?_eq_getElem hi) (List.getElem?_eq_getElem hj)
 ·rintro ⟨h1, h2, h3⟩
  rw [List.pairwise_iff_getElem] at h3
  refine ⟨h1, fun j e he => h2 e (List.mem_of_getElem? he), fun j k e f hjk he hf => ?_⟩
  obtain ⟨hi, rfl⟩ := List.getElem?_eq_some_iff.1 he
  obtain ⟨hj, rfl⟩ := List.getElem?_eq_some_iff.1 hf
  exact h3 j k hi hj hjk
theorem right_sub {es gs : List Pr} (h : RightP es) (hs : gs.Sublist es) : RightP gs := by
 rw [right_iff] at h ⊢
 have := hs.length_le
 exact ⟨by omega, fun e he => h.2.1 e (hs.subset he), h.2.2.sublist hs⟩
theorem sorted_sub {es gs : List Pr} (h : SortedP es) (hs : gs.Sublist es) : SortedP gs := by
 have h1 : es.Pairwise fun x y => ltStr y.1.data.toList x.1.data.toList = false := by
  rw [List.pairwise_iff_getElem]
  intro i j hi hj hij
  exact h i j _ _ hij (List.getElem?_eq_getElem hi) (List.getElem?_eq_getElem hj)
 have h2 := h1.sublist hs
 rw [List.pairwise_iff_getElem] at h2
 intro i j x y hij hx hy
 obtain ⟨hi, rfl⟩ := List.getElem?_eq_some_iff.1 hx
 obtain ⟨hj, rfl⟩ := List.getElem?_eq_some_iff.1 hy
 exact h2 i j hi hj hij
theorem srt_filter {ps : List Pr} (hr : RightP ps) (f : Pr → Bool) : srt (ps.filter f) = (srt ps).filter f :=
 sorted_one (right_sub hr List.filter_sublist) (srt_perm _) ((srt_perm ps).filter f) (srt_sorted _) (sorted_sub (srt_sorted ps) List.filter_sublist)
def enP (p : Pr) : Pr := (ofOf p.1, p.2)
theorem ents_map (ps : List Pr) : ents ps = ps.map enP := rfl
theorem ents_filter (ps : List Pr) (g : Pr → Bool) : ents (ps.filter fun p => g (enP p)) = (ents ps).filter g := by
 rw [ents_map, ents_map, List.filter_map]
 rfl
def hvP (d : Nat) (h : Int) (ps : List Pr) : List Pr := ps.filter fun p => goes d h (enP p)
theorem hv_srt {ps : List Pr} (hr : RightP ps) (d : Nat) (h : Int) : ents (srt (hvP d h ps)) = (ents (srt ps)).filter (goes d h) := by
 unfold hvP
 rw [srt_filter hr, ents_filter]
theorem mem_ents {ps : List Pr} {e : Pr} : e ∈ ents (srt ps) ↔ ∃ p ∈ ps, e = enP p := by
 rw [ents_map, List.mem_map]
 constructor
 ·rintro ⟨p, hp, rfl⟩
  exact ⟨p, (srt_perm ps).mem_iff.1 hp, rfl⟩
 ·rintro ⟨p, hp, rfl⟩
  exact ⟨p, (srt_perm ps).mem_iff.2 hp, rfl⟩

def alkV (d : Nat) (e0 : Pr) (r : List Pr) : Nat := r.foldl (fun n e => min n (common (tl d e0) (tl d e))) (tl d e0).size
theorem fold_lower (c : Pr → Nat) (a : Nat) : ∀ (r : List Pr) (n : Nat), a ≤ n → (∀ e ∈ r, a ≤ c e) → a ≤ r.foldl (fun n e => min n (c e)) n
 | [], n, h, _ => h
 | e :: r, n, h, hr => by
  rw [List.foldl_cons]
  have := hr e (by simp)
  exact fold_lower c a r _ (by omega) fun e he => hr e (by simp [he])
theorem fold_init (c : Pr → Nat) : ∀ (r : List Pr) (n : Nat), r.foldl (fun n e => min n (c e)) n ≤ n
 | [], n => Nat.le_refl _
 | e :: r, n => by
  rw [List.foldl_cons]
  have := fold_init c r (min n (c e))
  omega
theorem fold_upper (c : Pr → Nat) : ∀ (r : List Pr) (n : Nat) (e : Pr), e ∈ r → r.foldl (fun n e => min n (c e)) n ≤ c e
 | [], _, _, h => by cases h
 | e' :: r, n, e, h => by
  rw [List.foldl_cons]
  rcases List.mem_cons.1 h with rfl | h
  ·have := fold_init c r (min n (c e))
   omega
  ·exact fold_upper c r _ e h
theorem common_ge {a b : ByteArray} {k : Nat} (h1 : k ≤ a.size) (h2 : k ≤ b.size) (h : ∀ j, j < k → bt a j = bt b j) : k ≤ common a b := by
 obtain ⟨c1, c2, c3, c4⟩ := common_spec a b
 by_cases hk : k ≤ common a b
 ·exact hk
 ·exact absurd ⟨by omega, by omega, h _ (by omega)⟩ c4
theorem alk_is {d : Nat} {es : List Pr} (h : Ok d es) (e0 : Pr) (r : List Pr) (hp : (e0 :: r).Perm es) {e g : Pr} (he : es[0]? = some e) (hg : es[es.length - 1]? = some g) : alkV d e0 r = common (tl d e) (tl d g) := by
 obtain ⟨a, ha⟩ : ∃ a, common (tl d e) (tl d g) = a := ⟨_, rfl⟩
 have hok := common_ok h he hg
 obtain ⟨c1, c2, c3, c4⟩ := common_spec (tl d e) (tl d g)
 rw [ha] at hok c1 c2 c3 c4 ⊢
 rw [tl_size] at c1 c2
 rw [tl_size, tl_size] at c4
 have hsz : ∀ x ∈ es, d + a ≤ x.1.size := fun x hx => by
  obtain ⟨j, hj⟩ := List.getElem?_of_mem hx
  exact (hok.sz j x hj).1
 have hm0 : e0 ∈ es := hp.mem_iff.1 (by simp)
 have hge : a ≤ alkV d e0 r := by
  refine fold_lower _ a r _ (by rw [tl_size]; have := hsz e0 hm0; omega) fun x hx => ?_
  have hmx : x ∈ es := hp.mem_iff.1 (by simp [hx])
  have s0 := hsz e0 hm0
  have s1 := hsz x hmx
  refine common_ge (by rw [tl_size]; omega) (by rw [tl_size]; omega) fun j hj => ?_
  rw [tl_bt d e0 j (by omega), tl_bt d x j (by omega)]
  obtain ⟨i0, hi0⟩ := List.getElem?_of_mem hm0
  obtain ⟨i1, hi1⟩ := List.getElem?_of_mem hmx
  exact hok.alk i0 i1 e0 x (d + j) hi0 hi1 (by omega)
 by_cases hlt : a < alkV d e0 r
 ·exfalso
  have key : ∀ x ∈ es, d + a < x.1.size ∧ bt x.1 (d + a) = bt e0.1 (d + a) := fun x hx => by
   have s0 := fold_init (fun e => common (tl d e0) (tl d e)) r (tl d e0).size
   rw [tl_size] at s0
   have s0' : alkV d e0 r ≤ e0.1.size - d := by unfold alkV; rw [tl_size]; exact s0
   rcases List.mem_cons.1 (hp.mem_iff.2 hx) with rfl | hxr
   ·exact ⟨by omega, rfl⟩
   ·have u := fold_upper (fun e => common (tl d e0) (tl d e)) r (tl d e0).size x hxr
    have u' : alkV d e0 r ≤ common (tl d e0) (tl d x) := u
    obtain ⟨k1, k2, k3, _⟩ := common_spec (tl d e0) (tl d x)
    rw [tl_size] at k1 k2
    have k3' := k3 a (by omega)
    rw [n_bt_eq, n_bt_eq, tl_bt d e0 a (by omega), tl_bt d x a (by omega)] at k3'
    exact ⟨by omega, k3'.symm⟩
  have k1 := key e (List.mem_of_getElem? he)
  have k2 := key g (List.mem_of_getElem? hg)
  refine c4 ⟨by omega, by omega, ?_⟩
  rw [n_bt_eq, n_bt_eq, tl_bt d e a (by omega), tl_bt d g a (by omega), k1.2, k2.2]
 ·omega
def enV (d : Nat) : List Pr → ByteArray
 | [] => ⟨#[]⟩
 | p :: r => if 2 * p.1.size = d then p.2 else enV d r
theorem enV_none {d : Nat} : ∀ {ps : List Pr}, (∀ p ∈ ps, 2 * p.1.size ≠ d) → enV d ps = ⟨#[]⟩
 | [], _ => rfl
 | p :: r, h => by
  unfold enV
  rw [if_neg (h p (by simp))]
  exact enV_none fun q hq => h q (by simp [hq])
theorem enV_some {d : Nat} {v : ByteArray} : ∀ {ps : List Pr}, (∃ p ∈ ps, 2 * p.1.size = d) → (∀ p ∈ ps, 2 * p.1.size = d → p.2 = v) → enV d ps = v
 | [], h, _ => by
  obtain ⟨_, h, _⟩ := h
  cases h
 | p :: r, h, hv => by
  unfold enV
  by_cases hp : 2 * p.1.size = d
  ·rw [if_pos hp]
   exact hv p (by simp) hp
  ·rw [if_neg hp]
   obtain ⟨q, hq, hq2⟩ := h
   rcases List.mem_cons.1 hq with rfl | hq
   ·exact absurd hq2 hp
   ·exact enV_some ⟨q, hq, hq2⟩ fun q hq => hv q (by simp [hq])
theorem en_is {d : Nat} {ps : List Pr} (h : Ok d (ents (srt ps))) : enV d ps = vlE d (ents (srt ps)) := by
 obtain ⟨es, hes⟩ : ∃ es, ents (srt ps) = es := ⟨_, rfl⟩
 have hm : ∀ p ∈ ps, enP p ∈ es := fun p hp => by rw [← hes]; exact mem_ents.2 ⟨p, hp, rfl⟩
 have hm2 : ∀ e ∈ es, ∃ p ∈ ps, e = enP p := fun e he => by rw [← hes] at he; exact mem_ents.1 he
 rw [hes] at h ⊢
 have hsz : ∀ p : Pr, (enP p).1.size = 2 * p.1.size := fun p => of_sz p.1
 match es, h, hm, hm2 with
 | [], h, _, _ => exact absurd h.pos (by simp)
 | e :: r, h, hm, hm2 =>
  unfold vlE
  dsimp only
  by_cases he : e.1.size = d
  ·rw [if_pos he]
   obtain ⟨p, hp, rfl⟩ := hm2 e (by simp)
   refine enV_some ⟨p, hp, by rw [← hsz]; exact he⟩ fun q hq hq2 => ?_
   obtain ⟨j, hj⟩ := List.getElem?_of_mem (hm q hq)
   by_cases hj0 : j = 0
   ·subst hj0
    have e1 : enP p = enP q := by simpa using hj
    exact (congrArg (·.2) e1).symm
   ·have := h.longer (i := 0) (j := j) (by omega) rfl hj
    rw [hsz] at this
    omega
  ·rw [if_neg he]
   refine enV_none fun q hq hq2 => ?_
   obtain ⟨j, hj⟩ := List.getElem?_of_mem (hm q hq)
   by_cases hj0 : j = 0
   ·subst hj0
    have e1 : e = enP q := by simpa using hj
    rw [e1, hsz] at he
    exact he hq2
   ·have := h.longer (i := 0) (j := j) (by omega) rfl hj
    rw [hsz] at this
    omega
end Go.Proofs.YtbmapdkcccdmfaaDoor
