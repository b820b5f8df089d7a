/- Lemmas: A text that is empty, or whose first byte is 0, is no node: pure. No condition. What the reference's Check answers on texts that are no nodes. No condition. What the reference's Check answers on texts that are no nodes. No condition. ProofSizes' walk. No condition. -/
import Derived.Test.YtbmapdkcccdmfaaDoorM1
import Derived.Test.YtbmapdkcccdmfaaDoorM10
import Derived.Test.YtbmapdkcccdmfaaDoorM11
import Derived.Test.YtbmapdkcccdmfaaDoorM12
import Derived.Test.YtbmapdkcccdmfaaDoorM13
import Derived.Test.YtbmapdkcccdmfaaDoorM14
import Derived.Test.YtbmapdkcccdmfaaDoorM15
import Derived.Test.YtbmapdkcccdmfaaDoorM16
import Derived.Test.YtbmapdkcccdmfaaDoorM17
import Derived.Test.YtbmapdkcccdmfaaDoorM18
import Derived.Test.YtbmapdkcccdmfaaDoorM19
import Derived.Test.YtbmapdkcccdmfaaDoorM2
import Derived.Test.YtbmapdkcccdmfaaDoorM20
import Derived.Test.YtbmapdkcccdmfaaDoorM21
import Derived.Test.YtbmapdkcccdmfaaDoorM22
import Derived.Test.YtbmapdkcccdmfaaDoorM23
import Derived.Test.YtbmapdkcccdmfaaDoorM24
import Derived.Test.YtbmapdkcccdmfaaDoorM25
import Derived.Test.YtbmapdkcccdmfaaDoorM26
import Derived.Test.YtbmapdkcccdmfaaDoorM27
import Derived.Test.YtbmapdkcccdmfaaDoorM28
import Derived.Test.YtbmapdkcccdmfaaDoorM29
import Derived.Test.YtbmapdkcccdmfaaDoorM3
import Derived.Test.YtbmapdkcccdmfaaDoorM30
import Derived.Test.YtbmapdkcccdmfaaDoorM31
import Derived.Test.YtbmapdkcccdmfaaDoorM32
import Derived.Test.YtbmapdkcccdmfaaDoorM33
import Derived.Test.YtbmapdkcccdmfaaDoorM34
import Derived.Test.YtbmapdkcccdmfaaDoorM35
import Derived.Test.YtbmapdkcccdmfaaDoorM36
import Derived.Test.YtbmapdkcccdmfaaDoorM37
import Derived.Test.YtbmapdkcccdmfaaDoorM38
import Derived.Test.YtbmapdkcccdmfaaDoorM39
import Derived.Test.YtbmapdkcccdmfaaDoorM4
import Derived.Test.YtbmapdkcccdmfaaDoorM40
import Derived.Test.YtbmapdkcccdmfaaDoorM41
import Derived.Test.YtbmapdkcccdmfaaDoorM42
import Derived.Test.YtbmapdkcccdmfaaDoorM43
import Derived.Test.YtbmapdkcccdmfaaDoorM44
import Derived.Test.YtbmapdkcccdmfaaDoorM45
import Derived.Test.YtbmapdkcccdmfaaDoorM46
import Derived.Test.YtbmapdkcccdmfaaDoorM47
import Derived.Test.YtbmapdkcccdmfaaDoorM48
import Derived.Test.YtbmapdkcccdmfaaDoorM49
import Derived.Test.YtbmapdkcccdmfaaDoorM5
import Derived.Test.YtbmapdkcccdmfaaDoorM6
import Derived.Test.YtbmapdkcccdmfaaDoorM7
import Derived.Test.YtbmapdkcccdmfaaDoorM8
import Derived.Test.YtbmapdkcccdmfaaDoorM9
import Derived.Test.YtbmapdkcccdmfaaDoorRows
namespace Go.Proofs.YtbmapdkcccdmfaaDoor
open Go.RowKit Go.Shelf Go.Sort

def Zs (x : ByteArray) : Prop := x.size = 0 ∨ bt x 0 = 0
theorem ofNat_bt (d : Nat) (hd : d < 256) : bt (⟨#[UInt8.ofNat d]⟩ : ByteArray) 0 = d := by
 rw [← bt_get _ 0 (by show 0 < 1; omega)]
 show (((UInt8.ofNat d).toNat : Nat) : Int) = d
 rw [UInt8.toNat_ofNat']
 omega
theorem hd_byte (n : Nat) (hn : n < 18446744073709551616) (b : ByteArray) : 0 < (hdB 192 n ++ b).size ∧ bt (hdB 192 n ++ b) 0 ≠ 0 := by
 have hm8 := blen_le n 8 (by omega)
 have one : ∀ d, 192 ≤ d → d < 256 → ∀ r : ByteArray, 0 < ((⟨#[UInt8.ofNat d]⟩ : ByteArray) ++ r).size ∧ bt ((⟨#[UInt8.ofNat d]⟩ : ByteArray) ++ r) 0 ≠ 0 := fun d h1 h2 r => by
  have hz : (⟨#[UInt8.ofNat d]⟩ : ByteArray).size = 1 := rfl
  rw [ByteArray.size_append, bt_app, hz, if_pos (by omega), ofNat_bt d h2]
  exact ⟨by omega, by omega⟩
 unfold hdB
 split
 ·exact one _ (by omega) (by omega) b
 ·rw [ByteArray.append_assoc]
  exact one _ (by omega) (by omega) _
theorem zs_text {x : ByteArray} (h : Zs x) (hs : x.size ≤ 65536) {y : It} (hd : decF 65537 x = some [y]) : y.l = false ∧ y.xs = [] := by
 obtain ⟨he, hr⟩ := enc_dec hs hd
 obtain ⟨l, t, xs⟩ := y
 have hr' : ((if l then decide (t.size = 0) else decide (xs.length = 0)) && rgIs xs) = true := hr
 rw [Bool.and_eq_true] at hr'
 cases l with
 | false => exact ⟨rfl, List.length_eq_zero_iff.1 (of_decide_eq_true hr'.1)⟩
 | true =>
  exfalso
  have he' : hdB 192 (encIs xs).size ++ encIs xs = x := he
  have hsz : (encIs xs).size ≤ x.size := by rw [← he', ByteArray.size_append]; omega
  obtain ⟨h1, h2⟩ := hd_byte (encIs xs).size (by omega) (encIs xs)
  rw [he'] at h1 h2
  rcases h with h | h
  ·omega
  ·exact h2 h
theorem zs_nd {x : ByteArray} (h : Zs x) : ndOf x = none := by
 by_cases hs : x.size ≤ 65536
 ·by_cases hy : ∃ y, decF 65537 x = some [y]
  ·obtain ⟨y, hy⟩ := hy
   rw [ndOf_one hs hy]
   obtain ⟨_, h2⟩ := zs_text h hs hy
   have : rdN y = none := by
    unfold rdN
    rw [h2]
    rfl
   rw [this]
   split <;> rfl
  ·exact ndOf_no fun y hy' => hy ⟨y, hy'⟩
 ·exact ndOf_big (by omega)
def chZ (root key : ByteArray) (xs : List ByteArray) : Int :=
 if 0 < key.size ∧ key.size ≤ 64 ∧ rgT root xs = true then (if xs = [] ∧ root = sumOf ⟨#[128]⟩ then 0 else 70) else 2
theorem chk_zs {root key : ByteArray} {xs : List ByteArray} (hz : ∀ x, x ∈ xs → Zs x) : chkF root key xs = (⟨#[]⟩, false, chZ root key xs) := by
 have hw : wkF (2 * key.size + 1) (.dig root) (ofOf key) xs = (⟨#[]⟩, false) := by
  refine wk_no _ _ _ _ ?_
  cases xs with
  | nil => rfl
  | cons x r =>
   show (if sumOf x = root then ndOf x else none) = none
   rw [zs_nd (hz x (by simp))]
   split <;> rfl
 unfold chkF chZ
 split
 ·split
  ·rfl
  ·rw [hw]
   rfl
 ·rfl
end Go.Proofs.YtbmapdkcccdmfaaDoor
namespace Go.Proofs.YtbmapdkcccdmfaaDoor
open Go.RowKit Go.Shelf Go.Sort

theorem rsum_x (s : ByteArray) (hs : s.size ≤ 100000) (w : World) :
  Calls Tryd.prog 25 #[.string s] w fun e w' => e = .returned (.string (sumOf s)) ∧ Below w.heap.size w w' := by
 have h := rsum_any s hs w
 rw [rsum_is] at h
 exact h
set_option maxRecDepth 20000 in
set_option maxHeartbeats 2000000 in
theorem rsizes7_any (root : ByteArray) (xs : List ByteArray) (hxl : xs.length < 1000000000) (a : Option Addr) (c n : Nat) (w : World) (hn : n ≤ w.heap.size) (hs : slS n w a xs) :
  Calls Tryd.prog 24 #[.string root, .slice a xs.length c] w fun e w' => e = .returned (.bool (rgT root xs)) ∧ Below w.heap.size w w' := by
 obtain ⟨N, hN⟩ : ∃ N, xs.length = N := ⟨_, rfl⟩
 rw [hN]
 obtain ⟨al, hal⟩ : ∃ al, (xs.all fun x => decide (x.size ≤ 65536)) = al := ⟨_, rfl⟩
 have hr : rgT root xs = (decide (root.size = 32) && (decide (N ≤ 140) && al)) := by
  unfold rgT
  rw [hN, hal]
 rw [hr]
 have HAL : Hid ((xs.all fun x => decide (x.size ≤ 65536)) = al) := hal
 clear hr hal
 go_enter Tryd.func24, Tryd.ntmps24
 go_wp2
 go_loopg [5] N (fun gk i wr => ∃ j : Nat, j + gk = N ∧ i = .int .i64 (j : Int) ∧ Below w.heap.size w wr ∧ Hid (((xs.drop j).all fun x => decide (x.size ≤ 65536)) = al))
 case atStart => exact ⟨0, by omega, rfl, Below.refl _ _, HAL.out⟩
 case round =>
  obtain ⟨j, hjg, rfl, BW, hal⟩ := hrel
  by_cases hj : j < N
  ·have l0 : (j : Int) < N := by omega
   obtain ⟨x, hx⟩ : ∃ x, xs[j]? = some x := ⟨xs[j]'(by omega), List.getElem?_eq_getElem (by omega)⟩
   obtain ⟨b, o, rfl, hb, hc⟩ := slS_at hs j x hx
   have c0 := (BW.cell (p := ⟨b, o + j, none⟩) (by show b < w.heap.size; omega)).trans hc
   have wk : IntKind.i64.wrap ((j : Int) + 1) = ((j + 1 : Nat) : Int) := by rw [IntKind.wrap_i64]; omega
   have hd : xs.drop j = x :: xs.drop (j + 1) := by
    obtain ⟨h, e⟩ := List.getElem?_eq_some_iff.1 hx
    rw [List.drop_eq_getElem_cons h, e]
   have hal2 := hal.out
   rw [hd, List.all_cons] at hal2
   by_cases hx2 : x.size ≤ 65536
   ·have l4 : ¬ (65536 : Int) < x.size := by omega
    rw [decide_eq_true hx2, Bool.true_and] at hal2
    have HA : Hid _ := hal2
    clear hal2 hal
    go_wp2
    go_roundg (gk - 1)
    case measure => omega
    case rel => exact ⟨j + 1, by omega, rfl, BW, HA.out⟩
   ·have l4 : (65536 : Int) < x.size := by omega
    rw [decide_eq_false hx2, Bool.false_and] at hal2
    obtain rfl := hal2
    clear hal
    go_wp2
    go_ret
    exact ⟨by simp, BW⟩
  ·have hjN : j = N := by omega
   subst hjN
   have l0 : ¬ (j : Int) < j := by omega
   have hal2 := hal.out
   rw [List.drop_eq_nil_of_le (by omega)] at hal2
   have hal3 : true = al := hal2
   subst hal3
   clear hal hal2
   by_cases h1 : root.size = 32
   ·have l1 : ((root.size : Int) == 32) = true := by rw [beq_iff_eq]; omega
    by_cases h2 : j ≤ 140
    ·have l2 : (j : Int) ≤ 140 := by omega
     go_wp2
     go_ret
     exact ⟨by simp, BW⟩
    ·have l2 : ¬ (j : Int) ≤ 140 := by omega
     go_wp2
     go_ret
     exact ⟨by simp, BW⟩
   ·have l1 : ((root.size : Int) == 32) = false := by rw [beq_eq_false_iff_ne]; omega
    go_wp2
    go_ret
    exact ⟨by simp, BW⟩
set_option maxHeartbeats 1000000 in
theorem risNode_text (t : ByteArray) (v : Value) (w : World) :
  Calls Tryd.prog 47 #[.agg #[.bool false, .string t, v]] w fun e w' => e = .returned (.bool false) ∧ Below w.heap.size w w' := by
 go_enter Tryd.func47, Tryd.ntmps47
 go_wp2
 go_ret
 exact ⟨rfl, (Below.refl _ w).alloc (Nat.le_refl _) _⟩
theorem Bq.put4 {b : Nat} {T : TypeId} {v0 v1 v2 v3 : Value} {W : World} (h : Bq b T #[v0, v1, v2, v3] W) (u0 u1 u2 u3 : Value) : Bq b T #[u0, u1, u2, u3] ((((W.setCell ⟨b, 0, none⟩ u0).setCell ⟨b, 1, none⟩ u1).setCell ⟨b, 2, none⟩ u2).setCell ⟨b, 3, none⟩ u3) := by
 have h' : W.heap[b]? = _ := h
 show ((((W.setCell ⟨b, 0, none⟩ u0).setCell ⟨b, 1, none⟩ u1).setCell ⟨b, 2, none⟩ u2).setCell ⟨b, 3, none⟩ u3).heap[b]? = _
 simp [World.setCell, Array.getElem?_modify, h']
theorem below_set4 {n b : Nat} {w W : World} (h : Below n w W) (hb : n ≤ b) (u0 u1 u2 u3 : Value) : Below n w ((((W.setCell ⟨b, 0, none⟩ u0).setCell ⟨b, 1, none⟩ u1).setCell ⟨b, 2, none⟩ u2).setCell ⟨b, 3, none⟩ u3) :=
 (((h.setCell (p := ⟨b, 0, none⟩) hb u0).setCell (p := ⟨b, 1, none⟩) hb u1).setCell (p := ⟨b, 2, none⟩) hb u2).setCell (p := ⟨b, 3, none⟩) hb u3
theorem below_set3 {n b : Nat} {w W : World} (h : Below n w W) (hb : n ≤ b) (u0 u1 u2 : Value) : Below n w (((W.setCell ⟨b, 0, none⟩ u0).setCell ⟨b, 1, none⟩ u1).setCell ⟨b, 2, none⟩ u2) :=
 ((h.setCell (p := ⟨b, 0, none⟩) hb u0).setCell (p := ⟨b, 1, none⟩) hb u1).setCell (p := ⟨b, 2, none⟩) hb u2
def noFound : Value := .agg #[.string ⟨#[]⟩, .bool false, .int .i64 0, .bool false]
set_option maxRecDepth 20000 in
set_option maxHeartbeats 2000000 in
theorem runder_no (root path x : ByteArray) (r : List ByteArray) (hz : Zs x) (hx : x.size ≤ 65536) (a : Option Addr) (c n : Nat) (w : World) (hn : n ≤ w.heap.size) (hs : slS n w a (x :: r)) :
  Calls Tryd.prog 26 #[.agg #[.bool false, .string root, .slice none 0 0], .string path, .slice a (x :: r).length c, .int .i64 0] w fun e w' => e = .returned noFound ∧ Below w.heap.size w w' := by
 obtain ⟨b, o, rfl, hb, hc⟩ := slS_at hs 0 x rfl
 rw [Nat.add_zero] at hc
 obtain ⟨N, hN⟩ : ∃ N, (x :: r).length = N := ⟨_, rfl⟩
 have hN0 : 0 < N := by rw [← hN]; simp
 have l0 : (0 : Int) < N := by omega
 have KS := fun w => rsum_x x (by omega) w
 have KD := fun w => rdecode_any x w
 obtain ⟨s, hsm⟩ : ∃ s, sumOf x = s := ⟨_, rfl⟩
 rw [hsm] at KS
 have hbW : b < w.heap.size := by omega
 rw [hN]
 have HZ : Hid (_ ∧ _) := ⟨hz, hx⟩
 clear hs hsm hN hz hx
 unfold noFound
 have hd0 : decide (N = 0) = false := decide_eq_false (by omega)
 go_enter Tryd.func26, Tryd.ntmps26
 go_wp2_with fail
 refine wpOf (fun W => Bq w.heap.size 55 #[.bool false, .string root, .slice none 0 0] W ∧ Bq (w.heap.size + 1) 51 #[.string ⟨#[]⟩, .bool false, .int .i64 0, .bool false] W ∧ Bq (w.heap.size + 1 + 1) 55 #[.bool false, .string root, .slice none 0 0] W ∧ Below w.heap.size w W) ?_ ?_
 ·obtain ⟨A, hA⟩ : ∃ A, Obj.cells #[Value.bool false, .string root, .slice none 0 0] 55 = A := ⟨_, rfl⟩
  obtain ⟨B, hB⟩ : ∃ B, Obj.cells #[Value.string ⟨#[]⟩, .bool false, .int .i64 0, .bool false] 51 = B := ⟨_, rfl⟩
  rw [hA, hB]
  have a1 := be_new w A
  have a2 := be_new (w.alloc A) B
  have a3 := be_new ((w.alloc A).alloc B) A
  have h1 := World.alloc_heap_new w A
  have h2 := World.alloc_heap_new (w.alloc A) B
  have h3 := World.alloc_heap_new ((w.alloc A).alloc B) A
  simp only [World.size_alloc] at a2 a3 h2 h3
  subst hA hB
  exact ⟨(a3.block _ (by omega)).trans ((a2.block _ (by omega)).trans h1), (a3.block _ (by omega)).trans h2, h3, (a1.trans (a2.mono (by omega))).trans (a3.mono (by omega))⟩
 rintro w1 ⟨q0, q1, q2, BW⟩
 obtain ⟨z, hz⟩ : ∃ c, w.heap.size = c := ⟨_, rfl⟩
 have HZZ : Hid (w.heap.size = z) := hz
 rw [hz] at q0 q1 q2 BW ⊢
 obtain ⟨z1, hz1⟩ : ∃ c, z + 1 = c := ⟨_, rfl⟩
 rw [hz1] at q1 q2 ⊢
 obtain ⟨z2, hz2⟩ : ∃ c, z1 + 1 = c := ⟨_, rfl⟩
 rw [hz2] at q2 ⊢
 have hs1 : z2 < w1.heap.size := q2.lt
 have hbz : b < z := by omega
 have hc1 := (BW.cell (p := ⟨b, o, none⟩) hbz).trans hc
 have c0 : ∀ d os, (grow (redrawn w1 d) os).cell? ⟨b, o, none⟩ = some (.string x) := fun d os => ((below_regrown w1 d os).cell (p := ⟨b, o, none⟩) (by show b < w1.heap.size; omega)).trans hc1
 have c1 : ∀ d os, (grow (redrawn w1 d) os).cell? ⟨z, 1, none⟩ = some (.string root) := fun d os => ((below_regrown w1 d os).cell (p := ⟨z, 1, none⟩) (by show z < w1.heap.size; omega)).trans (q0.cell 1)
 have cS : ∀ d os, Calls Tryd.prog 25 #[.string x] (grow (redrawn w1 d) os) fun e w'' => e = .returned (.string s) ∧ ∃ p : Regrown, w'' = grow (redrawn w1 p.d) p.os := fun d os => Calls.regrown_of (KS _)
 have hzl : z < w1.heap.size := q0.lt
 have hzz1 : z ≤ z1 := by omega
 have hz12 : z1 < z2 := by omega
 clear KS hz hz1 hz2 hc
 refine wp_region_quiet_below (by kernel_rfl) (by kernel_rfl) ?_
 iterate 9 (go_big_quiet_step (fail))
 go_big_quiet_step (exact cS _ _)
 repeat (go_big_quiet_step (fail))
 refine wpQuiet_nil ?_
 intro w2 hw2
 have B2 : Below w1.heap.size w1 w2 := by
  obtain ⟨p, rfl⟩ := hw2
  exact below_regrown _ _ _
 have hc2 := (B2.cell (p := ⟨b, o, none⟩) (by show b < w1.heap.size; omega)).trans hc1
 replace q1 := q1.below B2
 replace q2 := q2.below B2
 have x0 := q1.cell 0
 have x1 := q1.cell 1
 have x2 := q1.cell 2
 have x3 := q1.cell 3
 have y0 := q1.fr 0
 have y1 := q1.fr 1
 have y2 := q1.fr 2
 have y3 := q1.fr 3
 have p0 := q2.cell 0
 have p1 := q2.cell 1
 have p2 := q2.cell 2
 have s0 := q2.fr 0
 have s1 := q2.fr 1
 have s2 := q2.fr 2
 have hne12 : z1 ≠ z2 := by omega
 replace BW := belowStep BW (by omega) B2
 have hzw : z2 < w2.heap.size := q2.lt
 clear c0 c1 cS hw2 B2 hc1 q0
 by_cases he : s = root
 ·have hse : (s.toList == root.toList) = true := by rw [he]; exact beq_self_eq_true _
  rw [hse]
  clear he
  go_wp2_with fail
  refine Calls.mono (KD _) ?_
  rintro e w3 ⟨B3, y, f, rfl, hdr, hm⟩
  have hv : y.val = .agg #[.bool y.l, .string y.t, .slice y.a y.xs.length y.c] := rfl
  have hyl : f = 0 → y.l = false := fun h0 => by
   subst h0
   rcases hdr with ⟨_, h, _⟩ | ⟨_, _, h, _⟩ | ⟨_, y', hy, ⟨_, h, _⟩ | ⟨_, _, h⟩⟩
   ·cases h
   ·cases h
   ·cases h
   ·subst h
    exact (er_l y).symm.trans (zs_text HZ.out.1 HZ.out.2 hy).1
  rw [hv]
  obtain ⟨yl, h1⟩ : ∃ q, y.l = q := ⟨_, rfl⟩
  obtain ⟨yt, h2⟩ : ∃ q, y.t = q := ⟨_, rfl⟩
  obtain ⟨ya, h3⟩ : ∃ q, y.a = q := ⟨_, rfl⟩
  obtain ⟨yn, h4⟩ : ∃ q, y.xs.length = q := ⟨_, rfl⟩
  obtain ⟨yc, h5⟩ : ∃ q, y.c = q := ⟨_, rfl⟩
  rw [h1] at hyl
  rw [h1, h2, h3, h4, h5]
  clear h1 h2 h3 h4 h5 hv hdr hm KD
  replace q1 := q1.below B3
  replace q2 := q2.below B3
  have x0 := q1.cell 0
  have x1 := q1.cell 1
  have x2 := q1.cell 2
  have x3 := q1.cell 3
  have y0 := q1.fr 0
  have y1 := q1.fr 1
  have y2 := q1.fr 2
  have y3 := q1.fr 3
  have p0 := q2.cell 0
  have p1 := q2.cell 1
  have p2 := q2.cell 2
  have s0 := q2.fr 0
  have s1 := q2.fr 1
  have s2 := q2.fr 2
  replace BW := belowStep BW (by omega) B3
  replace hzw : z2 < w3.heap.size := q2.lt
  have hn1 : z1 ≠ w3.heap.size := by omega
  have hn2 : z2 ≠ w3.heap.size := by omega
  have hl1 : z1 < w3.heap.size := by omega
  clear B3
  by_cases hf : f = 0
  ·subst hf
   obtain rfl := hyl rfl
   clear hyl
   go_wp2_with fail
   have q3 : Bq z1 51 #[.string ⟨#[]⟩, .bool false, .int .i64 0, .bool false] (((w3.setCell ⟨z2, 0, none⟩ (.bool false)).setCell ⟨z2, 1, none⟩ (.string yt)).setCell ⟨z2, 2, none⟩ (.slice ya yn yc)) := ((q1.other hne12 0 _).other hne12 1 _).other hne12 2 _
   have B3 := below_set3 BW (show z ≤ z2 by omega) (.bool false) (.string yt) (.slice ya yn yc)
   obtain ⟨W3, hW3⟩ : ∃ W, ((w3.setCell ⟨z2, 0, none⟩ (.bool false)).setCell ⟨z2, 1, none⟩ (.string yt)).setCell ⟨z2, 2, none⟩ (.slice ya yn yc) = W := ⟨_, rfl⟩
   rw [hW3] at q3 B3 ⊢
   have a1 := be_new W3 (.cells #[.bool false, .string yt, .slice ya yn yc] 55)
   have q4 := q3.below a1
   have hzw3 := q3.lt
   have B4 := belowStep B3 (by have := q3.lt; omega) a1
   clear hW3 q1 q2 x0 x1 x2 x3 y0 y1 y2 y3 p0 p1 p2 s0 s1 s2 hn1 hn2 hl1 BW B3 q3 hc2
   refine Calls.mono (risNode_text yt _ _) ?_
   rintro e w4 ⟨rfl, B5⟩
   replace q4 := q4.below B5
   replace B4 := belowStep B4 (by have := a1.size; omega) B5
   have x0 := q4.cell 0
   have x1 := q4.cell 1
   have x2 := q4.cell 2
   have x3 := q4.cell 3
   have y0 := q4.fr 0
   have y1 := q4.fr 1
   have y2 := q4.fr 2
   have y3 := q4.fr 3
   clear B5 a1
   go_wp2_with fail
   have q5 := q4.put4 (.string ⟨#[]⟩) (.bool false) (.int .i64 0) (.bool false)
   have B5 := below_set4 B4 hzz1 (.string ⟨#[]⟩) (.bool false) (.int .i64 0) (.bool false)
   have z0 := q5.cell 0
   have z10 := q5.cell 1
   have z20 := q5.cell 2
   have z30 := q5.cell 3
   refine bodyPost_ret (v := .agg #[.string ⟨#[]⟩, .bool false, .int .i64 0, .bool false]) (by simp [results, Tryd.results26, go_sem, z0, z10, z20, z30]) rfl ⟨rfl, ?_⟩
   rw [HZZ.out]
   exact B5
  ·clear hyl
   have lf : (f == 0) = false := by rw [beq_eq_false_iff_ne]; exact hf
   go_wp2_with fail
   have q5 := q1.put4 (.string ⟨#[]⟩) (.bool false) (.int .i64 0) (.bool false)
   have B5 := below_set4 BW hzz1 (.string ⟨#[]⟩) (.bool false) (.int .i64 0) (.bool false)
   obtain ⟨W4, hW4⟩ : ∃ W, (((w3.setCell ⟨z1, 0, none⟩ (.string ⟨#[]⟩)).setCell ⟨z1, 1, none⟩ (.bool false)).setCell ⟨z1, 2, none⟩ (.int .i64 0)).setCell ⟨z1, 3, none⟩ (.bool false) = W := ⟨_, rfl⟩
   rw [hW4] at q5 B5 ⊢
   have a1 := be_new W4 (.cells #[.bool yl, .string yt, .slice ya yn yc] 55)
   have q6 := q5.below a1
   have B6 := belowStep B5 (by have := q5.lt; omega) a1
   clear hW4 x0 x1 x2 x3
   have z0 := q6.cell 0
   have z10 := q6.cell 1
   have z20 := q6.cell 2
   have z30 := q6.cell 3
   refine bodyPost_ret (v := .agg #[.string ⟨#[]⟩, .bool false, .int .i64 0, .bool false]) (by simp [results, Tryd.results26, go_sem, z0, z10, z20, z30]) rfl ⟨rfl, ?_⟩
   rw [HZZ.out]
   exact B6
 ·have hse := ne_list he
  rw [hse]
  clear he
  go_wp2_with fail
  have q5 := q1.put4 (.string ⟨#[]⟩) (.bool false) (.int .i64 0) (.bool false)
  have B5 := below_set4 BW hzz1 (.string ⟨#[]⟩) (.bool false) (.int .i64 0) (.bool false)
  have z0 := q5.cell 0
  have z10 := q5.cell 1
  have z20 := q5.cell 2
  have z30 := q5.cell 3
  refine bodyPost_ret (v := .agg #[.string ⟨#[]⟩, .bool false, .int .i64 0, .bool false]) (by simp [results, Tryd.results26, go_sem, z0, z10, z20, z30]) rfl ⟨rfl, ?_⟩
  rw [HZZ.out]
  exact B5
end Go.Proofs.YtbmapdkcccdmfaaDoor
namespace Go.Proofs.YtbmapdkcccdmfaaDoor
open Go.RowKit Go.Shelf Go.Sort

set_option maxRecDepth 20000 in
set_option maxHeartbeats 4000000 in
theorem rcheck_no (root key : ByteArray) (xs : List ByteArray) (hz : ∀ x, x ∈ xs → Zs x) (hxl : xs.length < 1000000000) (a : Option Addr) (c n : Nat) (w : World) (hn : n ≤ w.heap.size) (hs : slS n w a xs) :
  Calls Tryd.prog 9 #[.string root, .string key, .slice a xs.length c] w fun e w' => e = .returned (.tuple #[.string ⟨#[]⟩, .bool false, .int .i64 (chZ root key xs)]) ∧ Below w.heap.size w w' := by
 have KS := rsizes7_any root xs hxl a c n w hn hs
 obtain ⟨q, hq⟩ : ∃ q, rgT root xs = q := ⟨_, rfl⟩
 obtain ⟨f, hf⟩ : ∃ f, chZ root key xs = f := ⟨_, rfl⟩
 rw [hq] at KS
 rw [hf]
 unfold chZ at hf
 rw [hq] at hf
 obtain ⟨N, hN⟩ : ∃ N, xs.length = N := ⟨_, rfl⟩
 by_cases hk : 0 < key.size ∧ key.size ≤ 64 ∧ q = true
 ·rw [if_pos hk] at hf
  obtain ⟨hk0, hk1, rfl⟩ := hk
  have l0 : ¬ (key.size : Int) < 1 := by omega
  have l1 : ¬ (64 : Int) < key.size := by omega
  by_cases hN0 : N = 0
  ·subst hN0
   obtain rfl := List.length_eq_zero_iff.1 hN
   have K0 := fun W => rsum_x ⟨#[128]⟩ (by decide) W
   obtain ⟨s, hsm⟩ : ∃ s, sumOf ⟨#[128]⟩ = s := ⟨_, rfl⟩
   rw [hsm] at K0 hf
   rw [hN] at KS ⊢
   clear hs hsm
   by_cases he : root = s
   ·rw [if_pos ⟨rfl, he⟩] at hf
    subst hf
    have hse : (root.toList == s.toList) = true := by rw [he]; exact beq_self_eq_true _
    clear he hN hz hq hxl
    go_enter Tryd.func9, Tryd.ntmps9
    go_wp2_with fail
    refine Calls.mono KS ?_
    rintro e w1 ⟨rfl, BW⟩
    go_wp2_with fail
    refine Calls.mono (K0 _) ?_
    rintro e w2 ⟨rfl, B2⟩
    replace BW := belowStep BW BW.size B2
    go_wp2
    exact bodyPost_ret (v := .tuple #[.string ⟨#[]⟩, .bool false, .int .i64 0]) (by simp [results, Tryd.results9, go_sem]) rfl ⟨rfl, BW⟩
   ·rw [if_neg (fun h => he h.2)] at hf
    subst hf
    have hse := ne_list he
    clear he hN hz hq hxl
    go_enter Tryd.func9, Tryd.ntmps9
    go_wp2_with fail
    refine Calls.mono KS ?_
    rintro e w1 ⟨rfl, BW⟩
    go_wp2_with fail
    refine Calls.mono (K0 _) ?_
    rintro e w2 ⟨rfl, B2⟩
    replace BW := belowStep BW BW.size B2
    go_wp2
    exact bodyPost_ret (v := .tuple #[.string ⟨#[]⟩, .bool false, .int .i64 70]) (by simp [results, Tryd.results9, go_sem]) rfl ⟨rfl, BW⟩
  ·obtain ⟨x, r, rfl⟩ : ∃ x r, xs = x :: r := by
    cases xs with
    | nil => exact absurd hN.symm hN0
    | cons x r => exact ⟨x, r, rfl⟩
   rw [if_neg (fun h => by cases h.1)] at hf
   subst hf
   have hx : x.size ≤ 65536 := by
    unfold rgT at hq
    simp only [Bool.and_eq_true, List.all_eq_true, decide_eq_true_eq] at hq
    exact hq.2.2 x (by simp)
   have KU := fun W (hW : Below w.heap.size w W) => runder_no root (ofOf key) x r (hz x (by simp)) hx a c n W (Nat.le_trans hn hW.size) (slS_below (hW.mono hn) hs)
   have KO := fun W => rof_any key (by omega) W
   unfold noFound at KU
   have lz : ((N : Int) == 0) = false := by rw [beq_eq_false_iff_ne]; omega
   obtain ⟨p, hp⟩ : ∃ p, ofOf key = p := ⟨_, rfl⟩
   rw [hp] at KU KO
   rw [hN] at KS KU ⊢
   clear hs hz hx hp hq hN
   go_enter Tryd.func9, Tryd.ntmps9
   go_wp2_with fail
   refine Calls.mono KS ?_
   rintro e w1 ⟨rfl, BW⟩
   go_wp2_with fail
   refine Calls.mono (KO _) ?_
   rintro e w2 ⟨rfl, B2⟩
   replace BW := belowStep BW BW.size B2
   go_wp2_with fail
   refine Calls.mono (KU _ BW) ?_
   rintro e w3 ⟨rfl, B3⟩
   replace BW := belowStep BW BW.size B3
   go_wp2
   exact bodyPost_ret (v := .tuple #[.string ⟨#[]⟩, .bool false, .int .i64 70]) (by simp [results, Tryd.results9, go_sem]) rfl ⟨rfl, BW.alloc BW.size _⟩
 ·rw [if_neg hk] at hf
  subst hf
  rw [hN] at KS ⊢
  clear hs hq
  cases q with
  | false =>
   go_enter Tryd.func9, Tryd.ntmps9
   go_wp2_with fail
   refine Calls.mono KS ?_
   rintro e w1 ⟨rfl, BW⟩
   go_wp2
   exact bodyPost_ret (v := .tuple #[.string ⟨#[]⟩, .bool false, .int .i64 2]) (by simp [results, Tryd.results9, go_sem]) rfl ⟨rfl, BW⟩
  | true =>
   by_cases hk0 : 0 < key.size
   ·have l0 : ¬ (key.size : Int) < 1 := by omega
    have l1 : (64 : Int) < key.size := by
     have : ¬ key.size ≤ 64 := fun h => hk ⟨hk0, h, rfl⟩
     omega
    clear hk
    go_enter Tryd.func9, Tryd.ntmps9
    go_wp2_with fail
    refine Calls.mono KS ?_
    rintro e w1 ⟨rfl, BW⟩
    go_wp2
    exact bodyPost_ret (v := .tuple #[.string ⟨#[]⟩, .bool false, .int .i64 2]) (by simp [results, Tryd.results9, go_sem]) rfl ⟨rfl, BW⟩
   ·have l0 : (key.size : Int) < 1 := by omega
    clear hk
    go_enter Tryd.func9, Tryd.ntmps9
    go_wp2_with fail
    refine Calls.mono KS ?_
    rintro e w1 ⟨rfl, BW⟩
    go_wp2
    exact bodyPost_ret (v := .tuple #[.string ⟨#[]⟩, .bool false, .int .i64 2]) (by simp [results, Tryd.results9, go_sem]) rfl ⟨rfl, BW⟩
end Go.Proofs.YtbmapdkcccdmfaaDoor
namespace Go.Proofs.YtbmapdkcccdmfaaDoor
open Go.RowKit Go.Shelf Go.Sort

theorem made_at {W : World} {base : Nat} {e : TypeId} {n g c : Nat} {z : Value} (h : W.ownsRow base e 1 (.slice (some ⟨g, 0, none⟩) n c) n (madeCells #[z] (n * 1)).toList) : (∀ j, j < n → W.cell? ⟨g, j, none⟩ = some z) ∧ ∀ o, W.frozen? ⟨g, o, none⟩ = false := by
 constructor
 ·intro j hj
  have := h.cellAt j (by omega)
  rw [this]
  simp [madeCells, hj, Nat.mod_one]
 ·intro o
  rcases h.2 with ⟨h1, _⟩ | ⟨g', cap, cur, h1, _, h3, _⟩
  ·cases h1
  ·cases h1
   exact Lib.frozen_of_heap h3 o
theorem own_lt {W : World} {base : Nat} {e : TypeId} {n g c k m : Nat} {xs : List Value} (h : W.ownsRow base e m (.slice (some ⟨g, 0, none⟩) n c) k xs) : g < W.heap.size := by
 rcases h.2 with ⟨h1, _⟩ | ⟨g', cap, cur, h1, _, h3, _⟩
 ·cases h1
 ·cases h1
  exact (Array.getElem?_eq_some_iff.1 h3).1
def zer (L : Nat) : ByteArray := ⟨(List.replicate L (0 : UInt8)).toArray⟩
theorem conv_made (V U : World) (L : Nat) (h : (∀ j, j < L → U.cell? ⟨V.heap.size, j, none⟩ = some (.int .u8 0)) ∧ ∀ o, U.frozen? ⟨V.heap.size, o, none⟩ = false) : (convert 24 9 (.slice (some ⟨V.heap.size, 0, none⟩) L L)).run Tryd.prog U = .ok (.string (zer L)) U := by
 have := run_convert_bytes_back (P := Tryd.prog) U 24 9 5 ⟨V.heap.size, 0, none⟩ L (List.replicate L (0 : UInt8)) Tryd.underlying24 Tryd.underlying5 Tryd.underlying9 (fun j hj => by
  rw [List.length_replicate] at hj
  rw [Addr.add_mid, Nat.zero_add, h.1 j hj]
  simp)
 rw [List.length_replicate] at this
 exact this
theorem zer_zs (L : Nat) : Zs (zer L) := by
 have hsz : (zer L).size = L := by show (List.replicate L (0 : UInt8)).toArray.size = L; simp
 unfold Zs
 by_cases h : L = 0
 ·exact .inl (by omega)
 ·right
  rw [← bt_get _ 0 (by omega)]
  show (((List.replicate L (0 : UInt8)).toArray[0]'_).toNat : Int) = 0
  simp
set_option maxRecDepth 20000 in
set_option maxHeartbeats 4000000 in
theorem psizes_any (root key : ByteArray) (m l : Int) (w : World) (hl : Laid w) :
  Calls Tryd.prog 3 #[.string root, .string key, .int .i64 m, .int .i64 l] w fun e w' => e = .returned (.bool true) ∧ Below w.heap.size w w' := by
 by_cases hbad : m < 0 ∨ 200 < m ∨ l < 0 ∨ 100000 < l
 ·go_enter Tryd.func3, Tryd.ntmps3
  go_wp2_with fail
  refine (shown7_any w hl).mono ?_
  rintro e w1 ⟨rfl, BW⟩
  by_cases c1 : m < 0
  ·go_wp2
   go_ret
   exact ⟨rfl, BW⟩
  ·by_cases c2 : 200 < m
   ·go_wp2
    go_ret
    exact ⟨rfl, BW⟩
   ·by_cases c3 : l < 0
    ·go_wp2
     go_ret
     exact ⟨rfl, BW⟩
    ·have c4 : 100000 < l := by omega
     go_wp2
     go_ret
     exact ⟨rfl, BW⟩
 ·obtain ⟨M, rfl⟩ : ∃ M : Nat, m = M := ⟨m.toNat, by omega⟩
  obtain ⟨L, rfl⟩ : ∃ L : Nat, l = L := ⟨l.toNat, by omega⟩
  have c1 : ¬ (M : Int) < 0 := by omega
  have c2 : ¬ (200 : Int) < M := by omega
  have c3 : ¬ (L : Int) < 0 := by omega
  have c4 : ¬ (100000 : Int) < L := by omega
  go_enter Tryd.func3, Tryd.ntmps3
  go_wp2_with fail
  refine (shown7_any w hl).mono ?_
  rintro e w1 ⟨rfl, BW⟩
  obtain ⟨i0, hi0, hz0, hz1, hz2⟩ := info_parts info_text7
  have d1 : decide ((M : Int) < 0) = false := decide_eq_false (by omega)
  have d2 : decide ((200 : Int) < M) = false := decide_eq_false (by omega)
  have d3 : decide ((L : Int) < 0) = false := decide_eq_false (by omega)
  have d4 : decide ((100000 : Int) < L) = false := decide_eq_false (by omega)
  clear c1 c2 c3 c4
  by_cases h0 : M = 0
  ·have d0 : decide (0 < M) = false := decide_eq_false (by omega)
   have H0 : Hid (M = 0) := h0
   clear h0
   go_wp2_with (at_make; refine wpList_make_row _ rfl _ _ 23 rfl 9 i0 (.string ⟨#[]⟩) Tryd.underlying23 hi0 hz0 hz1 rfl .i64 .i64 M rfl rfl (by rw [hz2]; omega) (by omega) ?_)
   have B1 : Below w.heap.size w (w1.alloc (.cells (madeCells #[.string ⟨#[]⟩] M) 9)) := BW.alloc BW.size _
   obtain ⟨z, hz⟩ : ∃ z, w1.heap.size = z := ⟨_, rfl⟩
   rw [hz]
   obtain ⟨V, hV⟩ : ∃ V, w1.alloc (.cells (madeCells #[.string ⟨#[]⟩] M) 9) = V := ⟨_, rfl⟩
   rw [hV] at B1 ⊢
   have C1 := check_any root key [] (by decide) (some ⟨z, 0, none⟩) M 0 (Nat.zero_le _) V (Nat.zero_le _) (hl.below B1) (.inl rfl)
   have C2 := fun W => rcheck_no root key [] (fun _ h => by cases h) (by decide) (some ⟨z, 0, none⟩) M 0 W (Nat.zero_le _) (.inl rfl)
   rw [chk_zs (fun _ h => by cases h)] at C1
   dsimp only at C1
   rw [show ([] : List ByteArray).length = M from H0.out.symm] at C1 C2
   obtain ⟨f, hf⟩ : ∃ f, chZ root key [] = f := ⟨_, rfl⟩
   rw [hf] at C1 C2
   clear hf hV hz BW
   refine Calls.mono C1 ?_
   rintro e w2 ⟨rfl, B2⟩
   replace B1 := belowStep B1 B1.size B2
   go_wp2_with fail
   refine Calls.mono (C2 _) ?_
   rintro e w3 ⟨rfl, B3⟩
   replace B1 := belowStep B1 B1.size B3
   go_wp2
   go_ret
   exact ⟨by simp, B1⟩
  ·have d0 : decide (0 < M) = true := decide_eq_true (by omega)
   obtain ⟨K, hK⟩ : ∃ K : Nat, M = K + 1 := ⟨M - 1, by omega⟩
   have k1 : (M : Int) - 1 = K := by omega
   have k2 : IntKind.i64.wrap (K : Int) = K := by rw [IntKind.wrap_i64]; omega
   have k3 : (K : Int) < M := by omega
   obtain ⟨j0, hj0, hy0, hy1, hy2⟩ := info_parts info_u8
   have HK : Hid (M = K + 1) := hK
   clear h0 hK
   have hB1 := BW.size
   go_wp2_with (first
    | (at_make; refine wpList_make_full _ rfl _ _ 23 rfl w1.heap.size 9 i0 _ 1 Tryd.underlying23 hi0 hz0 hz1 .i64 .i64 _ _ M rfl rfl rfl rfl (by rw [hz2]; omega) (by unfold maxLen; omega) (Nat.le_refl _) ?_; intro V own1 gr1; have A1 := made_at own1; have hVs := own_lt own1; have B1 : Below w.heap.size w V := BW.grown gr1 BW.size (fun _ e => by cases e); clear BW)
    | (at_make; refine wpList_make_full _ rfl _ _ 24 rfl V.heap.size 5 j0 _ 1 Tryd.underlying24 hj0 hy0 hy1 .i64 .i64 _ _ L rfl rfl rfl rfl (by rw [hy2]; omega) (by unfold maxLen; omega) (Nat.le_refl _) ?_; intro U own2 gr2; have A2 := made_at own2; have B2 : Below w.heap.size w U := B1.grown gr2 B1.size (fun _ e => by cases e); have C2 : Below V.heap.size V U := (Below.refl _ V).grown gr2 (Nat.le_refl _) (fun _ e => by cases e); have hcv := conv_made V U L A2; have cK := (C2.cell (p := ⟨w1.heap.size, K, none⟩) hVs).trans (A1.1 K (by omega)); have fK := (C2.frozen (p := ⟨w1.heap.size, K, none⟩) hVs).trans (A1.2 K)))
   have hzU : w1.heap.size < U.heap.size := Nat.lt_of_lt_of_le hVs C2.size
   have F1 : Fw w1.heap.size M (fun _ => .string ⟨#[]⟩) U := ⟨hzU, fun j hj => (C2.cell (p := ⟨w1.heap.size, j, none⟩) hVs).trans (A1.1 j hj), fun o => (C2.frozen (p := ⟨w1.heap.size, o, none⟩) hVs).trans (A1.2 o)⟩
   have F2 := F1.put K (by omega) (.string (zer L)) (h := fun j => if j = K then .string (zer L) else .string ⟨#[]⟩) (fun j _ => rfl)
   have B3 : Below w.heap.size w (U.setCell ⟨w1.heap.size, K, none⟩ (.string (zer L))) := B2.setCell (p := ⟨w1.heap.size, K, none⟩) hB1 _
   obtain ⟨W, hW⟩ : ∃ W, U.setCell ⟨w1.heap.size, K, none⟩ (.string (zer L)) = W := ⟨_, rfl⟩
   rw [hW] at F2 B3 ⊢
   clear hW F1 A1 A2 C2 B1 B2 hcv cK fK own1 own2 gr1 gr2 hVs hzU
   obtain ⟨z, hz⟩ : ∃ z, w1.heap.size = z := ⟨_, rfl⟩
   rw [hz] at F2 hB1 ⊢
   have hsl : slS (z + 1) W (some ⟨z, 0, none⟩) (List.replicate K (⟨#[]⟩ : ByteArray) ++ [zer L]) := .inr ⟨z, 0, rfl, by omega, fun j x hx => by
    have hj := (List.getElem?_eq_some_iff.1 hx).1
    rw [List.length_append, List.length_replicate, List.length_singleton] at hj
    rw [Nat.zero_add, F2.c j (by have := HK.out; omega)]
    by_cases hjK : j = K
    ·rw [if_pos hjK]
     rw [hjK, List.getElem?_append_right (by simp)] at hx
     simp at hx
     rw [hx]
    ·rw [if_neg hjK]
     rw [List.getElem?_append_left (by rw [List.length_replicate]; omega), List.getElem?_replicate, if_pos (by omega)] at hx
     cases hx
     rfl⟩
   have hzs : ∀ x, x ∈ List.replicate K (⟨#[]⟩ : ByteArray) ++ [zer L] → Zs x := fun x hx => by
    rcases List.mem_append.1 hx with hx | hx
    ·rw [List.eq_of_mem_replicate hx]
     exact .inl rfl
    ·rw [List.mem_singleton.1 hx]
     exact zer_zs L
   have hlen : (List.replicate K (⟨#[]⟩ : ByteArray) ++ [zer L]).length = M := by rw [List.length_append, List.length_replicate, HK.out]; rfl
   obtain ⟨xs, hxs⟩ : ∃ xs, List.replicate K (⟨#[]⟩ : ByteArray) ++ [zer L] = xs := ⟨_, rfl⟩
   rw [hxs] at hsl hzs hlen
   have hzW : z < W.heap.size := F2.z
   have C1 := check_any root key xs (by omega) (some ⟨z, 0, none⟩) M (z + 1) (by omega) W hzW (hl.below B3) hsl
   have C2 := fun W' (hW : Below (z + 1) W W') => rcheck_no root key xs hzs (by omega) (some ⟨z, 0, none⟩) M (z + 1) W' (Nat.le_trans hzW hW.size) (slS_below hW hsl)
   rw [chk_zs hzs] at C1
   dsimp only at C1
   rw [hlen] at C1 C2
   obtain ⟨f, hf⟩ : ∃ f, chZ root key xs = f := ⟨_, rfl⟩
   rw [hf] at C1 C2
   clear hf hz hxs hsl hzs hlen F2
   refine Calls.mono C1 ?_
   rintro e w2 ⟨rfl, B4⟩
   have B5 := B4.mono hzW
   replace B3 := belowStep B3 (by omega) B4
   go_wp2_with fail
   refine Calls.mono (C2 _ B5) ?_
   rintro e w3 ⟨rfl, B6⟩
   replace B3 := belowStep B3 B3.size B6
   go_wp2
   go_ret
   exact ⟨by simp, B3⟩
end Go.Proofs.YtbmapdkcccdmfaaDoor
