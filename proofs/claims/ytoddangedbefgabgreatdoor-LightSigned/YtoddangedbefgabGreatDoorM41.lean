/- Lemmas: What the reference's Keys and Text, and the law's ones do. No condition but on sizes. What the package's isSigned does: the signature of a message, of the committee that must sign. No condition. What the package's Check does: what is wrong with a message, the first that is. No condition but on sizes that no machine has. -/
import Derived.Test.YtoddangedbefgabGreatDoorM40
set_option maxRecDepth 20000
set_option maxHeartbeats 8000000
namespace Go.Proofs.YtoddangedbefgabGreatDoor
open Go.RowKit Go.Shelf Go.Sort
theorem owns_txK {W : World} {z n : Nat} {v : Value} {xs : List ByteArray} (h : W.ownsRow z 9 1 v n (xs.map .string)) : ∃ a c, v = .slice a n c ∧ txS xs a W := by
 rcases h.2 with ⟨h1, h2⟩ | ⟨g, c, cur, h1, _⟩
 ·subst h1
  have h0 := h.1
  refine ⟨none, 0, by rw [h2], .inl ?_⟩
  rw [List.length_map, h2] at h0
  exact List.length_eq_zero_iff.1 (by omega)
 ·refine ⟨_, c, h1, ?_⟩
  have hg : v.ownBlock = some g := by rw [h1]; rfl
  refine .inr ⟨g, 0, rfl, (h.lt g hg).2, fun j x hx => ?_⟩
  have := h.cells hg j (.string x) (by rw [List.getElem?_map, hx]; rfl)
  rw [Addr.add_mid] at this
  exact this
def rkL (ks : List ByteArray) (b q : Nat) : List ByteArray := kyS ks ((sgL b q).filter fun i => decide (i < ks.length))
theorem rkL_succ (ks : List ByteArray) (b q : Nat) (h : q < ks.length) : rkL ks b (q + 1) = if sgB b q = true then rkL ks b q ++ [ks.getD q ⟨#[]⟩] else rkL ks b q := by
 unfold rkL
 rw [jfy]
 cases hg : sgB b q with
 | true => simp [List.filter_append, h, kyS]
 | false => simp
theorem rkL_stop (ks : List ByteArray) (b q : Nat) (h : ks.length ≤ q) (j : Nat) : rkL ks b (q + j) = rkL ks b q := by
 induction j with
 | zero => rfl
 | succ j ih =>
  rw [← ih]
  show kyS ks ((sgL b (q + j + 1)).filter _) = kyS ks _
  rw [jfy]
  split
  ·rw [List.filter_append]
   have : ¬ q + j < ks.length := by omega
   simp [this]
  ·rfl
theorem rkL_len (ks : List ByteArray) (b q : Nat) : (rkL ks b q).length ≤ q := by
 unfold rkL
 rw [jgw]
 exact Nat.le_trans (List.length_filter_le _ _) (sgL_len b q)
theorem rkeys_any (c : CmD) (qc : Pl) (b : Nat) (hb : b < 18446744073709551616) (n : Nat) (w : World) (hn : n ≤ w.heap.size) (hp : slS n w qc.a c.ks) :
  Calls Tryz.prog 12 #[.agg (cmV c qc).toArray, .int .u64 (b : Int)] w fun e w' => (∃ a cp, e = .returned (.slice a (rkL c.ks b 16).length cp) ∧ txS (rkL c.ks b 16) a w') ∧ Below w.heap.size w w' := by
 obtain ⟨i0, hi0, hz0, hz1, hz2⟩ := info_parts info_strI
 obtain ⟨LC, hLC⟩ : ∃ L, (cmV c qc).toArray = L := ⟨_, rfl⟩
 obtain ⟨N, hN⟩ : ∃ N, c.ks.length = N := ⟨_, rfl⟩
 have HN : Hid (c.ks.length = N) := hN
 have h0 : LC[0]? = some (.slice qc.a N qc.c) := by rw [← hLC, ← hN]; rfl
 rw [hLC]
 clear hLC hN
 obtain ⟨B1, hx, hs⟩ := box1 w (.cells LC 31)
 obtain ⟨z, hzz⟩ : ∃ z, w.heap.size = z := ⟨_, rfl⟩
 have HZ : Hid (w.heap.size = z) := hzz
 rw [hzz] at B1 hx hs hn
 have P0 : Bq z 31 LC (w.alloc (.cells LC 31)) := hx
 clear hx
 go_enter Tryz.func12, Tryz.ntmps12
 go_wp2_with fail
 go_loopg [5, 6] 16 (fun gk v i wr => ∃ k : Nat, k + gk = 16 ∧ i = .int .i64 k ∧ Below z w wr ∧ z + 1 ≤ wr.heap.size ∧ Bq z 31 LC wr ∧ wr.ownsRow (z + 1) 9 1 v (rkL c.ks b k).length ((rkL c.ks b k).map .string))
 case atStart => exact ⟨0, by omega, rfl, B1, by omega, P0, World.ownsRow_nil _ _ _ _⟩
 case round =>
  clear B1 P0 hs hzz
  obtain ⟨k, hk, rfl, BW, hzw, hC, hown⟩ := hrel
  have hr3 : ∀ b, u5.ownBlock = some b → z + 1 ≤ b := fun b hb => (hown.lt b hb).1
  have c0 : wr.cell? ⟨z, 0, none⟩ = some (.slice qc.a N qc.c) := (hC.cell 0).trans h0
  have hle := rkL_len c.ks b k
  have hsu := rkL_succ c.ks b k
  obtain ⟨RK, hRK⟩ : ∃ r, rkL c.ks b k = r := ⟨_, rfl⟩
  obtain ⟨q, hq⟩ : ∃ q, RK.length = q := ⟨_, rfl⟩
  rw [hRK, hq] at hle hown
  rw [hRK] at hsu
  have HC : Hid (_ ∧ _ ∧ _) := ⟨hRK, hq, hsu⟩
  clear hRK hq hsu
  by_cases hlt : k < N
  ·have l0 : (k : Int) < N := by omega
   by_cases h16 : k < 16
   ·have l1 : (k : Int) < 16 := by omega
    have wk : IntKind.i64.wrap ((k : Int) + 1) = ((k + 1 : Nat) : Int) := by rw [IntKind.wrap_i64]; omega
    have hdv : (b : Int) / 2 ^ k = ((b / 2 ^ k : Nat) : Int) := by rw [Int.natCast_ediv, Int.natCast_pow]; rfl
    have hbd : b / 2 ^ k < 18446744073709551616 := Nat.lt_of_le_of_lt (Nat.div_le_self _ _) hb
    have han : bits .and .u64 ((b : Int) / 2 ^ k) 1 = ((b / 2 ^ k % 2 : Nat) : Int) := by rw [hdv]; exact jgj _ hbd
    have hsg : sgB b k = decide (b / 2 ^ k % 2 = 1) := rfl
    obtain ⟨d, hd⟩ : ∃ d, b / 2 ^ k % 2 = d := ⟨_, rfl⟩
    rw [hd] at hsg han
    have HSG : Hid _ := hsg
    have hd2 : d < 2 := by omega
    clear hdv hbd hsg hd
    by_cases h1 : d = 1
    ·subst h1
     replace han : bits .and .u64 ((b : Int) / 2 ^ k) 1 = 1 := han
     obtain ⟨x, hxk⟩ : ∃ f, c.ks[k]? = some f := ⟨c.ks[k]'(by have := HN.out; omega), List.getElem?_eq_getElem (by have := HN.out; omega)⟩
     obtain ⟨bb, o, hqa, hbn, ck⟩ := jci hp k x hxk
     replace ck := (BW.cell (p := ⟨bb, _, none⟩) (by show bb < z; omega)).trans ck
     rw [hqa] at c0
     have hG : c.ks.getD k ⟨#[]⟩ = x := by rw [List.getD_eq_getElem?_getD, hxk]; rfl
     obtain ⟨r, hr⟩ : ∃ p, o + k = p := ⟨_, rfl⟩
     rw [hr] at ck
     have A1 : Below wr.heap.size wr (wr.alloc (.cells #[.string x] 9)) := (Below.refl _ wr).alloc (Nat.le_refl _) _
     have hown2 := jax hown A1
     have hC2 := hC.below A1
     have BW2 := jaa BW (by omega) A1
     have HV : Hid (_ ∧ _ ∧ _ ∧ _ ∧ _) := ⟨hown2, hC2, BW2, hzw, hG⟩
     clear hown2 hC2 BW2 hzw hown hC BW A1 hxk hp hqa hG h0
     go_wp2_with (at_builtin; refine wpList_append_own _ rfl _ _ 27 rfl (z + 1) 9 i0 (.string ⟨#[]⟩) 1 16 Tryz.underlying27 hi0 hz0 hz1 hz2 rfl (by decide) _ _ _ rfl HV.out.1 ⟨wr.heap.size, 0, none⟩ 1 1 [.string x] rfl rfl (jcg _ _ _) (by intro u hu; simp at hu; subst hu; rfl) (by unfold maxLen; omega) (by omega) (by have := HV.out.2.2.2.1; simp; omega) ?_)
     intro v' w6 a2 a3 a4
     have HW : Hid (_ ∧ _) := ⟨a2, a3⟩
     clear a2 a3 a4
     go_wp2
     go_roundg (gk - 1)
     case measure => omega
     case rel =>
      obtain ⟨a2, a3⟩ := HW.out
      obtain ⟨_, hC2, BW2, hzw, hG⟩ := HV.out
      have e1 : rkL c.ks b (k + 1) = RK ++ [x] := by rw [HC.out.2.2 (by have := HN.out; omega), HSG.out, if_pos (by rfl), hG]
      refine ⟨k + 1, by omega, by first | rfl | (congr 1; omega), BW2.grown a3 (by simp; omega) (fun q e => by have := hr3 q e; omega), Nat.le_trans hzw (Nat.le_trans (by simp) a3.size), (a3.block z (by simp; omega) (fun e => by have := hr3 _ e.symm; omega)).trans hC2, ?_⟩
      rw [e1, List.length_append, HC.out.2.1, List.map_append]
      exact a2
    ·obtain rfl : d = 0 := by omega
     replace han : bits .and .u64 ((b : Int) / 2 ^ k) 1 = 0 := han
     have HV : Hid (_ ∧ _ ∧ _ ∧ _) := ⟨hown, hC, BW, hzw⟩
     clear hown hC BW hzw
     go_wp2
     go_roundg (gk - 1)
     case measure => omega
     case rel =>
      obtain ⟨hown, hC, BW, hzw⟩ := HV.out
      have e1 : rkL c.ks b (k + 1) = RK := by rw [HC.out.2.2 (by have := HN.out; omega), HSG.out, if_neg (by decide)]
      refine ⟨k + 1, by omega, by first | rfl | (congr 1; omega), BW, hzw, hC, ?_⟩
      rw [e1, HC.out.2.1]
      exact hown
   ·have l1 : ¬ (k : Int) < 16 := by omega
    obtain rfl : k = 16 := by omega
    have HV : Hid (_ ∧ _) := ⟨hown, BW⟩
    clear hown hC BW hzw
    go_wp2
    go_ret
    obtain ⟨hown, BW⟩ := HV.out
    rw [HC.out.1, HC.out.2.1, HZ.out]
    rw [← HC.out.2.1] at hown
    obtain ⟨a, cp, e, ht⟩ := owns_txK hown
    exact ⟨⟨a, ⟨cp, by simp [e, HC.out.2.1]⟩, ht⟩, BW⟩
  ·have l0 : ¬ (k : Int) < N := by omega
   have HV : Hid (_ ∧ _) := ⟨hown, BW⟩
   clear hown hC BW hzw
   go_wp2
   go_ret
   obtain ⟨hown, BW⟩ := HV.out
   have e1 : rkL c.ks b 16 = RK := by
    have := rkL_stop c.ks b k (by have := HN.out; omega) (16 - k)
    rw [show k + (16 - k) = 16 by omega] at this
    exact this.trans HC.out.1
   rw [e1, HC.out.2.1, HZ.out]
   rw [← HC.out.2.1] at hown
   obtain ⟨a, cp, e, ht⟩ := owns_txK hown
   exact ⟨⟨a, ⟨cp, by simp [e, HC.out.2.1]⟩, ht⟩, BW⟩
theorem lones_any (b : Nat) (hb : b < 18446744073709551616) (w : World) : Calls Tryz.prog 16 #[.int .u64 (b : Int)] w fun x w' => x = .returned (.int .i64 ((sgN b : Nat) : Int)) ∧ Below w.heap.size w w' := by
 go_enter Tryz.func16, Tryz.ntmps16
 have B0 : Below w.heap.size w w := Below.refl _ _
 go_wp2_with fail
 go_loopg [3, 4] 16 (fun gk v i wr => ∃ k : Nat, k + gk = 16 ∧ i = .int .i64 k ∧ v = .int .i64 (((sgL b k).length : Nat) : Int) ∧ Below w.heap.size w wr)
 case atStart => exact ⟨0, by omega, rfl, rfl, B0⟩
 case round =>
  clear B0
  obtain ⟨k, hk, rfl, rfl, BW⟩ := hrel
  have hle := sgL_len b k
  have hsu := jfy b k
  obtain ⟨c, hc⟩ : ∃ c, (sgL b k).length = c := ⟨_, rfl⟩
  have HC : Hid ((sgL b k).length = c ∧ sgL b (k + 1) = if sgB b k = true then sgL b k ++ [k] else sgL b k) := ⟨hc, hsu⟩
  rw [hc] at hle ⊢
  clear hc hsu
  by_cases hlt : k < 16
  ·have l0 : (k : Int) < 16 := by omega
   have wk : IntKind.i64.wrap ((k : Int) + 1) = ((k + 1 : Nat) : Int) := by rw [IntKind.wrap_i64]; omega
   have hdv : (b : Int) / 2 ^ k = ((b / 2 ^ k : Nat) : Int) := by rw [Int.natCast_ediv, Int.natCast_pow]; rfl
   have hbd : b / 2 ^ k < 18446744073709551616 := Nat.lt_of_le_of_lt (Nat.div_le_self _ _) hb
   have han : bits .and .u64 ((b : Int) / 2 ^ k) 1 = ((b / 2 ^ k % 2 : Nat) : Int) := by rw [hdv]; exact jgj _ hbd
   have hsg : sgB b k = decide (b / 2 ^ k % 2 = 1) := rfl
   obtain ⟨d, hd⟩ : ∃ d, b / 2 ^ k % 2 = d := ⟨_, rfl⟩
   rw [hd] at hsg han
   have HSG : Hid _ := hsg
   have hd2 : d < 2 := by omega
   have wd : IntKind.i64.wrap (d : Int) = (d : Int) := by rw [IntKind.wrap_i64]; omega
   have wc : IntKind.i64.wrap ((c : Int) + (d : Int)) = ((c + d : Nat) : Int) := by rw [IntKind.wrap_i64]; omega
   clear hdv hbd hsg hd
   go_wp2
   go_roundg (gk - 1)
   case measure => omega
   case rel =>
    refine ⟨k + 1, by omega, by first | rfl | (congr 1; omega), ?_, BW⟩
    rw [HC.out.2, HSG.out]
    by_cases h1 : d = 1
    ·subst h1
     rw [if_pos (by rfl), List.length_append, HC.out.1]
     rfl
    ·obtain rfl : d = 0 := by omega
     rw [if_neg (by decide), HC.out.1]
     rfl
  ·have l1 : ¬ (k : Int) < 16 := by omega
   obtain rfl : k = 16 := by omega
   have HB : Hid _ := BW
   clear BW
   go_wp2
   go_ret
   exact ⟨by simp [sgN, HC.out.1], HB.out⟩
theorem hrV_32 (l : LtD) : (hrV l).size ≤ 32 := by
 show (rtS _ 3).size ≤ 32
 unfold rtS
 split
 ·rename_i h
  rw [jgv _ (fun i => jfb _ ((jfm _ _).1 h).2.2.2.2 i)]
  exact Nat.le_refl _
 ·show 0 ≤ 32
  omega
theorem rtext_any (l : LtD) (slot : Nat) (h0 : 0 < slot) (h6 : U6 slot) (w : World) :
  Calls Tryz.prog 14 #[.agg (hdV l).toArray, .int .u64 (slot : Int)] w fun e w' => e = .returned (.string (txV (hrV l) slot)) ∧ Below w.heap.size w w' := by
 have hb : slot < 18446744073709551616 := h6
 have hr : (hrV l).size ≤ 32 := hrV_32 l
 have KH := fun w : World => rhrootL_any l w
 have KN := fun w : World => jed ((fkN slot : Nat) : Int) w
 have nsz : (jbh ((fkN slot : Nat) : Int)).size ≤ 50000 := by rw [jgm]; omega
 have KS := fun w : World => jfz (hrV l ++ jbh ((fkN slot : Nat) : Int)) (by rw [ByteArray.size_append]; omega) w
 unfold txV
 obtain ⟨T, hT⟩ : ∃ t, jco (hrV l ++ jbh ((fkN slot : Nat) : Int)) = t := ⟨_, rfl⟩
 rw [hT] at KS ⊢
 obtain ⟨H, hH⟩ : ∃ t, hrV l = t := ⟨_, rfl⟩
 rw [hH] at KH KS hr
 obtain ⟨E, hE⟩ : ∃ t, rtE (hdC l.s l.u l.p l.t l.b) 3 = t := ⟨_, rfl⟩
 rw [hE] at KH
 obtain ⟨N, hN⟩ : ∃ t, jbh ((fkN slot : Nat) : Int) = t := ⟨_, rfl⟩
 rw [hN] at KN KS nsz
 obtain ⟨m, hm⟩ : ∃ m, slot - 1 = m := ⟨_, rfl⟩
 obtain ⟨k, hk⟩ : ∃ k, m / 128 = k := ⟨_, rfl⟩
 have hf : ((fkN slot : Nat) : Int) = 7 + min (k : Int) 2 := by unfold fkN; rw [hm, hk]; omega
 rw [hf] at KN
 have w1 : IntKind.u64.wrap ((slot : Int) - 1) = (m : Int) := by rw [IntKind.wrap_u64]; omega
 have w2 : (m : Int) / 128 = (k : Int) := by omega
 have w2' : (m : Int).tdiv 128 = (k : Int) := by rw [Int.tdiv_eq_ediv_of_nonneg (by omega)]; omega
 have kb : k < 18446744073709551000 := by omega
 have w3 : IntKind.u64.wrap (k : Int) = (k : Int) := by rw [IntKind.wrap_u64]; omega
 obtain ⟨f, hfm⟩ : ∃ f, min (k : Int) 2 = f := ⟨_, rfl⟩
 have f3 : 0 ≤ f ∧ f < 3 := by omega
 rw [hfm] at KN
 have w4 : IntKind.u64.wrap (7 + f) = 7 + f := by rw [IntKind.wrap_u64]; omega
 have w5 : IntKind.u64.wrap f = f := by rw [IntKind.wrap_u64]; omega
 have l0 : (0 : Int) < slot := by omega
 have nov : ¬ 9223372036854775807 < H.size + N.size := by omega
 have h5 : (hdV l).length = 5 := rfl
 obtain ⟨LH, hLH⟩ : ∃ L, hdV l = L := ⟨_, rfl⟩
 rw [hLH] at KH h5 ⊢
 have H5 : Hid _ := h5
 clear hT hN hm hk hf hLH h5 hH hE
 obtain ⟨B1, hx, hs⟩ := box1 w (.cells LH.toArray 24)
 have R1 := jal (show Bq w.heap.size 24 LH.toArray _ from hx)
 go_enter Tryz.func14, Tryz.ntmps14
 go_wp2_with (first | (refine wpList_load_mid rfl 24 _ rfl w.heap.size 0 rfl _ _ R1 Tryz.underlying24 rfl (by rw [H5.out]; kernel_rfl) ?_))
 refine (KH _).mono ?_
 rintro e W ⟨rfl, B2⟩
 have BX := jaa B1 B1.size B2
 have HB : Hid _ := BX
 clear B1 B2 hx hs R1 KH BX
 go_wp2_with fail
 refine (KN _).mono ?_
 rintro e W2 ⟨rfl, B3⟩
 have HB2 : Hid _ := jaa HB.out HB.out.size B3
 clear B3 KN HB
 go_wp2_with fail
 refine (KS _).mono ?_
 rintro e W3 ⟨rfl, B4⟩
 have HB3 : Hid _ := jaa HB2.out HB2.out.size B4
 clear B4 KS HB2
 go_wp2
 go_ret
 exact ⟨by simp, HB3.out⟩
def mbC (s : StD) (d : UpD) : CmD := if d.slot / 64 = s.fin.s / 64 then s.now else s.nxt
def sgS (s : StD) (d : UpD) : Bool := alB (kyS (mbC s d).ks (sgL d.bits 16)) (txV (hrV d.l) d.slot) d.sig
def mbP (s : StD) (d : UpD) (p : StP) : Pl := if d.slot / 64 = s.fin.s / 64 then p.now else p.nxt
theorem upV_h (d : UpD) (q : UpP) (j : Nat) (v : Value) (h : (hdV d.l)[j]? = some v) : (upV d q)[0 + j]? = some v := jcp (A := []) (B := hdV d.l) (C := [Value.string d.l.ea, .string d.l.ra, .int .u64 (d.l.m : Int), .slice q.l.a d.l.br.length q.l.c] ++ cmV d.c q.c ++ [slV d.nb q.nb] ++ ltV d.f q.f ++ [slV d.fb q.fb, .int .u64 (d.bits : Int), .string d.sig, .int .u64 (d.slot : Int)]) j v h
theorem tx_below {l : List ByteArray} {a : Option Addr} {W W' : World} (h : txS l a W) (hb : Below W.heap.size W W') : txS l a W' := by
 rcases h with h | ⟨B, o, e, hB, hc⟩
 ·exact .inl h
 ·exact .inr ⟨B, o, e, Nat.lt_of_lt_of_le hB hb.size, fun j x hx => (hb.cell (p := ⟨B, o + j, none⟩) hB).trans (hc j x hx)⟩
structure MuS (V1 : World) (z x y sl : Nat) (XF XC XD : List Value) (LM : Array Value) (bb : Bool) (S : Nat → Bool) (x7 x15 x16 x17 x18 x19 x20 x21 x22 x23 x24 x25 x26 : Value) (W : World) : Prop where
 e : Below V1.heap.size V1 W
 f0 : S 0 = true → x15 = .pointer (some ⟨z + 1, 24, none⟩)
 f1 : S 1 = true → x16 = .int .u64 (sl : Int)
 f2 : S 2 = true → x17 = .int .u64 (x : Int)
 f3 : S 3 = true → x18 = .pointer (some ⟨z, 0, none⟩)
 f4 : S 4 = true → x19 = .agg XF.toArray
 f5 : S 5 = true → x20 = .int .u64 (y : Int)
 f6 : S 6 = true → x21 = .bool bb
 f7 : S 7 = true → x22 = .pointer (some ⟨z, 18, none⟩)
 f8 : S 8 = true → x23 = .agg XC.toArray
 f9 : S 9 = true → x24 = .pointer (some ⟨z, 20, none⟩)
 f10 : S 10 = true → x25 = .agg XD.toArray
 f11 : S 11 = true → x26 = .agg LM
 f12 : S 12 = true → ∃ b, x7 = .pointer (some ⟨b, 0, none⟩) ∧ V1.heap.size ≤ b ∧ Bq b 31 #[.slice none 0 0, .string ⟨#[]⟩] W
theorem MuS.grow {V1 : World} {z x y sl : Nat} {XF XC XD : List Value} {LM : Array Value} {bb : Bool} {S : Nat → Bool} {x7 x15 x16 x17 x18 x19 x20 x21 x22 x23 x24 x25 x26 : Value} {W W' : World} (h : MuS V1 z x y sl XF XC XD LM bb S x7 x15 x16 x17 x18 x19 x20 x21 x22 x23 x24 x25 x26 W) (hb : Below W.heap.size W W') : MuS V1 z x y sl XF XC XD LM bb S x7 x15 x16 x17 x18 x19 x20 x21 x22 x23 x24 x25 x26 W' :=
 ⟨jaa h.e h.e.size hb, h.f0, h.f1, h.f2, h.f3, h.f4, h.f5, h.f6, h.f7, h.f8, h.f9, h.f10, h.f11, fun s => (let ⟨b, e, hz, t⟩ := (h.f12 s); ⟨b, e, hz, t.below hb⟩)⟩
structure MuT (V3 : World) (z sl b : Nat) (LM : Array Value) (LU : List Value) (ky : List ByteArray) (hr0 tx sig : ByteArray) (ans : Bool) (S : Nat → Bool) (x4 x27 x28 x29 x30 x31 x32 x33 x34 x35 x36 : Value) (W : World) : Prop where
 e : Below V3.heap.size V3 W
 f0 : S 0 = true → x27 = .agg LM
 f1 : S 1 = true → x28 = .agg LU.toArray
 f2 : S 2 = true → ∃ (a : Option Addr) (c : Nat), x29 = .slice a ky.length c ∧ txS ky a W
 f3 : S 3 = true → x30 = .string hr0
 f4 : S 4 = true → x31 = .pointer (some ⟨z + 1, 24, none⟩)
 f5 : S 5 = true → x32 = .int .u64 (sl : Int)
 f6 : S 6 = true → x33 = .string tx
 f7 : S 7 = true → x34 = .pointer (some ⟨z + 1, 23, none⟩)
 f8 : S 8 = true → x35 = .string sig
 f9 : S 9 = true → x36 = .bool ans
 f10 : S 10 = true → x4 = .bool ans
theorem MuT.grow {V3 : World} {z sl b : Nat} {LM : Array Value} {LU : List Value} {ky : List ByteArray} {hr0 tx sig : ByteArray} {ans : Bool} {S : Nat → Bool} {x4 x27 x28 x29 x30 x31 x32 x33 x34 x35 x36 : Value} {W W' : World} (h : MuT V3 z sl b LM LU ky hr0 tx sig ans S x4 x27 x28 x29 x30 x31 x32 x33 x34 x35 x36 W) (hb : Below W.heap.size W W') : MuT V3 z sl b LM LU ky hr0 tx sig ans S x4 x27 x28 x29 x30 x31 x32 x33 x34 x35 x36 W' :=
 ⟨jaa h.e h.e.size hb, h.f0, h.f1, fun s => (let ⟨a, c, e, g⟩ := (h.f2 s); ⟨a, c, e, tx_below g hb⟩), h.f3, h.f4, h.f5, h.f6, h.f7, h.f8, h.f9, h.f10⟩
theorem isSigned_any (s : StD) (hs0 : s.ok) (d : UpD) (hd : d.ok) (p : StP) (q : UpP) (h0 : 0 < d.slot) (hr : (hrV d.l).size ≤ 1000000) (n : Nat) (w : World) (hL : Ls w) (hn : n ≤ w.heap.size) (hp : stIn n w s p) :
  Calls Tryz.prog 49 #[.agg (stV s p).toArray, .agg (upV d q).toArray] w fun x w' => x = .returned (.bool (sgS s d)) ∧ Below w.heap.size w w' := by
 have KR := fun (W : World) (hB : Below w.heap.size w W) => hrootL_any d.l W (hL.s.below hB)
 have KP := jdx d.slot hd.2.2.2
 have KF := jcj s.fin hs0.1.1 p.fin
 have KC := fun c => pickCm_any c (cmV s.now p.now).toArray (cmV s.nxt p.nxt).toArray rfl rfl (jba (jcc _ _)) (jba (jcc _ _))
 have hm : slS n w (mbP s d p).a (mbC s d).ks := by
  unfold mbP mbC
  split
  ·exact hp.2.2.1
  ·exact hp.2.2.2.1
 have em : cmV (mbC s d) (mbP s d p) = if d.slot / 64 = s.fin.s / 64 then cmV s.now p.now else cmV s.nxt p.nxt := by
  unfold mbP mbC
  split <;> rfl
 have KK := fun (W : World) (hB : Below w.heap.size w W) (hsz : w.heap.size ≤ W.heap.size) => keys_any (mbC s d) (mbP s d p) d hd q n W (Nat.le_trans hn hsz) (jan (hB.mono hn) hm)
 have KT := fun (W : World) (hB : Below w.heap.size w W) => text_any (hrV d.l) hr d.slot h0 hd.2.2.2 W (hL.s.below hB)
 have hkl : (kyS (mbC s d).ks (sgL d.bits 16)).length ≤ 1000 := by rw [jgw]; have := sgL_len d.bits 16; omega
 have hts : (txV (hrV d.l) d.slot).size ≤ 10000 := by unfold txV; rw [jex]; omega
 have KA := fun (a : Option Addr) (c : Nat) (W : World) (hB : Below w.heap.size w W) (h : txS (kyS (mbC s d).ks (sgL d.bits 16)) a W) => all_any (kyS (mbC s d).ks (sgL d.bits 16)) hkl (txV (hrV d.l) d.slot) d.sig hts a c W h (hL.below hB)
 have a0 := jek s p
 have a2 := stV_now s p
 have a3 := jfk s p
 have uh := upV_h d q
 have u24 : (upV d q)[24]? = some (.int .u64 (d.slot : Int)) := rfl
 have u23 : (upV d q)[23]? = some (.string d.sig) := rfl
 have HLn : Hid ((stV s p).length = 51 ∧ (ltV s.fin p.fin).length = 9 ∧ (cmV s.now p.now).length = 2 ∧ (cmV s.nxt p.nxt).length = 2 ∧ (upV d q).length = 25 ∧ (hdV d.l).length = 5) := show _ from ⟨rfl, rfl, rfl, rfl, rfl, rfl⟩
 unfold sgS
 obtain ⟨tx, htx⟩ : ∃ t, txV (hrV d.l) d.slot = t := ⟨_, rfl⟩
 rw [htx] at KT KA ⊢
 obtain ⟨hr0, hhr⟩ : ∃ t, hrV d.l = t := ⟨_, rfl⟩
 rw [hhr] at KR KT
 obtain ⟨re, hre⟩ : ∃ x, rtE (hdC (d.l.s : Int) (d.l.u : Int) d.l.p d.l.t d.l.b) 3 = x := ⟨_, rfl⟩
 rw [hre] at KR
 obtain ⟨ky, hky⟩ : ∃ t, kyS (mbC s d).ks (sgL d.bits 16) = t := ⟨_, rfl⟩
 rw [hky] at KK KA ⊢
 obtain ⟨ans, hans⟩ : ∃ t, alB ky tx d.sig = t := ⟨_, rfl⟩
 rw [hans] at KA ⊢
 obtain ⟨sig, hsig⟩ : ∃ t, d.sig = t := ⟨_, rfl⟩
 rw [hsig] at KA u23
 obtain ⟨x, hx0⟩ : ∃ n, d.slot / 64 = n := ⟨_, rfl⟩
 obtain ⟨y, hy0⟩ : ∃ n, s.fin.s / 64 = n := ⟨_, rfl⟩
 rw [hx0] at KP em
 rw [hy0] at KF em
 obtain ⟨sl, hsl⟩ : ∃ n, d.slot = n := ⟨_, rfl⟩
 rw [hsl] at KP KT u24
 obtain ⟨bb, hbb⟩ : ∃ b, ((x : Int) == (y : Int)) = b := ⟨_, rfl⟩
 have KCn := KC bb
 have em2 : (if bb = true then (cmV s.now p.now).toArray else (cmV s.nxt p.nxt).toArray) = (cmV (mbC s d) (mbP s d p)).toArray := by
  rw [em, ← hbb, beqN]
  by_cases h : x = y
  ·rw [if_pos h, decide_eq_true h]; rfl
  ·rw [if_neg h, decide_eq_false h]; rfl
 rw [em2] at KCn
 obtain ⟨LM, hLM⟩ : ∃ L, (cmV (mbC s d) (mbP s d p)).toArray = L := ⟨_, rfl⟩
 have hM : Hid (LM.size = 2) := show _ by rw [← hLM]; rfl
 have hMo : Hid (LM.all (·.oneCell') = true) := show _ by rw [← hLM]; exact jba (jcc _ _)
 rw [hLM] at KCn KK
 obtain ⟨LS, hLS⟩ : ∃ L, stV s p = L := ⟨_, rfl⟩
 obtain ⟨LU, hLU⟩ : ∃ L, upV d q = L := ⟨_, rfl⟩
 obtain ⟨XF, hXF⟩ : ∃ L, ltV s.fin p.fin = L := ⟨_, rfl⟩
 obtain ⟨XC, hXC⟩ : ∃ L, cmV s.now p.now = L := ⟨_, rfl⟩
 obtain ⟨XD, hXD⟩ : ∃ L, cmV s.nxt p.nxt = L := ⟨_, rfl⟩
 obtain ⟨XH, hXH⟩ : ∃ L, hdV d.l = L := ⟨_, rfl⟩
 rw [hLS] at a0 a2 a3 HLn ⊢
 rw [hLU] at uh u24 u23 HLn KK ⊢
 rw [hXF] at a0 KF HLn
 rw [hXC] at a2 KCn HLn
 rw [hXD] at a3 KCn HLn
 rw [hXH] at uh KR HLn
 clear KC em em2 hLM hLS hLU hXF hXC hXD hXH htx hhr hre hky hans hsig hx0 hy0 hsl hm hts hkl hL hp hn hr hs0 hd h0
 obtain ⟨B1, xS, xU, hs⟩ := box2 w (.cells LS.toArray 38) (.cells LU.toArray 33)
 obtain ⟨z, hz⟩ : ∃ z, w.heap.size = z := ⟨_, rfl⟩
 have HZ : Hid (w.heap.size = z) := hz
 rw [hz] at B1 xS xU hs KR KK KT KA
 have RH := jac xU 0 XH uh
 go_enter Tryz.func49, Tryz.ntmps49
 go_wp2_with (first | (refine wpList_load_mid rfl 24 _ rfl (z + 1) 0 rfl _ _ RH Tryz.underlying24 rfl (by rw [HLn.out.2.2.2.2.2]; kernel_rfl) ?_) | (refine jab (by rfl) 24 _ rfl (z + 1) 0 rfl _ _ RH Tryz.underlying24 rfl (by rw [HLn.out.2.2.2.2.2]; kernel_rfl) ?_))
 refine (KR _ B1).mono ?_
 rintro e V1 ⟨rfl, C⟩
 have xS1 : Bq z 38 LS.toArray V1 := (C.block z (by omega)).trans xS
 have xU1 : Bq (z + 1) 33 LU.toArray V1 := (C.block (z + 1) (by omega)).trans xU
 have BV1 := jaa B1 (by omega) C
 have s1 : z + 2 ≤ V1.heap.size := by have := C.size; omega
 clear C KR RH xS xU hs B1 hz
 have RF := jac xS1 0 XF a0
 have RC := jac xS1 18 XC a2
 have RD := jac xS1 20 XD a3
 have k24 := jaf xU1 24 _ u24
 have hzV : z < V1.heap.size := by omega
 have hyV : z + 1 < V1.heap.size := by omega
 have HX : Hid (_ ∧ _ ∧ _ ∧ _) := ⟨xS1, xU1, BV1, s1⟩
 clear xS1 xU1 BV1 s1
 go_wp2_with fail
 refine jaw 13 (fun S aa W => ∃ x7 x15 x16 x17 x18 x19 x20 x21 x22 x23 x24 x25 x26 : Value, aa = { tmps := #[Value.agg LS.toArray, Value.agg LU.toArray, Value.pointer (some { block := z, off := 0 }), Value.pointer (some { block := z + 1, off := 0 }), Value.bool false, Value.string hr0, Value.int IntKind.i64 re, x7, Value.tuple #[Value.string hr0, Value.int IntKind.i64 re], Value.pointer (some { block := z + 1, off := 0 }), Value.pointer (some { block := z + 1, off := 0 }), Value.agg XH.toArray, Value.tuple #[Value.string hr0, Value.int IntKind.i64 re], Value.string hr0, Value.int IntKind.i64 re, x15, x16, x17, x18, x19, x20, x21, x22, x23, x24, x25, x26, undef, undef, undef, undef, undef, undef, undef, undef, undef, undef], defers := [] } ∧ MuS V1 z x y sl XF XC XD LM bb S x7 x15 x16 x17 x18 x19 x20 x21 x22 x23 x24 x25 x26 W) (by kernel_rfl) (by kernel_rfl) ?_ ?_ ?_
 ·exact ⟨undef, undef, undef, undef, undef, undef, undef, undef, undef, undef, undef, undef, undef, rfl, ⟨(Below.refl _ V1).drew, nofun, nofun, nofun, nofun, nofun, nofun, nofun, nofun, nofun, nofun, nofun, nofun, nofun⟩⟩
 ·intro i o S aa W hin hi hun hJ hall K hK
  obtain ⟨x7, x15, x16, x17, x18, x19, x20, x21, x22, x23, x24, x25, x26, rfl, h⟩ := hJ
  have hlt : i < 13 := hin
  have hcase : i = 0 ∨ i = 1 ∨ i = 2 ∨ i = 3 ∨ i = 4 ∨ i = 5 ∨ i = 6 ∨ i = 7 ∨ i = 8 ∨ i = 9 ∨ i = 10 ∨ i = 11 ∨ i = 12 := by omega
  rcases hcase with rfl | rfl | rfl | rfl | rfl | rfl | rfl | rfl | rfl | rfl | rfl | rfl | rfl
  all_goals (have ho := (Option.some.inj hi).symm; subst ho; clear hi hlt hin)
  ·go_simp
   exact hK _ _ ⟨_, _, _, _, _, _, _, _, _, _, _, _, _, rfl, { h with f0 := fun _ => rfl }⟩
  ·have s_0 : S 0 = true := hall ⟨0, .data⟩ (by simp) rfl
   obtain rfl := h.f0 s_0
   have cW := (h.e.cell (p := ⟨z + 1, 24, none⟩) hyV).trans k24
   go_simp
   exact hK _ _ ⟨_, _, _, _, _, _, _, _, _, _, _, _, _, rfl, { h with f1 := fun _ => rfl }⟩
  ·have s_1 : S 1 = true := hall ⟨1, .data⟩ (by simp) rfl
   obtain rfl := h.f1 s_1
   go_simp
   refine (KP W).mono ?_
   rintro e w5 ⟨rfl, hb5⟩
   have h1 := h.grow hb5
   exact hK _ _ ⟨_, _, _, _, _, _, _, _, _, _, _, _, _, rfl, { h1 with f2 := fun _ => rfl }⟩
  ·go_simp
   exact hK _ _ ⟨_, _, _, _, _, _, _, _, _, _, _, _, _, rfl, { h with f3 := fun _ => rfl }⟩
  ·have s_3 : S 3 = true := hall ⟨3, .data⟩ (by simp) rfl
   obtain rfl := h.f3 s_3
   have cW : W.rangeAt (z) 0 XF := fun j v hj => (h.e.cell (p := ⟨z, 0 + j, none⟩) hzV).trans (RF j v hj)
   (rw [if_pos (by kernel_rfl)]; refine wp_load_mid 29 _ rfl (z) 0 rfl _ _ cW Tryz.underlying29 rfl (by rw [HLn.out.2.1]; kernel_rfl) ?_)
   exact hK _ _ ⟨_, _, _, _, _, _, _, _, _, _, _, _, _, rfl, { h with f4 := fun _ => rfl }⟩
  ·have s_4 : S 4 = true := hall ⟨4, .data⟩ (by simp) rfl
   obtain rfl := h.f4 s_4
   go_simp
   refine (KF W).mono ?_
   rintro e w5 ⟨rfl, hb5⟩
   have h1 := h.grow hb5
   exact hK _ _ ⟨_, _, _, _, _, _, _, _, _, _, _, _, _, rfl, { h1 with f5 := fun _ => rfl }⟩
  ·have s_2 : S 2 = true := hall ⟨2, .data⟩ (by simp) rfl
   obtain rfl := h.f2 s_2
   have s_5 : S 5 = true := hall ⟨5, .data⟩ (by simp) rfl
   obtain rfl := h.f5 s_5
   go_simp
   exact hK _ _ ⟨_, _, _, _, _, _, _, _, _, _, _, _, _, rfl, { h with f6 := fun _ => rfl }⟩
  ·go_simp
   exact hK _ _ ⟨_, _, _, _, _, _, _, _, _, _, _, _, _, rfl, { h with f7 := fun _ => rfl }⟩
  ·have s_7 : S 7 = true := hall ⟨7, .data⟩ (by simp) rfl
   obtain rfl := h.f7 s_7
   have cW : W.rangeAt (z) 18 XC := fun j v hj => (h.e.cell (p := ⟨z, 18 + j, none⟩) hzV).trans (RC j v hj)
   (rw [if_pos (by kernel_rfl)]; refine wp_load_mid 31 _ rfl (z) 18 rfl _ _ cW Tryz.underlying31 rfl (by rw [HLn.out.2.2.1]; kernel_rfl) ?_)
   exact hK _ _ ⟨_, _, _, _, _, _, _, _, _, _, _, _, _, rfl, { h with f8 := fun _ => rfl }⟩
  ·go_simp
   exact hK _ _ ⟨_, _, _, _, _, _, _, _, _, _, _, _, _, rfl, { h with f9 := fun _ => rfl }⟩
  ·have s_9 : S 9 = true := hall ⟨9, .data⟩ (by simp) rfl
   obtain rfl := h.f9 s_9
   have cW : W.rangeAt (z) 20 XD := fun j v hj => (h.e.cell (p := ⟨z, 20 + j, none⟩) hzV).trans (RD j v hj)
   (rw [if_pos (by kernel_rfl)]; refine wp_load_mid 31 _ rfl (z) 20 rfl _ _ cW Tryz.underlying31 rfl (by rw [HLn.out.2.2.2.1]; kernel_rfl) ?_)
   exact hK _ _ ⟨_, _, _, _, _, _, _, _, _, _, _, _, _, rfl, { h with f10 := fun _ => rfl }⟩
  ·have s_6 : S 6 = true := hall ⟨6, .data⟩ (by simp) rfl
   obtain rfl := h.f6 s_6
   have s_8 : S 8 = true := hall ⟨8, .data⟩ (by simp) rfl
   obtain rfl := h.f8 s_8
   have s_10 : S 10 = true := hall ⟨10, .data⟩ (by simp) rfl
   obtain rfl := h.f10 s_10
   go_simp
   refine (KCn W).mono ?_
   rintro e w5 ⟨rfl, hb5⟩
   have h1 := h.grow hb5
   exact hK _ _ ⟨_, _, _, _, _, _, _, _, _, _, _, _, _, rfl, { h1 with f11 := fun _ => rfl }⟩
  ·have h1 := h.grow ((Below.refl _ W).alloc (Nat.le_refl _) (.cells #[.slice none 0 0, .string ⟨#[]⟩] 31))
   go_simp
   exact hK _ _ ⟨_, _, _, _, _, _, _, _, _, _, _, _, _, rfl, { h1 with f12 := fun _ => ⟨_, rfl, h.e.size, World.alloc_heap_new W _⟩ }⟩
 ·rintro S aa W hall ⟨x7, x15, x16, x17, x18, x19, x20, x21, x22, x23, x24, x25, x26, rfl, h⟩
  obtain rfl := h.f0 (hall 0 (by decide))
  obtain rfl := h.f1 (hall 1 (by decide))
  obtain rfl := h.f2 (hall 2 (by decide))
  obtain rfl := h.f3 (hall 3 (by decide))
  obtain rfl := h.f4 (hall 4 (by decide))
  obtain rfl := h.f5 (hall 5 (by decide))
  obtain rfl := h.f6 (hall 6 (by decide))
  obtain rfl := h.f7 (hall 7 (by decide))
  obtain rfl := h.f8 (hall 8 (by decide))
  obtain rfl := h.f9 (hall 9 (by decide))
  obtain rfl := h.f10 (hall 10 (by decide))
  obtain rfl := h.f11 (hall 11 (by decide))
  obtain ⟨b, rfl, hbz, hTb⟩ := h.f12 (hall 12 (by decide))
  have BWD := h.e
  clear h hall
  obtain ⟨xS1, xU1, BV1, s1⟩ := HX.out
  have xU2 := xU1.below BWD
  have BV2 := jaa BV1 (by omega) BWD
  have s2 : z + 2 ≤ W.heap.size := by have := BWD.size; omega
  have hbl := hTb.lt
  have ht : W.there b 0 LM.size := by rw [hM.out]; exact jai (cs := [.slice none 0 0, .string ⟨#[]⟩]) hTb (by decide)
  clear xS1 xU1 BV1 HX BWD RF RC RD k24 KP KF KCn hzV hyV
  refine jao rfl rfl 31 _ _ rfl b LM rfl rfl 31 _ hTb (by rw [hM.out]; kernel_rfl) (by rw [hM.out]; rfl) hMo.out ?_
  refine wpList_nil ?_
  refine Stp.out ?_
  refine ⟨?_⟩
  have x3 := Bq.row hTb LM
  have y3 := xU2.rowOther (show z + 1 ≠ b by omega) LM
  have BV3 := jas BV2 (show z ≤ b by omega) LM
  have s3 : z + 2 ≤ (W.setRow b LM).heap.size := by rw [size_setRow]; exact s2
  obtain ⟨V3, hV3⟩ : ∃ V, W.setRow b LM = V := ⟨_, rfl⟩
  rw [hV3] at x3 y3 BV3 s3 ⊢
  clear hV3 xU2 BV2 s2 hbl ht hTb
  have hbV : b < V3.heap.size := x3.lt
  have hyV : z + 1 < V3.heap.size := by omega
  have RU := jal y3
  have k24 := jaf y3 24 _ u24
  have k23 := jaf y3 23 _ u23
  have HX : Hid (_ ∧ _ ∧ _ ∧ _) := ⟨x3, y3, BV3, s3⟩
  clear y3
  go_wp2_with fail
  refine jgr (fun S aa W => ∃ x4 x27 x28 x29 x30 x31 x32 x33 x34 x35 x36 : Value, aa = { tmps := #[Value.agg LS.toArray, Value.agg LU.toArray, Value.pointer (some { block := z, off := 0 }), Value.pointer (some { block := z + 1, off := 0 }), x4, Value.string hr0, Value.int IntKind.i64 re, Value.pointer (some { block := b, off := 0 }), Value.tuple #[Value.string hr0, Value.int IntKind.i64 re], Value.pointer (some { block := z + 1, off := 0 }), Value.pointer (some { block := z + 1, off := 0 }), Value.agg XH.toArray, Value.tuple #[Value.string hr0, Value.int IntKind.i64 re], Value.string hr0, Value.int IntKind.i64 re, Value.pointer (some { block := z + 1, off := 24 }), Value.int IntKind.u64 ↑sl, Value.int IntKind.u64 ↑x, Value.pointer (some { block := z, off := 0 }), Value.agg XF.toArray, Value.int IntKind.u64 ↑y, Value.bool bb, Value.pointer (some { block := z, off := 18 }), Value.agg XC.toArray, Value.pointer (some { block := z, off := 20 }), Value.agg XD.toArray, Value.agg LM, x27, x28, x29, x30, x31, x32, x33, x34, x35, x36], defers := [] } ∧ MuT V3 z sl b LM LU ky hr0 tx sig ans S x4 x27 x28 x29 x30 x31 x32 x33 x34 x35 x36 W) (by kernel_rfl) (by kernel_rfl) ?_ ?_ ?_
  ·exact ⟨Value.bool false, undef, undef, undef, undef, undef, undef, undef, undef, undef, undef, rfl, ⟨(Below.refl _ V3).drew, nofun, nofun, nofun, nofun, nofun, nofun, nofun, nofun, nofun, nofun, nofun⟩⟩
  ·intro i o S aa W hi hun hJ hall K hK
   obtain ⟨x4, x27, x28, x29, x30, x31, x32, x33, x34, x35, x36, rfl, h⟩ := hJ
   have hlt : i < 11 := (List.getElem?_eq_some_iff.1 hi).1
   have hcase : i = 0 ∨ i = 1 ∨ i = 2 ∨ i = 3 ∨ i = 4 ∨ i = 5 ∨ i = 6 ∨ i = 7 ∨ i = 8 ∨ i = 9 ∨ i = 10 := by omega
   rcases hcase with rfl | rfl | rfl | rfl | rfl | rfl | rfl | rfl | rfl | rfl | rfl
   all_goals (have ho := (Option.some.inj hi).symm; subst ho; clear hi hlt)
   ·have cW : Bq b 31 LM W := x3.below h.e
    (rw [if_pos (by kernel_rfl)]; refine wp_load_row 31 _ rfl b rfl _ _ _ _ cW Tryz.underlying31 rfl (by rw [hM.out]; kernel_rfl) ?_)
    exact hK _ _ ⟨_, _, _, _, _, _, _, _, _, _, _, rfl, { h with f0 := fun _ => rfl }⟩
   ·have cW : W.rangeAt (z + 1) 0 LU := fun j v hj => (h.e.cell (p := ⟨z + 1, 0 + j, none⟩) hyV).trans (RU j v hj)
    (rw [if_pos (by kernel_rfl)]; refine wp_load_mid 33 _ rfl (z + 1) 0 rfl _ _ cW Tryz.underlying33 rfl (by rw [HLn.out.2.2.2.2.1]; kernel_rfl) ?_)
    exact hK _ _ ⟨_, _, _, _, _, _, _, _, _, _, _, rfl, { h with f1 := fun _ => rfl }⟩
   ·have s_0 : S 0 = true := hall ⟨0, .data⟩ (by simp) rfl
    obtain rfl := h.f0 s_0
    have s_1 : S 1 = true := hall ⟨1, .data⟩ (by simp) rfl
    obtain rfl := h.f1 s_1
    go_simp
    refine (KK W (jaa BV3 (by omega) h.e) (by have := h.e.size; omega)).mono ?_
    rintro e w5 ⟨⟨a5, c5, rfl, g5⟩, hb5⟩
    have h1 := h.grow hb5
    exact hK _ _ ⟨_, _, _, _, _, _, _, _, _, _, _, rfl, { h1 with f2 := fun _ => ⟨a5, c5, rfl, g5⟩ }⟩
   ·go_simp
    exact hK _ _ ⟨_, _, _, _, _, _, _, _, _, _, _, rfl, { h with f3 := fun _ => rfl }⟩
   ·go_simp
    exact hK _ _ ⟨_, _, _, _, _, _, _, _, _, _, _, rfl, { h with f4 := fun _ => rfl }⟩
   ·have s_4 : S 4 = true := hall ⟨4, .data⟩ (by simp) rfl
    obtain rfl := h.f4 s_4
    have cW := (h.e.cell (p := ⟨z + 1, 24, none⟩) hyV).trans k24
    go_simp
    exact hK _ _ ⟨_, _, _, _, _, _, _, _, _, _, _, rfl, { h with f5 := fun _ => rfl }⟩
   ·have s_3 : S 3 = true := hall ⟨3, .data⟩ (by simp) rfl
    obtain rfl := h.f3 s_3
    have s_5 : S 5 = true := hall ⟨5, .data⟩ (by simp) rfl
    obtain rfl := h.f5 s_5
    go_simp
    refine (KT W (jaa BV3 (by omega) h.e)).mono ?_
    rintro e w5 ⟨rfl, hb5⟩
    have h1 := h.grow hb5
    exact hK _ _ ⟨_, _, _, _, _, _, _, _, _, _, _, rfl, { h1 with f6 := fun _ => rfl }⟩
   ·go_simp
    exact hK _ _ ⟨_, _, _, _, _, _, _, _, _, _, _, rfl, { h with f7 := fun _ => rfl }⟩
   ·have s_7 : S 7 = true := hall ⟨7, .data⟩ (by simp) rfl
    obtain rfl := h.f7 s_7
    have cW := (h.e.cell (p := ⟨z + 1, 23, none⟩) hyV).trans k23
    go_simp
    exact hK _ _ ⟨_, _, _, _, _, _, _, _, _, _, _, rfl, { h with f8 := fun _ => rfl }⟩
   ·have s_2 : S 2 = true := hall ⟨2, .data⟩ (by simp) rfl
    obtain ⟨a2, c2, rfl, ht2⟩ := h.f2 s_2
    have s_6 : S 6 = true := hall ⟨6, .data⟩ (by simp) rfl
    obtain rfl := h.f6 s_6
    have s_8 : S 8 = true := hall ⟨8, .data⟩ (by simp) rfl
    obtain rfl := h.f8 s_8
    go_simp
    refine (KA _ _ W (jaa BV3 (by omega) h.e) ht2).mono ?_
    rintro e w5 ⟨rfl, hb5⟩
    have h1 := h.grow hb5
    exact hK _ _ ⟨_, _, _, _, _, _, _, _, _, _, _, rfl, { h1 with f2 := fun _ => ⟨a2, c2, rfl, tx_below ht2 hb5⟩, f9 := fun _ => rfl }⟩
   ·have s_9 : S 9 = true := hall ⟨9, .data⟩ (by simp) rfl
    obtain rfl := h.f9 s_9
    go_simp
    exact hK _ _ ⟨_, _, _, _, _, _, _, _, _, _, _, rfl, { h with f10 := fun _ => rfl }⟩
  ·rintro S aa W hall ⟨x4, x27, x28, x29, x30, x31, x32, x33, x34, x35, x36, rfl, h⟩
   obtain rfl := h.f0 (hall 0 (by decide))
   obtain rfl := h.f1 (hall 1 (by decide))
   obtain ⟨aa, cc, rfl, haa⟩ := h.f2 (hall 2 (by decide))
   obtain rfl := h.f3 (hall 3 (by decide))
   obtain rfl := h.f4 (hall 4 (by decide))
   obtain rfl := h.f5 (hall 5 (by decide))
   obtain rfl := h.f6 (hall 6 (by decide))
   obtain rfl := h.f7 (hall 7 (by decide))
   obtain rfl := h.f8 (hall 8 (by decide))
   obtain rfl := h.f9 (hall 9 (by decide))
   obtain rfl := h.f10 (hall 10 (by decide))
   have BW := h.e
   clear h hall
   have HB : Hid _ := jaa BV3 (by omega) BW
   clear BW BV3 HX x3 RU k24 k23
   go_wp2
   go_ret
   rw [HZ.out]
   exact ⟨by simp, HB.out⟩
def chE (s : StD) (d : UpD) (now : Nat) : Int := if sgN d.bits = 0 then 141 else if (!ltHo d.l) = true then 130 else if (!flB d now) = true then 142 else if (!pkB s d) = true then 143 else if (!nwB s d) = true then 144 else if cfE d ≠ 0 then cfE d else if cnE s d ≠ 0 then cnE s d else if (!sgS s d) = true then 147 else 0
theorem rtS_size (xs : List ByteArray) (k : Nat) : (rtS xs k).size ≤ 1000000 := by
 unfold rtS
 split
 ·rename_i h
  rw [jgv _ (fun i => jfb xs ((jfm _ _).1 h).2.2.2.2 i)]
  omega
 ·show 0 ≤ 1000000
  omega
theorem hrV_size (d : LtD) : (hrV d).size ≤ 1000000 := rtS_size _ _
theorem check_any14 (s : StD) (hs0 : s.ok) (zs : szT s) (d : UpD) (hd : d.ok) (zd : szU d) (p : StP) (q : UpP) (now : Nat) (n : Nat) (w : World) (hL : Ls w) (hn : n ≤ w.heap.size) (hps : stIn n w s p) (hp : upIn n w d q) :
  Calls Tryz.prog 20 #[.agg (stV s p).toArray, .agg (upV d q).toArray, .int .u64 (now : Int)] w fun x w' => x = .returned (.int .i64 (chE s d now)) ∧ Below w.heap.size w w' := by
 have K1 := jea d hd q
 have K2 := fun (W : World) (hB : Below w.heap.size w W) (hs : w.heap.size ≤ W.heap.size) => jgx d.l q.l n W (hL.s.below hB) (Nat.le_trans hn hs) (jan (hB.mono hn) hp.1)
 have K3 := slotsFollow_any d q now
 have K4 := jgs s hs0 d hd p q
 have K5 := isNew_any s hs0 d hd p q
 have K6 := fun (W : World) (hB : Below w.heap.size w W) (hs : w.heap.size ≤ W.heap.size) => checkFinal_any d q n W (hL.s.below hB) (Nat.le_trans hn hs) (hp.below (hB.mono hn))
 have K7 := fun (W : World) (hB : Below w.heap.size w W) (hs : w.heap.size ≤ W.heap.size) => checkNext_any s hs0 (lgT_sz zs).2.2.2.1 d hd (lgU_sz zd).2.1 p q n W (hL.s.below hB) (Nat.le_trans hn hs) (hps.below (hB.mono hn)) (hp.below (hB.mono hn))
 have hf : flB d now = true → 0 < d.slot := fun h => by
  unfold flB at h
  simp only [Bool.and_eq_true, decide_eq_true_eq] at h
  omega
 have K8 := fun (h : 0 < d.slot) (W : World) (hB : Below w.heap.size w W) (hs : w.heap.size ≤ W.heap.size) => isSigned_any s hs0 d hd p q h (hrV_size d.l) n W (hL.below hB) (Nat.le_trans hn hs) (hps.below (hB.mono hn))
 have ul := upV_l d q
 have HLn : Hid ((stV s p).length = 51 ∧ (upV d q).length = 25 ∧ (ltV d.l q.l).length = 9) := show _ from ⟨rfl, rfl, rfl⟩
 unfold chE
 obtain ⟨many, h1⟩ : ∃ x, sgN d.bits = x := ⟨_, rfl⟩
 obtain ⟨b2, h2⟩ : ∃ x, ltHo d.l = x := ⟨_, rfl⟩
 obtain ⟨b3, h3⟩ : ∃ x, flB d now = x := ⟨_, rfl⟩
 obtain ⟨b4, h4⟩ : ∃ x, pkB s d = x := ⟨_, rfl⟩
 obtain ⟨b5, h5⟩ : ∃ x, nwB s d = x := ⟨_, rfl⟩
 obtain ⟨e6, h6⟩ : ∃ x, cfE d = x := ⟨_, rfl⟩
 obtain ⟨e7, h7⟩ : ∃ x, cnE s d = x := ⟨_, rfl⟩
 obtain ⟨b8, h8⟩ : ∃ x, sgS s d = x := ⟨_, rfl⟩
 rw [h1] at K1 ⊢
 rw [h2] at K2 ⊢
 rw [h3] at K3 hf ⊢
 rw [h4] at K4 ⊢
 rw [h5] at K5 ⊢
 rw [h6] at K6 ⊢
 rw [h7] at K7 ⊢
 rw [h8] at K8 ⊢
 obtain ⟨ANS, hANS⟩ : ∃ x : Int, (if many = 0 then 141 else if (!b2) = true then 130 else if (!b3) = true then 142 else if (!b4) = true then 143 else if (!b5) = true then 144 else if e6 ≠ 0 then e6 else if e7 ≠ 0 then e7 else if (!b8) = true then 147 else 0) = x := ⟨_, rfl⟩
 rw [hANS]
 have HA : Hid _ := hANS
 obtain ⟨LS, hLS⟩ : ∃ L, stV s p = L := ⟨_, rfl⟩
 obtain ⟨LU, hLU⟩ : ∃ L, upV d q = L := ⟨_, rfl⟩
 obtain ⟨XL, hXL⟩ : ∃ L, ltV d.l q.l = L := ⟨_, rfl⟩
 rw [hLS] at K4 K5 K7 K8 HLn ⊢
 rw [hLU] at K1 K3 K4 K5 K6 K7 K8 ul HLn ⊢
 rw [hXL] at K2 ul HLn
 obtain ⟨psl, hpsl⟩ : ∃ x, (0 < d.slot) = x := ⟨_, rfl⟩
 rw [hpsl] at hf K8
 clear hANS h1 h2 h3 h4 h5 h6 h7 h8 hLS hLU hXL hL hn hps hp hs0 hd zs zd hpsl
 obtain ⟨B1, xS, xU, hs⟩ := box2 w (.cells LS.toArray 38) (.cells LU.toArray 33)
 obtain ⟨z, hz⟩ : ∃ z, w.heap.size = z := ⟨_, rfl⟩
 have HZ : Hid (w.heap.size = z) := hz
 rw [hz] at B1 xS xU hs K2 K6 K7 K8
 have RU := jal xU
 go_enter Tryz.func20, Tryz.ntmps20
 go_wp2_with (first | (refine wpList_load_mid rfl 33 _ rfl (z + 1) 0 rfl _ _ RU Tryz.underlying33 rfl (by rw [HLn.out.2.1]; kernel_rfl) ?_) | (refine jab (by rfl) 33 _ rfl (z + 1) 0 rfl _ _ RU Tryz.underlying33 rfl (by rw [HLn.out.2.1]; kernel_rfl) ?_))
 refine (K1 _).mono ?_
 rintro e V1 ⟨rfl, C⟩
 have xS1 : Bq z 38 LS.toArray V1 := (C.block z (by omega)).trans xS
 have xU1 : Bq (z + 1) 33 LU.toArray V1 := (C.block (z + 1) (by omega)).trans xU
 have BV1 := jaa B1 (by omega) C
 have s1 : z + 2 ≤ V1.heap.size := by have := C.size; omega
 clear C K1 RU xS xU hs B1 hz
 by_cases hm : many = 0
 ·have he : ((many : Int) == 0) = true := by rw [hm]; rfl
  have HB : Hid _ := BV1
  clear K2 K3 K4 K5 K6 K7 K8 xS1 xU1 BV1 s1
  go_wp2
  go_ret
  rw [HZ.out]
  exact ⟨by rw [← HA.out, if_pos hm]; rfl, HB.out⟩
 ·have he : ((many : Int) == 0) = false := by rw [beq_eq_false_iff_ne]; omega
  have HA2 : Hid _ := HA.out
  rw [if_neg hm] at HA2
  clear HA
  have RX := jac xU1 0 XL ul
  go_wp2_with (first | (refine wpList_load_mid rfl 29 _ rfl (z + 1) 0 rfl _ _ RX Tryz.underlying29 rfl (by rw [HLn.out.2.2]; kernel_rfl) ?_) | (refine jab (by rfl) 29 _ rfl (z + 1) 0 rfl _ _ RX Tryz.underlying29 rfl (by rw [HLn.out.2.2]; kernel_rfl) ?_))
  refine (K2 _ BV1 (by omega)).mono ?_
  rintro e V3 ⟨rfl, C⟩
  have xS3 := xS1.below C
  have xU3 := xU1.below C
  have BV3 := jaa BV1 (by omega) C
  have s3 : z + 2 ≤ V3.heap.size := by have := C.size; omega
  clear C xS1 xU1 BV1 s1
  clear RX K2
  cases b2 with
  | false =>
   have HB : Hid _ := BV3
   clear K3 K4 K5 K6 K7 K8 hf xS3 xU3 BV3 s3
   go_wp2
   go_ret
   rw [HZ.out]
   exact ⟨by rw [← HA2.out, if_pos (show (!false) = true from rfl)]; rfl, HB.out⟩
  | true =>
   rw [if_neg (show ¬ ((!true) = true) by decide)] at HA2
   have RU := jal xU3
   go_wp2_with (first | (refine wpList_load_mid rfl 33 _ rfl (z + 1) 0 rfl _ _ RU Tryz.underlying33 rfl (by rw [HLn.out.2.1]; kernel_rfl) ?_) | (refine jab (by rfl) 33 _ rfl (z + 1) 0 rfl _ _ RU Tryz.underlying33 rfl (by rw [HLn.out.2.1]; kernel_rfl) ?_))
   refine (K3 _).mono ?_
   rintro e V4 ⟨rfl, C⟩
   have xS4 := xS3.below C
   have xU4 := xU3.below C
   have BV4 := jaa BV3 (by omega) C
   have s4 : z + 2 ≤ V4.heap.size := by have := C.size; omega
   clear C xS3 xU3 BV3 s3
   clear RU K3
   cases b3 with
   | false =>
    have HB : Hid _ := BV4
    clear K4 K5 K6 K7 K8 hf xS4 xU4 BV4 s4
    go_wp2
    go_ret
    rw [HZ.out]
    exact ⟨by rw [← HA2.out, if_pos (show (!false) = true from rfl)]; rfl, HB.out⟩
   | true =>
    rw [if_neg (show ¬ ((!true) = true) by decide)] at HA2
    have RS := jal xS4
    have RU := jal xU4
    go_wp2_with (first | (refine wpList_load_mid rfl 38 _ rfl z 0 rfl _ _ RS Tryz.underlying38 rfl (by rw [HLn.out.1]; kernel_rfl) ?_) | (refine jab (by rfl) 38 _ rfl z 0 rfl _ _ RS Tryz.underlying38 rfl (by rw [HLn.out.1]; kernel_rfl) ?_) | (refine wpList_load_mid rfl 33 _ rfl (z + 1) 0 rfl _ _ RU Tryz.underlying33 rfl (by rw [HLn.out.2.1]; kernel_rfl) ?_) | (refine jab (by rfl) 33 _ rfl (z + 1) 0 rfl _ _ RU Tryz.underlying33 rfl (by rw [HLn.out.2.1]; kernel_rfl) ?_))
    refine (K4 _).mono ?_
    rintro e V5 ⟨rfl, C⟩
    have xS5 := xS4.below C
    have xU5 := xU4.below C
    have BV5 := jaa BV4 (by omega) C
    have s5 : z + 2 ≤ V5.heap.size := by have := C.size; omega
    clear C xS4 xU4 BV4 s4
    clear RS RU K4
    cases b4 with
    | false =>
     have HB : Hid _ := BV5
     clear K5 K6 K7 K8 hf xS5 xU5 BV5 s5
     go_wp2
     go_ret
     rw [HZ.out]
     exact ⟨by rw [← HA2.out, if_pos (show (!false) = true from rfl)]; rfl, HB.out⟩
    | true =>
     rw [if_neg (show ¬ ((!true) = true) by decide)] at HA2
     have RS := jal xS5
     have RU := jal xU5
     go_wp2_with (first | (refine wpList_load_mid rfl 38 _ rfl z 0 rfl _ _ RS Tryz.underlying38 rfl (by rw [HLn.out.1]; kernel_rfl) ?_) | (refine jab (by rfl) 38 _ rfl z 0 rfl _ _ RS Tryz.underlying38 rfl (by rw [HLn.out.1]; kernel_rfl) ?_) | (refine wpList_load_mid rfl 33 _ rfl (z + 1) 0 rfl _ _ RU Tryz.underlying33 rfl (by rw [HLn.out.2.1]; kernel_rfl) ?_) | (refine jab (by rfl) 33 _ rfl (z + 1) 0 rfl _ _ RU Tryz.underlying33 rfl (by rw [HLn.out.2.1]; kernel_rfl) ?_))
     refine (K5 _).mono ?_
     rintro e V6 ⟨rfl, C⟩
     have xS6 := xS5.below C
     have xU6 := xU5.below C
     have BV6 := jaa BV5 (by omega) C
     have s6 : z + 2 ≤ V6.heap.size := by have := C.size; omega
     clear C xS5 xU5 BV5 s5
     clear RS RU K5
     cases b5 with
     | false =>
      have HB : Hid _ := BV6
      clear K6 K7 K8 hf xS6 xU6 BV6 s6
      go_wp2
      go_ret
      rw [HZ.out]
      exact ⟨by rw [← HA2.out, if_pos (show (!false) = true from rfl)]; rfl, HB.out⟩
     | true =>
      rw [if_neg (show ¬ ((!true) = true) by decide)] at HA2
      have RU := jal xU6
      go_wp2_with (first | (refine wpList_load_mid rfl 33 _ rfl (z + 1) 0 rfl _ _ RU Tryz.underlying33 rfl (by rw [HLn.out.2.1]; kernel_rfl) ?_) | (refine jab (by rfl) 33 _ rfl (z + 1) 0 rfl _ _ RU Tryz.underlying33 rfl (by rw [HLn.out.2.1]; kernel_rfl) ?_))
      refine (K6 _ BV6 (by omega)).mono ?_
      rintro e V7 ⟨rfl, C⟩
      have xS7 := xS6.below C
      have xU7 := xU6.below C
      have BV7 := jaa BV6 (by omega) C
      have s7 : z + 2 ≤ V7.heap.size := by have := C.size; omega
      clear C xS6 xU6 BV6 s6
      clear RU K6
      by_cases ge6 : e6 = 0
      ·subst ge6
       rw [if_neg (fun h => h rfl)] at HA2
       have RS := jal xS7
       have RU := jal xU7
       go_wp2_with (first | (refine wpList_load_mid rfl 38 _ rfl z 0 rfl _ _ RS Tryz.underlying38 rfl (by rw [HLn.out.1]; kernel_rfl) ?_) | (refine jab (by rfl) 38 _ rfl z 0 rfl _ _ RS Tryz.underlying38 rfl (by rw [HLn.out.1]; kernel_rfl) ?_) | (refine wpList_load_mid rfl 33 _ rfl (z + 1) 0 rfl _ _ RU Tryz.underlying33 rfl (by rw [HLn.out.2.1]; kernel_rfl) ?_) | (refine jab (by rfl) 33 _ rfl (z + 1) 0 rfl _ _ RU Tryz.underlying33 rfl (by rw [HLn.out.2.1]; kernel_rfl) ?_))
       refine (K7 _ BV7 (by omega)).mono ?_
       rintro e V8 ⟨rfl, C⟩
       have xS8 := xS7.below C
       have xU8 := xU7.below C
       have BV8 := jaa BV7 (by omega) C
       have s8 : z + 2 ≤ V8.heap.size := by have := C.size; omega
       clear C xS7 xU7 BV7 s7
       clear RS RU K7
       by_cases ge7 : e7 = 0
       ·subst ge7
        rw [if_neg (fun h => h rfl)] at HA2
        have RS := jal xS8
        have RU := jal xU8
        go_wp2_with (first | (refine wpList_load_mid rfl 38 _ rfl z 0 rfl _ _ RS Tryz.underlying38 rfl (by rw [HLn.out.1]; kernel_rfl) ?_) | (refine jab (by rfl) 38 _ rfl z 0 rfl _ _ RS Tryz.underlying38 rfl (by rw [HLn.out.1]; kernel_rfl) ?_) | (refine wpList_load_mid rfl 33 _ rfl (z + 1) 0 rfl _ _ RU Tryz.underlying33 rfl (by rw [HLn.out.2.1]; kernel_rfl) ?_) | (refine jab (by rfl) 33 _ rfl (z + 1) 0 rfl _ _ RU Tryz.underlying33 rfl (by rw [HLn.out.2.1]; kernel_rfl) ?_))
        refine (K8 (by simpa using hf) _ BV8 (by omega)).mono ?_
        rintro e V9 ⟨rfl, C⟩
        have xS9 := xS8.below C
        have xU9 := xU8.below C
        have BV9 := jaa BV8 (by omega) C
        have s9 : z + 2 ≤ V9.heap.size := by have := C.size; omega
        clear C xS8 xU8 BV8 s8
        clear RS RU K8
        cases b8 with
        | false =>
         have HB : Hid _ := BV9
         clear hf xS9 xU9 BV9 s9
         go_wp2
         go_ret
         rw [HZ.out]
         exact ⟨by rw [← HA2.out, if_pos (show (!false) = true from rfl)]; rfl, HB.out⟩
        | true =>
         rw [if_neg (show ¬ ((!true) = true) by decide)] at HA2
         have HB : Hid _ := BV9
         clear hf xS9 xU9 BV9 s9
         go_wp2
         go_ret
         rw [HZ.out]
         exact ⟨by rw [← HA2.out]; rfl, HB.out⟩
       ·have hee7 : (e7 == 0) = false := by rw [beq_eq_false_iff_ne]; exact ge7
        have hne7 : (e7 != 0) = true := by rw [bne, hee7]; rfl
        have HB : Hid _ := BV8
        clear K8 hf xS8 xU8 BV8 s8
        go_wp2
        go_ret
        rw [HZ.out]
        exact ⟨by rw [← HA2.out, if_pos ge7]; rfl, HB.out⟩
      ·have hee6 : (e6 == 0) = false := by rw [beq_eq_false_iff_ne]; exact ge6
       have hne6 : (e6 != 0) = true := by rw [bne, hee6]; rfl
       have HB : Hid _ := BV7
       clear K7 K8 hf xS7 xU7 BV7 s7
       go_wp2
       go_ret
       rw [HZ.out]
       exact ⟨by rw [← HA2.out, if_pos ge6]; rfl, HB.out⟩
end Go.Proofs.YtoddangedbefgabGreatDoor
