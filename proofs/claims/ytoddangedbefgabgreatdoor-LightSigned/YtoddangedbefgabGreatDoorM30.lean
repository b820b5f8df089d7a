/- Lemmas: A tree's root: Root. The reference's right, level, Root, Branch. The reference's Root and Branch. A slice of texts gone through: slices.All. -/
import Derived.Test.YtoddangedbefgabGreatDoorM29
import Derived.Shelf.Pu.Clone
set_option maxRecDepth 100000
set_option maxHeartbeats 4000000
namespace Go.Proofs.YtoddangedbefgabGreatDoor
open Go.RowKit Go.Shelf Go.Sort
attribute [local go_sem] Oper.semAt_some
def z_rc : Ren := ⟨fun k => if k = 25 then 122 else k, fun k => if k = 37 then 116 else if k = 47 then 194 else k, fun k => k⟩
theorem z_lays_clone : LaysPu.n25 Tryz.prog z_rc where
 mixed := by kernel_rfl
 f25 := by kernel_rfl
 t0 := by kernel_rfl
 a0 := fun w => rfl
 z0 := fun w => rfl
 v0 := fun w => rfl
 i0 := by kernel_rfl
 t3 := by kernel_rfl
 a3 := fun w => rfl
 z3 := fun w => rfl
 v3 := fun w => rfl
 i3 := by kernel_rfl
 t4 := by kernel_rfl
 a4 := fun w => rfl
 z4 := fun w => rfl
 v4 := fun w => rfl
 i4 := by kernel_rfl
 t5 := by kernel_rfl
 a5 := fun w => rfl
 z5 := fun w => rfl
 v5 := fun w => rfl
 i5 := by kernel_rfl
 t9 := by kernel_rfl
 a9 := fun w => rfl
 z9 := fun w => rfl
 v9 := fun w => rfl
 i9 := by kernel_rfl
 t37 := by kernel_rfl
 a37 := fun w => rfl
 z37 := fun w => rfl
 v37 := fun w => rfl
 i37 := by kernel_rfl
 t47 := by kernel_rfl
 a47 := fun w => rfl
 z47 := fun w => rfl
 v47 := fun w => rfl
 i47 := by kernel_rfl
theorem z_clone1_any (s : ByteArray) (w : World) (h : s.size ≤ 281474976710656) : Calls Tryz.prog 122 #[.string s] w fun e w' => e = .returned (.string s) ∧ Below w.heap.size w w' := AnyPu.stringslite_Clone z_lays_clone s w h
theorem jbu (s : ByteArray) (w : World) (h : s.size ≤ 281474976710656) : Calls Tryz.prog 91 #[.string s] w fun e w' => e = .returned (.string s) ∧ Below w.heap.size w w' := by
 have K := fun w => z_clone1_any s w h
 go_enter Tryz.func91, Tryz.ntmps91
 go_wp2_with fail
 refine (K _).mono ?_
 rintro e w1 ⟨rfl, B1⟩
 go_wp2
 go_ret
 exact ⟨rfl, B1⟩
def rootV (xs : List ByteArray) (d : Int) : Value := if rt8 xs d = true then .tuple #[.string (lf (lvs xs) d.toNat 0), .int .i64 0] else .tuple #[.string ⟨#[]⟩, .int .i64 80]
theorem z_root_any (xs : List ByteArray) (d : Int) (a : Option Addr) (c n : Nat) (w : World) (hl : Laid w) (hn : n ≤ w.heap.size) (hp : slS n w a xs) :
  Calls Tryz.prog 110 #[.slice a xs.length c, .int .i64 d] w fun e w' => e = .returned (rootV xs d) ∧ Below w.heap.size w w' := by
 have KH := haveTree_any xs d a c n w hn hp
 obtain ⟨ok, hok⟩ : ∃ q, rt8 xs d = q := ⟨_, rfl⟩
 rw [hok] at KH
 have HO : Hid _ := hok
 obtain ⟨N, hN⟩ : ∃ N, xs.length = N := ⟨_, rfl⟩
 rw [hN] at KH ⊢
 refine (callsIn_wide (n := 9)).1 ?_
 refine callsIn_of_wp_marks Tryz.func110 rfl trivial ?_ rfl
 refine wpIn_wide.2 ?_
 simp only [Tryz.ntmps110, List.size_toArray, List.length_cons, List.length_nil, Nat.reduceAdd, Nat.reduceSub, Array.replicate_succ, Array.replicate_zero, List.push_toArray, List.append_toArray, List.nil_append, List.cons_append]
 go_wp2_with fail
 refine KH.mono ?_
 rintro e w1 ⟨rfl, B1⟩
 clear KH hok
 cases ok with
 | false =>
  go_wp2
  refine ⟨.tuple #[.string ⟨#[]⟩, .int .i64 80], by simp [results, Tryz.results110, go_sem], ?_, B1⟩
  rw [rootV, if_neg (by rw [HO.out]; decide)]
 | true =>
  obtain ⟨h0, h10, hpw, h256, h32⟩ := (jfm xs d).1 HO.out
  obtain ⟨D, rfl⟩ : ∃ D : Nat, d = (D : Int) := ⟨d.toNat, by omega⟩
  have hD : D ≤ 10 := by omega
  have HR : Hid (rootV xs (D : Int) = .tuple #[.string (lf (lvs xs) D 0), .int .i64 0]) := by
   show _ = _
   rw [rootV, if_pos HO.out, Int.toNat_natCast]
  clear h0 h10 hpw HO
  go_wp2_with fail
  refine (levels_any a N c (D : Int) _).mono ?_
  rintro e w2 ⟨rfl, hw2⟩
  obtain ⟨p, hp0⟩ : ∃ p, w1.heap.size = p := ⟨_, rfl⟩
  have hF2 : Below p w1 w2 ∧ w2.heap.size = p + 3 ∧ w2.heap[p]? = some (.cells #[.slice none 0 0, .string ⟨#[]⟩] 170 (0, 0)) ∧ w2.heap[p + 1]? = some (.cells #[.slice a N c] 27 (0, 0)) ∧ w2.heap[p + 2]? = some (.cells #[.int .i64 (D : Int)] 3 (0, 0)) := by
   have t2 := jdg (w1.alloc (.cells #[.slice none 0 0, .string ⟨#[]⟩] 170)) (.cells #[.slice a N c] 27) (.cells #[.int .i64 (D : Int)] 3)
   have A1 : Below w1.heap.size w1 (w1.alloc (.cells #[.slice none 0 0, .string ⟨#[]⟩] 170)) := (Below.refl _ w1).alloc (Nat.le_refl _) _
   have A2 : Below (w1.heap.size + 1) (w1.alloc (.cells #[.slice none 0 0, .string ⟨#[]⟩] 170)) w2 := by
    rw [hw2]
    exact ((Below.refl _ _).alloc (by simp) _).alloc (by simp) _
   have hsz : (w1.alloc (.cells #[.slice none 0 0, .string ⟨#[]⟩] 170)).heap.size = w1.heap.size + 1 := by simp
   rw [← hw2, hsz, hp0] at t2
   rw [hp0] at A1 A2
   refine ⟨A1.trans (A2.mono (by omega)), by rw [hw2]; simp; omega, (A2.block p (by omega)).trans ?_, t2.1, t2.2⟩
   rw [← hp0]
   exact World.alloc_heap_new w1 _
  obtain ⟨B2, hz2, hb0, hb1, hb2⟩ := hF2
  have hcp : ∀ (W : World) (v1 v2 : Value), W.heap[p]? = some (.cells #[v1, v2] 170 (0, 0)) → W.cell? ⟨p, 0, none⟩ = some v1 ∧ W.cell? ⟨p, 1, none⟩ = some v2 ∧ ∀ o, W.frozen? ⟨p, o, none⟩ = false := fun W v1 v2 h => ⟨by rw [Lib.cell_of_heap h]; rfl, by rw [Lib.cell_of_heap h]; rfl, fun o => by simp [World.frozen?, h]⟩
  have HC : Hid _ := hcp
  have hsz' : (w1.alloc (.cells #[.slice none 0 0, .string ⟨#[]⟩] 170)).heap.size = p + 1 := by simp [hp0]
  rw [hsz', hp0]
  have HP : Hid _ := hp0
  have hl1 := hl.below B1
  have hp1 : slS n w1 a xs := jan (B1.mono hn) hp
  have hnp : n ≤ p := by rw [← hp0]; exact Nat.le_trans hn B1.size
  have h1p : 2 < p := by rw [← hp0]; have := hl1.k.z; have := hl1.h.z; omega
  clear hw2 hcp hsz' hp0
  go_wp2_with fail
  refine (wpIn_wide (n := 9)).1 ?_
  refine range_to (by omega) (gf := 146) (lb := #[.pointer (some ⟨p + 1, 0, none⟩), .pointer (some ⟨p + 2, 0, none⟩)]) rfl (enters_of Tryz.func146 (by kernel_rfl) rfl) ?_
  intro fn mk W1 hmk BW1 hszW hRc
  rw [hz2] at hmk BW1 hszW hRc ⊢
  have cX : W1.cell? ⟨p + 1, 0, none⟩ = some (.slice a xs.length c) := by rw [hN, BW1.cell (p := ⟨p + 1, 0, none⟩) (by show p + 1 < p + 3; omega), Lib.cell_of_heap hb1]; rfl
  have cY : W1.cell? ⟨p + 2, 0, none⟩ = some (.int .i64 (D : Int)) := by rw [BW1.cell (p := ⟨p + 2, 0, none⟩) (by show p + 2 < p + 3; omega), Lib.cell_of_heap hb2]; rfl
  have BWp : Below p w1 W1 := B2.trans (BW1.mono (by omega))
  have lW1 : Laid W1 := hl1.below (by rw [HP.out]; exact BWp)
  have sW1 : slZ p (p + 1) (p + 4) (p + 5) W1 a xs := by
   rcases jan (BWp.mono hnp) hp1 with h | ⟨b, o, k1, k2, k3⟩
   ·exact .inl h
   ·exact .inr ⟨b, o, k1, by omega, by omega, ⟨by omega, by omega⟩, k3⟩
  have hbW0 := (BW1.block p (by omega)).trans hb0
  refine (levels1_in 8 (p + 4) p (p + 1) (p + 1) (p + 2) xs h256 h32 D hD a c h1p (by omega) (by omega) (by omega) (by omega)
   (fun k W => (Rc (p + 3) (mk .ready none) W ∧ Below p w1 W) ∧ ∃ v1 v2, W.heap[p]? = some (.cells #[v1, v2] 170 (0, 0)) ∧ (0 < k → ∃ a c, v1 = .slice a (lvl xs (k - 1)).length c ∧ v2 = .string (zr (k - 1)) ∧ slZ p (p + 1) (p + 4) (p + 5) W a (lvl xs (k - 1)))) (fun _ _ => False) (p + 5)
   ?hJ ?hY W1 lW1 (by omega) (by omega) cX cY sW1 hszW ⟨⟨hRc, BWp⟩, _, _, hbW0, fun h => absurd h (by omega)⟩).mono ?_
  case hJ =>
   rintro k A C ⟨⟨hr, hB⟩, v1, v2, hv, hx⟩ hk
   have hlt := hr.lt
   refine ⟨⟨⟨(hk.at hr.lt (by omega)).trans hr.1, (hk.at (by omega) (by omega)).trans hr.2⟩, hB.grown hk (by omega) (fun k e => by cases e; omega)⟩, v1, v2, (hk.at (by omega) (by omega)).trans hv, fun h => ?_⟩
   obtain ⟨a, c, e1, e2, hs⟩ := hx h
   exact ⟨a, c, e1, e2, hs.kq hk⟩
  case hY =>
   rintro m k a' c' W ⟨⟨hr, hB⟩, v1, v2, hv, -⟩ hk hsl
   refine yield_to mk hmk hr rfl ?_
   have hA : Below W.heap.size W (W.alloc (.cells #[.slice a' (lvl xs k).length c', .string (zr k)] 170)) := (Below.refl _ W).alloc (Nat.le_refl _) _
   have hlt := hr.lt
   have hn0 := World.alloc_heap_new W (.cells #[.slice a' (lvl xs k).length c', .string (zr k)] 170)
   gi_wp2
   refine ⟨hr.below hA, ?_⟩
   intro U hrU hkU
   obtain ⟨A, hAA⟩ : ∃ A, W.alloc (.cells #[.slice a' (lvl xs k).length c', .string (zr k)] 170) = A := ⟨_, rfl⟩
   have hsz : A.heap.size = W.heap.size + 1 := by rw [← hAA]; simp
   rw [hAA] at hA hn0 hkU
   clear hAA
   have BA : Below p w1 A := hB.trans (hA.mono (by omega))
   have BU := Kq.low BA (by omega) (by omega) hkU
   have hpU : p < U.heap.size := by have := hkU.size; omega
   have hvU := (hkU.at (k := p) (by omega) (by omega)).trans ((hA.block p (by omega)).trans hv)
   have hnU := (hkU.at (k := W.heap.size) (by omega) (by omega)).trans hn0
   have f0 : U.cell? ⟨W.heap.size, 0, none⟩ = some (.slice a' (lvl xs k).length c') := by rw [Lib.cell_of_heap hnU]; rfl
   have f1 : U.cell? ⟨W.heap.size, 1, none⟩ = some (.string (zr k)) := by rw [Lib.cell_of_heap hnU]; rfl
   obtain ⟨t0, t1, tz⟩ := HC.out U v1 v2 hvU
   have KU : Kz p (p + 1) (p + 4) W U := (Kz.below hA).trans ⟨hkU.size, fun b hb _ h => hkU.at hb (by omega)⟩
   have eU := jam (jam hvU 0 (.slice a' (lvl xs k).length c')) 1 (.string (zr k))
   have KU2 := (KU.trans (Kz.set U 0 (.slice a' (lvl xs k).length c') (Nat.le_refl p) (Nat.lt_succ_self p))).trans (Kz.set _ 1 (.string (zr k)) (Nat.le_refl p) (Nat.lt_succ_self p))
   have BU2 : Below p w1 ((U.setCell ⟨p, 0, none⟩ (.slice a' (lvl xs k).length c')).setCell ⟨p, 1, none⟩ (.string (zr k))) := jap (b := p) (Nat.le_refl _) [.string (zr k)] 1 _ (jap (b := p) (Nat.le_refl _) [.slice a' (lvl xs k).length c'] 0 _ BU)
   have hrV : Rc (p + 3) (mk .busy none) ((U.setCell ⟨p, 0, none⟩ (.slice a' (lvl xs k).length c')).setCell ⟨p, 1, none⟩ (.string (zr k))) := ⟨((Kq.put _ p 1 _).at (by have := (Kq.put U p 0 (.slice a' (lvl xs k).length c')).size; have := hrU.lt; omega) (by omega)).trans (((Kq.put U p 0 _).at hrU.lt (by omega)).trans hrU.1), ((Kq.put _ p 1 _).at (by have := (Kq.put U p 0 (.slice a' (lvl xs k).length c')).size; have := hrU.lt; omega) (by omega)).trans (((Kq.put U p 0 _).at (by have := hrU.lt; omega) (by omega)).trans hrU.2)⟩
   have hsV := hsl.kz KU2
   have HF : Hid (_ ∧ _ ∧ _ ∧ _ ∧ _) := ⟨eU, KU2, BU2, hrV, hsV⟩
   clear eU KU2 BU2 hrV hsV KU hvU hnU hkU hrU BU BA hA hn0 hB hr hsl hv
   gi_wp2
   obtain ⟨eU, KU2, BU2, hrV, hsV⟩ := HF.out
   refine And.intro hrV ?_
   intro X hrX hkX
   refine ⟨rfl, ⟨⟨hrX, Kq.low BU2 (by have := hrV.lt; omega) (by omega) hkX⟩, .slice a' (lvl xs k).length c', .string (zr k), (hkX.at (by have := hrV.lt; omega) (by omega)).trans eU, a', ⟨c', rfl⟩, rfl, ?_⟩, ?_⟩
   ·exact hsV.kz (n0 := p) (n1 := p + 1) (l := p + 4) ⟨hkX.size, fun b hb _ h => hkX.at hb (by omega)⟩
   ·exact KU2.trans ⟨hkX.size, fun b hb _ h => hkX.at hb (by omega)⟩
  rintro e W2 ⟨he, ⟨⟨hr, hB⟩, v1, v2, hv, hx⟩ | ⟨_, _, hf⟩⟩
  ·obtain ⟨a', c', rfl, rfl, hsl⟩ := hx (by omega)
   refine ⟨he, .inl ⟨hr, ?_⟩⟩
   intro U hdU hkU
   have hlt := hr.lt
   rw [Nat.add_sub_cancel] at hv hsl
   have hvU := (hkU.at (k := p) (by omega) (by omega)).trans hv
   have hsU : slZ p (p + 1) (p + 4) (p + 5) U a' (lvl xs D) := hsl.kz (n0 := p) (n1 := p + 1) (l := p + 4) ⟨hkU.size, fun b hb _ h => hkU.at hb (by omega)⟩
   obtain ⟨t0, t1, tz⟩ := HC.out U _ _ hvU
   have BU := Kq.low hB (by omega) (by omega) hkU
   have KA := at_any (lvl xs D) a' c' (zr D) 0 U.heap.size U (Nat.le_refl _) hsU.slS
   rw [lvl_at] at KA
   have KC : Hid (∀ w : World, _) := fun w : World => jbu (lf (lvs xs) D 0) w (by rw [jgv _ (jfb xs h32)]; decide)
   obtain ⟨r, hr0⟩ : ∃ r, lf (lvs xs) D 0 = r := ⟨_, rfl⟩
   rw [hr0] at KA KC HR
   obtain ⟨M, hM⟩ : ∃ M, (lvl xs D).length = M := ⟨_, rfl⟩
   rw [hM] at t0 KA
   have hdl : p + 3 < U.heap.size := (Array.getElem?_eq_some_iff.1 hdU).1
   clear hr0 hM hr hv hvU hkU hsU hsl hB
   go_wp2_with fail
   refine KA.mono ?_
   rintro e w4 ⟨rfl, B4⟩
   clear KA
   go_wp2_with fail
   refine (KC.out _).mono ?_
   rintro e w5 ⟨rfl, B5⟩
   clear KC
   have B45 := jaa B4 B4.size B5
   have hd5 := (B45.block (p + 3) hdl).trans hdU
   have BW5 := BU.trans (B45.mono (by omega))
   have hp5 : p ≤ w5.heap.size := by have := B45.size; omega
   clear B4 B5 B45 hdU BU t0 t1 tz
   go_wp2
   refine ⟨by simp, .inl ⟨_, _, rfl, run_takeDeferred hd5, ?_⟩⟩
   refine ⟨.tuple #[.string r, .int .i64 0], by simp [results, Tryz.results110, go_sem], by rw [HR.out], ?_⟩
   exact B1.trans ((jeb BW5 hp5 (by omega) _).mono (by rw [← HP.out]; exact B1.size))
  ·exact hf.elim
end Go.Proofs.YtoddangedbefgabGreatDoor
namespace Go.Proofs.YtoddangedbefgabGreatDoor
open Go.RowKit Go.Shelf Go.Sort
theorem z_rright_any (xs : List ByteArray) (d : Int) (a : Option Addr) (c n : Nat) (w : World) (hn : n ≤ w.heap.size) (hp : slS n w a xs) :
  Calls Tryz.prog 75 #[.slice a xs.length c, .int .i64 d] w fun r w' => r = .returned (.bool (rt8 xs d)) ∧ Below w.heap.size w w' := by
 obtain ⟨N, hN⟩ : ∃ N, xs.length = N := ⟨_, rfl⟩
 have HN : Hid (xs.length = N) := hN
 obtain ⟨z, hz⟩ : ∃ z, w.heap.size = z := ⟨_, rfl⟩
 have B0 : Below z w w := Below.refl _ _
 have HZ : Hid (w.heap.size = z) := hz
 rw [hz] at hn ⊢
 clear hz
 by_cases h0 : d < 0
 ·rw [rt8_no (by omega), hN]
  go_enter Tryz.func75, Tryz.ntmps75
  go_wp2
  go_ret
  exact ⟨rfl, B0⟩
 ·by_cases h1 : 10 < d
  ·rw [rt8_no (by omega), hN]
   go_enter Tryz.func75, Tryz.ntmps75
   go_wp2
   go_ret
   exact ⟨rfl, B0⟩
  ·obtain ⟨k, rfl⟩ : ∃ k : Nat, d = (k : Int) := ⟨d.toNat, by omega⟩
   have hk : k ≤ 10 := by omega
   have hpow : 2 ^ k ≤ 1024 := Nat.pow_le_pow_right (by decide) hk
   have hmin : min k 64 = k := by omega
   obtain ⟨q, hq⟩ : ∃ q, 2 ^ k = q := ⟨_, rfl⟩
   have hqi : (2 : Int) ^ k = (q : Int) := by rw [← hq]; simp
   have wq : IntKind.i64.wrap (q : Int) = q := by rw [IntKind.wrap_i64]; omega
   by_cases h2 : q < N
   ·rw [rt8_no (by rw [Int.toNat_natCast, hq, hN]; omega), hN]
    have l2 : (q : Int) < N := by omega
    clear hq
    go_enter Tryz.func75, Tryz.ntmps75
    go_wp2
    go_ret
    exact ⟨rfl, B0⟩
   ·have l2 : ¬ (q : Int) < N := by omega
    by_cases h3 : 256 < N
    ·rw [rt8_no (by rw [Int.toNat_natCast, hq, hN]; omega), hN]
     have l3 : (256 : Int) < N := by omega
     clear hq
     go_enter Tryz.func75, Tryz.ntmps75
     go_wp2
     go_ret
     exact ⟨rfl, B0⟩
    ·have l3 : ¬ (256 : Int) < N := by omega
     rw [rt8_all (by rw [Int.toNat_natCast, hq, hN]; omega)]
     rw [hN]
     obtain ⟨ok, hok⟩ : ∃ q, xs.all cOk = q := ⟨_, rfl⟩
     have HO : Hid _ := hok
     rw [hok]
     clear hok hN hq
     go_enter Tryz.func75, Tryz.ntmps75
     go_wp2_with fail
     go_loopg [5] N (fun gk i' wr => ∃ k : Nat, k + gk = N ∧ i' = .int .i64 (k : Int) ∧ Hid (∀ (j : Nat) (x : ByteArray), j < k → xs[j]? = some x → x.size = 32) ∧ Below z w wr)
     case atStart => exact ⟨0, by omega, rfl, (fun j x h => by omega), B0⟩
     case round =>
      clear B0
      obtain ⟨j, hj, rfl, HA, BW⟩ := hrel
      by_cases hlt : j < N
      ·have lk : (j : Int) < N := by omega
       obtain ⟨x, hx⟩ : ∃ x, xs[j]? = some x := ⟨xs[j]'(by have := HN.out; omega), List.getElem?_eq_getElem (by have := HN.out; omega)⟩
       obtain ⟨b, o, rfl, hb, c0⟩ := jci hp j x hx
       replace c0 := (BW.cell (p := ⟨b, _, none⟩) (by show b < z; omega)).trans c0
       have wk : IntKind.i64.wrap ((j : Int) + 1) = ((j + 1 : Nat) : Int) := by rw [IntKind.wrap_i64]; omega
       by_cases hx32 : x.size = 32
       ·have lx : (x.size : Int) = 32 := by omega
        have HA2 : Hid (∀ (j' : Nat) (x : ByteArray), j' < j + 1 → xs[j']? = some x → x.size = 32) := fun j' x' hj' hx' => by
         by_cases e : j' = j
         ·subst e
          rw [hx] at hx'
          cases hx'
          exact hx32
         ·exact HA.out j' x' (by omega) hx'
        go_wp2
        go_roundg (gk - 1)
        case measure => omega
        case rel => exact ⟨j + 1, by omega, by first | rfl | (congr 1; omega), HA2, BW⟩
       ·have lx : ¬ (x.size : Int) = 32 := by omega
        have HX : Hid (ok = false) := by
         show _ = _
         rw [← HO.out]
         exact List.all_eq_false.2 ⟨x, List.mem_of_getElem? hx, by simp [cOk, hx32]⟩
        go_wp2
        go_ret
        exact ⟨by rw [HX.out]; rfl, BW⟩
      ·obtain rfl : j = N := by omega
       have lk : ¬ (j : Int) < j := by omega
       have HX : Hid (ok = true) := by
        show _ = _
        rw [← HO.out, all_cOk]
        intro x hx
        obtain ⟨i, hi⟩ := List.mem_iff_getElem?.1 hx
        exact HA.out i x (by have := (List.getElem?_eq_some_iff.1 hi).1; have := HN.out; omega) hi
       go_wp2
       go_ret
       exact ⟨by rw [HX.out]; rfl, BW⟩
theorem jen {P : Program} (w : World) (t ty e : TypeId) (i : TypeInfo) (ht : P.underlying t = some (.slice e)) (hi : P.info? e = some i) (b : Option Addr) (n c : Nat) (hc : n ≤ c) (a' : Option Addr) (c' : Nat) :
  (Builtin.append_ #[t, t] ty #[.slice b n c, .slice a' 0 c']).run P w = .ok (.slice b n c) w := by
 have hroom : ¬ c < n := Nat.not_lt.2 hc
 cases a' with
 | none => cases b <;> simp [Builtin.append_, run_underlying ht, sizeOf, typeInfo, hi, Builtin.lenOf, Builtin.firstCells, hroom, storeCells]
 | some a' => cases b <;> simp [Builtin.append_, run_underlying ht, sizeOf, typeInfo, hi, Builtin.lenOf, Builtin.firstCells, hroom, storeCells, loadCells, loadCellsFrom]
theorem jft {ops : Array Oper} {rest : List Oper} {o : Oper} {act : Act} {Q : Exit → Act → World → Prop} {W : World} (hgd : o.guard = none) (s x : Operand) (ho : o.op = .call { callee := .builtin .append, args := #[s, x], argTypes := #[27, 27] })
  (z : Nat) (v : Value) (hv : act.eval s = v) (k : Nat) (ys : List Value) (hown : W.ownsRow z 9 1 v k ys) (xs : List ByteArray) (a : Option Addr) (m c n : Nat) (hm : xs.length = m) (hx : act.eval x = .slice a m c) (hs : slS n W a xs) (hk : k ≤ 1000000) (hl : m ≤ 1000000) (hz : z ≤ W.heap.size)
  (hK : ∀ v' w', w'.ownsRow z 9 1 v' (k + m) (ys ++ xs.map .string) → W.grownBy w' v.ownBlock → wpList Tryz.prog ops Q rest (act.put o.dst v') w') : wpList Tryz.prog ops Q (o :: rest) act W := by
 obtain ⟨i0, hi0, hz0, hz1, hz2⟩ := info_parts jdm
 subst hm
 rcases hs with e | ⟨b, off, rfl, hb, hcl⟩
 ·subst e
  obtain ⟨a1, c1, rfl⟩ := jck hown
  refine jcr hgd s x 27 27 ho _ _ _ _ hv hx (jen W 27 o.type 9 i0 Tryz.underlying27 hi0 a1 k c1 (owns_cap hown) a c) ?_
  exact hK _ _ (by rw [List.map_nil, List.append_nil]; exact hown) ⟨rfl, rfl, rfl, Nat.le_refl _, fun _ _ _ => rfl⟩
 ·refine wpList_append_own _ hgd s x 27 ho z 9 i0 (.string ⟨#[]⟩) 1 16 Tryz.underlying27 hi0 hz0 hz1 hz2 rfl (by decide) v k ys hv hown ⟨b, off, none⟩ xs.length c (xs.map .string) hx (by rw [List.length_map, Nat.mul_one]) (fun j u hu => ?_) (fun u hu => ?_) (by unfold maxLen; omega) (by omega) hz ?_
  ·rw [Addr.add_mid]
   rw [List.getElem?_map] at hu
   cases hxj : xs[j]? with
   | none => rw [hxj] at hu; cases hu
   | some y =>
    rw [hxj] at hu
    cases hu
    exact hcl j y hxj
  ·obtain ⟨y, _, rfl⟩ := List.mem_map.1 hu
   rfl
  ·intro v' w' h1 h2 _
   exact hK v' w' h1 h2
def lvA (xs : List ByteArray) (D up : Nat) : List ByteArray := (List.range (2 ^ (D - up))).map (lf (lvs xs) up)
theorem slF_S {m : Nat} {W : World} {a : Option Addr} {xs : List ByteArray} (h : slF m W a xs) : slS W.heap.size W a xs := by
 rcases h with e | ⟨b, o, h1, _, h2, h3⟩
 ·exact .inl e
 ·exact .inr ⟨b, o, h1, h2, h3⟩
def LvR (m : Nat) (xs : List ByteArray) (D up : Nat) (e : Ending) (w' : World) : Prop := ∃ a' c', e = .returned (.slice a' (lvA xs D up).length c') ∧ slS w'.heap.size w' a' (lvA xs D up) ∧ slF m w' a' (lvA xs D up)
theorem lvA_len (xs : List ByteArray) (D up : Nat) : (lvA xs D up).length = 2 ^ (D - up) := by simp [lvA]
theorem lvA_at (xs : List ByteArray) (D up j : Nat) (h : j < 2 ^ (D - up)) : (lvA xs D up)[j]? = some (lf (lvs xs) up j) := by
 unfold lvA
 rw [List.getElem?_map, List.getElem?_range h]
 rfl
theorem lvA_0 (xs : List ByteArray) (D : Nat) (h : xs.length ≤ 2 ^ D) : lvA xs D 0 = xs ++ List.replicate (2 ^ D - xs.length) z32 := by
 refine List.ext_getElem? fun j => ?_
 by_cases hj : j < 2 ^ D
 ·rw [lvA_at xs D 0 j hj]
  show some (lvs xs j) = _
  unfold lvs
  rw [List.getD_eq_getElem?_getD]
  by_cases h2 : j < xs.length
  ·rw [List.getElem?_append_left h2, List.getElem?_eq_getElem h2]
   rfl
  ·rw [List.getElem?_append_right (by omega), List.getElem?_eq_none (by omega), List.getElem?_replicate, if_pos (by omega)]
   rfl
 ·rw [List.getElem?_eq_none (by rw [lvA_len]; exact Nat.le_of_not_lt hj), List.getElem?_eq_none (by rw [List.length_append, List.length_replicate]; omega)]
structure LvK (V : World) (b1 o1 M c4 p : Nat) (X1 X2 X3 : ByteArray) (u9 : Value) (S : Nat → Bool) (x36 x37 x38 x39 x40 x41 x42 x43 x44 x45 x46 x47 x48 : Value) (W : World) : Prop where
 e : Below V.heap.size V W
 f0 : S 0 = true → x36 = u9
 f1 : S 1 = true → x37 = Value.slice (some ⟨b1, o1, none⟩) M c4
 f2 : S 2 = true → x38 = Value.int .i64 (p : Int)
 f3 : S 3 = true → x39 = Value.pointer (some ⟨b1, o1 + p, none⟩)
 f4 : S 4 = true → x40 = Value.string X1
 f5 : S 5 = true → x41 = Value.slice (some ⟨b1, o1, none⟩) M c4
 f6 : S 6 = true → x42 = Value.int .i64 (p : Int)
 f7 : S 7 = true → x43 = Value.int .i64 ((p : Int) + 1)
 f8 : S 8 = true → x44 = Value.pointer (some ⟨b1, o1 + (p + 1), none⟩)
 f9 : S 9 = true → x45 = Value.string X2
 f10 : S 10 = true → x46 = Value.string (X1 ++ X2)
 f11 : S 11 = true → x47 = Value.string X3
 f12 : S 12 = true → ∃ g, x48 = .slice (some ⟨g, 0, none⟩) 1 1 ∧ V.heap.size ≤ g ∧ g < W.heap.size ∧ W.heap[g]? = some (.cells #[.string X3] 9 (0, 0))
theorem LvK.grow {V : World} {b1 o1 M c4 p : Nat} {X1 X2 X3 : ByteArray} {u9 : Value} {S : Nat → Bool} {x36 x37 x38 x39 x40 x41 x42 x43 x44 x45 x46 x47 x48 : Value} {W W' : World} (h : LvK V b1 o1 M c4 p X1 X2 X3 u9 S x36 x37 x38 x39 x40 x41 x42 x43 x44 x45 x46 x47 x48 W) (hb : Below W.heap.size W W') : LvK V b1 o1 M c4 p X1 X2 X3 u9 S x36 x37 x38 x39 x40 x41 x42 x43 x44 x45 x46 x47 x48 W' :=
 ⟨jaa h.e h.e.size hb, h.f0, h.f1, h.f2, h.f3, h.f4, h.f5, h.f6, h.f7, h.f8, h.f9, h.f10, h.f11, fun s => (h.f12 s).imp fun _ ⟨j1, j0, j2, j3⟩ => ⟨j1, j0, Nat.lt_of_lt_of_le j2 hb.size, (hb.block _ j2).trans j3⟩⟩
theorem rlevel_any (xs : List ByteArray) (D up : Nat) (hD : D ≤ 10) (hup : up ≤ D) (hx : xs.length ≤ 2 ^ D) (h32 : ∀ x ∈ xs, x.size = 32) (a : Option Addr) (c n : Nat) (w : World) (hn : n ≤ w.heap.size) (hp : slS n w a xs) :
  Calls Tryz.prog 76 #[.slice a xs.length c, .int .i64 (D : Int), .int .i64 (up : Int)] w fun e w' => LvR w.heap.size xs D up e w' ∧ Below w.heap.size w w' := by
 obtain ⟨i0, hi0, hz0, hz1, hz2⟩ := info_parts jdm
 obtain ⟨N, hN⟩ : ∃ N, xs.length = N := ⟨_, rfl⟩
 have HN : Hid (xs.length = N) := hN
 have hpow : 2 ^ D ≤ 1024 := Nat.pow_le_pow_right (by decide) hD
 have hmin : min D 64 = D := by omega
 obtain ⟨q, hq⟩ : ∃ q, 2 ^ D = q := ⟨_, rfl⟩
 have HQ : Hid _ := hq
 have hqi : (2 : Int) ^ D = (q : Int) := by rw [← hq]; simp
 have wq : IntKind.i64.wrap (q : Int) = q := by rw [IntKind.wrap_i64]; omega
 rw [hq] at hx hpow
 rw [hN] at hx ⊢
 obtain ⟨z, hz⟩ : ∃ z, w.heap.size = z := ⟨_, rfl⟩
 have B0 : Below z w w := Below.refl _ _
 have hz' : z ≤ w.heap.size := by omega
 rw [hz] at hn ⊢
 have HZ : Hid (w.heap.size = z) := hz
 have HS1 : Hid (∀ w1, w.grownBy w1 none → slS n w1 a xs) := fun w1 hgr => jan ((Below.refl n w).grown hgr (by omega) (fun _ e => by cases e)) hp
 clear hz hq hN
 go_enter Tryz.func76, Tryz.ntmps76
 go_wp2_with (first | (at_make; refine wpList_make_own _ rfl _ _ 27 rfl z 9 i0 _ 1 Tryz.underlying27 hi0 hz0 hz1 .i64 .i64 _ q rfl rfl rfl (by rw [hz2]; omega) (by unfold maxLen; omega) hz' ?_; intro w1 hown hgr) | (at_builtin; refine jft rfl _ _ rfl z _ rfl 0 [] hown xs a N c n HN.out rfl (HS1.out w1 hgr) (by omega) (by omega) (Nat.le_trans hz' hgr.size) ?_; intro v' w3 hown' hgrow))
 have BU1 : Below z w w1 := by rw [← HZ.out]; exact (Below.refl _ w).grown hgr (Nat.le_refl _) (fun _ e => by cases e)
 have BU : Below z w w3 := BU1.grown hgrow (Nat.le_trans hz' hgr.size) (fun b hb => (hown.lt b hb).1)
 have hzU : z ≤ w3.heap.size := Nat.le_trans (Nat.le_trans hz' hgr.size) hgrow.size
 have HO : w3.ownsRow z 9 1 v' N (xs.map .string) := by
  have := hown'
  rw [Nat.zero_add, List.nil_append] at this
  exact this
 clear hown hgr hown' hgrow BU1 HS1
 obtain ⟨a2, cc2, rfl⟩ := jck HO
 go_loopg [7] (q - N) (fun gk v wr => ∃ (k : Nat) (a' : Option Addr) (c' : Nat), k + gk = q ∧ N ≤ k ∧ v = .slice a' k c' ∧ Below z w wr ∧ z ≤ wr.heap.size ∧ wr.ownsRow z 9 1 (.slice a' k c') k (xs.map .string ++ List.replicate (k - N) (.string z32)))
 case atStart => exact ⟨N, a2, cc2, by omega, Nat.le_refl _, rfl, BU, hzU, by rw [Nat.sub_self, List.replicate_zero, List.append_nil]; exact HO⟩
 case round =>
  clear BU hzU HO B0
  obtain ⟨k, a', c', hk, hNk, rfl, BW, hzw, hown⟩ := hrel
  by_cases hlt : k < q
  ·have lk : (k : Int) < q := by omega
   have KN := noughts_any 32 (by omega)
   rw [zs_32] at KN
   have hr3 : ∀ b, (Value.slice a' k c').ownBlock = some b → z ≤ b := fun b hb => (hown.lt b hb).1
   go_wp2_with fail
   refine (KN _).mono ?_
   rintro e w4 ⟨rfl, B4⟩
   have hown4 := jax hown B4
   have BW4 := jaa BW hzw B4
   have hz4 : z ≤ w4.heap.size := Nat.le_trans hzw B4.size
   clear KN B4 BW hown
   go_wp2_with (at_builtin; refine wpList_append_own _ rfl _ _ 27 rfl z 9 i0 (.string ⟨#[]⟩) 1 16 Tryz.underlying27 hi0 hz0 hz1 hz2 rfl (by decide) _ _ _ rfl (jax hown4 ((Below.refl _ w4).alloc (Nat.le_refl _) _)) ⟨w4.heap.size, 0, none⟩ 1 1 [.string z32] rfl rfl (jcg _ _ _) (by intro u hu; simp at hu; subst hu; rfl) (by unfold maxLen; omega) (by omega) (by simp; omega) ?_)
   intro v5 w5 hown5 hgrow5 hiff
   obtain ⟨a5, c5, rfl⟩ := jck hown5
   have HW : Hid (_ ∧ _) := ⟨hown5, hgrow5⟩
   clear hown5 hgrow5 hiff
   go_wp2
   go_roundg (gk - 1)
   case measure => omega
   case rel =>
    obtain ⟨hown5, hgrow5⟩ := HW.out
    refine ⟨k + 1, a5, c5, by omega, by omega, rfl, (BW4.alloc hz4 _).grown hgrow5 (by simp; omega) (fun b hb => hr3 b hb), Nat.le_trans (by simp; omega) hgrow5.size, ?_⟩
    rw [show k + 1 - N = (k - N) + 1 by omega, List.replicate_succ']
    exact hown5
  ·obtain rfl : k = q := by omega
   have lk : ¬ (k : Int) < k := by omega
   have hlv : xs.map Value.string ++ List.replicate (k - N) (.string z32) = (lvA xs D 0).map .string := by rw [lvA_0 xs D (by rw [HQ.out, HN.out]; exact hx), HQ.out, HN.out, List.map_append, List.map_replicate]
   have hln : (lvA xs D 0).length = k := by rw [lvA_len]; exact HQ.out
   rw [hlv] at hown
   have hsl : slF z wr a' (lvA xs D 0) := by
    rw [← hln] at hown
    obtain ⟨a3, c3, e, hs⟩ := slF_owns hown
    cases e
    exact hs
   clear hown hlv
   go_wp2_with fail
   go_loopg [7, 8] up (fun gk v i' wr => ∃ (j : Nat) (a' : Option Addr) (c' : Nat), j + gk = up ∧ i' = .int .i64 (j : Int) ∧ v = .slice a' (2 ^ (D - j)) c' ∧ Below z w wr ∧ z ≤ wr.heap.size ∧ slF z wr a' (lvA xs D j))
   case atStart => exact ⟨0, a', c', by omega, rfl, by rw [Nat.sub_zero, HQ.out], BW, hzw, hsl⟩
   case round =>
    clear hsl BW hzw
    obtain ⟨j, a4, c4, hj, rfl, rfl, BW, hzw, hsl⟩ := hrel
    by_cases hju : j < up
    ·have lj : (j : Int) < up := by omega
     obtain ⟨H, hH⟩ : ∃ H, 2 ^ (D - (j + 1)) = H := ⟨_, rfl⟩
     obtain ⟨M, hM⟩ : ∃ M, 2 ^ (D - j) = M := ⟨_, rfl⟩
     have hMH0 : M = 2 * H := by rw [← hM, ← hH, show D - j = (D - (j + 1)) + 1 by omega, Nat.pow_succ, Nat.mul_comm]
     have hM2 : M ≤ 1024 := by rw [← hM]; exact Nat.pow_le_pow_right (by decide) (by omega : D - j ≤ 10)
     have HMM : Hid (_ ∧ _ ∧ _) := ⟨hM, hH, hMH0⟩
     have wj : IntKind.i64.wrap ((j : Int) + 1) = ((j + 1 : Nat) : Int) := by rw [IntKind.wrap_i64]; omega
     rw [hM]
     obtain ⟨y, hy⟩ : ∃ y, wr.heap.size = y := ⟨_, rfl⟩
     have HYY : Hid _ := hy
     replace hsl := slF_S hsl
     rw [hy] at hsl
     have hzy : z ≤ y := by omega
     obtain ⟨W0, hW0⟩ : ∃ W0, wr = W0 := ⟨_, rfl⟩
     rw [hW0] at BW hsl HYY hzw
     obtain ⟨g0, hg0⟩ : ∃ x, gk = x := ⟨_, rfl⟩
     rw [hg0] at hj
     have BY : Below y W0 wr := by rw [hW0]; exact Below.refl _ _
     have hyw : y ≤ wr.heap.size := by omega
     clear hM hH hy hW0 hMH0
     go_wp2_with fail
     go_loopg [9, 10] H (fun gk v i' wr => ∃ m : Nat, m + gk = H ∧ i' = .int .i64 ((2 * m : Nat) : Int) ∧ Below y W0 wr ∧ y ≤ wr.heap.size ∧ wr.ownsRow y 9 1 v m ((List.range m).map fun t => .string (lf (lvs xs) (j + 1) t)))
     case atStart => exact ⟨0, by omega, rfl, BY, hyw, World.ownsRow_nil _ _ _ _⟩
     case round =>
      clear BY hyw
      obtain ⟨m, hm, rfl, BY, hyw, hown⟩ := hrel
      obtain ⟨p, hp2⟩ : ∃ p, 2 * m = p := ⟨_, rfl⟩
      rw [hp2]
      by_cases hmh : m < H
      ·have lm : (p : Int) < M := by have := HMM.out.2.2; omega
       have wp1 : IntKind.i64.wrap ((p : Int) + 1) = ((p + 1 : Nat) : Int) := by have := HMM.out.2.2; rw [IntKind.wrap_i64]; omega
       have wp2 : IntKind.i64.wrap ((p : Int) + 2) = ((p + 2 : Nat) : Int) := by have := HMM.out.2.2; rw [IntKind.wrap_i64]; omega
       have lm1 : ((p + 1 : Nat) : Int) < M := by have := HMM.out.2.2; omega
       have lm2 : (p : Int) + 1 < M := by have := HMM.out.2.2; omega
       have hr3 : ∀ b, u9.ownBlock = some b → y ≤ b := fun b hb => (hown.lt b hb).1
       obtain ⟨b1, o1, rfl, hb1, c1⟩ := jci hsl p _ (lvA_at xs D j p (by have := HMM.out.2.2; rw [HMM.out.1]; omega))
       obtain ⟨b2, o2, hbo, -, c2⟩ := jci hsl (p + 1) _ (lvA_at xs D j (p + 1) (by have := HMM.out.2.2; rw [HMM.out.1]; omega))
       obtain ⟨rfl, rfl⟩ : b1 = b2 ∧ o1 = o2 := by cases hbo; exact ⟨rfl, rfl⟩
       replace c1 := (BY.cell (p := ⟨b1, _, none⟩) hb1).trans c1
       replace c2 := (BY.cell (p := ⟨b1, _, none⟩) hb1).trans c2
       have s1 := jgv (lvs xs) (jfb xs h32) j p
       have s2 := jgv (lvs xs) (jfb xs h32) j (p + 1)
       have HLF : Hid (lf (lvs xs) (j + 1) m = hs (lf (lvs xs) j p) (lf (lvs xs) j (p + 1))) := by rw [← hp2]; exact rfl
       obtain ⟨X1, hX1⟩ : ∃ x, lf (lvs xs) j p = x := ⟨_, rfl⟩
       obtain ⟨X2, hX2⟩ : ∃ x, lf (lvs xs) j (p + 1) = x := ⟨_, rfl⟩
       rw [hX1] at c1 s1 HLF
       rw [hX2] at c2 s2 HLF
       have z1 : ¬ 9223372036854775807 < X1.size + X2.size := by omega
       have KS : Hid (∀ w : World, _) := fun w : World => jfz (X1 ++ X2) (by rw [ByteArray.size_append]; omega) w
       have hb1w : b1 < wr.heap.size := by omega
       have HP2 : Hid (2 * m = p) := hp2
       have hm1 : m ≤ 1024 := by have := HMM.out.2.2; omega
       obtain ⟨X3, hX3⟩ : ∃ x, jco (X1 ++ X2) = x := ⟨_, rfl⟩
       have HX3 : Hid _ := hX3
       rw [hX3] at KS
       unfold hs at HLF
       rw [hX3] at HLF
       clear hX1 hX2 hp2 hX3
       go_wp2_with fail
       refine jaw 13 (fun S aa W => ∃ x36 x37 x38 x39 x40 x41 x42 x43 x44 x45 x46 x47 x48 : Value, aa = { tmps := #[Value.slice a N c, Value.int IntKind.i64 ↑D, Value.int IntKind.i64 ↑up, undef, undef, undef, Value.slice none 0 0, Value.slice (some { block := b1, off := o1 }) M c4, Value.int IntKind.i64 ↑j, u9, Value.int IntKind.i64 ↑p, Value.int IntKind.i64 ↑D, Value.int IntKind.i64 ↑k, Value.slice (some { block := w.heap.size, off := 0 }) 0 k, Value.slice a N c, Value.slice a2 N cc2, Value.slice a' k c', Value.int IntKind.i64 ↑k, Value.int IntKind.i64 ↑D, Value.int IntKind.i64 ↑k, Value.bool false, u21, u22, u23, u24, Value.int IntKind.i64 ↑j, Value.int IntKind.i64 ↑up, Value.bool true, u28, u29, Value.int IntKind.i64 ↑p, Value.slice (some { block := b1, off := o1 }) M c4, Value.int IntKind.i64 ↑M, Value.bool true, u34, u35, x36, x37, x38, x39, x40, x41, x42, x43, x44, x45, x46, x47, x48, u49, u50, undef], defers := [] } ∧ LvK wr b1 o1 M c4 p X1 X2 X3 u9 S x36 x37 x38 x39 x40 x41 x42 x43 x44 x45 x46 x47 x48 W) (by kernel_rfl) (by kernel_rfl) ?_ ?_ ?_
       ·exact ⟨u36, u37, u38, u39, u40, u41, u42, u43, u44, u45, u46, u47, u48, rfl, ⟨(Below.refl _ wr).drew, nofun, nofun, nofun, nofun, nofun, nofun, nofun, nofun, nofun, nofun, nofun, nofun, nofun⟩⟩
       ·intro i o S aa W hin hi hun hJ hall K hK
        obtain ⟨x36, x37, x38, x39, x40, x41, x42, x43, x44, x45, x46, x47, x48, rfl, h⟩ := hJ
        have hlt : i < 13 := hin
        have hcase : i = 0 ∨ i = 1 ∨ i = 2 ∨ i = 3 ∨ i = 4 ∨ i = 5 ∨ i = 6 ∨ i = 7 ∨ i = 8 ∨ i = 9 ∨ i = 10 ∨ i = 11 ∨ i = 12 := by omega
        rcases hcase with rfl | rfl | rfl | rfl | rfl | rfl | rfl | rfl | rfl | rfl | rfl | rfl | rfl
        all_goals (have ho := (Option.some.inj hi).symm; subst ho; clear hi hlt hin)
        ·go_simp
         exact hK _ _ ⟨_, _, _, _, _, _, _, _, _, _, _, _, _, rfl, { h with f0 := fun _ => rfl }⟩
        ·go_simp
         exact hK _ _ ⟨_, _, _, _, _, _, _, _, _, _, _, _, _, rfl, { h with f1 := fun _ => rfl }⟩
        ·go_simp
         exact hK _ _ ⟨_, _, _, _, _, _, _, _, _, _, _, _, _, rfl, { h with f2 := fun _ => rfl }⟩
        ·have s_1 : S 1 = true := hall ⟨1, .data⟩ (by simp) rfl
         obtain rfl := h.f1 s_1
         have s_2 : S 2 = true := hall ⟨2, .data⟩ (by simp) rfl
         obtain rfl := h.f2 s_2
         go_simp
         exact hK _ _ ⟨_, _, _, _, _, _, _, _, _, _, _, _, _, rfl, { h with f3 := fun _ => rfl }⟩
        ·have s_3 : S 3 = true := hall ⟨3, .data⟩ (by simp) rfl
         obtain rfl := h.f3 s_3
         have cW := (h.e.cell (p := ⟨b1, o1 + p, none⟩) hb1w).trans c1
         go_simp
         exact hK _ _ ⟨_, _, _, _, _, _, _, _, _, _, _, _, _, rfl, { h with f4 := fun _ => rfl }⟩
        ·go_simp
         exact hK _ _ ⟨_, _, _, _, _, _, _, _, _, _, _, _, _, rfl, { h with f5 := fun _ => rfl }⟩
        ·go_simp
         exact hK _ _ ⟨_, _, _, _, _, _, _, _, _, _, _, _, _, rfl, { h with f6 := fun _ => rfl }⟩
        ·have s_6 : S 6 = true := hall ⟨6, .data⟩ (by simp) rfl
         obtain rfl := h.f6 s_6
         go_simp
         exact hK _ _ ⟨_, _, _, _, _, _, _, _, _, _, _, _, _, rfl, { h with f7 := fun _ => rfl }⟩
        ·have s_5 : S 5 = true := hall ⟨5, .data⟩ (by simp) rfl
         obtain rfl := h.f5 s_5
         have s_7 : S 7 = true := hall ⟨7, .data⟩ (by simp) rfl
         obtain rfl := h.f7 s_7
         go_simp
         exact hK _ _ ⟨_, _, _, _, _, _, _, _, _, _, _, _, _, rfl, { h with f8 := fun _ => rfl }⟩
        ·have s_8 : S 8 = true := hall ⟨8, .data⟩ (by simp) rfl
         obtain rfl := h.f8 s_8
         have cW := (h.e.cell (p := ⟨b1, o1 + (p + 1), none⟩) hb1w).trans c2
         go_simp
         exact hK _ _ ⟨_, _, _, _, _, _, _, _, _, _, _, _, _, rfl, { h with f9 := fun _ => rfl }⟩
        ·have s_4 : S 4 = true := hall ⟨4, .data⟩ (by simp) rfl
         obtain rfl := h.f4 s_4
         have s_9 : S 9 = true := hall ⟨9, .data⟩ (by simp) rfl
         obtain rfl := h.f9 s_9
         go_simp
         exact hK _ _ ⟨_, _, _, _, _, _, _, _, _, _, _, _, _, rfl, { h with f10 := fun _ => rfl }⟩
        ·have s_10 : S 10 = true := hall ⟨10, .data⟩ (by simp) rfl
         obtain rfl := h.f10 s_10
         go_simp
         refine (KS.out W).mono ?_
         rintro e w5 ⟨rfl, hb5⟩
         have h1 := h.grow hb5
         go_simp
         exact hK _ _ ⟨_, _, _, _, _, _, _, _, _, _, _, _, _, rfl, { h1 with f11 := fun _ => rfl }⟩
        ·have s_11 : S 11 = true := hall ⟨11, .data⟩ (by simp) rfl
         obtain rfl := h.f11 s_11
         go_simp
         have h1 := h.grow ((Below.refl _ W).alloc (Nat.le_refl _) (.cells #[.string X3] 9))
         exact hK _ _ ⟨_, _, _, _, _, _, _, _, _, _, _, _, _, rfl, { h1 with f12 := fun _ => ⟨W.heap.size, rfl, h.e.size, by simp, World.alloc_heap_new W _⟩ }⟩
       ·rintro S aa W hall ⟨x36, x37, x38, x39, x40, x41, x42, x43, x44, x45, x46, x47, x48, rfl, h⟩
        obtain rfl := h.f0 (hall 0 (by decide))
        obtain rfl := h.f1 (hall 1 (by decide))
        obtain rfl := h.f2 (hall 2 (by decide))
        obtain rfl := h.f3 (hall 3 (by decide))
        obtain rfl := h.f4 (hall 4 (by decide))
        obtain rfl := h.f5 (hall 5 (by decide))
        obtain rfl := h.f6 (hall 6 (by decide))
        obtain rfl := h.f7 (hall 7 (by decide))
        obtain rfl := h.f8 (hall 8 (by decide))
        obtain rfl := h.f9 (hall 9 (by decide))
        obtain rfl := h.f10 (hall 10 (by decide))
        obtain rfl := h.f11 (hall 11 (by decide))
        obtain ⟨gg, rfl, hgg, hhg, hcg⟩ := h.f12 (hall 12 (by decide))
        have BWD := h.e
        clear h hall
        simp only [List.drop_succ_cons, List.drop_zero]
        have hown2 := jax hown BWD
        have hyW : y ≤ W.heap.size := Nat.le_trans hyw BWD.size
        have BW2 := jaa BY hyw BWD
        have HV : Hid (_ ∧ _) := ⟨hown2, hcg⟩
        clear hown BY BWD hown2 hcg c1 c2
        go_wp2_with (at_builtin; refine wpList_append_own _ rfl _ _ 27 rfl y 9 i0 (.string ⟨#[]⟩) 1 16 Tryz.underlying27 hi0 hz0 hz1 hz2 rfl (by decide) _ _ _ rfl HV.out.1 ⟨gg, 0, none⟩ 1 1 [.string X3] rfl rfl (by intro j u hj; rw [Addr.add_lit, Lib.cell_of_heap HV.out.2, Nat.zero_add]; simpa using hj) (by intro u hu; simp at hu; subst hu; rfl) (by unfold maxLen; omega) (by omega) hyW ?_)
        intro v5 w5 hown5 hgrow5 hiff
        have HW : Hid (_ ∧ _) := ⟨hown5, hgrow5⟩
        clear hown5 hgrow5 hiff
        go_wp2
        go_roundg (gk - 1)
        case measure => omega
        case rel =>
         obtain ⟨hown5, hgrow5⟩ := HW.out
         refine ⟨m + 1, by omega, by have := HP2.out; first | rfl | (congr 1; omega), BW2.grown hgrow5 hyW (fun b hb => hr3 b hb), Nat.le_trans hyW hgrow5.size, ?_⟩
         rw [map_snoc, HLF.out]
         exact hown5
      ·have hmH : m = H := by omega
       have lm : ¬ (p : Int) < M := by have := HMM.out.2.2; omega
       have hln : (lvA xs D (j + 1)).length = m := by rw [lvA_len, HMM.out.2.1, hmH]
       have hlv : ((List.range m).map fun t => Value.string (lf (lvs xs) (j + 1) t)) = (lvA xs D (j + 1)).map .string := by
        unfold lvA
        rw [HMM.out.2.1, hmH, List.map_map]
        rfl
       rw [hlv, ← hln] at hown
       obtain ⟨a5, c5, rfl, hsl5⟩ := slF_owns hown
       have BF := BW.trans (BY.mono hzy)
       have HF : Hid (_ ∧ _ ∧ _) := ⟨slF_mono hsl5 hzy, BF, hln⟩
       rw [hln]
       clear hown hsl5 BY BW BF hlv hln
       go_wp2
       go_roundg (g0 - 1)
       case measure => omega
       case rel =>
        refine ⟨j + 1, a5, c5, by omega, by first | rfl | (congr 1; omega), ?_, HF.out.2.1, by omega, HF.out.1⟩
        rw [HMM.out.2.1]
    ·obtain rfl : j = up := by omega
     have lj : ¬ (j : Int) < j := by omega
     obtain ⟨M, hM⟩ : ∃ M, 2 ^ (D - j) = M := ⟨_, rfl⟩
     have HF : Hid (_ ∧ _ ∧ _) := ⟨hsl, BW, hM⟩
     rw [hM]
     clear hsl BW hM
     go_wp2
     go_ret
     exact ⟨⟨a4, c4, by rw [lvA_len, HF.out.2.2]; rfl, slF_S HF.out.1, HF.out.1⟩, HF.out.2.1⟩
end Go.Proofs.YtoddangedbefgabGreatDoor
namespace Go.Proofs.YtoddangedbefgabGreatDoor
open Go.RowKit Go.Shelf Go.Sort
theorem z_rroot_any (xs : List ByteArray) (d : Int) (a : Option Addr) (c n : Nat) (w : World) (hn : n ≤ w.heap.size) (hp : slS n w a xs) :
  Calls Tryz.prog 37 #[.slice a xs.length c, .int .i64 d] w fun e w' => e = .returned (rootV xs d) ∧ Below w.heap.size w w' := by
 have KR := z_rright_any xs d a c n w hn hp
 obtain ⟨ok, hok⟩ : ∃ q, rt8 xs d = q := ⟨_, rfl⟩
 rw [hok] at KR
 have HO : Hid _ := hok
 obtain ⟨N, hN⟩ : ∃ N, xs.length = N := ⟨_, rfl⟩
 rw [hN] at KR ⊢
 go_enter Tryz.func37, Tryz.ntmps37
 go_wp2_with fail
 refine KR.mono ?_
 rintro e w1 ⟨rfl, B1⟩
 clear KR hok
 cases ok with
 | false =>
  have HR : Hid (rootV xs d = .tuple #[.string ⟨#[]⟩, .int .i64 80]) := if_neg (by rw [HO.out]; decide)
  go_wp2
  exact bodyPost_ret (v := .tuple #[.string ⟨#[]⟩, .int .i64 80]) (by simp [results, Tryz.results37, go_sem]) rfl ⟨by rw [HR.out], B1⟩
 | true =>
  obtain ⟨h0, h10, hpw, h256, h32⟩ := (jfm xs d).1 HO.out
  obtain ⟨D, rfl⟩ : ∃ D : Nat, d = (D : Int) := ⟨d.toNat, by omega⟩
  rw [Int.toNat_natCast] at hpw
  have HR : Hid (rootV xs (D : Int) = .tuple #[.string (lf (lvs xs) D 0), .int .i64 0]) := by
   show _ = _
   rw [rootV, if_pos HO.out, Int.toNat_natCast]
  have KL := rlevel_any xs D D (by omega) (Nat.le_refl _) hpw h32 a c n w1 (Nat.le_trans hn B1.size) (jan (B1.mono hn) hp)
  rw [hN] at KL
  clear h0 h10 hpw HO
  go_wp2_with fail
  refine KL.mono ?_
  rintro e w2 ⟨⟨a', c', rfl, hsl, -⟩, B2⟩
  have BW2 := jaa B1 B1.size B2
  have hlen : (lvA xs D D).length = 1 := by rw [lvA_len, Nat.sub_self]
  obtain ⟨b, o, rfl, hb, c0⟩ := jci hsl 0 _ (lvA_at xs D D 0 (by rw [Nat.sub_self]; decide))
  rw [Nat.add_zero] at c0
  obtain ⟨r, hr⟩ : ∃ r, lf (lvs xs) D 0 = r := ⟨_, rfl⟩
  rw [hr] at c0 HR
  rw [hlen]
  clear B1 B2 hsl hr KL
  go_wp2
  exact bodyPost_ret (v := .tuple #[.string r, .int .i64 0]) (by simp [results, Tryz.results37, go_sem]) rfl ⟨by rw [HR.out], BW2⟩
attribute [local go_sem] Oper.semAt_some
theorem all_any8 (a : Option Addr) (m c : Nat) (w : World) :
  Calls Tryz.prog 117 #[.slice a m c] w fun e w' => e = .returned (.func (.func 137) #[] #[.pointer (some ⟨w.heap.size, 0, none⟩)]) ∧ w' = w.alloc (.cells #[.slice a m c] 27) := by
 go_enter Tryz.func117, Tryz.ntmps117
 go_wp2
 go_ret
 exact ⟨rfl, rfl⟩
theorem all1_in (n l n0 n1 q bX : Nat) (xs : List ByteArray) (hxs : xs.length ≤ 1000) (a : Option Addr) (c : Nat)
  (J Jx : Nat → World → Prop)
  (hY : ∀ m k x W, J k W → xs[k]? = some x → YieldAt Fence.wide m Tryz.prog l #[.int .i64 (k : Int), .string x] W fun e W' =>
   (e = .returned (.bool true) ∧ J (k + 1) W' ∧ Kz n0 n1 l W W') ∨ (e = .returned (.bool false) ∧ Jx k W'))
  (W : World) (hcX : W.cell? ⟨bX, 0, none⟩ = some (.slice a xs.length c)) (hs : slZ n0 n1 l q W a xs) (h0 : J 0 W) :
  CallsIn Fence.wide n Tryz.prog 137 #[.func (.yield l) #[] #[], .pointer (some ⟨bX, 0, none⟩)] W fun e W' => (∃ v, e = .returned v) ∧ (J xs.length W' ∨ ∃ k, k < xs.length ∧ Jx k W') := by
 refine callsIn_of_wp Tryz.func137 rfl trivial ?_ rfl
 simp only [Tryz.ntmps137, List.size_toArray, List.length_cons, List.length_nil, Nat.reduceAdd, Nat.reduceSub, Array.replicate_succ, Array.replicate_zero, List.push_toArray, List.append_toArray, List.nil_append, List.cons_append]
 obtain ⟨N, hN⟩ : ∃ N, xs.length = N := ⟨_, rfl⟩
 rw [hN] at hxs hcX ⊢
 gi_wp2
 gi_loopw [7] (fun i wr => ∃ k : Nat, k ≤ N ∧ i = .int .i64 (k : Int) ∧ J k wr ∧ Kz n0 n1 l W wr)
  (fun i _ => (N - (intOf i).toNat))
 case atStart => exact ⟨0, by omega, rfl, h0, Kz.refl _ _ _ _⟩
 case round =>
  obtain ⟨k, hk, rfl, hJs, hkz⟩ := hrel
  by_cases hlt : k < N
  ·have l0 : (k : Int) < N := by omega
   obtain ⟨x, hx⟩ : ∃ x, xs[k]? = some x := ⟨xs[k]'(by omega), List.getElem?_eq_getElem (by omega)⟩
   obtain ⟨b, o, rfl, hb, c0⟩ := jci (hs.kz hkz).slS k x hx
   have wk : IntKind.i64.wrap ((k : Int) + 1) = ((k + 1 : Nat) : Int) := by rw [IntKind.wrap_i64]; omega
   obtain ⟨fn, tmps, assign, body, hy, hR⟩ := hY (n - 1) k x wr hJs hx
   have HH : Hid (Kz n0 n1 l W wr) := hkz
   clear hJs hkz
   gi_wp2
   refine ⟨fun h => (by cases h), hR.mono ?_⟩
   rintro e W3 (⟨rfl, hJ3, hk3⟩ | ⟨rfl, hJx3⟩)
   ·clear hy hR c0
    gi_wp2
    go_roundw
    case rel => exact ⟨k + 1, by omega, by first | rfl | (congr 1; omega), hJ3, Kz.trans HH.out hk3⟩
    case measure => simp [intOf]; omega
   ·clear hy hR c0
    gi_wp2
    refine bodyPost_ret (v := .tuple #[]) (by simp [results, Tryz.results137, go_sem]) rfl ⟨⟨_, rfl⟩, .inr ⟨k, hlt, hJx3⟩⟩
  ·obtain rfl : k = N := by omega
   have l0 : ¬ (k : Int) < k := by omega
   gi_wp2
   go_end0
   exact ⟨⟨_, rfl⟩, .inl hJs⟩
end Go.Proofs.YtoddangedbefgabGreatDoor
