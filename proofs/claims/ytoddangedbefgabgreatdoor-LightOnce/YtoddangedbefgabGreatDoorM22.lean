/- Lemmas: A tree's root: Root. The reference's right, level, Root, Branch. A slice of texts gone through: slices.All. Whether a branch is a leaf's: Check. The law SszSound, walked. -/
import Derived.Test.YtoddangedbefgabGreatDoorM1
import Derived.Test.YtoddangedbefgabGreatDoorM10
import Derived.Test.YtoddangedbefgabGreatDoorM11
import Derived.Test.YtoddangedbefgabGreatDoorM12
import Derived.Test.YtoddangedbefgabGreatDoorM13
import Derived.Test.YtoddangedbefgabGreatDoorM16
import Derived.Test.YtoddangedbefgabGreatDoorM17
import Derived.Test.YtoddangedbefgabGreatDoorM18
import Derived.Test.YtoddangedbefgabGreatDoorM19
import Derived.Test.YtoddangedbefgabGreatDoorM20
import Derived.Test.YtoddangedbefgabGreatDoorM21
import Derived.Test.YtoddangedbefgabGreatDoorM3
import Derived.Test.YtoddangedbefgabGreatDoorM5
import Derived.Test.YtoddangedbefgabGreatDoorM8
import Derived.Test.YtoddangedbefgabGreatDoorM9
import Derived.Test.YtoddangedbefgabGreatDoorRows
import Derived.Shelf.Pu.Clone
namespace Go.Proofs.YtoddangedbefgabGreatDoor
open Go.RowKit Go.Shelf Go.Sort
attribute [local go_sem] Oper.semAt_some

def z_rc : Ren := ⟨fun k => if k = 25 then 122 else k, fun k => if k = 37 then 116 else if k = 47 then 194 else k, fun k => k⟩
set_option maxRecDepth 100000 in
theorem z_lays_clone : LaysPu.n25 Tryz.prog z_rc where
 mixed := by kernel_rfl
 f25 := by kernel_rfl
 t0 := by kernel_rfl
 a0 := fun w => rfl
 z0 := fun w => rfl
 v0 := fun w => rfl
 i0 := by kernel_rfl
 t3 := by kernel_rfl
 a3 := fun w => rfl
 z3 := fun w => rfl
 v3 := fun w => rfl
 i3 := by kernel_rfl
 t4 := by kernel_rfl
 a4 := fun w => rfl
 z4 := fun w => rfl
 v4 := fun w => rfl
 i4 := by kernel_rfl
 t5 := by kernel_rfl
 a5 := fun w => rfl
 z5 := fun w => rfl
 v5 := fun w => rfl
 i5 := by kernel_rfl
 t9 := by kernel_rfl
 a9 := fun w => rfl
 z9 := fun w => rfl
 v9 := fun w => rfl
 i9 := by kernel_rfl
 t37 := by kernel_rfl
 a37 := fun w => rfl
 z37 := fun w => rfl
 v37 := fun w => rfl
 i37 := by kernel_rfl
 t47 := by kernel_rfl
 a47 := fun w => rfl
 z47 := fun w => rfl
 v47 := fun w => rfl
 i47 := by kernel_rfl
theorem z_clone1_any (s : ByteArray) (w : World) (h : s.size ≤ 281474976710656) : Calls Tryz.prog 122 #[.string s] w fun e w' => e = .returned (.string s) ∧ Below w.heap.size w w' := AnyPu.stringslite_Clone z_lays_clone s w h
set_option maxHeartbeats 1000000 in
theorem z_clone_any (s : ByteArray) (w : World) (h : s.size ≤ 281474976710656) : Calls Tryz.prog 91 #[.string s] w fun e w' => e = .returned (.string s) ∧ Below w.heap.size w w' := by
 have K := fun w => z_clone1_any s w h
 go_enter Tryz.func91, Tryz.ntmps91
 go_wp2_with fail
 refine (K _).mono ?_
 rintro e w1 ⟨rfl, B1⟩
 go_wp2
 go_ret
 exact ⟨rfl, B1⟩

def rootV (xs : List ByteArray) (d : Int) : Value := if rt8 xs d = true then .tuple #[.string (lf (lvs xs) d.toNat 0), .int .i64 0] else .tuple #[.string ⟨#[]⟩, .int .i64 80]

set_option maxRecDepth 100000 in
set_option maxHeartbeats 2000000 in
theorem z_root_any (xs : List ByteArray) (d : Int) (a : Option Addr) (c n : Nat) (w : World) (hl : Laid w) (hn : n ≤ w.heap.size) (hp : slS n w a xs) :
  Calls Tryz.prog 110 #[.slice a xs.length c, .int .i64 d] w fun e w' => e = .returned (rootV xs d) ∧ Below w.heap.size w w' := by
 have KH := haveTree_any xs d a c n w hn hp
 obtain ⟨ok, hok⟩ : ∃ q, rt8 xs d = q := ⟨_, rfl⟩
 rw [hok] at KH
 have HO : Hid _ := hok
 obtain ⟨N, hN⟩ : ∃ N, xs.length = N := ⟨_, rfl⟩
 rw [hN] at KH ⊢
 refine (callsIn_wide (n := 9)).1 ?_
 refine callsIn_of_wp_marks Tryz.func110 rfl trivial ?_ rfl
 refine wpIn_wide.2 ?_
 simp only [Tryz.ntmps110, List.size_toArray, List.length_cons, List.length_nil, Nat.reduceAdd, Nat.reduceSub, Array.replicate_succ, Array.replicate_zero, List.push_toArray, List.append_toArray, List.nil_append, List.cons_append]
 go_wp2_with fail
 refine KH.mono ?_
 rintro e w1 ⟨rfl, B1⟩
 clear KH hok
 cases ok with
 | false =>
  go_wp2
  refine ⟨.tuple #[.string ⟨#[]⟩, .int .i64 80], by simp [results, Tryz.results110, go_sem], ?_, B1⟩
  rw [rootV, if_neg (by rw [HO.out]; decide)]
 | true =>
  obtain ⟨h0, h10, hpw, h256, h32⟩ := (rt8_iff xs d).1 HO.out
  obtain ⟨D, rfl⟩ : ∃ D : Nat, d = (D : Int) := ⟨d.toNat, by omega⟩
  have hD : D ≤ 10 := by omega
  have HR : Hid (rootV xs (D : Int) = .tuple #[.string (lf (lvs xs) D 0), .int .i64 0]) := by
   show _ = _
   rw [rootV, if_pos HO.out, Int.toNat_natCast]
  clear h0 h10 hpw HO
  go_wp2_with fail
  refine (levels_any a N c (D : Int) _).mono ?_
  rintro e w2 ⟨rfl, hw2⟩
  obtain ⟨p, hp0⟩ : ∃ p, w1.heap.size = p := ⟨_, rfl⟩
  have hF2 : Below p w1 w2 ∧ w2.heap.size = p + 3 ∧ w2.heap[p]? = some (.cells #[.slice none 0 0, .string ⟨#[]⟩] 170 (0, 0)) ∧ w2.heap[p + 1]? = some (.cells #[.slice a N c] 27 (0, 0)) ∧ w2.heap[p + 2]? = some (.cells #[.int .i64 (D : Int)] 3 (0, 0)) := by
   have t2 := z_alloc_two (w1.alloc (.cells #[.slice none 0 0, .string ⟨#[]⟩] 170)) (.cells #[.slice a N c] 27) (.cells #[.int .i64 (D : Int)] 3)
   have A1 : Below w1.heap.size w1 (w1.alloc (.cells #[.slice none 0 0, .string ⟨#[]⟩] 170)) := (Below.refl _ w1).alloc (Nat.le_refl _) _
   have A2 : Below (w1.heap.size + 1) (w1.alloc (.cells #[.slice none 0 0, .string ⟨#[]⟩] 170)) w2 := by
    rw [hw2]
    exact ((Below.refl _ _).alloc (by simp) _).alloc (by simp) _
   have hsz : (w1.alloc (.cells #[.slice none 0 0, .string ⟨#[]⟩] 170)).heap.size = w1.heap.size + 1 := by simp
   rw [← hw2, hsz, hp0] at t2
   rw [hp0] at A1 A2
   refine ⟨A1.trans (A2.mono (by omega)), by rw [hw2]; simp; omega, (A2.block p (by omega)).trans ?_, t2.1, t2.2⟩
   rw [← hp0]
   exact World.alloc_heap_new w1 _
  obtain ⟨B2, hz2, hb0, hb1, hb2⟩ := hF2
  have hcp : ∀ (W : World) (v1 v2 : Value), W.heap[p]? = some (.cells #[v1, v2] 170 (0, 0)) → W.cell? ⟨p, 0, none⟩ = some v1 ∧ W.cell? ⟨p, 1, none⟩ = some v2 ∧ ∀ o, W.frozen? ⟨p, o, none⟩ = false := fun W v1 v2 h => ⟨by rw [Lib.cell_of_heap h]; rfl, by rw [Lib.cell_of_heap h]; rfl, fun o => by simp [World.frozen?, h]⟩
  have HC : Hid _ := hcp
  have hsz' : (w1.alloc (.cells #[.slice none 0 0, .string ⟨#[]⟩] 170)).heap.size = p + 1 := by simp [hp0]
  rw [hsz', hp0]
  have HP : Hid _ := hp0
  have hl1 := hl.below B1
  have hp1 : slS n w1 a xs := slS_below (B1.mono hn) hp
  have hnp : n ≤ p := by rw [← hp0]; exact Nat.le_trans hn B1.size
  have h1p : 2 < p := by rw [← hp0]; have := hl1.k.z; have := hl1.h.z; omega
  clear hw2 hcp hsz' hp0
  go_wp2_with fail
  refine (wpIn_wide (n := 9)).1 ?_
  refine range_to (by omega) (gf := 146) (lb := #[.pointer (some ⟨p + 1, 0, none⟩), .pointer (some ⟨p + 2, 0, none⟩)]) rfl (enters_of Tryz.func146 (by kernel_rfl) rfl) ?_
  intro fn mk W1 hmk BW1 hszW hRc
  rw [hz2] at hmk BW1 hszW hRc ⊢
  have cX : W1.cell? ⟨p + 1, 0, none⟩ = some (.slice a xs.length c) := by rw [hN, BW1.cell (p := ⟨p + 1, 0, none⟩) (by show p + 1 < p + 3; omega), Lib.cell_of_heap hb1]; rfl
  have cY : W1.cell? ⟨p + 2, 0, none⟩ = some (.int .i64 (D : Int)) := by rw [BW1.cell (p := ⟨p + 2, 0, none⟩) (by show p + 2 < p + 3; omega), Lib.cell_of_heap hb2]; rfl
  have BWp : Below p w1 W1 := B2.trans (BW1.mono (by omega))
  have lW1 : Laid W1 := hl1.below (by rw [HP.out]; exact BWp)
  have sW1 : slZ p (p + 1) (p + 4) (p + 5) W1 a xs := by
   rcases slS_below (BWp.mono hnp) hp1 with h | ⟨b, o, k1, k2, k3⟩
   ·exact .inl h
   ·exact .inr ⟨b, o, k1, by omega, by omega, ⟨by omega, by omega⟩, k3⟩
  have hbW0 := (BW1.block p (by omega)).trans hb0
  refine (levels1_in 8 (p + 4) p (p + 1) (p + 1) (p + 2) xs h256 h32 D hD a c h1p (by omega) (by omega) (by omega) (by omega)
   (fun k W => (Rc (p + 3) (mk .ready none) W ∧ Below p w1 W) ∧ ∃ v1 v2, W.heap[p]? = some (.cells #[v1, v2] 170 (0, 0)) ∧ (0 < k → ∃ a c, v1 = .slice a (lvl xs (k - 1)).length c ∧ v2 = .string (zr (k - 1)) ∧ slZ p (p + 1) (p + 4) (p + 5) W a (lvl xs (k - 1)))) (fun _ _ => False) (p + 5)
   ?hJ ?hY W1 lW1 (by omega) (by omega) cX cY sW1 hszW ⟨⟨hRc, BWp⟩, _, _, hbW0, fun h => absurd h (by omega)⟩).mono ?_
  case hJ =>
   rintro k A C ⟨⟨hr, hB⟩, v1, v2, hv, hx⟩ hk
   have hlt := hr.lt
   refine ⟨⟨⟨(hk.at hr.lt (by omega)).trans hr.1, (hk.at (by omega) (by omega)).trans hr.2⟩, hB.grown hk (by omega) (fun k e => by cases e; omega)⟩, v1, v2, (hk.at (by omega) (by omega)).trans hv, fun h => ?_⟩
   obtain ⟨a, c, e1, e2, hs⟩ := hx h
   exact ⟨a, c, e1, e2, hs.kq hk⟩
  case hY =>
   rintro m k a' c' W ⟨⟨hr, hB⟩, v1, v2, hv, -⟩ hk hsl
   refine yield_to mk hmk hr rfl ?_
   have hA : Below W.heap.size W (W.alloc (.cells #[.slice a' (lvl xs k).length c', .string (zr k)] 170)) := (Below.refl _ W).alloc (Nat.le_refl _) _
   have hlt := hr.lt
   have hn0 := World.alloc_heap_new W (.cells #[.slice a' (lvl xs k).length c', .string (zr k)] 170)
   gi_wp2
   refine ⟨hr.below hA, ?_⟩
   intro U hrU hkU
   obtain ⟨A, hAA⟩ : ∃ A, W.alloc (.cells #[.slice a' (lvl xs k).length c', .string (zr k)] 170) = A := ⟨_, rfl⟩
   have hsz : A.heap.size = W.heap.size + 1 := by rw [← hAA]; simp
   rw [hAA] at hA hn0 hkU
   clear hAA
   have BA : Below p w1 A := hB.trans (hA.mono (by omega))
   have BU := Kq.low BA (by omega) (by omega) hkU
   have hpU : p < U.heap.size := by have := hkU.size; omega
   have hvU := (hkU.at (k := p) (by omega) (by omega)).trans ((hA.block p (by omega)).trans hv)
   have hnU := (hkU.at (k := W.heap.size) (by omega) (by omega)).trans hn0
   have f0 : U.cell? ⟨W.heap.size, 0, none⟩ = some (.slice a' (lvl xs k).length c') := by rw [Lib.cell_of_heap hnU]; rfl
   have f1 : U.cell? ⟨W.heap.size, 1, none⟩ = some (.string (zr k)) := by rw [Lib.cell_of_heap hnU]; rfl
   obtain ⟨t0, t1, tz⟩ := HC.out U v1 v2 hvU
   have KU : Kz p (p + 1) (p + 4) W U := (Kz.below hA).trans ⟨hkU.size, fun b hb _ h => hkU.at hb (by omega)⟩
   have eU := heap_setCell_self (heap_setCell_self hvU 0 (.slice a' (lvl xs k).length c')) 1 (.string (zr k))
   have KU2 := (KU.trans (Kz.set U 0 (.slice a' (lvl xs k).length c') (Nat.le_refl p) (Nat.lt_succ_self p))).trans (Kz.set _ 1 (.string (zr k)) (Nat.le_refl p) (Nat.lt_succ_self p))
   have BU2 : Below p w1 ((U.setCell ⟨p, 0, none⟩ (.slice a' (lvl xs k).length c')).setCell ⟨p, 1, none⟩ (.string (zr k))) := below_setCells' (b := p) (Nat.le_refl _) [.string (zr k)] 1 _ (below_setCells' (b := p) (Nat.le_refl _) [.slice a' (lvl xs k).length c'] 0 _ BU)
   have hrV : Rc (p + 3) (mk .busy none) ((U.setCell ⟨p, 0, none⟩ (.slice a' (lvl xs k).length c')).setCell ⟨p, 1, none⟩ (.string (zr k))) := ⟨((Kq.put _ p 1 _).at (by have := (Kq.put U p 0 (.slice a' (lvl xs k).length c')).size; have := hrU.lt; omega) (by omega)).trans (((Kq.put U p 0 _).at hrU.lt (by omega)).trans hrU.1), ((Kq.put _ p 1 _).at (by have := (Kq.put U p 0 (.slice a' (lvl xs k).length c')).size; have := hrU.lt; omega) (by omega)).trans (((Kq.put U p 0 _).at (by have := hrU.lt; omega) (by omega)).trans hrU.2)⟩
   have hsV := hsl.kz KU2
   have HF : Hid (_ ∧ _ ∧ _ ∧ _ ∧ _) := ⟨eU, KU2, BU2, hrV, hsV⟩
   clear eU KU2 BU2 hrV hsV KU hvU hnU hkU hrU BU BA hA hn0 hB hr hsl hv
   gi_wp2
   obtain ⟨eU, KU2, BU2, hrV, hsV⟩ := HF.out
   refine And.intro hrV ?_
   intro X hrX hkX
   refine ⟨rfl, ⟨⟨hrX, Kq.low BU2 (by have := hrV.lt; omega) (by omega) hkX⟩, .slice a' (lvl xs k).length c', .string (zr k), (hkX.at (by have := hrV.lt; omega) (by omega)).trans eU, a', ⟨c', rfl⟩, rfl, ?_⟩, ?_⟩
   ·exact hsV.kz (n0 := p) (n1 := p + 1) (l := p + 4) ⟨hkX.size, fun b hb _ h => hkX.at hb (by omega)⟩
   ·exact KU2.trans ⟨hkX.size, fun b hb _ h => hkX.at hb (by omega)⟩
  rintro e W2 ⟨he, ⟨⟨hr, hB⟩, v1, v2, hv, hx⟩ | ⟨_, _, hf⟩⟩
  ·obtain ⟨a', c', rfl, rfl, hsl⟩ := hx (by omega)
   refine ⟨he, .inl ⟨hr, ?_⟩⟩
   intro U hdU hkU
   have hlt := hr.lt
   rw [Nat.add_sub_cancel] at hv hsl
   have hvU := (hkU.at (k := p) (by omega) (by omega)).trans hv
   have hsU : slZ p (p + 1) (p + 4) (p + 5) U a' (lvl xs D) := hsl.kz (n0 := p) (n1 := p + 1) (l := p + 4) ⟨hkU.size, fun b hb _ h => hkU.at hb (by omega)⟩
   obtain ⟨t0, t1, tz⟩ := HC.out U _ _ hvU
   have BU := Kq.low hB (by omega) (by omega) hkU
   have KA := at_any (lvl xs D) a' c' (zr D) 0 U.heap.size U (Nat.le_refl _) hsU.slS
   rw [lvl_at] at KA
   have KC : Hid (∀ w : World, _) := fun w : World => z_clone_any (lf (lvs xs) D 0) w (by rw [lf_size _ (lvs_size xs h32)]; decide)
   obtain ⟨r, hr0⟩ : ∃ r, lf (lvs xs) D 0 = r := ⟨_, rfl⟩
   rw [hr0] at KA KC HR
   obtain ⟨M, hM⟩ : ∃ M, (lvl xs D).length = M := ⟨_, rfl⟩
   rw [hM] at t0 KA
   have hdl : p + 3 < U.heap.size := (Array.getElem?_eq_some_iff.1 hdU).1
   clear hr0 hM hr hv hvU hkU hsU hsl hB
   go_wp2_with fail
   refine KA.mono ?_
   rintro e w4 ⟨rfl, B4⟩
   clear KA
   go_wp2_with fail
   refine (KC.out _).mono ?_
   rintro e w5 ⟨rfl, B5⟩
   clear KC
   have B45 := belowStep B4 B4.size B5
   have hd5 := (B45.block (p + 3) hdl).trans hdU
   have BW5 := BU.trans (B45.mono (by omega))
   have hp5 : p ≤ w5.heap.size := by have := B45.size; omega
   clear B4 B5 B45 hdU BU t0 t1 tz
   go_wp2
   refine ⟨by simp, .inl ⟨_, _, rfl, run_takeDeferred hd5, ?_⟩⟩
   refine ⟨.tuple #[.string r, .int .i64 0], by simp [results, Tryz.results110, go_sem], by rw [HR.out], ?_⟩
   exact B1.trans ((below_put BW5 hp5 (by omega) _).mono (by rw [← HP.out]; exact B1.size))
  ·exact hf.elim
end Go.Proofs.YtoddangedbefgabGreatDoor
namespace Go.Proofs.YtoddangedbefgabGreatDoor
open Go.RowKit Go.Shelf Go.Sort


theorem run_append_zero {P : Program} (w : World) (t ty e : TypeId) (i : TypeInfo) (ht : P.underlying t = some (.slice e)) (hi : P.info? e = some i) (b : Option Addr) (n c : Nat) (hc : n ≤ c) (a' : Option Addr) (c' : Nat) :
  (Builtin.append_ #[t, t] ty #[.slice b n c, .slice a' 0 c']).run P w = .ok (.slice b n c) w := by
 have hroom : ¬ c < n := Nat.not_lt.2 hc
 cases a' with
 | none => cases b <;> simp [Builtin.append_, run_underlying ht, sizeOf, typeInfo, hi, Builtin.lenOf, Builtin.firstCells, hroom, storeCells]
 | some a' => cases b <;> simp [Builtin.append_, run_underlying ht, sizeOf, typeInfo, hi, Builtin.lenOf, Builtin.firstCells, hroom, storeCells, loadCells, loadCellsFrom]

structure LvK (V : World) (b1 o1 M c4 p : Nat) (X1 X2 X3 : ByteArray) (u9 : Value) (S : Nat → Bool) (x36 x37 x38 x39 x40 x41 x42 x43 x44 x45 x46 x47 x48 : Value) (W : World) : Prop where
 e : Below V.heap.size V W
 f0 : S 0 = true → x36 = u9
 f1 : S 1 = true → x37 = Value.slice (some ⟨b1, o1, none⟩) M c4
 f2 : S 2 = true → x38 = Value.int .i64 (p : Int)
 f3 : S 3 = true → x39 = Value.pointer (some ⟨b1, o1 + p, none⟩)
 f4 : S 4 = true → x40 = Value.string X1
 f5 : S 5 = true → x41 = Value.slice (some ⟨b1, o1, none⟩) M c4
 f6 : S 6 = true → x42 = Value.int .i64 (p : Int)
 f7 : S 7 = true → x43 = Value.int .i64 ((p : Int) + 1)
 f8 : S 8 = true → x44 = Value.pointer (some ⟨b1, o1 + (p + 1), none⟩)
 f9 : S 9 = true → x45 = Value.string X2
 f10 : S 10 = true → x46 = Value.string (X1 ++ X2)
 f11 : S 11 = true → x47 = Value.string X3
 f12 : S 12 = true → ∃ g, x48 = .slice (some ⟨g, 0, none⟩) 1 1 ∧ V.heap.size ≤ g ∧ g < W.heap.size ∧ W.heap[g]? = some (.cells #[.string X3] 9 (0, 0))
theorem LvK.grow {V : World} {b1 o1 M c4 p : Nat} {X1 X2 X3 : ByteArray} {u9 : Value} {S : Nat → Bool} {x36 x37 x38 x39 x40 x41 x42 x43 x44 x45 x46 x47 x48 : Value} {W W' : World} (h : LvK V b1 o1 M c4 p X1 X2 X3 u9 S x36 x37 x38 x39 x40 x41 x42 x43 x44 x45 x46 x47 x48 W) (hb : Below W.heap.size W W') : LvK V b1 o1 M c4 p X1 X2 X3 u9 S x36 x37 x38 x39 x40 x41 x42 x43 x44 x45 x46 x47 x48 W' :=
 ⟨belowStep h.e h.e.size hb, h.f0, h.f1, h.f2, h.f3, h.f4, h.f5, h.f6, h.f7, h.f8, h.f9, h.f10, h.f11, fun s => (h.f12 s).imp fun _ ⟨j1, j0, j2, j3⟩ => ⟨j1, j0, Nat.lt_of_lt_of_le j2 hb.size, (hb.block _ j2).trans j3⟩⟩
end Go.Proofs.YtoddangedbefgabGreatDoor
namespace Go.Proofs.YtoddangedbefgabGreatDoor
open Go.RowKit Go.Shelf Go.Sort
attribute [local go_sem] Oper.semAt_some

set_option maxHeartbeats 1000000 in
theorem all_any8 (a : Option Addr) (m c : Nat) (w : World) :
  Calls Tryz.prog 117 #[.slice a m c] w fun e w' => e = .returned (.func (.func 137) #[] #[.pointer (some ⟨w.heap.size, 0, none⟩)]) ∧ w' = w.alloc (.cells #[.slice a m c] 27) := by
 go_enter Tryz.func117, Tryz.ntmps117
 go_wp2
 go_ret
 exact ⟨rfl, rfl⟩
set_option maxRecDepth 100000 in
set_option maxHeartbeats 2000000 in
theorem all1_in (n l n0 n1 q bX : Nat) (xs : List ByteArray) (hxs : xs.length ≤ 1000) (a : Option Addr) (c : Nat)
  (J Jx : Nat → World → Prop)
  (hY : ∀ m k x W, J k W → xs[k]? = some x → YieldAt Fence.wide m Tryz.prog l #[.int .i64 (k : Int), .string x] W fun e W' =>
   (e = .returned (.bool true) ∧ J (k + 1) W' ∧ Kz n0 n1 l W W') ∨ (e = .returned (.bool false) ∧ Jx k W'))
  (W : World) (hcX : W.cell? ⟨bX, 0, none⟩ = some (.slice a xs.length c)) (hs : slZ n0 n1 l q W a xs) (h0 : J 0 W) :
  CallsIn Fence.wide n Tryz.prog 137 #[.func (.yield l) #[] #[], .pointer (some ⟨bX, 0, none⟩)] W fun e W' => (∃ v, e = .returned v) ∧ (J xs.length W' ∨ ∃ k, k < xs.length ∧ Jx k W') := by
 refine callsIn_of_wp Tryz.func137 rfl trivial ?_ rfl
 simp only [Tryz.ntmps137, List.size_toArray, List.length_cons, List.length_nil, Nat.reduceAdd, Nat.reduceSub, Array.replicate_succ, Array.replicate_zero, List.push_toArray, List.append_toArray, List.nil_append, List.cons_append]
 obtain ⟨N, hN⟩ : ∃ N, xs.length = N := ⟨_, rfl⟩
 rw [hN] at hxs hcX ⊢
 gi_wp2
 gi_loopw [7] (fun i wr => ∃ k : Nat, k ≤ N ∧ i = .int .i64 (k : Int) ∧ J k wr ∧ Kz n0 n1 l W wr)
  (fun i _ => (N - (intOf i).toNat))
 case atStart => exact ⟨0, by omega, rfl, h0, Kz.refl _ _ _ _⟩
 case round =>
  obtain ⟨k, hk, rfl, hJs, hkz⟩ := hrel
  by_cases hlt : k < N
  ·have l0 : (k : Int) < N := by omega
   obtain ⟨x, hx⟩ : ∃ x, xs[k]? = some x := ⟨xs[k]'(by omega), List.getElem?_eq_getElem (by omega)⟩
   obtain ⟨b, o, rfl, hb, c0⟩ := slS_at (hs.kz hkz).slS k x hx
   have wk : IntKind.i64.wrap ((k : Int) + 1) = ((k + 1 : Nat) : Int) := by rw [IntKind.wrap_i64]; omega
   obtain ⟨fn, tmps, assign, body, hy, hR⟩ := hY (n - 1) k x wr hJs hx
   have HH : Hid (Kz n0 n1 l W wr) := hkz
   clear hJs hkz
   gi_wp2
   refine ⟨fun h => (by cases h), hR.mono ?_⟩
   rintro e W3 (⟨rfl, hJ3, hk3⟩ | ⟨rfl, hJx3⟩)
   ·clear hy hR c0
    gi_wp2
    go_roundw
    case rel => exact ⟨k + 1, by omega, by first | rfl | (congr 1; omega), hJ3, Kz.trans HH.out hk3⟩
    case measure => simp [intOf]; omega
   ·clear hy hR c0
    gi_wp2
    refine bodyPost_ret (v := .tuple #[]) (by simp [results, Tryz.results137, go_sem]) rfl ⟨⟨_, rfl⟩, .inr ⟨k, hlt, hJx3⟩⟩
  ·obtain rfl : k = N := by omega
   have l0 : ¬ (k : Int) < k := by omega
   gi_wp2
   go_end0
   exact ⟨⟨_, rfl⟩, .inl hJs⟩
end Go.Proofs.YtoddangedbefgabGreatDoor
namespace Go.Proofs.YtoddangedbefgabGreatDoor
open Go.RowKit Go.Shelf Go.Sort
attribute [local go_sem] Oper.semAt_some

def chk (leaf : ByteArray) (xs : List ByteArray) (i : Nat) (root : ByteArray) : Bool := decide (xs.length ≤ 64 ∧ i < 2 ^ xs.length ∧ leaf.size = 32 ∧ root.size = 32 ∧ (∀ x ∈ xs, x.size = 32) ∧ clF i 0 leaf xs = root)
theorem chk_no {leaf : ByteArray} {xs : List ByteArray} {i : Nat} {root : ByteArray} (h : ¬ (xs.length ≤ 64 ∧ i < 2 ^ xs.length ∧ leaf.size = 32 ∧ root.size = 32)) : chk leaf xs i root = false := decide_eq_false fun hh => h ⟨hh.1, hh.2.1, hh.2.2.1, hh.2.2.2.1⟩

def CkJ (leaf : ByteArray) (xs : List ByteArray) (i p : Nat) (w1 : World) (mk : LoopState → Option Code → Loop) (k : Nat) (W : World) : Prop := Rc (p + 3) (mk .ready none) W ∧ Below (p + 1) w1 W ∧ (∀ x ∈ xs.take k, x.size = 32) ∧ W.heap[p + 1]? = some (.cells #[.string (clF i 0 leaf (xs.take k))] 9 (0, 0))
def CkX (xs : List ByteArray) (p : Nat) (w1 : World) (mk : LoopState → Option Code → Loop) (_ : Nat) (W : World) : Prop := (∃ id, Rc (p + 3) (mk .done (some (.exit id))) W ∧ id = 0) ∧ Below (p + 1) w1 W ∧ (∃ x ∈ xs, x.size ≠ 32) ∧ W.heap[p + 1]? = some (.cells #[.string ⟨#[]⟩] 9 (0, 0))
theorem and_bit8 (k : Nat) (h : k < 18446744073709551616) : bits .and .u64 (k : Int) 1 = ((k % 2 : Nat) : Int) := by
 have e : (BitVec.ofInt 64 (k : Int) &&& BitVec.ofInt 64 1).toNat = k % 2 := by
  rw [BitVec.toNat_and]
  have a1 : (BitVec.ofInt 64 (k : Int)).toNat = k := by
   rw [BitVec.toNat_ofInt]; omega
  have a2 : (BitVec.ofInt 64 1).toNat = 1 := by decide
  rw [a1, a2, Nat.and_one_is_mod]
 show IntKind.u64.wrap ((BitVec.ofInt 64 (k : Int) &&& BitVec.ofInt 64 1).toNat : Int) = _
 rw [e, IntKind.wrap_u64]
 omega

set_option maxRecDepth 100000 in
set_option maxHeartbeats 2000000 in
theorem check_any (leaf : ByteArray) (xs : List ByteArray) (i : Nat) (hi : i < 18446744073709551616) (root : ByteArray) (a : Option Addr) (c n : Nat) (w : World) (hl : Laid w) (hn : n ≤ w.heap.size) (hp : slS n w a xs) :
  Calls Tryz.prog 82 #[.string leaf, .slice a xs.length c, .int .u64 (i : Int), .string root] w fun e w' => e = .returned (.bool (chk leaf xs i root)) ∧ Below w.heap.size w w' := by
 obtain ⟨N, hN⟩ : ∃ N, xs.length = N := ⟨_, rfl⟩
 rw [hN]
 refine (callsIn_wide (n := 9)).1 ?_
 refine callsIn_of_wp_marks Tryz.func82 rfl trivial ?_ rfl
 refine wpIn_wide.2 ?_
 simp only [Tryz.ntmps82, List.size_toArray, List.length_cons, List.length_nil, Nat.reduceAdd, Nat.reduceSub, Array.replicate_succ, Array.replicate_zero, List.push_toArray, List.append_toArray, List.nil_append, List.cons_append]
 go_wp2_with fail
 refine wp_scope_straight ?_
 obtain ⟨p, hp0⟩ : ∃ p, w.heap.size = p := ⟨_, rfl⟩
 have HP : Hid _ := hp0
 refine wpOf (fun W => Below p w W ∧ W.heap.size = p + 1 ∧ W.heap[p]? = some (.cells #[.int .u64 (i : Int)] 22 (0, 0))) ?_ ?_
 ·have t2 := World.alloc_heap_new w (.cells #[.int .u64 (i : Int)] 22)
  rw [hp0] at t2
  refine ⟨?_, by simp [hp0], t2⟩
  rw [← hp0]
  exact (Below.refl _ w).alloc (Nat.le_refl _) _
 rintro V ⟨BV, hszV, hb0⟩
 rw [hp0]
 have hnp : n ≤ p := by rw [← hp0]; exact hn
 clear hp0
 have k0 : V.cell? ⟨p, 0, none⟩ = some (.int .u64 (i : Int)) := by rw [Lib.cell_of_heap hb0]; rfl
 have HNO : Hid (¬ (N ≤ 64 ∧ i < 2 ^ N ∧ leaf.size = 32 ∧ root.size = 32) → chk leaf xs i root = false) := fun h => chk_no (by rw [hN]; exact h)
 by_cases h64 : 64 < N
 ·have l0 : (64 : Int) < N := by omega
  have hno := HNO.out (by omega)
  have HX : Hid _ := hno
  clear hno
  go_wp2
  refine ⟨.bool false, by simp [results, Tryz.results82, go_sem], by rw [HX.out], ?_⟩
  rw [HP.out]
  exact BV
 ·have l0 : ¬ (64 : Int) < N := by omega
  have hmin : min N 64 = N := by omega
  have l64 : (N : Int) ≤ 64 := by omega
  have KC1 := isChunk_any leaf
  have KC2 := isChunk_any root
  obtain ⟨q, hq⟩ : ∃ q, i / 2 ^ N = q := ⟨_, rfl⟩
  have hqi : (i : Int) / 2 ^ N = (q : Int) := by rw [← hq]; simp
  by_cases hiq : 0 < q
  ·have hno := HNO.out (fun hh => by rw [Nat.div_eq_of_lt hh.2.1] at hq; omega)
   have HX : Hid _ := hno
   have l1 : ¬ (q : Int) = 0 := by omega
   have l2 : ((q : Int) == 0) = false := by rw [beq_eq_false_iff_ne]; exact l1
   clear hno hq
   go_wp2
   refine ⟨.bool false, by simp [results, Tryz.results82, go_sem], by rw [HX.out], ?_⟩
   rw [HP.out]
   exact BV
  ·obtain rfl : q = 0 := by omega
   have hiN : i < 2 ^ N := by
    rcases Nat.lt_or_ge i (2 ^ N) with h | h
    ·exact h
    ·have := Nat.div_pos h (Nat.two_pow_pos N)
     omega
   have hqi0 : (i : Int) / 2 ^ N = 0 := by rw [hqi]; rfl
   by_cases hlf : leaf.size = 32
   ·rw [decide_eq_true hlf] at KC1
    by_cases hrt : root.size = 32
    ·rw [decide_eq_true hrt] at KC2
     clear hq HNO
     go_wp2_with fail
     refine (KC1 _).mono ?_
     rintro e w1 ⟨rfl, rfl⟩
     go_wp2_with fail
     refine (KC2 _).mono ?_
     rintro e w1 ⟨rfl, rfl⟩
     clear KC1 KC2
     go_wp2_with fail
     refine wp_label ?_
     go_wp2_with fail
     refine (all_any8 a N c _).mono ?_
     rintro e w2 ⟨rfl, hw2⟩
     have hF2 : Below (p + 1) w1 w2 ∧ w2.heap.size = p + 3 ∧ w2.heap[p + 1]? = some (.cells #[.string leaf] 9 (0, 0)) ∧ w2.heap[p + 2]? = some (.cells #[.slice a N c] 27 (0, 0)) := by
      have t2 := z_alloc_two w1 (.cells #[.string leaf] 9) (.cells #[.slice a N c] 27)
      rw [← hw2, hszV] at t2
      refine ⟨?_, by rw [hw2]; simp; omega, t2.1, t2.2⟩
      rw [hw2, ← hszV]
      exact ((Below.refl _ w1).alloc (Nat.le_refl _) _).alloc (by simp) _
     obtain ⟨B2, hz2', hb1, hb2⟩ := hF2
     have hsz' : (w1.alloc (.cells #[.string leaf] 9)).heap.size = p + 2 := by simp [hszV]
     rw [hsz']
     have HV : Hid _ := hszV
     have l8 : Laid w1 := hl.below (by rw [HP.out]; exact BV)
     have s8 : slS n w1 a xs := slS_below (BV.mono hnp) hp
     have h1p : 2 < p := by have := hl.k.z; have := hl.h.z; have := HP.out; omega
     clear hw2 hsz' hszV k0
     go_wp2_with fail
     refine (wpIn_wide (n := 9)).1 ?_
     refine range_to (by omega) (gf := 137) (lb := #[.pointer (some ⟨p + 2, 0, none⟩)]) rfl (enters_of Tryz.func137 (by kernel_rfl) rfl) ?_
     intro fn mk W1 hmk BW1 hszW hRc
     rw [hz2'] at hmk BW1 hszW hRc ⊢
     have cX : W1.cell? ⟨p + 2, 0, none⟩ = some (.slice a xs.length c) := by rw [hN, BW1.cell (p := ⟨p + 2, 0, none⟩) (by show p + 2 < p + 3; omega), Lib.cell_of_heap hb2]; rfl
     have BWp : Below (p + 1) w1 W1 := B2.trans (BW1.mono (by omega))
     have sW1 : slZ (p + 1) (p + 2) (p + 4) (p + 5) W1 a xs := by
      rcases slS_below (BWp.mono (by omega)) s8 with e | ⟨b, o, k1, k2, k3⟩
      ·exact .inl e
      ·exact .inr ⟨b, o, k1, by omega, by omega, ⟨by omega, by omega⟩, k3⟩
     refine (all1_in 8 (p + 4) (p + 1) (p + 2) (p + 5) (p + 2) xs (by omega) a c (CkJ leaf xs i p w1 mk) (CkX xs p w1 mk) ?hY W1 cX sW1 ⟨hRc, BWp, fun x hx => by simp at hx, by rw [List.take_zero]; exact (BW1.block (p + 1) (by omega)).trans hb1⟩).mono ?_
     case hY =>
      rintro m k x W ⟨hr, hB, h32, hv⟩ hx
      refine yield_to mk hmk hr rfl ?_
      gi_wp2
      intro U hrU hkU
      have hlt := hr.lt
      have hsU := hkU.size
      have BU := Kq.low hB (by omega) (by omega) hkU
      have hvU := (hkU.at (k := p + 1) (by omega) (by omega)).trans hv
      have KU : Kz (p + 1) (p + 2) (p + 4) W U := ⟨hkU.size, fun b hb _ h => hkU.at hb (by omega)⟩
      have lU : Laid U := l8.below (by rw [HV.out]; exact BU)
      have hiU := (BU.block p (by omega)).trans hb0
      have f0 : U.cell? ⟨p, 0, none⟩ = some (.int .u64 (i : Int)) := by rw [Lib.cell_of_heap hiU]; rfl
      have hpU : p + 1 < U.heap.size := by omega
      have htk : xs.take (k + 1) = xs.take k ++ [x] := by rw [List.take_add_one, hx]; rfl
      have hlk : (xs.take k).length = k := by have := (List.getElem?_eq_some_iff.1 hx).1; rw [List.length_take]; omega
      have hyz : (clF i 0 leaf (xs.take k)).size = 32 := clF_size i _ 0 leaf hlf
      have HT : Hid (clF i 0 leaf (xs.take (k + 1)) = if i / 2 ^ k % 2 = 0 then hs (clF i 0 leaf (xs.take k)) x else hs x (clF i 0 leaf (xs.take k))) := by
       show _ = _
       rw [htk, clF_snoc, Nat.zero_add, hlk]
      obtain ⟨y, hy⟩ : ∃ y, clF i 0 leaf (xs.take k) = y := ⟨_, rfl⟩
      rw [hy] at hvU hyz HT
      have f1 : U.cell? ⟨p + 1, 0, none⟩ = some (.string y) := by rw [Lib.cell_of_heap hvU]; rfl
      have fz : ∀ o, U.frozen? ⟨p + 1, o, none⟩ = false := fun o => by simp [World.frozen?, hvU]
      have fin : ∀ (X : World) (z : ByteArray), Below U.heap.size U X → Rc (p + 3) (mk .busy none) (X.setCell ⟨p + 1, 0, none⟩ (.string z)) ∧ Below (p + 1) w1 (X.setCell ⟨p + 1, 0, none⟩ (.string z)) ∧ (X.setCell ⟨p + 1, 0, none⟩ (.string z)).heap[p + 1]? = some (.cells #[.string z] 9 (0, 0)) ∧ Kz (p + 1) (p + 2) (p + 4) W (X.setCell ⟨p + 1, 0, none⟩ (.string z)) := fun X z hX => by
       have hrX := hrU.below hX
       exact ⟨⟨((Kq.put X (p + 1) 0 _).at hrX.lt (by omega)).trans hrX.1, ((Kq.put X (p + 1) 0 _).at (by have := hrX.lt; omega) (by omega)).trans hrX.2⟩,
        below_setCells' (b := p + 1) (Nat.le_refl _) [.string z] 0 _ (BU.trans (hX.mono (by omega))),
        heap_setCell_self ((hX.block (p + 1) hpU).trans hvU) 0 (.string z), (KU.trans (Kz.below hX)).trans (Kz.set X 0 _ (Nat.le_refl _) (by omega))⟩
      have FIN : Hid (∀ (X : World) (z : ByteArray), _ → _) := fin
      have KI := isChunk_any x
      have hmk2 : min k 64 = k := by have := (List.getElem?_eq_some_iff.1 hx).1; omega
      obtain ⟨M, hM⟩ : ∃ M, i / 2 ^ k = M := ⟨_, rfl⟩
      have hMq : M < 18446744073709551616 := by rw [← hM]; exact Nat.lt_of_le_of_lt (Nat.div_le_self _ _) hi
      have hMi : (i : Int) / 2 ^ k = (M : Int) := by rw [← hM]; simp
      have hand := and_bit8 M hMq
      rw [hM] at HT
      have HVU : Hid _ := hvU
      clear hM fin hr hB hv hkU KU hvU htk hlk hrU BU
      by_cases hx32 : x.size = 32
      ·rw [decide_eq_true hx32] at KI
       have h32' : ∀ x' ∈ xs.take (k + 1), x'.size = 32 := fun x' hx' => by
        rw [List.take_add_one, hx] at hx'
        rcases List.mem_append.1 hx' with h | h
        ·exact h32 x' h
        ·simp at h; rw [h]; exact hx32
       have H32 : Hid _ := h32'
       clear h32'
       by_cases hev : M % 2 = 0
       ·rw [hev] at hand
        rw [if_pos hev] at HT
        have KS : Hid (∀ (g : Nat) (w : World), _) := fun (g : Nat) (w : World) (hl : Laid w) (hg : g < w.heap.size) h0 h1 => sum_two y x _ (join_pair _ _) (by omega) (by omega) g w hl hg h0 h1
        gi_wp2
        refine ⟨trivial, fun h => (by cases h), (CallsIn.inRound _ (callsIn_wide.2 (KI U))).mono ?_⟩
        rintro e w3 ⟨rfl, rfl⟩
        gi_wp2
        have A3 : Below w3.heap.size w3 (w3.alloc (.cells #[.string y, .string x] 9)) := (Below.refl _ w3).alloc (Nat.le_refl _) _
        refine ⟨trivial, fun h => (by cases h), (CallsIn.inRound _ (callsIn_wide.2 (KS.out w3.heap.size _ (lU.below A3) (by simp) (by simp [go_sem]) (by simp [go_sem])))).mono ?_⟩
        rintro e w4 ⟨rfl, B4⟩
        have BX := belowStep A3 A3.size B4
        have g1 := (BX.cell (p := ⟨p + 1, 0, none⟩) hpU).trans f1
        have gz : ∀ o, w4.frozen? ⟨p + 1, o, none⟩ = false := fun o => (BX.frozen (p := ⟨p + 1, o, none⟩) hpU).trans (fz o)
        clear KS A3 B4 f0 f1 fz hand KI
        gi_wp2
        obtain ⟨q1, q2, q3, q4⟩ := FIN.out w4 (sumOf (y ++ x)) BX
        refine And.intro q1 ?_
        intro X hrX hkX
        have hlt2 := q1.lt
        refine .inl ⟨rfl, ⟨hrX, Kq.low q2 (by omega) (by omega) hkX, H32.out, ?_⟩, q4.trans ⟨hkX.size, fun b hb _ h => hkX.at hb (by omega)⟩⟩
        rw [HT.out]
        exact (hkX.at (by omega) (by omega)).trans q3
       ·obtain hod : M % 2 = 1 := by omega
        rw [hod] at hand
        rw [if_neg hev] at HT
        have KS : Hid (∀ (g : Nat) (w : World), _) := fun (g : Nat) (w : World) (hl : Laid w) (hg : g < w.heap.size) h0 h1 => sum_two x y _ (join_pair _ _) (by omega) (by omega) g w hl hg h0 h1
        gi_wp2
        refine ⟨trivial, fun h => (by cases h), (CallsIn.inRound _ (callsIn_wide.2 (KI U))).mono ?_⟩
        rintro e w3 ⟨rfl, rfl⟩
        gi_wp2
        have A3 : Below w3.heap.size w3 (w3.alloc (.cells #[.string x, .string y] 9)) := (Below.refl _ w3).alloc (Nat.le_refl _) _
        refine ⟨trivial, fun h => (by cases h), (CallsIn.inRound _ (callsIn_wide.2 (KS.out w3.heap.size _ (lU.below A3) (by simp) (by simp [go_sem]) (by simp [go_sem])))).mono ?_⟩
        rintro e w4 ⟨rfl, B4⟩
        have BX := belowStep A3 A3.size B4
        have g1 := (BX.cell (p := ⟨p + 1, 0, none⟩) hpU).trans f1
        have gz : ∀ o, w4.frozen? ⟨p + 1, o, none⟩ = false := fun o => (BX.frozen (p := ⟨p + 1, o, none⟩) hpU).trans (fz o)
        clear KS A3 B4 f0 f1 fz hand KI
        gi_wp2
        obtain ⟨q1, q2, q3, q4⟩ := FIN.out w4 (sumOf (x ++ y)) BX
        refine And.intro q1 ?_
        intro X hrX hkX
        have hlt2 := q1.lt
        refine .inl ⟨rfl, ⟨hrX, Kq.low q2 (by omega) (by omega) hkX, H32.out, ?_⟩, q4.trans ⟨hkX.size, fun b hb _ h => hkX.at hb (by omega)⟩⟩
        rw [HT.out]
        exact (hkX.at (by omega) (by omega)).trans q3
      ·rw [decide_eq_false hx32] at KI
       gi_wp2
       refine ⟨trivial, fun h => (by cases h), (CallsIn.inRound _ (callsIn_wide.2 (KI U))).mono ?_⟩
       rintro e w3 ⟨rfl, rfl⟩
       gi_wp2
       obtain ⟨q1, q2, q3, q4⟩ := FIN.out w3 ⟨#[]⟩ (Below.refl _ _)
       refine And.intro q1 ?_
       intro X hrX hkX
       have hlt2 := q1.lt
       exact .inr ⟨rfl, ⟨0, hrX, rfl⟩, Kq.low q2 (by omega) (by omega) hkX, ⟨x, List.mem_of_getElem? hx, hx32⟩, (hkX.at (by omega) (by omega)).trans q3⟩
     rintro e W2 ⟨he, ⟨hr, hB, h32, hv⟩ | ⟨k, hkk, ⟨id, hr, rfl⟩, hB, hex, hv⟩⟩
     ·refine ⟨he, .inl ⟨hr, ?_⟩⟩
      rw [List.take_of_length_le (by omega)] at h32 hv
      have HC : Hid (chk leaf xs i root = decide (clF i 0 leaf xs = root)) := by
       show _ = _
       rw [Bool.eq_iff_iff, chk, decide_eq_true_iff, decide_eq_true_iff]
       exact ⟨fun h => h.2.2.2.2.2, fun h => ⟨by omega, by rw [hN]; exact hiN, hlf, hrt, h32, h⟩⟩
      obtain ⟨y, hy⟩ : ∃ y, clF i 0 leaf xs = y := ⟨_, rfl⟩
      rw [hy] at hv HC
      intro U hdU hkU
      have hlt := hr.lt
      have hvU := (hkU.at (k := p + 1) (by omega) (by omega)).trans hv
      have BU := Kq.low hB (by omega) (by omega) hkU
      have f1 : U.cell? ⟨p + 1, 0, none⟩ = some (.string y) := by rw [Lib.cell_of_heap hvU]; rfl
      have hdl : p + 3 < U.heap.size := (Array.getElem?_eq_some_iff.1 hdU).1
      clear hr hv hvU hkU hB
      by_cases hyr : y = root
      ·subst hyr
       go_wp2
       refine ⟨by simp, .inl ⟨_, _, rfl, run_takeDeferred hdU, ?_⟩⟩
       refine ⟨.bool true, by simp [results, Tryz.results82, go_sem], by rw [HC.out]; simp, ?_⟩
       rw [HP.out]
       exact BV.trans ((below_put BU (by omega) (by omega) _).mono (by omega))
      ·have hne : (y.toList == root.toList) = false := by rw [beq_eq_false_iff_ne]; exact fun e => hyr (toList_inj e)
       go_wp2
       refine ⟨by simp, .inl ⟨_, _, rfl, run_takeDeferred hdU, ?_⟩⟩
       refine ⟨.bool false, by simp [results, Tryz.results82, go_sem], by rw [HC.out, decide_eq_false hyr], ?_⟩
       rw [HP.out]
       exact BV.trans ((below_put BU (by omega) (by omega) _).mono (by omega))
     ·refine ⟨he, .inr ⟨.exit 0, hr, ?_⟩⟩
      have HC : Hid (chk leaf xs i root = false) := decide_eq_false fun h => by
       obtain ⟨x, hx, hx2⟩ := hex
       exact hx2 (h.2.2.2.2.1 x hx)
      intro U hdU hkU
      have hlt := hr.lt
      have hvU := (hkU.at (k := p + 1) (by omega) (by omega)).trans hv
      have BU := Kq.low hB (by omega) (by omega) hkU
      have f1 : U.cell? ⟨p + 1, 0, none⟩ = some (.string ⟨#[]⟩) := by rw [Lib.cell_of_heap hvU]; rfl
      have hdl : p + 3 < U.heap.size := (Array.getElem?_eq_some_iff.1 hdU).1
      have hre : root.toList ≠ [] := fun e => by
       have : root.size = 0 := by
        rw [ByteArray.toList_eq] at e
        show root.data.size = 0
        rw [← Array.length_toList, e]
        rfl
       omega
      have hne : root.toList.isEmpty = false := by cases h : root.toList with
       | nil => exact absurd h hre
       | cons _ _ => rfl
      clear hr hv hvU hkU hB
      gi_wp2
      go_wp2
      refine ⟨by simp, .inl ⟨_, _, rfl, run_takeDeferred hdU, ?_⟩⟩
      refine ⟨.bool false, by simp [results, Tryz.results82, go_sem], by rw [HC.out], ?_⟩
      rw [HP.out]
      exact BV.trans ((below_put BU (by omega) (by omega) _).mono (by omega))
    ·rw [decide_eq_false hrt] at KC2
     have hno := HNO.out (by omega)
     have HX : Hid _ := hno
     clear hno hq
     go_wp2_with fail
     refine (KC1 _).mono ?_
     rintro e w1 ⟨rfl, rfl⟩
     go_wp2_with fail
     refine (KC2 _).mono ?_
     rintro e w1 ⟨rfl, rfl⟩
     go_wp2
     refine ⟨.bool false, by simp [results, Tryz.results82, go_sem], by rw [HX.out], ?_⟩
     rw [HP.out]
     exact BV
   ·rw [decide_eq_false hlf] at KC1
    have hno := HNO.out (by omega)
    have HX : Hid _ := hno
    clear hno hq
    go_wp2_with fail
    refine (KC1 _).mono ?_
    rintro e w1 ⟨rfl, rfl⟩
    go_wp2
    refine ⟨.bool false, by simp [results, Tryz.results82, go_sem], by rw [HX.out], ?_⟩
    rw [HP.out]
    exact BV
end Go.Proofs.YtoddangedbefgabGreatDoor
namespace Go.Proofs.YtoddangedbefgabGreatDoor
open Go.RowKit Go.Shelf Go.Sort

theorem run_append_list (W : World) (ty : TypeId) (z : Nat) (v : Value) (k : Nat) (ys : List Value) (hown : W.ownsRow z 9 1 v k ys) (xs : List ByteArray) (a : Option Addr) (m c n : Nat) (hm : xs.length = m) (hs : slS n W a xs) (hk : k ≤ 1000000) (hl : m ≤ 1000000) (hz : z ≤ W.heap.size) :
  ∃ v' w', (Builtin.append_ #[27, 27] ty #[v, .slice a m c]).run Tryz.prog W = .ok v' w' ∧ w'.ownsRow z 9 1 v' (k + m) (ys ++ xs.map .string) ∧ W.grownBy w' v.ownBlock := by
 obtain ⟨i0, hi0, hz0, hz1, hz2⟩ := info_parts info_str8
 subst hm
 rcases hs with e | ⟨b, off, rfl, hb, hcl⟩
 ·subst e
  obtain ⟨a1, c1, rfl⟩ := owns_slice hown
  exact ⟨_, _, run_append_zero W 27 ty 9 i0 Tryz.underlying27 hi0 a1 k c1 (owns_cap hown) a c, by rw [List.map_nil, List.append_nil]; exact hown, ⟨rfl, rfl, rfl, Nat.le_refl _, fun _ _ _ => rfl⟩⟩
 ·obtain ⟨v', w', h1, h2, h3, _⟩ := run_append_own (P := Tryz.prog) W z 27 ty 9 i0 (.string ⟨#[]⟩) 1 16 Tryz.underlying27 hi0 hz0 hz1 hz2 rfl (by decide) v k ys hown ⟨b, off, none⟩ xs.length c (xs.map .string) (by rw [List.length_map, Nat.mul_one]) (fun j u hu => by
   rw [Addr.add_mid]
   rw [List.getElem?_map] at hu
   cases hxj : xs[j]? with
   | none => rw [hxj] at hu; cases hu
   | some y =>
    rw [hxj] at hu
    cases hu
    exact hcl j y hxj) (fun u hu => by
   obtain ⟨y, _, rfl⟩ := List.mem_map.1 hu
   rfl) (by unfold maxLen; omega) (by omega) hz
  exact ⟨v', w', h1, h2, h3⟩
theorem wpList_append_wanted {P : Program} {w : World} {ops : Array Oper} {rest : List Oper} {o : Oper} {a : Act} {Q : Exit → Act → World → Prop} (hw : Region.wanted o (yielded ops a.tmps) = true) (sl x : Operand) (t u : TypeId)
  (ho : o.op = .call { callee := .builtin .append, args := #[sl, x], argTypes := #[t, u] }) (v y v' : Value) (w' : World) (hs : a.eval sl = v) (hx : a.eval x = y)
  (hr : (Builtin.append_ #[t, u] o.type #[v, y]).run P w = .ok v' w') (h : wpList P ops Q rest (a.put o.dst v') w') : wpList P ops Q (o :: rest) a w := by
 refine wpList_step fun K hK => ?_
 rw [if_pos hw]
 unfold Oper.wp execOp
 simp only [ho, resolve, invoke, builtin, Sem.run_bind, Sem.run_pure, Result.andThen_ok, List.map_toArray, List.map_cons, List.map_nil, hs, hx, hr]
 exact hK _ _ h

end Go.Proofs.YtoddangedbefgabGreatDoor
