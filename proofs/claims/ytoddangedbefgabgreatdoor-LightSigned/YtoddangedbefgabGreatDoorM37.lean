/- Lemmas: What the package's copied does. No condition but on sizes that no machine has. What the package refuses at once: an update that nobody signs, or whose header does not hold; and what can't be forced. No condition but on sizes. What the laws ask of the package ahead of all. No condition. The reference's Same of Lights and committees, what a message has. No condition. The reference's Same of messages and of stores: of any two. No condition but on lists that no machine has. The reference's words on those that sign, and its Better. No condition. The law LightBetter, walked. No condition. -/
import Derived.Test.YtoddangedbefgabGreatDoorM36
set_option maxRecDepth 100000
set_option maxHeartbeats 4000000
namespace Go.Proofs.YtoddangedbefgabGreatDoor
open Go.RowKit Go.Shelf Go.Sort
def szT (d : StD) : Prop := szL d.fin ∧ szL d.new ∧ szC d.now ∧ szC d.nxt ∧ szU d.best
def storG (n : Nat) (W : World) (d : StD) (q : StP) : Prop := slG n W q.fin.a d.fin.br ∧ slG n W q.new.a d.new.br ∧ slG n W q.now.a d.now.ks ∧ slG n W q.nxt.a d.nxt.ks ∧ upG n W d.best q.best
theorem storG.keep {n : Nat} {W W' : World} {d : StD} {q : StP} (h : storG n W d q) (hs : W.heap.size ≤ W'.heap.size) (hW : ∀ b, n ≤ b → b < W.heap.size → W'.heap[b]? = W.heap[b]?) : storG n W' d q := ⟨h.1.keep hs hW, h.2.1.keep hs hW, h.2.2.1.keep hs hW, h.2.2.2.1.keep hs hW, h.2.2.2.2.keep hs hW⟩
theorem storG.stIn {n : Nat} {W : World} {d : StD} {q : StP} (h : storG n W d q) : stIn W.heap.size W d q := ⟨h.1.slS, h.2.1.slS, h.2.2.1.slS, h.2.2.2.1.slS, h.2.2.2.2.upIn⟩
theorem storG.mono {n m : Nat} {W : World} {d : StD} {q : StP} (h : storG n W d q) (hm : m ≤ n) : storG m W d q := ⟨h.1.mono hm, h.2.1.mono hm, h.2.2.1.mono hm, h.2.2.2.1.mono hm, h.2.2.2.2.mono hm⟩
theorem storG.grow {n : Nat} {W W' : World} {d : StD} {q : StP} (h : storG n W d q) (hb : Below W.heap.size W W') : storG n W' d q := h.keep hb.size fun b _ hb2 => hb.block b hb2
structure Mu_s1 (V : World) (d : StD) (Ya Yb : List Value) (z : Nat) (S : Nat → Bool) (x3 x4 x5 x6 x7 x8 x9 : Value) (W : World) : Prop where
 e : Below V.heap.size V W
 f0 : S 0 = true → x3 = .pointer (some ⟨z, 0, none⟩)
 f1 : S 1 = true → x4 = .agg Ya.toArray
 f2 : S 2 = true → ∃ q1 : Pl, x5 = .agg (ltV d.fin q1).toArray ∧ slG V.heap.size W q1.a d.fin.br
 f3 : S 3 = true → x6 = .pointer (some ⟨z, 9, none⟩)
 f4 : S 4 = true → x7 = .agg Yb.toArray
 f5 : S 5 = true → ∃ q1 : Pl, x8 = .agg (ltV d.new q1).toArray ∧ slG V.heap.size W q1.a d.new.br
 f6 : S 6 = true → x9 = .pointer (some ⟨z, 0, none⟩)
theorem Mu_s1.grow {V : World} {d : StD} {Ya Yb : List Value} {z : Nat} {S : Nat → Bool} {x3 x4 x5 x6 x7 x8 x9 : Value} {W W' : World} (h : Mu_s1 V d Ya Yb z S x3 x4 x5 x6 x7 x8 x9 W) (hb : Below W.heap.size W W') : Mu_s1 V d Ya Yb z S x3 x4 x5 x6 x7 x8 x9 W' :=
 ⟨jaa h.e h.e.size hb, h.f0, h.f1, fun s => (h.f2 s).imp fun _ ⟨j0, j1⟩ => ⟨j0, j1.grow hb⟩, h.f3, h.f4, fun s => (h.f5 s).imp fun _ ⟨j0, j1⟩ => ⟨j0, j1.grow hb⟩, h.f6⟩
structure Mu_s2 (W2 : World) (d : StD) (Yc Yd : List Value) (z : Nat) (S : Nat → Bool) (x11 x12 x13 x14 x15 x16 x17 : Value) (W : World) : Prop where
 e : Below W2.heap.size W2 W
 f0 : S 0 = true → x11 = .pointer (some ⟨z, 18, none⟩)
 f1 : S 1 = true → x12 = .agg Yc.toArray
 f2 : S 2 = true → ∃ q1 : Pl, x13 = .agg (cmV d.now q1).toArray ∧ slG W2.heap.size W q1.a d.now.ks
 f3 : S 3 = true → x14 = .pointer (some ⟨z, 20, none⟩)
 f4 : S 4 = true → x15 = .agg Yd.toArray
 f5 : S 5 = true → ∃ q1 : Pl, x16 = .agg (cmV d.nxt q1).toArray ∧ slG W2.heap.size W q1.a d.nxt.ks
 f6 : S 6 = true → x17 = .pointer (some ⟨z, 18, none⟩)
theorem Mu_s2.grow {W2 : World} {d : StD} {Yc Yd : List Value} {z : Nat} {S : Nat → Bool} {x11 x12 x13 x14 x15 x16 x17 : Value} {W W' : World} (h : Mu_s2 W2 d Yc Yd z S x11 x12 x13 x14 x15 x16 x17 W) (hb : Below W.heap.size W W') : Mu_s2 W2 d Yc Yd z S x11 x12 x13 x14 x15 x16 x17 W' :=
 ⟨jaa h.e h.e.size hb, h.f0, h.f1, fun s => (h.f2 s).imp fun _ ⟨j0, j1⟩ => ⟨j0, j1.grow hb⟩, h.f3, h.f4, fun s => (h.f5 s).imp fun _ ⟨j0, j1⟩ => ⟨j0, j1.grow hb⟩, h.f6⟩
theorem jha (d : StD) (hz : szT d) (q : StP) (n : Nat) (w : World) (hn : n ≤ w.heap.size) (hp : stIn n w d q) :
  Calls Tryz.prog 24 #[.agg (stV d q).toArray] w fun e w' => (∃ q', e = .returned (.agg (stV d q').toArray) ∧ storG w.heap.size w' d q') ∧ Below w.heap.size w w' := by
 obtain ⟨z, hzz⟩ : ∃ z, w.heap.size = z := ⟨_, rfl⟩
 have HZ : Hid (w.heap.size = z) := hzz
 obtain ⟨BV, hx, hy, hs⟩ := box2 w (.cells (stV d q).toArray 38) (.cells zSA 38)
 obtain ⟨V, hV⟩ : ∃ V, (w.alloc (.cells (stV d q).toArray 38)).alloc (.cells zSA 38) = V := ⟨_, rfl⟩
 rw [hV] at BV hx hy hs
 rw [hzz] at BV hx hy hs hn
 have R1 := jac hx 0 (ltV d.fin q.fin) (jek d q)
 have R2 := jac hx 9 (ltV d.new q.new) (stV_new d q)
 have KA := fun (W : World) (hB : Below V.heap.size V W) => jcq d.fin hz.1 q.fin n W (by have := hB.size; omega) (jan ((BV.trans (hB.mono (by omega))).mono hn) hp.1)
 have KB := fun (W : World) (hB : Below V.heap.size V W) => jcq d.new hz.2.1 q.new n W (by have := hB.size; omega) (jan ((BV.trans (hB.mono (by omega))).mono hn) hp.2.1)
 have h9 : Hid ((ltV d.fin q.fin).length = 9 ∧ (ltV d.new q.new).length = 9) := show _ from ⟨rfl, rfl⟩
 have hzV : z < V.heap.size := by omega
 have HX : Hid (_ ∧ _ ∧ _ ∧ _ ∧ _ ∧ _ ∧ _) := ⟨BV, hx, hy, hs, hn, hp, hz⟩
 obtain ⟨Ya, hYa⟩ : ∃ L, ltV d.fin q.fin = L := ⟨_, rfl⟩
 obtain ⟨Yb, hYb⟩ : ∃ L, ltV d.new q.new = L := ⟨_, rfl⟩
 obtain ⟨L, hL⟩ : ∃ L, (stV d q).toArray = L := ⟨_, rfl⟩
 rw [hYa] at R1 KA h9
 rw [hYb] at R2 KB h9
 rw [hL]
 rw [hL] at hV
 have HL : Hid (_ ∧ _ ∧ _) := ⟨hYa, hYb, hL⟩
 clear BV hx hy hs hn hp hz hYa hYb hL
 go_enter Tryz.func24, Tryz.ntmps24
 go_wp2_with fail
 first | rw [hzz] | skip
 first | rw [hV] | skip
 clear hzz hV
 refine jaw 7 (fun S aa W => ∃ x3 x4 x5 x6 x7 x8 x9 : Value, aa = { tmps := #[Value.agg L, Value.pointer (some { block := z, off := 0 }), Value.pointer (some { block := z + 1, off := 0 }), x3, x4, x5, x6, x7, x8, x9, undef, undef, undef, undef, undef, undef, undef, undef, undef, undef, undef, undef, undef, undef], defers := [] } ∧ Mu_s1 V d Ya Yb z S x3 x4 x5 x6 x7 x8 x9 W) (by kernel_rfl) (by kernel_rfl) ?_ ?_ ?_
 ·exact ⟨undef, undef, undef, undef, undef, undef, undef, rfl, ⟨(Below.refl _ V).drew, nofun, nofun, nofun, nofun, nofun, nofun, nofun⟩⟩
 ·intro i o S aa W hin hi hun hJ hall K hK
  obtain ⟨x3, x4, x5, x6, x7, x8, x9, rfl, h⟩ := hJ
  have hlt : i < 7 := hin
  have hcase : i = 0 ∨ i = 1 ∨ i = 2 ∨ i = 3 ∨ i = 4 ∨ i = 5 ∨ i = 6 := by omega
  rcases hcase with rfl | rfl | rfl | rfl | rfl | rfl | rfl
  all_goals (have ho := (Option.some.inj hi).symm; subst ho; clear hi hlt hin)
  ·go_simp
   exact hK _ _ ⟨_, _, _, _, _, _, _, rfl, { h with f0 := fun _ => rfl }⟩
  ·have s_0 : S 0 = true := hall ⟨0, .data⟩ (by simp) rfl
   obtain rfl := h.f0 s_0
   have cW : W.rangeAt z 0 Ya := fun j v hj => (h.e.cell (p := ⟨z, 0 + j, none⟩) hzV).trans (R1 j v hj)
   (rw [if_pos (by kernel_rfl)]; refine wp_load_mid 29 _ rfl z 0 rfl _ _ cW Tryz.underlying29 rfl (by rw [h9.out.1]; kernel_rfl) ?_)
   exact hK _ _ ⟨_, _, _, _, _, _, _, rfl, { h with f1 := fun _ => rfl }⟩
  ·have s_1 : S 1 = true := hall ⟨1, .data⟩ (by simp) rfl
   obtain rfl := h.f1 s_1
   go_simp
   refine (KA W h.e).mono ?_
   rintro e w5 ⟨⟨q5, rfl, g5⟩, hb5⟩
   have h1 := h.grow hb5
   exact hK _ _ ⟨_, _, _, _, _, _, _, rfl, { h1 with f2 := fun _ => ⟨q5, rfl, g5.mono h.e.size⟩ }⟩
  ·go_simp
   exact hK _ _ ⟨_, _, _, _, _, _, _, rfl, { h with f3 := fun _ => rfl }⟩
  ·have s_3 : S 3 = true := hall ⟨3, .data⟩ (by simp) rfl
   obtain rfl := h.f3 s_3
   have cW : W.rangeAt z 9 Yb := fun j v hj => (h.e.cell (p := ⟨z, 9 + j, none⟩) hzV).trans (R2 j v hj)
   (rw [if_pos (by kernel_rfl)]; refine wp_load_mid 29 _ rfl z 9 rfl _ _ cW Tryz.underlying29 rfl (by rw [h9.out.2]; kernel_rfl) ?_)
   exact hK _ _ ⟨_, _, _, _, _, _, _, rfl, { h with f4 := fun _ => rfl }⟩
  ·have s_4 : S 4 = true := hall ⟨4, .data⟩ (by simp) rfl
   obtain rfl := h.f4 s_4
   go_simp
   refine (KB W h.e).mono ?_
   rintro e w5 ⟨⟨q5, rfl, g5⟩, hb5⟩
   have h1 := h.grow hb5
   exact hK _ _ ⟨_, _, _, _, _, _, _, rfl, { h1 with f5 := fun _ => ⟨q5, rfl, g5.mono h.e.size⟩ }⟩
  ·go_simp
   exact hK _ _ ⟨_, _, _, _, _, _, _, rfl, { h with f6 := fun _ => rfl }⟩
 ·rintro S aa W hall ⟨x3, x4, x5, x6, x7, x8, x9, rfl, h⟩
  obtain rfl := h.f0 (hall 0 (by decide))
  obtain rfl := h.f1 (hall 1 (by decide))
  obtain ⟨ra, rfl, ga⟩ := h.f2 (hall 2 (by decide))
  obtain rfl := h.f3 (hall 3 (by decide))
  obtain rfl := h.f4 (hall 4 (by decide))
  obtain ⟨rb, rfl, gb⟩ := h.f5 (hall 5 (by decide))
  obtain rfl := h.f6 (hall 6 (by decide))
  have BWD := h.e
  clear h hall
  obtain ⟨BV, hx, hy, hs, hn, hp, hz⟩ := HX.out
  have xW : Bq z 38 (stV d q).toArray W := (BWD.block z (by omega)).trans hx
  have yW : Bq (z + 1) 38 zSA W := (BWD.block (z + 1) (by omega)).trans hy
  have bW : Below z w W := BV.trans (BWD.mono (by omega))
  have sW : z + 2 ≤ W.heap.size := by have := BWD.size; omega
  rw [show V.heap.size = z + 2 by omega] at ga gb
  have ht1 : W.there z 0 (ltV d.fin ra).length := jai xW (by show 0 + 9 ≤ 51; omega)
  have x1 : Bq z 38 (stV d { q with fin := ra }).toArray (W.setCells z 0 (ltV d.fin ra)) := jav (ltV d.new q.new ++ cmV d.now q.now ++ cmV d.nxt q.nxt ++ upV d.best q.best ++ [Value.bool d.has, .int .i64 d.last, .int .i64 d.this, .bool d.forced]) (ltV d.fin ra) (ltV d.fin q.fin) [] W rfl xW
  have ht2 : (W.setCells z 0 (ltV d.fin ra)).there z 9 (ltV d.new rb).length := jai x1 (by show 9 + 9 ≤ 51; omega)
  have x2 : Bq z 38 (stV d { q with fin := ra, new := rb }).toArray ((W.setCells z 0 (ltV d.fin ra)).setCells z 9 (ltV d.new rb)) := jav (cmV d.now q.now ++ cmV d.nxt q.nxt ++ upV d.best q.best ++ [Value.bool d.has, .int .i64 d.last, .int .i64 d.this, .bool d.forced]) (ltV d.new rb) (ltV d.new q.new) (ltV d.fin ra) _ rfl x1
  have y2 : Bq (z + 1) 38 zSA ((W.setCells z 0 (ltV d.fin ra)).setCells z 9 (ltV d.new rb)) := ((jad (show z + 1 ≠ z by omega) _ _ _).trans (jad (show z + 1 ≠ z by omega) _ _ _)).trans yW
  have b2 : Below z w ((W.setCells z 0 (ltV d.fin ra)).setCells z 9 (ltV d.new rb)) := jaq (jaq bW (Nat.le_refl _) _) (Nat.le_refl _) _
  have hsz2 : ((W.setCells z 0 (ltV d.fin ra)).setCells z 9 (ltV d.new rb)).heap.size = W.heap.size := by rw [jaj, jaj]
  have ga2 := ga.keep (W' := (W.setCells z 0 (ltV d.fin ra)).setCells z 9 (ltV d.new rb)) (by omega) fun b hb _ => (jad (by omega) _ _ _).trans (jad (by omega) _ _ _)
  have gb2 := gb.keep (W' := (W.setCells z 0 (ltV d.fin ra)).setCells z 9 (ltV d.new rb)) (by omega) fun b hb _ => (jad (by omega) _ _ _).trans (jad (by omega) _ _ _)
  have H2 : Hid (_ ∧ _ ∧ _ ∧ _ ∧ _ ∧ _) := ⟨x2, y2, b2, (by omega : z + 2 ≤ ((W.setCells z 0 (ltV d.fin ra)).setCells z 9 (ltV d.new rb)).heap.size), ga2, gb2⟩
  have HP : Hid (_ ∧ _ ∧ _) := ⟨hn, hp, hz⟩
  clear xW yW bW sW ga gb BV hx hy hs hn hp hz BWD x1 x2 y2 b2 hsz2 ga2 gb2
  refine jat rfl rfl 29 _ _ rfl z 0 (ltV d.fin ra) rfl rfl ht1 (by kernel_rfl) (jbx _ _) ?_
  refine wpList_plain rfl (fun K hK => ?_)
  go_simp
  refine hK _ _ ?_
  clear hK K
  refine jat rfl rfl 29 _ _ rfl z 9 (ltV d.new rb) rfl rfl ht2 (by kernel_rfl) (jbx _ _) ?_
  refine wpList_nil ?_
  refine thenOf (fun W => Bq z 38 (stV d { q with fin := ra, new := rb }).toArray W ∧ Bq (z + 1) 38 zSA W ∧ Below z w W ∧ z + 2 ≤ W.heap.size ∧ slG (z + 2) W ra.a d.fin.br ∧ slG (z + 2) W rb.a d.new.br) H2.out ?_
  rintro W2 ⟨x2, y2, b2, s2, ga, gb⟩
  clear H2 ht1 ht2 HX
  obtain ⟨hn, hp, hz⟩ := HP.out
  have R3 := jac x2 18 (cmV d.now q.now) (stV_now d { q with fin := ra, new := rb })
  have R4' := jac x2 20 (cmV d.nxt q.nxt) (jfk d { q with fin := ra, new := rb })
  have KC := fun (W : World) (hB : Below W2.heap.size W2 W) => jdv d.now hz.2.2.1 q.now n W (by have := hB.size; omega) (jan ((b2.trans (hB.mono (by omega))).mono hn) hp.2.2.1)
  have KD := fun (W : World) (hB : Below W2.heap.size W2 W) => jdv d.nxt hz.2.2.2.1 q.nxt n W (by have := hB.size; omega) (jan ((b2.trans (hB.mono (by omega))).mono hn) hp.2.2.2.1)
  have hc2 : Hid ((cmV d.now q.now).length = 2 ∧ (cmV d.nxt q.nxt).length = 2) := show _ from ⟨rfl, rfl⟩
  have hzV2 : z < W2.heap.size := by omega
  have HX : Hid (_ ∧ _ ∧ _ ∧ _ ∧ _ ∧ _) := ⟨x2, y2, b2, s2, ga, gb⟩
  obtain ⟨Yc, hYc⟩ : ∃ L, cmV d.now q.now = L := ⟨_, rfl⟩
  obtain ⟨Yd, hYd⟩ : ∃ L, cmV d.nxt q.nxt = L := ⟨_, rfl⟩
  rw [hYc] at R3 KC hc2
  rw [hYd] at R4' KD hc2
  have HYc : Hid (_ ∧ _) := ⟨hYc, hYd⟩
  clear hYc hYd x2 y2 b2 ga gb hn hp hz
  go_wp2_with fail
  refine jaw 7 (fun S aa W => ∃ x11 x12 x13 x14 x15 x16 x17 : Value, aa = { tmps := #[Value.agg L, Value.pointer (some { block := z, off := 0 }), Value.pointer (some { block := z + 1, off := 0 }), Value.pointer (some { block := z, off := 0 }), Value.agg Ya.toArray, Value.agg (ltV d.fin ra).toArray, Value.pointer (some { block := z, off := 9 }), Value.agg Yb.toArray, Value.agg (ltV d.new rb).toArray, Value.pointer (some { block := z, off := 0 }), Value.pointer (some { block := z, off := 9 }), x11, x12, x13, x14, x15, x16, x17, undef, undef, undef, undef, undef, undef], defers := [] } ∧ Mu_s2 W2 d Yc Yd z S x11 x12 x13 x14 x15 x16 x17 W) (by kernel_rfl) (by kernel_rfl) ?_ ?_ ?_
  ·exact ⟨undef, undef, undef, undef, undef, undef, undef, rfl, ⟨(Below.refl _ W2).drew, nofun, nofun, nofun, nofun, nofun, nofun, nofun⟩⟩
  ·intro i o S aa W hin hi hun hJ hall K hK
   obtain ⟨x11, x12, x13, x14, x15, x16, x17, rfl, h⟩ := hJ
   have hlt : i < 7 := hin
   have hcase : i = 0 ∨ i = 1 ∨ i = 2 ∨ i = 3 ∨ i = 4 ∨ i = 5 ∨ i = 6 := by omega
   rcases hcase with rfl | rfl | rfl | rfl | rfl | rfl | rfl
   all_goals (have ho := (Option.some.inj hi).symm; subst ho; clear hi hlt hin)
   ·go_simp
    exact hK _ _ ⟨_, _, _, _, _, _, _, rfl, { h with f0 := fun _ => rfl }⟩
   ·have s_0 : S 0 = true := hall ⟨0, .data⟩ (by simp) rfl
    obtain rfl := h.f0 s_0
    have cW : W.rangeAt z 18 Yc := fun j v hj => (h.e.cell (p := ⟨z, 18 + j, none⟩) hzV2).trans (R3 j v hj)
    (rw [if_pos (by kernel_rfl)]; refine wp_load_mid 31 _ rfl z 18 rfl _ _ cW Tryz.underlying31 rfl (by rw [hc2.out.1]; kernel_rfl) ?_)
    exact hK _ _ ⟨_, _, _, _, _, _, _, rfl, { h with f1 := fun _ => rfl }⟩
   ·have s_1 : S 1 = true := hall ⟨1, .data⟩ (by simp) rfl
    obtain rfl := h.f1 s_1
    go_simp
    refine (KC W h.e).mono ?_
    rintro e w5 ⟨⟨q5, rfl, g5⟩, hb5⟩
    have h1 := h.grow hb5
    exact hK _ _ ⟨_, _, _, _, _, _, _, rfl, { h1 with f2 := fun _ => ⟨q5, rfl, g5.mono h.e.size⟩ }⟩
   ·go_simp
    exact hK _ _ ⟨_, _, _, _, _, _, _, rfl, { h with f3 := fun _ => rfl }⟩
   ·have s_3 : S 3 = true := hall ⟨3, .data⟩ (by simp) rfl
    obtain rfl := h.f3 s_3
    have cW : W.rangeAt z 20 Yd := fun j v hj => (h.e.cell (p := ⟨z, 20 + j, none⟩) hzV2).trans (R4' j v hj)
    (rw [if_pos (by kernel_rfl)]; refine wp_load_mid 31 _ rfl z 20 rfl _ _ cW Tryz.underlying31 rfl (by rw [hc2.out.2]; kernel_rfl) ?_)
    exact hK _ _ ⟨_, _, _, _, _, _, _, rfl, { h with f4 := fun _ => rfl }⟩
   ·have s_4 : S 4 = true := hall ⟨4, .data⟩ (by simp) rfl
    obtain rfl := h.f4 s_4
    go_simp
    refine (KD W h.e).mono ?_
    rintro e w5 ⟨⟨q5, rfl, g5⟩, hb5⟩
    have h1 := h.grow hb5
    exact hK _ _ ⟨_, _, _, _, _, _, _, rfl, { h1 with f5 := fun _ => ⟨q5, rfl, g5.mono h.e.size⟩ }⟩
   ·go_simp
    exact hK _ _ ⟨_, _, _, _, _, _, _, rfl, { h with f6 := fun _ => rfl }⟩
  ·rintro S aa W hall ⟨x11, x12, x13, x14, x15, x16, x17, rfl, h⟩
   obtain rfl := h.f0 (hall 0 (by decide))
   obtain rfl := h.f1 (hall 1 (by decide))
   obtain ⟨rc, rfl, gc⟩ := h.f2 (hall 2 (by decide))
   obtain rfl := h.f3 (hall 3 (by decide))
   obtain rfl := h.f4 (hall 4 (by decide))
   obtain ⟨rd, rfl, gd⟩ := h.f5 (hall 5 (by decide))
   obtain rfl := h.f6 (hall 6 (by decide))
   have BWD := h.e
   clear h hall
   obtain ⟨x2, y2, b2, s2, ga, gb⟩ := HX.out
   have xW : Bq z 38 (stV d { q with fin := ra, new := rb }).toArray W := x2.below BWD
   have yW := y2.below BWD
   have sW := BWD.size
   have bW := jaa b2 (by omega) BWD
   have ht1 : W.there z 18 (cmV d.now rc).length := jai xW (by show 18 + 2 ≤ 51; omega)
   have x3 : Bq z 38 (stV d { q with fin := ra, new := rb, now := rc }).toArray (W.setCells z 18 (cmV d.now rc)) := jav (cmV d.nxt q.nxt ++ upV d.best q.best ++ [Value.bool d.has, .int .i64 d.last, .int .i64 d.this, .bool d.forced]) (cmV d.now rc) (cmV d.now q.now) (ltV d.fin ra ++ ltV d.new rb) W rfl xW
   have ht2 : (W.setCells z 18 (cmV d.now rc)).there z 20 (cmV d.nxt rd).length := jai x3 (by show 20 + 2 ≤ 51; omega)
   have x4 : Bq z 38 (stV d { q with fin := ra, new := rb, now := rc, nxt := rd }).toArray ((W.setCells z 18 (cmV d.now rc)).setCells z 20 (cmV d.nxt rd)) := jav (upV d.best q.best ++ [Value.bool d.has, .int .i64 d.last, .int .i64 d.this, .bool d.forced]) (cmV d.nxt rd) (cmV d.nxt q.nxt) (ltV d.fin ra ++ ltV d.new rb ++ cmV d.now rc) _ rfl x3
   have y4 : Bq (z + 1) 38 zSA ((W.setCells z 18 (cmV d.now rc)).setCells z 20 (cmV d.nxt rd)) := ((jad (show z + 1 ≠ z by omega) _ _ _).trans (jad (show z + 1 ≠ z by omega) _ _ _)).trans yW
   have b4 : Below z w ((W.setCells z 18 (cmV d.now rc)).setCells z 20 (cmV d.nxt rd)) := jaq (jaq bW (Nat.le_refl _) _) (Nat.le_refl _) _
   have hsz4 : ((W.setCells z 18 (cmV d.now rc)).setCells z 20 (cmV d.nxt rd)).heap.size = W.heap.size := by rw [jaj, jaj]
   have KG : ∀ (n : Nat) (a : Option Addr) (xs : List ByteArray), z + 2 ≤ n → slG n W a xs → slG (z + 2) ((W.setCells z 18 (cmV d.now rc)).setCells z 20 (cmV d.nxt rd)) a xs := fun n a xs hn h => (h.keep (by omega) fun b hb _ => (jad (by omega) _ _ _).trans (jad (by omega) _ _ _)).mono hn
   have H4 : Hid (_ ∧ _ ∧ _ ∧ _ ∧ _ ∧ _ ∧ _ ∧ _) := ⟨x4, y4, b4, (by omega : z + 2 ≤ ((W.setCells z 18 (cmV d.now rc)).setCells z 20 (cmV d.nxt rd)).heap.size), KG _ _ _ (Nat.le_refl _) (ga.grow BWD), KG _ _ _ (Nat.le_refl _) (gb.grow BWD), KG _ _ _ s2 gc, KG _ _ _ s2 gd⟩
   clear xW yW bW sW ga gb gc gd BWD x2 y2 b2 x3 x4 y4 b4 hsz4 KG
   refine jat rfl rfl 31 _ _ rfl z 18 (cmV d.now rc) rfl rfl ht1 (by kernel_rfl) (jcc _ _) ?_
   refine wpList_plain rfl (fun K hK => ?_)
   go_simp
   refine hK _ _ ?_
   clear hK K
   refine jat rfl rfl 31 _ _ rfl z 20 (cmV d.nxt rd) rfl rfl ht2 (by kernel_rfl) (jcc _ _) ?_
   refine wpList_nil ?_
   refine thenOf (fun W => Bq z 38 (stV d { q with fin := ra, new := rb, now := rc, nxt := rd }).toArray W ∧ Bq (z + 1) 38 zSA W ∧ Below z w W ∧ z + 2 ≤ W.heap.size ∧ slG (z + 2) W ra.a d.fin.br ∧ slG (z + 2) W rb.a d.new.br ∧ slG (z + 2) W rc.a d.now.ks ∧ slG (z + 2) W rd.a d.nxt.ks) H4.out ?_
   rintro W4 ⟨x4, y4, b4, s4, ga, gb, gc, gd⟩
   clear H4 ht1 ht2 HX
   obtain ⟨hn, hp, hz⟩ := HP.out
   have R5' := jac x4 22 (upV d.best q.best) (stV_best d { q with fin := ra, new := rb, now := rc, nxt := rd })
   have KE := copiedUpd_any d.best hz.2.2.2.2 q.best n W4 (by omega) (hp.2.2.2.2.below (b4.mono hn))
   have hu : Hid ((upV d.best q.best).length = 25) := show _ from rfl
   have HX : Hid (_ ∧ _ ∧ _ ∧ _ ∧ _ ∧ _ ∧ _ ∧ _) := ⟨x4, y4, b4, s4, ga, gb, gc, gd⟩
   obtain ⟨Ye, hYe⟩ : ∃ L, upV d.best q.best = L := ⟨_, rfl⟩
   rw [hYe] at R5' KE hu
   have HYe : Hid _ := hYe
   clear hYe x4 y4 b4 ga gb gc gd hn hp hz
   go_wp2_with (refine wpList_load_mid rfl 33 _ rfl z 22 rfl _ _ R5' Tryz.underlying33 rfl (by rw [hu.out]; kernel_rfl) ?_)
   refine KE.mono ?_
   rintro e w5 ⟨⟨re, rfl, ge⟩, B5⟩
   obtain ⟨x4, y4, b4, s4, ga, gb, gc, gd⟩ := HX.out
   have x5 := x4.below B5
   have s5 := B5.size
   have ht5 : w5.there z 22 (upV d.best re).length := jai x5 (by show 22 + 25 ≤ 51; omega)
   have x6 : (w5.setCells z 22 (upV d.best re)).heap[z]? = some (.cells (stV d ⟨ra, rb, rc, rd, re⟩).toArray 38 (0, 0)) := jav [Value.bool d.has, .int .i64 d.last, .int .i64 d.this, .bool d.forced] (upV d.best re) (upV d.best q.best) (ltV d.fin ra ++ ltV d.new rb ++ cmV d.now rc ++ cmV d.nxt rd) w5 rfl x5
   have y6 : (w5.setCells z 22 (upV d.best re)).heap[z + 1]? = some (.cells zSA 38 (0, 0)) := (jad (show z + 1 ≠ z by omega) _ _ _).trans (y4.below B5)
   have b6 : Below z w (w5.setCells z 22 (upV d.best re)) := jaq (jaa b4 (by omega) B5) (Nat.le_refl _) _
   have hsz6 : (w5.setCells z 22 (upV d.best re)).heap.size = w5.heap.size := by rw [jaj]
   have KG : ∀ (n : Nat) (a : Option Addr) (xs : List ByteArray), z + 2 ≤ n → slG n w5 a xs → slG (z + 2) (w5.setCells z 22 (upV d.best re)) a xs := fun n a xs hn h => (h.keep (by omega) fun b hb _ => jad (by omega) _ _ _).mono hn
   have G6 : storG (z + 2) (w5.setCells z 22 (upV d.best re)) d ⟨ra, rb, rc, rd, re⟩ := ⟨KG _ _ _ (Nat.le_refl _) (ga.grow B5), KG _ _ _ (Nat.le_refl _) (gb.grow B5), KG _ _ _ (Nat.le_refl _) (gc.grow B5), KG _ _ _ (Nat.le_refl _) (gd.grow B5), (ge.keep (by omega) fun b hb _ => jad (by omega) _ _ _).mono s4⟩
   have hQ : Hid ((stV d ⟨ra, rb, rc, rd, re⟩).toArray.size = 51) := show _ from rfl
   have hone := jbz d ⟨ra, rb, rc, rd, re⟩
   obtain ⟨qf, hqf⟩ : ∃ qf : StP, (⟨ra, rb, rc, rd, re⟩ : StP) = qf := ⟨_, rfl⟩
   rw [hqf] at x6 G6 hQ hone
   obtain ⟨F9, hF9⟩ : ∃ F, (stV d qf).toArray = F := ⟨_, rfl⟩
   have HF : Hid (_ ∧ _ ∧ _ ∧ _ ∧ _ ∧ _) := ⟨b6, G6, hF9, y6, jba hone, hsz6⟩
   rw [hF9] at x6 hQ
   clear x5 b6 hsz6 KG G6 ga gb gc gd ge x4 y4 b4 HX B5 KE R5' hu hone hqf hF9
   go_wp2_with (first
    | (refine jat rfl rfl 33 _ _ rfl z 22 (upV d.best re) rfl rfl ht5 (by kernel_rfl) (jbj _ _) ?_; refine wpList_nil ?_; refine Stp.out ?_))
   refine ⟨?_⟩
   obtain ⟨W6, hW6⟩ : ∃ W, w5.setCells z 22 (upV d.best re) = W := ⟨_, rfl⟩
   rw [hW6] at x6 y6 HF ⊢
   clear hW6 ht5
   go_wp2_with (first
    | (refine wpList_load_row rfl 38 _ rfl z rfl _ _ _ _ x6 Tryz.underlying38 rfl (by rw [hQ.out]; kernel_rfl) ?_)
    | (refine jao rfl rfl 38 _ _ rfl (z + 1) _ rfl rfl 38 _ y6 (by rw [hQ.out]; kernel_rfl) (by rw [hQ.out]; rfl) (by rw [← HF.out.2.2.1]; exact HF.out.2.2.2.2.1) ?_))
   obtain ⟨b9, G9, hF9, y9', -, -⟩ := HF.out
   have r9 := Bq.row (show Bq (z + 1) 38 _ _ from y9') F9
   have b10 := jas b9 (show z ≤ z + 1 by omega) F9
   refine bodyPost_ret (results_cell_row rfl _ _ (z + 1) 38 _ (0, 0) _ rfl r9 Tryz.underlying38 rfl (by rw [hQ.out]; kernel_rfl)) rfl ⟨⟨qf, by rw [← hF9], ?_⟩, ?_⟩
   ·exact (G9.keep (by rw [size_setRow]; exact Nat.le_refl _) fun b hb _ => setRow_other _ _ _ _ (by omega)).mono (by have := HZ.out; omega)
   ·rw [HZ.out]
    exact b10
def ltHo (d : LtD) : Bool := u_hoB d.s d.u d.m d.p d.t d.b d.ea d.ra d.br
theorem jgx (d : LtD) (q : Pl) (n : Nat) (w : World) (hl : Laid w) (hn : n ≤ w.heap.size) (hp : slS n w q.a d.br) :
  Calls Tryz.prog 41 #[.agg (ltV d q).toArray] w fun e w' => e = .returned (.bool (ltHo d)) ∧ Below w.heap.size w w' := u_holds_any d.s d.u d.m d.p d.t d.b d.ea d.ra d.br q.a q.c n w hl hn hp
theorem check_few (s : StD) (u : UpD) (hu : u.ok) (qs : StP) (qu : UpP) (now : Nat) (w : World) (h0 : sgN u.bits = 0) :
  Calls Tryz.prog 20 #[.agg (stV s qs).toArray, .agg (upV u qu).toArray, .int .u64 (now : Int)] w fun e w' => e = .returned (.int .i64 141) ∧ Below w.heap.size w w' := by
 have KC := jea u hu qu
 rw [h0] at KC
 obtain ⟨z, hzz⟩ : ∃ z, w.heap.size = z := ⟨_, rfl⟩
 have HZ : Hid (w.heap.size = z) := hzz
 have H51 : Hid ((stV s qs).toArray.size = 51 ∧ (upV u qu).length = 25) := show _ from ⟨rfl, rfl⟩
 obtain ⟨S, hS⟩ : ∃ S, (stV s qs).toArray = S := ⟨_, rfl⟩
 obtain ⟨U, hU⟩ : ∃ U, upV u qu = U := ⟨_, rfl⟩
 rw [hS, hU] at H51
 rw [hU] at KC
 rw [hS, hU]
 clear hS hU h0
 obtain ⟨BV, hx, hy, hs⟩ := box2 w (.cells S 38) (.cells U.toArray 33)
 rw [hzz] at BV hx hy hs
 have R1 := jal hy
 go_enter Tryz.func20, Tryz.ntmps20
 go_wp2_with (refine wpList_load_mid rfl 33 _ rfl (z + 1) 0 rfl _ _ R1 Tryz.underlying33 rfl (by rw [H51.out.2]; kernel_rfl) ?_)
 refine (KC _).mono ?_
 rintro e w2 ⟨rfl, B2⟩
 have BX := jaa BV (by omega) B2
 have HB : Hid _ := BX
 clear B2 BV hx hy hs R1 KC hzz BX
 go_wp2
 go_ret
 rw [HZ.out]
 exact ⟨rfl, HB.out⟩
theorem check_head (s : StD) (u : UpD) (hu : u.ok) (qs : StP) (qu : UpP) (now : Nat) (n : Nat) (w : World) (hl : Laid w) (hn : n ≤ w.heap.size) (hp : slS n w qu.l.a u.l.br) (h0 : sgN u.bits ≠ 0) (h1 : ltHo u.l = false) :
  Calls Tryz.prog 20 #[.agg (stV s qs).toArray, .agg (upV u qu).toArray, .int .u64 (now : Int)] w fun e w' => e = .returned (.int .i64 130) ∧ Below w.heap.size w w' := by
 have KC := jea u hu qu
 have KH := fun (W : World) (hB : Below w.heap.size w W) => jgx u.l qu.l n W (hl.below hB) (Nat.le_trans hn hB.size) (jan (hB.mono hn) hp)
 rw [h1] at KH
 have hF := upV_l u qu
 obtain ⟨c, hc⟩ : ∃ c, sgN u.bits = c := ⟨_, rfl⟩
 rw [hc] at KC h0
 have hc0 : ((c : Int) == 0) = false := by rw [beq_eq_false_iff_ne]; omega
 clear hc h0 h1 hn hp hl
 obtain ⟨z, hzz⟩ : ∃ z, w.heap.size = z := ⟨_, rfl⟩
 have HZ : Hid (w.heap.size = z) := hzz
 have H51 : Hid ((stV s qs).toArray.size = 51 ∧ (upV u qu).length = 25 ∧ (ltV u.l qu.l).length = 9) := show _ from ⟨rfl, rfl, rfl⟩
 obtain ⟨S, hS⟩ : ∃ S, (stV s qs).toArray = S := ⟨_, rfl⟩
 obtain ⟨U, hU⟩ : ∃ U, upV u qu = U := ⟨_, rfl⟩
 obtain ⟨X, hX⟩ : ∃ U, ltV u.l qu.l = U := ⟨_, rfl⟩
 rw [hS, hU, hX] at H51
 rw [hU] at KC hF
 rw [hX] at hF KH
 rw [hS, hU]
 clear hS hU hX
 obtain ⟨BV, hx, hy, hs⟩ := box2 w (.cells S 38) (.cells U.toArray 33)
 rw [hzz] at BV hx hy hs KH
 have R1 := jal hy
 go_enter Tryz.func20, Tryz.ntmps20
 go_wp2_with (refine wpList_load_mid rfl 33 _ rfl (z + 1) 0 rfl _ _ R1 Tryz.underlying33 rfl (by rw [H51.out.2.1]; kernel_rfl) ?_)
 refine (KC _).mono ?_
 rintro e w2 ⟨rfl, B2⟩
 have BX := jaa BV (by omega) B2
 have y2 := (B2.block (z + 1) (by omega)).trans hy
 have R2 := jac y2 0 X hF
 have s2 := B2.size
 clear B2 BV hx hy hs R1 KC hzz
 go_wp2_with (refine wpList_load_mid rfl 29 _ rfl (z + 1) 0 rfl _ _ R2 Tryz.underlying29 rfl (by rw [H51.out.2.2]; kernel_rfl) ?_)
 refine (KH _ BX).mono ?_
 rintro e w3 ⟨rfl, B3⟩
 have HB : Hid _ := jaa BX (by have := BX.size; have := HZ.out; omega) B3
 clear B3 BX y2 R2 KH s2
 go_wp2
 go_ret
 rw [HZ.out]
 exact ⟨rfl, HB.out⟩
def rfB (s : StD) (now : Nat) : Bool := !s.has || decide (now ≤ s.fin.s) || decide (now - s.fin.s ≤ 64)
theorem force_no (s : StD) (hz : szT s) (qs : StP) (now : Nat) (hnow : now < 18446744073709551616) (n : Nat) (w : World) (hn : n ≤ w.heap.size) (hp : stIn n w s qs) (hrf : rfB s now = true) :
  Calls Tryz.prog 19 #[.agg (stV s qs).toArray, .int .u64 (now : Int)] w fun e w' => (∃ q', e = .returned (.tuple #[.agg (stV s q').toArray, .int .i64 148]) ∧ storG w.heap.size w' s q') ∧ Below w.heap.size w w' := by
 have KC := fun (W : World) (hB : Below w.heap.size w W) => jha s hz qs n W (Nat.le_trans hn hB.size) (hp.below (hB.mono hn))
 obtain ⟨z, hzz⟩ : ∃ z, w.heap.size = z := ⟨_, rfl⟩
 have HZ : Hid (w.heap.size = z) := hzz
 have H51 : Hid ((stV s qs).length = 51) := show _ from rfl
 have h0 : (stV s qs)[0]? = some (.int .u64 (s.fin.s : Int)) := rfl
 have h47 : (stV s qs)[47]? = some (.bool s.has) := rfl
 obtain ⟨S, hS⟩ : ∃ S, stV s qs = S := ⟨_, rfl⟩
 rw [hS] at H51 h0 h47 KC
 rw [hS]
 have HSO : Hid _ := hS
 clear hS
 obtain ⟨BV, hx, hy, hs⟩ := box2 w (.cells S.toArray 38) (.cells zSA 38)
 rw [hzz] at BV hx hy hs KC
 have c0 := jaf hx 0 _ h0
 have c47 := jaf hx 47 _ h47
 unfold rfB at hrf
 obtain ⟨f, hf⟩ : ∃ f, s.fin.s = f := ⟨_, rfl⟩
 obtain ⟨b, hb⟩ : ∃ f, s.has = f := ⟨_, rfl⟩
 rw [hf] at hrf c0
 rw [hb] at hrf c47
 clear hf hb h0 h47 hn hp hz
 go_enter Tryz.func19, Tryz.ntmps19
 have R0 := jal hx
 have HY : Hid (_ ∧ _ ∧ _) := ⟨BV, hy, hs⟩
 clear hx hy
 cases b with
 | false =>
  go_wp2_with (refine wpList_load_mid rfl 38 _ rfl z 0 rfl _ _ R0 Tryz.underlying38 rfl (by rw [H51.out]; kernel_rfl) ?_)
  refine (KC _ BV).mono ?_
  rintro e w2 ⟨⟨q', rfl, G2⟩, B2⟩
  obtain ⟨BV', hy', hs'⟩ := HY.out
  have y2 := (B2.block (z + 1) (by omega)).trans hy'
  have BX := jaa BV' (by omega) B2
  have hQ : Hid ((stV s q').toArray.size = 51) := show _ from rfl
  have hone := jbz s q'
  obtain ⟨F9, hF9⟩ : ∃ F, (stV s q').toArray = F := ⟨_, rfl⟩
  have HF : Hid (_ ∧ _ ∧ _ ∧ _) := ⟨BX, G2, hF9, jba hone⟩
  rw [hF9] at hQ ⊢
  clear BX G2 hF9 hone BV B2 c0 c47 R0 KC hzz hs BV' hy' hs'
  go_wp2_with (refine jao rfl rfl 38 _ _ rfl (z + 1) _ rfl rfl 38 _ y2 (by rw [hQ.out]; kernel_rfl) (by rw [hQ.out]; rfl) (by rw [← HF.out.2.2.1]; exact HF.out.2.2.2) ?_)
  obtain ⟨BX, G2, hF9, -⟩ := HF.out
  have hs := HY.out.2.2
  have r9 := Bq.row (show Bq (z + 1) 38 _ _ from y2) F9
  refine bodyPost_ret (jbd rfl _ _ (z + 1) 38 _ (0, 0) _ rfl r9 Tryz.underlying38 rfl (by rw [hQ.out]; kernel_rfl) (.int .i64 148) rfl) rfl ⟨⟨q', by rw [← hF9], ?_⟩, ?_⟩
  ·exact (G2.keep (by rw [size_setRow]; exact Nat.le_refl _) fun b hb _ => setRow_other _ _ _ _ (by omega)).mono (by have := HZ.out; omega)
  ·rw [HZ.out]
   exact jas BX (by omega) F9
 | true =>
  by_cases h1 : now ≤ f
  ·have l1 : (now : Int) ≤ f := by omega
   go_wp2_with (refine wpList_load_mid rfl 38 _ rfl z 0 rfl _ _ R0 Tryz.underlying38 rfl (by rw [H51.out]; kernel_rfl) ?_)
   refine (KC _ BV).mono ?_
   rintro e w2 ⟨⟨q', rfl, G2⟩, B2⟩
   obtain ⟨BV', hy', hs'⟩ := HY.out
   have y2 := (B2.block (z + 1) (by omega)).trans hy'
   have BX := jaa BV' (by omega) B2
   have hQ : Hid ((stV s q').toArray.size = 51) := show _ from rfl
   have hone := jbz s q'
   obtain ⟨F9, hF9⟩ : ∃ F, (stV s q').toArray = F := ⟨_, rfl⟩
   have HF : Hid (_ ∧ _ ∧ _ ∧ _) := ⟨BX, G2, hF9, jba hone⟩
   rw [hF9] at hQ ⊢
   clear BX G2 hF9 hone BV B2 c0 c47 R0 KC hzz hs BV' hy' hs'
   go_wp2_with (refine jao rfl rfl 38 _ _ rfl (z + 1) _ rfl rfl 38 _ y2 (by rw [hQ.out]; kernel_rfl) (by rw [hQ.out]; rfl) (by rw [← HF.out.2.2.1]; exact HF.out.2.2.2) ?_)
   obtain ⟨BX, G2, hF9, -⟩ := HF.out
   have hs := HY.out.2.2
   have r9 := Bq.row (show Bq (z + 1) 38 _ _ from y2) F9
   refine bodyPost_ret (jbd rfl _ _ (z + 1) 38 _ (0, 0) _ rfl r9 Tryz.underlying38 rfl (by rw [hQ.out]; kernel_rfl) (.int .i64 148) rfl) rfl ⟨⟨q', by rw [← hF9], ?_⟩, ?_⟩
   ·exact (G2.keep (by rw [size_setRow]; exact Nat.le_refl _) fun b hb _ => setRow_other _ _ _ _ (by omega)).mono (by have := HZ.out; omega)
   ·rw [HZ.out]
    exact jas BX (by omega) F9
  ·have l1 : ¬ (now : Int) ≤ f := by omega
   have h2 : now - f ≤ 64 := by
    simp only [Bool.not_true, Bool.false_or, Bool.or_eq_true, decide_eq_true_eq] at hrf
    omega
   have wk : IntKind.u64.wrap ((now : Int) - f) = (now : Int) - f := by rw [IntKind.wrap_u64]; omega
   have l2 : (now : Int) - f ≤ 64 := by omega
   go_wp2_with (refine wpList_load_mid rfl 38 _ rfl z 0 rfl _ _ R0 Tryz.underlying38 rfl (by rw [H51.out]; kernel_rfl) ?_)
   refine (KC _ BV).mono ?_
   rintro e w2 ⟨⟨q', rfl, G2⟩, B2⟩
   obtain ⟨BV', hy', hs'⟩ := HY.out
   have y2 := (B2.block (z + 1) (by omega)).trans hy'
   have BX := jaa BV' (by omega) B2
   have hQ : Hid ((stV s q').toArray.size = 51) := show _ from rfl
   have hone := jbz s q'
   obtain ⟨F9, hF9⟩ : ∃ F, (stV s q').toArray = F := ⟨_, rfl⟩
   have HF : Hid (_ ∧ _ ∧ _ ∧ _) := ⟨BX, G2, hF9, jba hone⟩
   rw [hF9] at hQ ⊢
   clear BX G2 hF9 hone BV B2 c0 c47 R0 KC hzz hs BV' hy' hs'
   go_wp2_with (refine jao rfl rfl 38 _ _ rfl (z + 1) _ rfl rfl 38 _ y2 (by rw [hQ.out]; kernel_rfl) (by rw [hQ.out]; rfl) (by rw [← HF.out.2.2.1]; exact HF.out.2.2.2) ?_)
   obtain ⟨BX, G2, hF9, -⟩ := HF.out
   have hs := HY.out.2.2
   have r9 := Bq.row (show Bq (z + 1) 38 _ _ from y2) F9
   refine bodyPost_ret (jbd rfl _ _ (z + 1) 38 _ (0, 0) _ rfl r9 Tryz.underlying38 rfl (by rw [hQ.out]; kernel_rfl) (.int .i64 148) rfl) rfl ⟨⟨q', by rw [← hF9], ?_⟩, ?_⟩
   ·exact (G2.keep (by rw [size_setRow]; exact Nat.le_refl _) fun b hb _ => setRow_other _ _ _ _ (by omega)).mono (by have := HZ.out; omega)
   ·rw [HZ.out]
    exact jas BX (by omega) F9
def nP : Pl := ⟨none, 0⟩
def nU : UpP := ⟨nP, nP, nP, nP, nP⟩
def nS : StP := ⟨nP, nP, nP, nP, nU⟩
theorem jdj (n : Nat) (W : World) : slS n W none [] := .inl rfl
theorem zLt_no : ltHo zLt = false := by
 unfold ltHo u_hoB
 have : rt8 (hdC (zLt.s : Int) (zLt.u : Int) zLt.p zLt.t zLt.b) 3 = false := by
  rw [Bool.eq_false_iff]
  intro h
  have := ((jfm _ _).1 h).2.2.2.2 zLt.p (by unfold hdC; simp)
  cases this
 rw [this]
 rfl
theorem U6_0 : U6 0 := by unfold U6; omega
theorem zLt_ok : zLt.ok := ⟨U6_0, U6_0, U6_0⟩
theorem zUp_ok (b : Nat) (hb : b < 18446744073709551616) : UpD.ok { zUp with bits := b } := ⟨zLt_ok, zLt_ok, hb, U6_0⟩
theorem zS_sz : szS [] := ⟨by simp, fun x hx => by cases hx⟩
theorem zL_sz : szL zLt := ⟨by decide, by decide, by decide, by decide, by decide, zS_sz⟩
theorem zC_sz : szC zCm := ⟨zS_sz, by decide⟩
theorem zT_sz : szT zSt := ⟨zL_sz, zL_sz, zC_sz, zC_sz, ⟨zL_sz, zC_sz, zS_sz, zL_sz, zS_sz, by decide⟩⟩
theorem zT_in (n : Nat) (W : World) : stIn n W zSt nS := ⟨jdj _ _, jdj _ _, jdj _ _, jdj _ _, jdj _ _, jdj _ _, jdj _ _, jdj _ _, jdj _ _⟩
theorem shown14_any (w : World) (hl : Laid w) : Calls Tryz.prog 8 #[] w fun e w' => e = .returned (.bool true) ∧ Below w.heap.size w w' := by
 have K1 : ∀ W : World, Calls Tryz.prog 20 #[.agg zSA, .agg zUA, .int .u64 0] W fun e w' => e = .returned (.int .i64 141) ∧ Below W.heap.size W w' := fun W => check_few zSt zUp (zUp_ok 0 (by omega)) nS nU 0 W (by decide)
 have K2 : ∀ W : World, Calls Tryz.prog 19 #[.agg zSA, .int .u64 1000] W fun e w' => (∃ q', e = .returned (.tuple #[.agg (stV zSt q').toArray, .int .i64 148]) ∧ storG W.heap.size w' zSt q') ∧ Below W.heap.size W w' := fun W => force_no zSt zT_sz nS 1000 (by omega) W.heap.size W (Nat.le_refl _) (zT_in _ _) rfl
 have K3 : ∀ W : World, Below w.heap.size w W → Calls Tryz.prog 20 #[.agg zSA, .agg #[.int .u64 0, .int .u64 0, .string ⟨#[]⟩, .string ⟨#[]⟩, .string ⟨#[]⟩, .string ⟨#[]⟩, .string ⟨#[]⟩, .int .u64 0, .slice none 0 0, .slice none 0 0, .string ⟨#[]⟩, .slice none 0 0, .int .u64 0, .int .u64 0, .string ⟨#[]⟩, .string ⟨#[]⟩, .string ⟨#[]⟩, .string ⟨#[]⟩, .string ⟨#[]⟩, .int .u64 0, .slice none 0 0, .slice none 0 0, .int .u64 1, .string ⟨#[]⟩, .int .u64 0], .int .u64 0] W fun e w' => e = .returned (.int .i64 130) ∧ Below W.heap.size W w' := fun W hB => check_head zSt { zUp with bits := 1 } (zUp_ok 1 (by omega)) nS nU 0 W.heap.size W (hl.below hB) (Nat.le_refl _) (jdj _ _) (by decide) zLt_no
 go_enter Tryz.func8, Tryz.ntmps8
 go_wp2_with fail
 refine (K1 _).mono ?_
 rintro e w2 ⟨rfl, B2⟩
 go_wp2_with fail
 refine (K2 _).mono ?_
 rintro e w3 ⟨⟨q', rfl, -⟩, B3⟩
 have B23 := B2.trans (B3.mono B2.size)
 obtain ⟨Y, hY⟩ : ∃ Y, (stV zSt q').toArray = Y := ⟨_, rfl⟩
 have hQ : Hid (Y.size = 51) := show _ by rw [← hY]; rfl
 have hone : Hid (Y.all (·.oneCell') = true) := show _ by rw [← hY]; exact jba (jbz _ _)
 rw [hY]
 obtain ⟨BA, hx, hs⟩ := box1 w3 (.cells zSA 38)
 have BZ : Below w.heap.size w ((w3.alloc (.cells zSA 38)).setRow w3.heap.size Y) := jas (B23.trans (BA.mono B23.size)) B23.size Y
 have hsz : w.heap.size ≤ ((w3.alloc (.cells zSA 38)).setRow w3.heap.size Y).heap.size := BZ.size
 have HB : Hid (_ ∧ _) := ⟨BZ, hsz⟩
 clear hY B3 K1 K2 BA hs BZ hsz B23 B2
 go_wp2_with (refine jao rfl rfl 38 _ _ rfl w3.heap.size _ rfl rfl 38 _ hx (by rw [hQ.out]; kernel_rfl) (by rw [hQ.out]; rfl) hone.out ?_)
 refine (K3 _ HB.out.1).mono ?_
 rintro e w4 ⟨rfl, B4⟩
 have HB : Hid _ := jaa HB.out.1 HB.out.2 B4
 clear B4 K3 hx
 go_wp2
 go_ret
 exact ⟨by simp, HB.out⟩
def eqLt (d e : LtD) : Bool := decide (d.s = e.s ∧ d.u = e.u ∧ d.p = e.p ∧ d.t = e.t ∧ d.b = e.b) && decide (d.ea = e.ea ∧ d.ra = e.ra ∧ d.m = e.m) && decide (d.br = e.br)
theorem eqLt_iff (d e : LtD) : eqLt d e = true ↔ d = e := by
 obtain ⟨s, u, p, t, b, ea, ra, m, br⟩ := d
 obtain ⟨s', u', p', t', b', ea', ra', m', br'⟩ := e
 unfold eqLt
 simp only [Bool.and_eq_true, decide_eq_true_eq, LtD.mk.injEq]
 constructor
 ·rintro ⟨⟨⟨h1, h2, h3, h4, h5⟩, h6, h7, h8⟩, h9⟩
  exact ⟨h1, h2, h3, h4, h5, h6, h7, h8, h9⟩
 ·rintro ⟨h1, h2, h3, h4, h5, h6, h7, h8, h9⟩
  exact ⟨⟨⟨h1, h2, h3, h4, h5⟩, h6, h7, h8⟩, h9⟩
def eqCm (d e : CmD) : Bool := decide (d.sm = e.sm) && decide (d.ks = e.ks)
def Lg (xs : List ByteArray) : Prop := xs.length < 1000000000000000000
theorem sameLt_any (d e : LtD) (hd : Lg d.br) (he : Lg e.br) (q r : Pl) (n : Nat) (w : World) (hn : n ≤ w.heap.size) (hp : slS n w q.a d.br) (hr : slS n w r.a e.br) :
  Calls Tryz.prog 11 #[.agg (ltV d q).toArray, .agg (ltV e r).toArray] w fun x w' => x = .returned (.bool (eqLt d e)) ∧ Below w.heap.size w w' := by
 obtain ⟨s, u, p, t, b, ea, ra, m, br⟩ := d
 obtain ⟨s', u', p', t', b', ea', ra', m', br'⟩ := e
 have E1 := eqlH s u s' u' p t b p' t' b'
 have E2 := eqlX m m' ea ra ea' ra'
 have KS := fun (W : World) (hB : Below w.heap.size w W) => same8_any br br' hd he q.a r.a q.c r.c n W (Nat.le_trans hn hB.size) (jan (hB.mono hn) hp) (jan (hB.mono hn) hr)
 unfold eqLt
 simp only [ltV]
 obtain ⟨e1, h1⟩ : ∃ e, decide (s = s' ∧ u = u' ∧ p = p' ∧ t = t' ∧ b = b') = e := ⟨_, rfl⟩
 obtain ⟨e2, h2⟩ : ∃ e, decide (ea = ea' ∧ ra = ra' ∧ m = m') = e := ⟨_, rfl⟩
 obtain ⟨e3, h3⟩ : ∃ e, decide (br = br') = e := ⟨_, rfl⟩
 obtain ⟨N, hN⟩ : ∃ n, br.length = n := ⟨_, rfl⟩
 obtain ⟨M, hM⟩ : ∃ n, br'.length = n := ⟨_, rfl⟩
 rw [h1] at E1 ⊢
 rw [h2] at E2 ⊢
 rw [h3] at KS ⊢
 rw [hN, hM] at KS ⊢
 clear h1 h2 h3 hN hM hd he hp hr hn
 have B1 := (box2 w (.cells #[.int .u64 (s : Int), .int .u64 (u : Int), .string p, .string t, .string b, .string ea, .string ra, .int .u64 (m : Int), .slice q.a N q.c] 29) (.cells #[.int .u64 (s' : Int), .int .u64 (u' : Int), .string p', .string t', .string b', .string ea', .string ra', .int .u64 (m' : Int), .slice r.a M r.c] 29)).1
 have KS0 := KS _ B1
 have HB : Hid _ := B1
 clear B1 KS
 go_enter Tryz.func11, Tryz.ntmps11
 cases e1 with
 | false =>
  go_wp2
  go_ret
  exact ⟨by simp, HB.out⟩
 | true =>
  cases e2 with
  | false =>
   go_wp2
   go_ret
   exact ⟨by simp, HB.out⟩
  | true =>
   go_wp2_with fail
   refine KS0.mono ?_
   rintro x w2 ⟨rfl, B2⟩
   have HX : Hid _ := jaa HB.out HB.out.size B2
   clear B2 KS0 HB E1 E2
   go_wp2
   go_ret
   exact ⟨by simp, HX.out⟩
def LgU (d : UpD) : Prop := Lg d.l.br ∧ Lg d.c.ks ∧ Lg d.nb ∧ Lg d.f.br ∧ Lg d.fb
def LgT (d : StD) : Prop := Lg d.fin.br ∧ Lg d.new.br ∧ Lg d.now.ks ∧ Lg d.nxt.ks ∧ LgU d.best
theorem jag {P : Program} {ops : Array Oper} {C : World → Prop} {Q : Act → Prop} {rest : List Oper} {o : Oper} {a : Act}
  (h : ∀ K : Act → Prop, (∀ a, Stp (wpQuiet P ops C Q rest a) → K a) → if Region.wanted o (yielded ops a.tmps) then o.quiet P a C K else K (a.put o.dst undef)) : Stp (wpQuiet P ops C Q (o :: rest) a) := ⟨wpQuiet_step fun K hK => h K fun a ha => hK a ha.out⟩
theorem jak {P : Program} {ops : Array Oper} {C : World → Prop} {Q : Act → Prop} {rest : List Oper} {o : Oper} {a : Act} (hw : Region.wanted o (yielded ops a.tmps) = true) (ty : TypeId) (x : Operand) (ho : o.op = .load ty x)
  (b off : Nat) (hx : a.eval x = .pointer (some ⟨b, off, none⟩)) (cs : List Value) (d : TypeDesc) (hc : ∀ W, C W → W.rangeAt b off cs) (hu : P.underlying ty = some d) (hd : d.isRow = true) (hi : (P.info? ty).map (·.size) = some cs.length)
  (h : Stp (wpQuiet P ops C Q rest (a.put o.dst (.agg cs.toArray)))) : Stp (wpQuiet P ops C Q (o :: rest) a) := ⟨jau hw ty x ho b off hx cs d hc hu hd hi h.out⟩
theorem lg_sz {xs : List ByteArray} (h : szS xs) : Lg xs := by unfold Lg; have := h.1; omega
end Go.Proofs.YtoddangedbefgabGreatDoor
